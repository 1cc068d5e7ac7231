/-
  The contract of the model's l4Copy: a yard in memory of its own.
-/
import Derived.Test.YtlcfldmiibjboabGYh
import Derived.Deep.RegionLaw
import Derived.Deep.CutRange
import Derived.Deep.CutBlock
namespace Go.Proofs.Ytlcfldmiibjboab
open Go.RowKit
set_option linter.unusedVariables false

theorem own_slice0 {w : World} {base n size : Nat} {e : TypeId} {v : Value} {xs : List Value} (h : w.ownsRow base e size v (0 + n) xs) : ∃ a c, v = .slice a n c := by
  rw [Nat.zero_add] at h
  exact own_slice h
/-- One more row copied. -/
theorem copy_step {N K : Nat} {W3 wr w5 X w6 : World} {x : Value} {us : List Value} {k : Nat} {R : Nat → List Int} {u5 : Value} {g cap : Nat} {h : Int} (hN : N < K) (hW : W3.heap.size = K) (hm : MostB N W3 wr) (hbx : BoxY N wr h x) (ho : OwnY K wr x us k R) (hb5 : Below wr.heap.size wr w5) (hbX : Below w5.heap.size w5 X)
    (hu5 : w5.ownsRow wr.heap.size 3 1 u5 (0 + (R k).length) ([] ++ rowI (R k)))
    (h6 : w6.ownsRow K 25 1 (.slice (some ⟨g, 0, none⟩) (k + 1) cap) (k + 1) (us ++ [u5]) ∧ Below K X w6 ∧ (x.ownBlock = some g ∨ g = X.heap.size) ∧ ∀ j, j < X.heap.size → x.ownBlock ≠ some j → w6.heap[j]? = X.heap[j]?) :
    ∃ (x' : Value) (us' : List Value), BoxY N (w6.setCell ⟨N, 1, none⟩ (.slice (some ⟨g, 0, none⟩) (k + 1) cap)) h x' ∧ OwnY K (w6.setCell ⟨N, 1, none⟩ (.slice (some ⟨g, 0, none⟩) (k + 1) cap)) x' us' (k + 1) R ∧ MostB N W3 (w6.setCell ⟨N, 1, none⟩ (.slice (some ⟨g, 0, none⟩) (k + 1) cap)) := by
  obtain ⟨q1, q2, q3, q4⟩ := h6
  have hK : K ≤ wr.heap.size := by rw [← hW]; exact hm.size
  rw [Nat.zero_add, List.nil_append] at hu5
  have hkr : Below K wr w6 := (hb5.mono hK).trans ((hbX.mono (Nat.le_trans hK hb5.size)).trans q2)
  have hbx6 : BoxY N w6 h x := by
    unfold BoxY at hbx ⊢
    rw [hkr.block N hN]; exact hbx
  refine ⟨_, us ++ [u5], hbx6.set1 _, (ho.push hK hb5 hbX hu5 q1 q4 q3).setLow hN 1 _, ?_⟩
  exact (hm.below_ (by rw [hW]; exact hkr)).set_ _ _

/-- What a call gives that copies a yard. -/
def CopyGives (h : Int) (ss : List (List Int)) (w : World) (e : Ending) (w' : World) : Prop :=
  ∃ u us, e = .returned (.agg #[.int .i64 h, u]) ∧ OwnY w.heap.size w' u us ss.length (rowAt ss) ∧ Below w.heap.size w w'

set_option maxRecDepth 10000 in
set_option maxHeartbeats 4000000 in
theorem l4Copy_any (h : Int) (v : Value) (ss : List (List Int)) (w : World) (hh : HoldsY w v ss) (hk : ydOk h ss = true) :
    Calls Try.prog 30 #[.agg #[.int .i64 h, v]] w (CopyGives h ss w) := by
  obtain ⟨i0, hi, hz0, hz1, hz2⟩ := info_parts infoInt
  have HI := Lib.hid hi
  have HZ0 := Lib.hid hz0
  have HZ1 := Lib.hid hz1
  have HZ2 := Lib.hid hz2
  clear hi hz0 hz1 hz2
  obtain ⟨i1, hi, hz0, hz1, hz2⟩ := info_parts infoRow
  have GI := Lib.hid hi
  have GZ0 := Lib.hid hz0
  have GZ1 := Lib.hid hz1
  have GZ2 := Lib.hid hz2
  clear hi hz0 hz1 hz2
  have hn5 : ss.length ≤ 5 := (ydOk_iff.1 hk).2.2.2.1
  have HROW5 := Lib.hid fun k (hl : k < ss.length) => stOk_len (ydOk_row hk hl)
  obtain ⟨a, cap, rfl⟩ : ∃ a cap, v = .slice a ss.length cap := by obtain ⟨a, cap, h1, _⟩ := hh; exact ⟨a, cap, h1⟩
  have HW := Lib.hid fun w' (hb : Below w.heap.size w w') => hh.keep hb
  obtain ⟨n, hn⟩ : ∃ n, n = ss.length := ⟨_, rfl⟩
  have HN := Lib.hid hn.symm
  unfold CopyGives
  rw [← hn] at HW HROW5 hn5 ⊢
  have hm : n ≤ 9223372036854775807 := by omega
  clear hn hh hk
  have hY0 : BoxY w.heap.size (((w.alloc (.cells #[.int .i64 h, .slice a n cap] 29)).alloc (.cells #[.int .i64 0, .slice none 0 0] 29)).alloc (.cells #[.int .i64 h, .slice none 0 0] 29)) h (.slice a n cap) := new3_0 _ _ _ _
  have hR0 : BoxY (w.heap.size + 1) (((w.alloc (.cells #[.int .i64 h, .slice a n cap] 29)).alloc (.cells #[.int .i64 0, .slice none 0 0] 29)).alloc (.cells #[.int .i64 h, .slice none 0 0] 29)) 0 (.slice none 0 0) := new3_1 _ _ _ _
  have hX0 : BoxY (w.heap.size + 2) (((w.alloc (.cells #[.int .i64 h, .slice a n cap] 29)).alloc (.cells #[.int .i64 0, .slice none 0 0] 29)).alloc (.cells #[.int .i64 h, .slice none 0 0] 29)) h (.slice none 0 0) := new3_2 _ _ _ _
  have hb3 := (((Below.refl w.heap.size w).alloc (Nat.le_refl _) (.cells #[.int .i64 h, .slice a n cap] 29)).alloc (by simp) (.cells #[.int .i64 0, .slice none 0 0] 29)).alloc (by simp; omega) (.cells #[.int .i64 h, .slice none 0 0] 29)
  obtain ⟨W3, hW3⟩ : ∃ W3, W3 = (((w.alloc (.cells #[.int .i64 h, .slice a n cap] 29)).alloc (.cells #[.int .i64 0, .slice none 0 0] 29)).alloc (.cells #[.int .i64 h, .slice none 0 0] 29)) := ⟨_, rfl⟩
  have hz3 : W3.heap.size = w.heap.size + 3 := by rw [hW3]; simp
  rw [← hW3] at hY0 hR0 hX0 hb3
  have H0 := Lib.hid (And.intro hY0 (And.intro hR0 (And.intro hX0 (And.intro hb3 hz3))))
  have HX := Lib.hid hW3
  clear hY0 hR0 hX0 hb3 hz3 hW3
  obtain ⟨B0, hB0⟩ : ∃ B0, B0 = w.heap.size := ⟨_, rfl⟩
  go_enter Try.func30, Try.ntmps30
  go_wp2_with fail
  go_loopw [4] (fun i wr => ∃ (k : Nat) (x : Value) (us : List Value), k ≤ n ∧ i = .int .i64 k ∧ Hid (BoxY (w.heap.size + 2) wr h x) ∧ Hid (OwnY (w.heap.size + 3) wr x us k (rowAt ss)) ∧ Hid (MostB (w.heap.size + 2) W3 wr)) (fun i _ => n - (intOf i).toNat)
  case atStart =>
    rw [← HX.out]
    exact ⟨0, _, [], by omega, rfl, Lib.hid H0.out.2.2.1, Lib.hid (OwnY.start _ _ _), Lib.hid (MostB.refl _ _)⟩
  case round =>
    obtain ⟨k, x, us, hk, rfl, HBX, HO, HM⟩ := hrel
    have hz3 : W3.heap.size = w.heap.size + 3 := H0.out.2.2.2.2
    have hMs := HM.out.size
    have hbw : Below w.heap.size w wr := H0.out.2.2.2.1.trans (HM.out.under (by omega) (by omega))
    have y1 : wr.cell? ⟨w.heap.size, 1, none⟩ = some (.slice a n cap) := by
      have := H0.out.1.c1
      rwa [← World.cell?_of_block (w := W3) (HM.out.block w.heap.size (by omega) (by omega))] at this
    have x1 := HBX.out.c1
    have x0 := HBX.out.c0
    have fx := HBX.out.frozen 1
    by_cases hlt : k < n
    · obtain ⟨b, off, xa, c, rfl, hbl, s00, hc1, hc2, hnil, hrow00⟩ := (HW.out w (Below.refl _ _)).at_ hlt
      have s0 : wr.cell? ⟨b, off + k, none⟩ = some (.slice xa (rowAt ss k).length c) := (hbw.cell (p := ⟨b, off + k, none⟩) hbl).trans s00
      have hrow := hrow00.keep hbw
      have hr5 := HROW5.out k hlt
      have ik : (k : Int) < (n : Int) := by omega
      have i0k : (0 : Int) ≤ (k : Int) := by omega
      obtain ⟨r, hrr⟩ : ∃ r, r = (rowAt ss k).length := ⟨_, rfl⟩
      have HRR := Lib.hid hrr.symm
      have LTN := Lib.hid (show w.heap.size + 2 < wr.heap.size by omega)
      have X1 := Lib.hid x1
      have FX := Lib.hid fx
      have x1a : ∀ o : Obj, (wr.alloc o).cell? ⟨w.heap.size + 2, 1, none⟩ = some x := fun o => (((Below.refl wr.heap.size wr).alloc (Nat.le_refl _) o).cell (p := ⟨w.heap.size + 2, 1, none⟩) LTN.out).trans x1
      rw [← hrr] at s0 hr5 hc1 hrow
      have y1a : ∀ o : Obj, (wr.alloc o).cell? ⟨w.heap.size, 1, none⟩ = some (.slice (some ⟨b, off, none⟩) n cap) := fun o => (((Below.refl wr.heap.size wr).alloc (Nat.le_refl _) o).cell (p := ⟨w.heap.size, 1, none⟩) (by have := LTN.out; show w.heap.size < wr.heap.size; omega)).trans y1
      have s0a : ∀ o : Obj, (wr.alloc o).cell? ⟨b, off + k, none⟩ = some (.slice xa r c) := fun o => (((Below.refl wr.heap.size wr).alloc (Nat.le_refl _) o).cell (p := ⟨b, off + k, none⟩) (by have := LTN.out; show b < wr.heap.size; omega)).trans s0
      clear hrr s00 hrow00
      rcases xa with _ | xb
      · obtain rfl : c = 0 := hnil rfl
        obtain rfl : r = 0 := by omega
        have hnilrow : rowAt ss k = [] := List.eq_nil_of_length_eq_zero HRR.out
        have HNR := Lib.hid hnilrow
        have x1b : ∀ o o2 : Obj, ((wr.alloc o).alloc o2).cell? ⟨w.heap.size + 2, 1, none⟩ = some x := fun o o2 => ((((Below.refl wr.heap.size wr).alloc (Nat.le_refl _) o).alloc (by simp) o2).cell (p := ⟨w.heap.size + 2, 1, none⟩) LTN.out).trans X1.out
        have fxb : ∀ o o2 : Obj, ((wr.alloc o).alloc o2).frozen? ⟨w.heap.size + 2, 1, none⟩ = false := fun o o2 => ((((Below.refl wr.heap.size wr).alloc (Nat.le_refl _) o).alloc (by simp) o2).frozen (p := ⟨w.heap.size + 2, 1, none⟩) LTN.out).trans FX.out
        have O5 := Lib.hid fun o o2 : Obj => own_stay (own_stay HO.out.out ((Below.refl wr.heap.size wr).alloc (Nat.le_refl _) o)) ((Below.refl (wr.alloc o).heap.size (wr.alloc o)).alloc (Nat.le_refl _) o2)
        have hs5 : w.heap.size + 3 ≤ wr.heap.size + 1 + 1 := by omega
        have hn0 : (wr.alloc (.cells #[] 3)).ownsRow wr.heap.size 3 1 (.slice (some ⟨wr.heap.size, 0, none⟩) 0 0) (0 + (rowAt ss k).length) ([] ++ rowI (rowAt ss k)) := by
          rw [hnilrow]
          exact own_empty (Nat.le_refl _) (heap_alloc_new _ _)
        have HN0 := Lib.hid hn0
        clear hrow x0 hnilrow hn0
        go_upto_block 1 with fail
        go_cut [] from 8 to 26 (fun wx => Hid (∃ (x' : Value) (us' : List Value), BoxY (w.heap.size + 2) wx h x' ∧ OwnY (w.heap.size + 3) wx x' us' (k + 1) (rowAt ss) ∧ MostB (w.heap.size + 2) W3 wx))
        case first =>
          go_wp2_with fail
          (first | go_region_law (first
              | (refine step_append_n (by rfl) _ _ 25 (by rfl) wr.heap.size 3 i0 1 Try.underlying25 HI.out _ 0 [] (by rfl) (own_empty (Nat.le_refl _) (heap_alloc_new _ _)) (by rfl) ?_)
              | (refine step_append_y (by rfl) _ _ 22 (by rfl) (w.heap.size + 3) 25 i1 (.slice none 0 0) 1 24 Try.underlying22 GI.out GZ0.out GZ1.out GZ2.out rfl (by decide) _ k us (by rfl) (O5.out _ _) ⟨wr.heap.size + 1, 0, none⟩ 1 1 [.slice (some ⟨wr.heap.size, 0, none⟩) 0 0] (by rfl) rfl (fun j u hu => cells_kept (two_hi wr _ _) rfl j u hu) (by simp [Value.oneCell']) (by decide) (by unfold maxLen; omega) (by omega) (by simp; omega) ?_; intro g2 c2 w6 ho6 hb6 hg6 hk6; have HB6 := Lib.hid (And.intro ho6 (And.intro hb6 (And.intro hg6 hk6))); have n6 : w6.cell? ⟨w.heap.size + 2, 1, none⟩ = some x := (hb6.cell (p := ⟨w.heap.size + 2, 1, none⟩) (Nat.lt_succ_self _)).trans (x1b _ _); have f6 : w6.frozen? ⟨w.heap.size + 2, 1, none⟩ = false := (hb6.frozen (p := ⟨w.heap.size + 2, 1, none⟩) (Nat.lt_succ_self _)).trans (fxb _ _); clear ho6 hb6 hg6 hk6)) | fail)
          all_goals
            have HREL := Lib.hid (copy_step (w5 := wr.alloc (.cells #[] 3)) (Nat.lt_succ_self _) hz3 HM.out HBX.out HO.out ((Below.refl _ _).alloc (Nat.le_refl _) _) (((Below.refl _ _).alloc (Nat.le_refl _) _).drew) HN0.out HB6.out)
            clear HB6 O5 n6 f6 hs5
            go_wp2_with fail
            go_meet
            exact HREL
        case rest =>
          clear y1 y1a s0 s0a x1 x1a fx X1 FX HBX HO HM
          go_wp2_with fail
          go_roundw
          case rel =>
            obtain ⟨x', us', r1, r2, r3⟩ := hcut.out
            exact ⟨k + 1, x', us', by omega, by go_num, Lib.hid r1, Lib.hid r2, Lib.hid r3⟩
          case measure => simp [intOf]; omega
      · have HROWC := Lib.hid fun (o : Obj) (j : Nat) (u : Value) (hu : (rowI (rowAt ss k))[j]? = some u) => (show (wr.alloc o).cell? (xb.add j) = some u by
          have h1 := hrow.keep ((Below.refl wr.heap.size wr).alloc (Nat.le_refl _) o)
          rw [← HRR.out] at h1
          exact HoldsI.rowA h1 j u hu)
        clear hrow x0
        go_upto_block 1 with fail
        go_cut [] from 8 to 26 (fun wx => Hid (∃ (x' : Value) (us' : List Value), BoxY (w.heap.size + 2) wx h x' ∧ OwnY (w.heap.size + 3) wx x' us' (k + 1) (rowAt ss) ∧ MostB (w.heap.size + 2) W3 wx))
        case first =>
          go_wp2_with fail
          (first | go_region_law (first
              | (refine step_append_o (by rfl) _ _ 25 (by rfl) wr.heap.size 3 i0 (.int .i64 0) 1 8 Try.underlying25 HI.out HZ0.out HZ1.out HZ2.out rfl (by decide) _ 0 [] (by rfl) (own_empty (Nat.le_refl _) (heap_alloc_new _ _)) xb r c (rowI (rowAt ss k)) (by rfl) (by rw [rowI_len, HRR.out, Nat.mul_one]) (fun j u hu => HROWC.out _ j u hu) (rowI_one _) (by unfold maxLen; omega) (by omega) (by simp) ?_; intro v5 w5 hown5 hb5 hn5; obtain ⟨a5, c5, rfl⟩ := own_slice0 hown5; have HO5 := Lib.hid hown5; have hb5X : Below wr.heap.size wr w5 := Below.trans (((Below.refl wr.heap.size wr).alloc (Nat.le_refl _) (.cells #[] 3)).drew) hb5; have hs5 : ∀ o : Obj, w.heap.size + 3 ≤ (w5.alloc o).heap.size := fun o => (by have := hb5X.size; simp; omega); have x5 : w5.cell? ⟨w.heap.size + 2, 1, none⟩ = some x := (hb5X.cell (p := ⟨w.heap.size + 2, 1, none⟩) LTN.out).trans X1.out; have f5 : w5.frozen? ⟨w.heap.size + 2, 1, none⟩ = false := (hb5X.frozen (p := ⟨w.heap.size + 2, 1, none⟩) LTN.out).trans FX.out; have x5a : ∀ o : Obj, (w5.alloc o).cell? ⟨w.heap.size + 2, 1, none⟩ = some x := fun o => (((Below.refl w5.heap.size w5).alloc (Nat.le_refl _) o).cell (p := ⟨w.heap.size + 2, 1, none⟩) (Nat.lt_of_lt_of_le LTN.out hb5X.size)).trans x5; have f5a : ∀ o : Obj, (w5.alloc o).frozen? ⟨w.heap.size + 2, 1, none⟩ = false := fun o => (((Below.refl w5.heap.size w5).alloc (Nat.le_refl _) o).frozen (p := ⟨w.heap.size + 2, 1, none⟩) (Nat.lt_of_lt_of_le LTN.out hb5X.size)).trans f5; have O5 := Lib.hid fun o : Obj => own_stay (own_stay HO.out.out hb5X) ((Below.refl w5.heap.size w5).alloc (Nat.le_refl _) o); have HB5X := Lib.hid hb5X; clear hb5X; clear hown5 hb5 hn5)
              | (refine step_append_y (by rfl) _ _ 22 (by rfl) (w.heap.size + 3) 25 i1 (.slice none 0 0) 1 24 Try.underlying22 GI.out GZ0.out GZ1.out GZ2.out rfl (by decide) _ k us (by rfl) (O5.out _) ⟨w5.heap.size, 0, none⟩ 1 1 [.slice a5 r c5] (by rfl) rfl (fun j u hu => cells_new j u hu) (by simp [Value.oneCell']) (by decide) (by unfold maxLen; omega) (by omega) (hs5 _) ?_; intro g2 c2 w6 ho6 hb6 hg6 hk6; have HB6 := Lib.hid (And.intro ho6 (And.intro hb6 (And.intro hg6 hk6))); have n6 : w6.cell? ⟨w.heap.size + 2, 1, none⟩ = some x := (hb6.cell (p := ⟨w.heap.size + 2, 1, none⟩) (Nat.lt_succ_self _)).trans (x5a _); have f6 : w6.frozen? ⟨w.heap.size + 2, 1, none⟩ = false := (hb6.frozen (p := ⟨w.heap.size + 2, 1, none⟩) (Nat.lt_succ_self _)).trans (f5a _); clear ho6 hb6 hg6 hk6)) | fail)
          all_goals
            have HREL := Lib.hid (copy_step (Nat.lt_succ_self _) hz3 HM.out HBX.out HO.out HB5X.out ((Below.refl _ _).alloc (Nat.le_refl _) _) (by rw [HRR.out]; exact HO5.out) HB6.out)
            clear HB6 HO5 HB5X O5 n6 f6 x5 f5 x5a f5a hs5
            go_wp2_with fail
            go_meet
            exact HREL
        case rest =>
          clear y1 y1a s0 s0a x1 x1a fx X1 FX HBX HO HM
          go_wp2_with fail
          go_roundw
          case rel =>
            obtain ⟨x', us', r1, r2, r3⟩ := hcut.out
            exact ⟨k + 1, x', us', by omega, by go_num, Lib.hid r1, Lib.hid r2, Lib.hid r3⟩
          case measure => simp [intOf]; omega
    · have hkn : k = n := by omega
      subst hkn
      have hr0 : wr.cell? ⟨w.heap.size + 1, 0, none⟩ = some (.int .i64 0) := by
        have := H0.out.2.1.c0
        rwa [← World.cell?_of_block (w := W3) (HM.out.block (w.heap.size + 1) (by omega) (by omega))] at this
      have hr1 : wr.cell? ⟨w.heap.size + 1, 1, none⟩ = some (.slice none 0 0) := by
        have := H0.out.2.1.c1
        rwa [← World.cell?_of_block (w := W3) (HM.out.block (w.heap.size + 1) (by omega) (by omega))] at this
      have hf0 : wr.frozen? ⟨w.heap.size + 1, 0, none⟩ = false := by
        have := H0.out.2.1.frozen 0
        rwa [← World.frozen?_of_block (w := W3) (HM.out.block (w.heap.size + 1) (by omega) (by omega))] at this
      have hf1 : wr.frozen? ⟨w.heap.size + 1, 1, none⟩ = false := by
        have := H0.out.2.1.frozen 1
        rwa [← World.frozen?_of_block (w := W3) (HM.out.block (w.heap.size + 1) (by omega) (by omega))] at this
      obtain ⟨ua, uc, rfl⟩ := own_slice HO.out.out
      have HBW := Lib.hid hbw
      have HZ := Lib.hid hz3
      clear hbw hz3 hMs
      go_wp2_with fail
      have hF := (HO.out.setLow (N := w.heap.size + 1) (by omega) 0 (.int .i64 h)).setLow (N := w.heap.size + 1) (by omega) 1 (.slice ua k uc)
      have hB := (HBW.out.setCell (p := ⟨w.heap.size + 1, 0, none⟩) (Nat.le_add_right _ _) (.int .i64 h)).setCell (p := ⟨w.heap.size + 1, 1, none⟩) (Nat.le_add_right _ _) (.slice ua k uc)
      exact bodyPost_ret (v := .agg #[.int .i64 h, .slice ua k uc]) (by simp [results, Try.results30, go_sem, hr0, hr1]) rfl ⟨_, us, rfl, hF.from_ (by omega), hB⟩
end Go.Proofs.Ytlcfldmiibjboab
