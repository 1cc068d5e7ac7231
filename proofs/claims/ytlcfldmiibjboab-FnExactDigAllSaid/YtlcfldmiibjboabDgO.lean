/-
  Contracts of OrderOk, the model's and the program's.
-/
import Derived.Test.YtlcfldmiibjboabDgL
import Derived.Test.YtlcfldmiibjboabYsF
import Derived.Test.YtlcfldmiibjboabYiF
import Derived.Deep.RegionHeld3
import Derived.Deep.RegionWith
namespace Go.Proofs.Ytlcfldmiibjboab
open Go.RowKit
set_option linter.unusedVariables false

set_option maxRecDepth 10000 in
set_option maxHeartbeats 2000000 in
theorem specOrderOk_any (h : Int) (v u : Value) (ss : List (List Int)) (os : List Int) (w : World) (hh : HoldsY w v ss) (ho : HoldsI w u os) (hbd : ss.flatten.length ≤ 1048577) :
    Calls Try.prog 12 #[.agg #[.int .i64 h, v], u] w fun e w' => e = .returned (.bool (ordOk h ss os)) ∧ Below w.heap.size w w' := by
  have hb1 := (Below.refl w.heap.size w).alloc (Nat.le_refl _) (.cells #[.int .i64 h, v] 29)
  have hH := hh.keep hb1
  have hO := ho.keep hb1
  have hY0 := BoxY.new w h v
  obtain ⟨w1, hw1⟩ : ∃ w1, w1 = w.alloc (.cells #[.int .i64 h, v] 29) := ⟨_, rfl⟩
  rw [← hw1] at hH hO hY0 hb1
  obtain ⟨a, cap, rfl, -, -, -, -⟩ := hh
  obtain ⟨a2, c2, rfl, hc2, hc3, -⟩ := ho
  unfold maxLen at hc3
  have HF := Lib.hid fun x w' (hb : Below w1.heap.size w1 w') => specYardFind_any h (.slice a ss.length cap) ss x w' (hH.keep hb) hbd
  have HV := Lib.hid fun w' (hb : Below w1.heap.size w1 w') => specYardValid_any h (.slice a ss.length cap) ss w' (hH.keep hb) hbd
  have HT := Lib.hid fun k (hk : k ≤ os.length) x w' (hb : Below w1.heap.size w1 w') => l1Has_any (.slice a2 k c2) (os.take k) x w' (HoldsI.take k hk (hO.keep hb))
  have HBAD := Lib.hid fun k (hk : k < os.length) hb => ordOk_at (h := h) (ss := ss) hk hb
  have HEND := Lib.hid fun hg => ordOk_end (h := h) (ss := ss) (os := os) hg
  have HO := Lib.hid hO
  have HY := Lib.hid hY0
  have W1 := Lib.hid hw1
  have HB1 := Lib.hid hb1
  have hW1 : w.heap.size < w1.heap.size := hY0.lt
  obtain ⟨n, hn⟩ : ∃ n, n = os.length := ⟨_, rfl⟩
  rw [← hn] at HO HT HBAD HEND hc2 ⊢
  clear hn hY0 hw1 hb1 hH hO hbd
  go_enter Try.func12, Try.ntmps12
  go_wp2_with fail
  rw [← W1.out]
  have HB0 := HB1
  generalize w.heap.size = Y at HY HB1 hW1 ⊢
  clear W1
  go_wp2_with fail
  go_loopw [5] (fun i wr => ∃ k : Nat, k ≤ n ∧ i = .int .i64 k ∧ Hid (∀ j, j < k → 0 ≤ findY h ss (os.getD j 0) ∧ hasI (os.take j) (os.getD j 0) = false) ∧ Below w1.heap.size w1 wr) (fun i _ => n - (intOf i).toNat)
  case atStart => exact ⟨0, by omega, rfl, Lib.hid fun j hj => by omega, Below.refl _ _⟩
  case round =>
    obtain ⟨k, hk, rfl, HA, hbr⟩ := hrel
    have y0 := (HY.out.keep hbr).c0
    have y1 := (HY.out.keep hbr).c1
    have HBR := Lib.hid hbr
    by_cases hlt : k < n
    · obtain ⟨b, off, rfl, hbl, s0⟩ := (HO.out.keep hbr).at_ hlt
      have ik : (k : Int) < (n : Int) := by omega
      have i0k : (0 : Int) ≤ (k : Int) := by omega
      have ikc : (k : Int) ≤ (c2 : Int) := by omega
      have HFk := Lib.hid fun w' (hb : Since wr w') => HF.out (os.getD k 0) w' (hbr.trans (Below.mono hb hbr.size))
      have HTk := Lib.hid fun w' (hb : Since wr w') => HT.out k (by omega) (os.getD k 0) w' (hbr.trans (Below.mono hb hbr.size))
      have HBk := Lib.hid fun hb => HBAD.out k hlt hb
      have HK := Lib.hid fun (w' : World) (hs : Since wr w') => (show w'.cell? ⟨Y, 0, none⟩ = some (.int .i64 h) ∧ w'.cell? ⟨Y, 1, none⟩ = some (.slice a ss.length cap) ∧ w'.cell? ⟨b, off + k, none⟩ = some (.int .i64 (os.getD k 0)) ∧ Since wr w' from
        ⟨((HY.out.keep hbr).keep hs).c0, ((HY.out.keep hbr).keep hs).c1, (Below.cell (p := ⟨b, off + k, none⟩) hs hbl).trans s0, hs⟩)
      clear hbr
      generalize hz : findY h ss (os.getD k 0) = z at HFk HBk
      generalize hq : hasI (os.take k) (os.getD k 0) = q at HTk HBk
      have HZ := Lib.hid hz
      have HQ := Lib.hid hq
      clear hz hq
      generalize os.getD k 0 = x at s0 HFk HTk HK
      by_cases hz : z < 0
      · have hr := Lib.hid (HBk.out (.inl hz))
        have hstart := HK.out _ (show Since wr wr.drew from (Below.refl _ _).drew)
        have hdz : decide (z < 0) = true := decide_eq_true hz
        go_wp2_with fail
        clear s0 y0 y1
        refine wp_region_held_drew (S := (fun w' => w'.cell? ⟨Y, 0, none⟩ = some (.int .i64 h) ∧ w'.cell? ⟨Y, 1, none⟩ = some (.slice a ss.length cap) ∧ w'.cell? ⟨b, off + k, none⟩ = some (.int .i64 x) ∧ Since wr w')) (by kernel_rfl) hstart (fun hHeld => ?_)
        refine wpAnyH_take (i := 0) (v := ?v0) rfl (by kernel_rfl) (by kernel_rfl) (by kernel_rfl) (fun _ _ _ h => h) (Or.inl ⟨by rfl, ?hy0⟩) (by assumption) ?rest0
        case hy0 => (intro w5 hSw; (try dsimp only at hSw); go_simp; try with_reducible rfl)
        simp only [Act.put, List.getElem_toArray, List.getElem_cons_zero, List.setIfInBounds_toArray, List.set_cons_zero, List.set_cons_succ]
        refine wpAnyH_take (i := 1) (v := ?v1) rfl (by kernel_rfl) (by kernel_rfl) (by kernel_rfl) (fun _ _ _ h => h) (Or.inl ⟨by rfl, ?hy1⟩) (by assumption) ?rest1
        case hy1 => (intro w5 hSw; (try dsimp only at hSw); go_simp; try with_reducible rfl)
        simp only [Act.put, List.getElem_toArray, List.getElem_cons_zero, List.getElem_cons_succ, List.setIfInBounds_toArray, List.set_cons_zero, List.set_cons_succ]
        refine wpAnyH_take (i := 2) (v := ?v2) rfl (by kernel_rfl) (by kernel_rfl) (by kernel_rfl) (fun _ _ _ h => h) (Or.inl ⟨by rfl, ?hy2⟩) (by assumption) ?rest2
        case hy2 => (intro w5 hSw; (try dsimp only at hSw); go_simp; try with_reducible rfl)
        simp only [Act.put, List.getElem_toArray, List.getElem_cons_zero, List.getElem_cons_succ, List.setIfInBounds_toArray, List.set_cons_zero, List.set_cons_succ]
        refine wpAnyH_take (i := 3) (v := ?v3) rfl (by kernel_rfl) (by kernel_rfl) (by kernel_rfl) (fun _ _ _ h => h) (Or.inl ⟨by rfl, ?hy3⟩) (by assumption) ?rest3
        case hy3 => (intro w5 hSw; (try dsimp only at hSw); go_simp; try with_reducible rfl)
        simp only [Act.put, List.getElem_toArray, List.getElem_cons_zero, List.getElem_cons_succ, List.setIfInBounds_toArray, List.set_cons_zero, List.set_cons_succ]
        refine wpAnyH_take (i := 4) (v := ?v4) rfl (by kernel_rfl) (by kernel_rfl) (by kernel_rfl) (fun _ _ _ h => h) (Or.inl ⟨by rfl, ?hy4⟩) (by assumption) ?rest4
        case hy4 => (intro w5 hSw; (try dsimp only at hSw); go_simp; try with_reducible rfl)
        simp only [Act.put, List.getElem_toArray, List.getElem_cons_zero, List.getElem_cons_succ, List.setIfInBounds_toArray, List.set_cons_zero, List.set_cons_succ]
        refine wpAnyH_ready (rs := [5]) (by kernel_rfl) (by simp) ?_
        refine AllReadyH.cons rfl (fun K hK => ?_) AllReadyH.nil
        go_simp
        refine (HFk.out _ hHeld.2.2.2).mono ?_
        rintro e w2 ⟨rfl, b2⟩
        have hHeld2 := HK.out _ (Since.call hHeld.2.2.2 b2)
        clear hHeld hstart
        refine hK.out _ _ hHeld2 (fun _ => ?_)
        refine wpAnyH_take (i := 6) (v := ?v6) rfl (by kernel_rfl) (by kernel_rfl) (by kernel_rfl) (fun _ _ _ h => h) (Or.inl ⟨by rfl, ?hy6⟩) (by assumption) ?rest6
        case hy6 => (intro w5 hSw; (try dsimp only at hSw); go_simp; try with_reducible rfl)
        simp only [Act.put, List.getElem_toArray, List.getElem_cons_zero, List.getElem_cons_succ, List.setIfInBounds_toArray, List.set_cons_zero, List.set_cons_succ]
        refine wpAnyH_take (i := 7) (v := ?v7) rfl (by kernel_rfl) (by kernel_rfl) (by kernel_rfl) (fun _ _ _ h => h) (Or.inl ⟨by rfl, ?hy7⟩) (by assumption) ?rest7
        case hy7 => (intro w5 hSw; (try dsimp only at hSw); go_simp; try with_reducible rfl)
        simp only [Act.put, List.getElem_toArray, List.getElem_cons_zero, List.getElem_cons_succ, List.setIfInBounds_toArray, List.set_cons_zero, List.set_cons_succ]
        refine wpAnyH_take (i := 8) (v := undef) rfl (by kernel_rfl) (by kernel_rfl) (by kernel_rfl) (fun _ _ _ h => h) (Or.inr ⟨by rfl, rfl⟩) (by assumption) ?_
        simp only [Act.put, List.getElem_toArray, List.getElem_cons_zero, List.getElem_cons_succ, List.setIfInBounds_toArray, List.set_cons_zero, List.set_cons_succ]
        refine wpAnyH_take (i := 9) (v := undef) rfl (by kernel_rfl) (by kernel_rfl) (by kernel_rfl) (fun _ _ _ h => h) (Or.inr ⟨by rfl, rfl⟩) (by assumption) ?_
        simp only [Act.put, List.getElem_toArray, List.getElem_cons_zero, List.getElem_cons_succ, List.setIfInBounds_toArray, List.set_cons_zero, List.set_cons_succ]
        refine wpAnyH_take (i := 10) (v := undef) rfl (by kernel_rfl) (by kernel_rfl) (by kernel_rfl) (fun _ _ _ h => h) (Or.inr ⟨by rfl, rfl⟩) (by assumption) ?_
        simp only [Act.put, List.getElem_toArray, List.getElem_cons_zero, List.getElem_cons_succ, List.setIfInBounds_toArray, List.set_cons_zero, List.set_cons_succ]
        refine wpAnyH_take (i := 11) (v := undef) rfl (by kernel_rfl) (by kernel_rfl) (by kernel_rfl) (fun _ _ _ h => h) (Or.inr ⟨by rfl, rfl⟩) (by assumption) ?_
        simp only [Act.put, List.getElem_toArray, List.getElem_cons_zero, List.getElem_cons_succ, List.setIfInBounds_toArray, List.set_cons_zero, List.set_cons_succ]
        refine wpAnyH_take (i := 12) (v := undef) rfl (by kernel_rfl) (by kernel_rfl) (by kernel_rfl) (fun _ _ _ h => h) (Or.inr ⟨by rfl, rfl⟩) (by assumption) ?_
        simp only [Act.put, List.getElem_toArray, List.getElem_cons_zero, List.getElem_cons_succ, List.setIfInBounds_toArray, List.set_cons_zero, List.set_cons_succ]
        refine wpAnyH_take (i := 13) (v := undef) rfl (by kernel_rfl) (by kernel_rfl) (by kernel_rfl) (fun _ _ _ h => h) (Or.inr ⟨by rfl, rfl⟩) (by assumption) ?_
        simp only [Act.put, List.getElem_toArray, List.getElem_cons_zero, List.getElem_cons_succ, List.setIfInBounds_toArray, List.set_cons_zero, List.set_cons_succ]
        refine wpAnyH_take (i := 14) (v := undef) rfl (by kernel_rfl) (by kernel_rfl) (by kernel_rfl) (fun _ _ _ h => h) (Or.inr ⟨by rfl, rfl⟩) (by assumption) ?_
        simp only [Act.put, List.getElem_toArray, List.getElem_cons_zero, List.getElem_cons_succ, List.setIfInBounds_toArray, List.set_cons_zero, List.set_cons_succ]
        refine wpAnyH_take (i := 15) (v := undef) rfl (by kernel_rfl) (by kernel_rfl) (by kernel_rfl) (fun _ _ _ h => h) (Or.inr ⟨by rfl, rfl⟩) (by assumption) ?_
        simp only [Act.put, List.getElem_toArray, List.getElem_cons_zero, List.getElem_cons_succ, List.setIfInBounds_toArray, List.set_cons_zero, List.set_cons_succ]
        refine wpAnyH_take (i := 16) (v := ?v16) rfl (by kernel_rfl) (by kernel_rfl) (by kernel_rfl) (fun _ _ _ h => h) (Or.inl ⟨by rfl, ?hy16⟩) (by assumption) ?rest16
        case hy16 => (intro w5 hSw; (try dsimp only at hSw); go_simp; try with_reducible rfl)
        simp only [Act.put, List.getElem_toArray, List.getElem_cons_zero, List.getElem_cons_succ, List.setIfInBounds_toArray, List.set_cons_zero, List.set_cons_succ]
        refine wpAnyH_done (by kernel_rfl) ?_ _
        have hx := HB0.out.trans ((HBR.out.trans (Below.mono hHeld2.2.2.2 HBR.out.size)).mono HB0.out.size)
        clear hHeld2 hK
        go_wp2_with fail
        go_ret
        exact ⟨by rw [hr.out]; rfl, hx⟩
      · have hstart := HK.out _ (show Since wr wr.drew from (Below.refl _ _).drew)
        have hdz2 : decide (z < 0) = false := decide_eq_false hz
        go_wp2_with fail
        clear s0 y0 y1
        go_region_held3 (fun w' => w'.cell? ⟨Y, 0, none⟩ = some (.int .i64 h) ∧ w'.cell? ⟨Y, 1, none⟩ = some (.slice a ss.length cap) ∧ w'.cell? ⟨b, off + k, none⟩ = some (.int .i64 x) ∧ Since wr w')
          (first | exact hstart | exact HK.out _ (Since.on (by exact (‹_ ∧ _› : _ ∧ _ ∧ _ ∧ Since wr _).2.2.2) ‹Below wr.heap.size _ _›) | exact HK.out _ (Since.call (by exact (‹_ ∧ _› : _ ∧ _ ∧ _ ∧ Since wr _).2.2.2) ‹_›))
          (first
            | (go_at_call 16; ((with_reducible refine (HFk.out _ (by exact (‹_ ∧ _› : _ ∧ _ ∧ _ ∧ Since wr _).2.2.2)).mono ?_); rintro e w2 ⟨rfl, b2⟩))
            | (go_at_call 25; ((with_reducible refine (HTk.out _ (by exact (‹_ ∧ _› : _ ∧ _ ∧ _ ∧ Since wr _).2.2.2)).mono ?_); rintro e w3 ⟨rfl, rfl⟩; have b3 := Below.refl w2.heap.size w2))
            | fail)
        rename_i hheld
        have hx := HBR.out.trans (Below.mono hheld.2.2.2 HBR.out.size)
        clear hheld
        cases q
        · go_wp2_with fail
          go_roundw
          case rel => exact ⟨k + 1, by omega, by go_num, Lib.hid fun j hj => by
            by_cases e : j = k
            · subst e; exact ⟨by rw [HZ.out]; omega, HQ.out⟩
            · exact HA.out j (by omega), hx⟩
          case measure => simp [intOf]; omega
        · have hr := Lib.hid (HBk.out (.inr rfl))
          go_wp2_with fail
          go_ret
          exact ⟨by rw [hr.out]; rfl, HB0.out.trans (hx.mono HB0.out.size)⟩
    · have hr := Lib.hid (HEND.out fun j hj => HA.out j (by omega))
      go_wp2_with fail
      refine (HV.out _ hbr).mono ?_
      rintro e w2 ⟨rfl, b2⟩
      go_wp2_with fail
      go_ret
      exact ⟨by rw [hr.out]; rfl, HB0.out.trans ((hbr.trans (b2.mono hbr.size)).mono HB0.out.size)⟩

set_option maxRecDepth 10000 in
set_option maxHeartbeats 2000000 in
theorem implOrderOk_any (h : Int) (v u : Value) (ss : List (List Int)) (os : List Int) (w : World) (hh : HoldsY w v ss) (ho : HoldsI w u os) :
    Calls Try.prog 18 #[.agg #[.int .i64 h, v], u] w fun e w' => e = .returned (.bool (ordOk h ss os)) ∧ Below w.heap.size w w' := by
  have hb1 := (Below.refl w.heap.size w).alloc (Nat.le_refl _) (.cells #[.int .i64 h, v] 29)
  have hH := hh.keep hb1
  have hO := ho.keep hb1
  have hY0 := BoxY.new w h v
  obtain ⟨w1, hw1⟩ : ∃ w1, w1 = w.alloc (.cells #[.int .i64 h, v] 29) := ⟨_, rfl⟩
  rw [← hw1] at hH hO hY0 hb1
  obtain ⟨a, cap, rfl, -, -, -, -⟩ := hh
  obtain ⟨a2, c2, rfl, hc2, hc3, -⟩ := ho
  unfold maxLen at hc3
  have HF := Lib.hid fun x w' (hb : Below w1.heap.size w1 w') => implYardFind_any h (.slice a ss.length cap) ss x w' (hH.keep hb)
  have HV := Lib.hid (implYardValid_any h (.slice a ss.length cap) ss w1 hH)
  have HT := Lib.hid fun k (hk : k ≤ os.length) x w' (hb : Below w1.heap.size w1 w') => slContains_any (.slice a2 k c2) (os.take k) x w' (HoldsI.take k hk (hO.keep hb))
  have HBAD := Lib.hid fun k (hk : k < os.length) hb => ordOk_at (h := h) (ss := ss) hk hb
  have HEND := Lib.hid fun hg => ordOk_end (h := h) (ss := ss) (os := os) hg
  have HO := Lib.hid hO
  have HY := Lib.hid hY0
  have W1 := Lib.hid hw1
  have HB1 := Lib.hid hb1
  have hW1 : w.heap.size < w1.heap.size := hY0.lt
  obtain ⟨n, hn⟩ : ∃ n, n = os.length := ⟨_, rfl⟩
  rw [← hn] at HO HT HBAD HEND hc2 ⊢
  clear hn hY0 hw1 hb1 hH hO
  cases hok : ydOk h ss
  · rw [hok] at HV
    have hr := Lib.hid (ordOk_yd (os := os) hok)
    clear hok
    go_enter Try.func18, Try.ntmps18
    go_wp2_with fail
    rw [← W1.out]
    refine HV.out.mono ?_
    rintro e w2 ⟨rfl, b2⟩
    go_wp2_with fail
    go_ret
    exact ⟨by rw [hr.out]; rfl, HB1.out.trans (b2.mono HB1.out.size)⟩
  · rw [hok] at HV
    have HOK := Lib.hid hok
    clear hok
    go_enter Try.func18, Try.ntmps18
    go_wp2_with fail
    rw [← W1.out]
    have HB0 := HB1
    generalize w.heap.size = Y at HY HB1 hW1 ⊢
    clear W1
    refine HV.out.mono ?_
    rintro e w2 ⟨rfl, b2⟩
    have B2 := Lib.hid b2
    clear b2 HV
    go_wp2_with fail
    go_loopw [12] (fun i wr => ∃ k : Nat, k ≤ n ∧ i = .int .i64 k ∧ Hid (∀ j, j < k → 0 ≤ findY h ss (os.getD j 0) ∧ hasI (os.take j) (os.getD j 0) = false) ∧ Below w1.heap.size w1 wr) (fun i _ => n - (intOf i).toNat)
    case atStart => exact ⟨0, by omega, rfl, Lib.hid fun j hj => by omega, B2.out⟩
    case round =>
      obtain ⟨k, hk, rfl, HA, hbr⟩ := hrel
      have y0 := (HY.out.keep hbr).c0
      have y1 := (HY.out.keep hbr).c1
      have HBR := Lib.hid hbr
      by_cases hlt : k < n
      · obtain ⟨b, off, rfl, hbl, s0⟩ := (HO.out.keep hbr).at_ hlt
        have ik : (k : Int) < (n : Int) := by omega
        have i0k : (0 : Int) ≤ (k : Int) := by omega
        have ikc : (k : Int) ≤ (c2 : Int) := by omega
        have HFk := Lib.hid (HF.out (os.getD k 0) wr hbr)
        have HTk := Lib.hid fun w' (hb : Below wr.heap.size wr w') => HT.out k (by omega) (os.getD k 0) w' (hbr.trans (hb.mono hbr.size))
        have HBk := Lib.hid fun hb => HBAD.out k hlt hb
        clear hbr
        generalize hz : findY h ss (os.getD k 0) = z at HFk HBk
        generalize hq : hasI (os.take k) (os.getD k 0) = q at HTk HBk
        have HZ := Lib.hid hz
        have HQ := Lib.hid hq
        clear hz hq
        generalize os.getD k 0 = x at s0 HFk HTk
        by_cases hz : z < 0
        · have hr := Lib.hid (HBk.out (.inl hz))
          go_wp2_with fail
          refine HFk.out.mono ?_
          rintro e w3 ⟨rfl, b3⟩
          go_wp2_with fail
          go_ret
          exact ⟨by rw [hr.out]; rfl, HB0.out.trans ((HBR.out.trans (b3.mono HBR.out.size)).mono HB0.out.size)⟩
        · go_wp2_with fail
          refine HFk.out.mono ?_
          rintro e w3 ⟨rfl, b3⟩
          have hx := HBR.out.trans (b3.mono HBR.out.size)
          go_wp2_with fail
          refine (HTk.out w3 b3).mono ?_
          rintro e w4 ⟨rfl, rfl⟩
          cases q
          · go_wp2_with fail
            go_roundw
            case rel => exact ⟨k + 1, by omega, by go_num, Lib.hid fun j hj => by
              by_cases e : j = k
              · subst e; exact ⟨by rw [HZ.out]; omega, HQ.out⟩
              · exact HA.out j (by omega), hx⟩
            case measure => simp [intOf]; omega
          · have hr := Lib.hid (HBk.out (.inr rfl))
            go_wp2_with fail
            go_ret
            exact ⟨by rw [hr.out]; rfl, HB0.out.trans (hx.mono HB0.out.size)⟩
      · have hr := Lib.hid (HEND.out fun j hj => HA.out j (by omega))
        go_wp2_with fail
        go_ret
        exact ⟨by rw [hr.out, HOK.out]; rfl, HB0.out.trans (hbr.mono HB0.out.size)⟩
end Go.Proofs.Ytlcfldmiibjboab
