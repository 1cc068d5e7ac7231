/-
  The model's chapter 12: l12Best.
-/
import Derived.Test.YthlcjojhmhoadaaPgA
import Derived.Laws.AppendOwnNone
import Derived.Deep.QuietTactic
import Derived.BigQuiet
namespace Go.Proofs.Ythlcjojhmhoadaa
open Go.RowKit
set_option linter.unusedVariables false

open PgA
set_option maxRecDepth 10000 in
set_option maxHeartbeats 8000000 in
theorem l12Best_any : ∀ (R : List (List Int)) (vu : Value) (ad : Addr) (pc : Nat) (u : List (List Int)) (ps : List Int) (w : World), u.length ≤ 6 → HoldsY w vu u → HoldsI w (.slice (some ad) ps.length pc) ps → u.drop ps.length = R → ps.length ≤ u.length →
    Calls Try.prog 51 #[vu, .slice (some ad) ps.length pc] w fun e w'' => ∃ v', e = .returned v' ∧ HoldsI w'' v' (ps ++ bestS R ps) ∧ Below w.heap.size w w'' := by
  intro R
  induction R with
  | nil =>
    intro vu ad pc u ps w h6 hu hp hd hl
    obtain ⟨a, c, rfl⟩ : ∃ a c, vu = .slice a u.length c := by obtain ⟨a, c, e, _⟩ := hu; exact ⟨a, c, e⟩
    have he : ps.length = u.length := by
      have := congrArg List.length hd
      rw [List.length_drop, List.length_nil] at this
      omega
    have e0 : ((ps.length : Int) == (u.length : Int)) = true := by rw [he]; simp
    have hr := Lib.hid (show HoldsI w (.slice (some ad) ps.length pc) (ps ++ bestS [] ps) from by rw [show ps ++ bestS [] ps = ps by simp [bestS]]; exact hp)
    clear hu hp hd hl h6 he
    go_enter Try.func51, Try.ntmps51
    go_wp2_with fail
    go_ret
    exact ⟨_, rfl, hr.out, Below.refl _ _⟩
  | cons us rest ih =>
    intro vu ad pc u ps w h6 hu hp hd hl
    obtain ⟨i0, hi, hz0, hz1, hz2⟩ := info_parts infoInt
    have HI := Lib.hid hi
    have HZ0 := Lib.hid hz0
    have HZ1 := Lib.hid hz1
    have HZ2 := Lib.hid hz2
    clear hi hz0 hz1 hz2
    obtain ⟨hk, hrow, hd2⟩ := drop_at hd
    have HLR := Lib.hid (drop_len hd)
    have BFL := Lib.hid (bestF_len us rest ps)
    have BSL := Lib.hid fun y => (show ((ps ++ [y]) ++ bestS rest (ps ++ [y])).length = ps.length + 1 + rest.length from by rw [List.length_append, List.length_append, bestS_len]; simp)
    have IHc := Lib.hid fun (y : Int) (g c : Nat) (w' : World) (hs : Since w w') (hq : HoldsI w' (.slice (some ⟨g, 0, none⟩) (ps.length + 1) c) (ps ++ [y])) => (show Calls Try.prog 51 #[vu, .slice (some ⟨g, 0, none⟩) (ps.length + 1) c] w' fun e w'' => ∃ v', e = .returned v' ∧ HoldsI w'' v' ((ps ++ [y]) ++ bestS rest (ps ++ [y])) ∧ Below w'.heap.size w' w'' from by
      have hl1 : (ps ++ [y]).length = ps.length + 1 := by simp
      have := ih vu ⟨g, 0, none⟩ c u (ps ++ [y]) w' h6 (hu.keep hs) (by rw [hl1]; exact hq) (by rw [hl1]; exact hd2) (by rw [hl1]; omega)
      rwa [hl1] at this)
    clear ih
    obtain ⟨a, c, rfl⟩ : ∃ a c, vu = .slice a u.length c := by obtain ⟨a, c, e, _⟩ := hu; exact ⟨a, c, e⟩
    have HU := Lib.hid fun (w' : World) (hs : Below w.heap.size w w') => hu.keep hs
    have HP := Lib.hid fun (w' : World) (hs : Below w.heap.size w w') => hp.keep hs
    have hne : ((ps.length : Int) == (u.length : Int)) = false := by
      have : (ps.length : Int) ≠ (u.length : Int) := by omega
      simpa using this
    have SK := Lib.hid fun j (hj : j < us.length) h => bestF_skip (rest := rest) (ps := ps) hj h
    have NX := Lib.hid fun j (hj : j < us.length) h => bestF_next (rest := rest) (ps := ps) hj h
    have EN := Lib.hid (bestF_end us rest ps)
    have ZE := Lib.hid (bestF_zero us rest ps)
    have hb1 := (Below.refl w.heap.size w).alloc (Nat.le_refl _) (.cells #[] 3)
    have ho1 : HoldsI (w.alloc (.cells #[] 3)) (.slice (some ⟨w.heap.size, 0, none⟩) 0 0) [] := (OwnI.zero (Nat.le_refl _)).holds
    obtain ⟨W1, hW1⟩ : ∃ W1, W1 = w.alloc (.cells #[] 3) := ⟨_, rfl⟩
    rw [← hW1] at hb1 ho1
    have HW := Lib.hid hW1
    have HB := Lib.hid hb1
    have HO := Lib.hid ho1
    have hkk : (ps.length : Int) < (u.length : Int) := by omega
    have i0k : (0 : Int) ≤ (ps.length : Int) := by omega
    obtain ⟨R, hR⟩ : ∃ R, R = ps ++ bestS (us :: rest) ps := ⟨_, rfl⟩
    rw [← hR] at EN ⊢
    clear hu hp hW1 hb1 ho1 hR hd hd2 hl
    go_enter Try.func51, Try.ntmps51
    go_wp2_with fail
    rw [← HW.out]
    go_wp2_with fail
    go_loopw [6, 7] (fun va i wr => ∃ (j : Nat) (bl : List Int), j ≤ us.length ∧ i = .int .i64 j ∧ Hid (bl = bestF us rest ps j) ∧ Hid (HoldsI wr va bl) ∧ Hid (Below w.heap.size w wr)) (fun _ i _ => us.length - (intOf i).toNat)
    case atStart => exact ⟨0, [], by omega, rfl, Lib.hid ZE.out.symm, HO, HB⟩
    case round =>
      clear HO HB ZE HW
      obtain ⟨j, bl, hjm, rfl, HBL, HBE, BR⟩ := hrel
      obtain ⟨ba, bc, rfl⟩ := HBE.out.form
      obtain ⟨ub, uo, x, xc, rfl, hubl, s0, hxl, hxc, -, hx⟩ := (HU.out wr BR.out).at_ hk
      rw [hrow] at s0 hx hxl
      have hbl : bl.length ≤ 6 := by have := BFL.out j; have := HLR.out; rw [HBL.out]; omega
      by_cases hlt : j < us.length
      · obtain ⟨rb, ro, rfl, hrbl, t0⟩ := hx.at_ hlt
        have ij : (j : Int) < (us.length : Int) := by omega
        have i0j : (0 : Int) ≤ (j : Int) := by omega
        have SKj := Lib.hid fun h => SK.out j hlt h
        have NXj := Lib.hid fun h => NX.out j hlt h
        obtain ⟨y, hy⟩ : ∃ y, y = us.getD j 0 := ⟨_, rfl⟩
        rw [← hy] at t0 SKj NXj
        rw [← HBL.out] at SKj NXj
        have HAS := Lib.hid (l1Has_any (.slice (some ad) ps.length pc) ps y wr (HP.out wr BR.out))
        cases hin : hasI ps y
        · have NXk := Lib.hid (NXj.out fun hm => by rw [hasI_iffP.2 hm] at hin; cases hin)
          rw [hin] at HAS
          have IHk := Lib.hid fun (g c : Nat) (w' : World) (hs : Since wr w') hq => IHc.out y g c w' (BR.out.trans (hs.mono BR.out.size)) hq
          have NEWS := Lib.hid fun (w' : World) (hs : Since wr w') => HoldsI.rowA ((HP.out wr BR.out).keep hs)
          have CELL := Lib.hid fun (w' : World) (hs : Since wr w') => (show w'.cell? ⟨ub, uo + ps.length, none⟩ = some (.slice (some ⟨rb, ro, none⟩) us.length xc) ∧ w'.cell? ⟨rb, ro + j, none⟩ = some (.int .i64 y) ∧ Since wr w' from ⟨(Below.cell hs (p := ⟨ub, uo + ps.length, none⟩) hubl).trans s0, (Below.cell hs (p := ⟨rb, ro + j, none⟩) hrbl).trans t0, hs⟩)
          have hstart := CELL.out _ (show Since wr wr.drew from (Below.refl _ _).drew)
          clear IHc hin SKj NXj HBL hy hx SK NX EN HP HU hrow hne
          go_wp2_with fail
          refine HAS.out.mono ?_
          rintro e w' ⟨rfl, rfl⟩
          clear HAS
          go_wp2_with fail
          go_region_held3 (fun w' => w'.cell? ⟨ub, uo + ps.length, none⟩ = some (.slice (some ⟨rb, ro, none⟩) us.length xc) ∧ w'.cell? ⟨rb, ro + j, none⟩ = some (.int .i64 y) ∧ Since wr w')
            (first | assumption | exact hstart | exact CELL.out _ (Since.alloc (by exact (‹_ ∧ _› : _ ∧ _ ∧ Since wr _).2.2) _) | exact CELL.out _ (Since.alloc (Since.drew (by exact (‹_ ∧ _› : _ ∧ _ ∧ Since wr _).2.2)) _) | exact CELL.out _ (Since.on (by exact (‹_ ∧ _› : _ ∧ _ ∧ Since wr _).2.2) ‹Below wr.heap.size _ _›) | exact CELL.out _ (Since.call (by exact (‹_ ∧ _› : _ ∧ _ ∧ Since wr _).2.2) ‹_›) | exact CELL.out _ S7.out | exact CELL.out _ S8.out | exact CELL.out _ S9.out | exact CELL.out _ (Since.alloc S7.out _) | fail)
            (first
              | (go_at_call 51; ((with_reducible refine (IHk.out _ _ _ (by exact (‹_ ∧ _› : _ ∧ _ ∧ Since wr _).2.2) HO8.out).mono ?_); rintro e w9 ⟨v9, rfl, n9, b9⟩; have N9 := Lib.hid n9; have S9 := Lib.hid (show Since wr w9 from Since.call (by exact (‹_ ∧ _› : _ ∧ _ ∧ Since wr _).2.2) b9); clear n9))
              | (refine step_append_g (by rfl) _ _ 27 (by rfl) wr.heap.size 3 i0 (.int .i64 0) 1 8 Try.underlying27 HI.out HZ0.out HZ1.out HZ2.out rfl (by decide) _ 0 [] (by rfl) (own_zero (by (try simp only [alloc_sz, drew_sz]); omega) (by simp only [alloc_get, drew_get, alloc_sz] <;> simp)) ad ps.length pc (rowI ps) (by rfl) (by rw [rowI_len, Nat.mul_one]) (NEWS.out _ (by exact (‹_ ∧ _› : _ ∧ _ ∧ Since wr _).2.2)) (rowI_one _) (by unfold maxLen; omega) (by omega) (by (try simp only [alloc_sz, drew_sz]); omega) ?_; intro v7 w7 ho7 hb7 hk7; rw [Nat.zero_add, List.nil_append] at ho7; have HO7 := Lib.hid ho7; have HK7 := Lib.hid hk7; have S7 := Lib.hid (show Since wr w7 from Since.on (by exact (‹_ ∧ _› : _ ∧ _ ∧ Since wr _).2.2) hb7); have L7 := Since.size0 S7.out; clear ho7 hk7)
              | (refine step_append_g (by rfl) _ _ 27 (by rfl) wr.heap.size 3 i0 (.int .i64 0) 1 8 Try.underlying27 HI.out HZ0.out HZ1.out HZ2.out rfl (by decide) _ ps.length (rowI ps) (by rfl) (HO7.out.alloc _) _ 1 1 [.int .i64 y] (by rfl) rfl (fun j u hu => cells_new j u hu) (by simp [Value.oneCell']) (by unfold maxLen; omega) (by omega) (by (try simp only [alloc_sz]); omega) ?_; intro v8 w8 ho8 hb8 hk8; obtain ⟨g8, c8, rfl, -, -⟩ := own_form ho8 (by omega); have HO8 := Lib.hid (more_row ho8); have S8 := Lib.hid (show Since wr w8 from Since.on (by exact (‹_ ∧ _› : _ ∧ _ ∧ Since wr _).2.2) hb8); clear ho8 hk8)
              | (refine step_append_g (by rfl) _ _ 27 (by rfl) wr.heap.size 3 i0 (.int .i64 0) 1 8 Try.underlying27 HI.out HZ0.out HZ1.out HZ2.out rfl (by decide) _ ps.length (rowI ps) (by rfl) HO7.out _ 1 1 [.int .i64 y] (by rfl) rfl (one_news (one_kept HK7.out (by (try simp only [alloc_sz, drew_sz]); omega) (by simp [Value.ownBlock]) (by (try simp only [World.cell?, alloc_get, drew_get, alloc_sz]); (try simp); (try rfl)))) (by simp [Value.oneCell']) (by unfold maxLen; omega) (by omega) (by (try simp only [alloc_sz, drew_sz]); omega) ?_; intro v8 w8 ho8 hb8 hk8; obtain ⟨g8, c8, rfl, -, -⟩ := own_form ho8 (by omega); have HO8 := Lib.hid (more_row ho8); have S8 := Lib.hid (show Since wr w8 from Since.on (by exact (‹_ ∧ _› : _ ∧ _ ∧ Since wr _).2.2) hb8); clear ho8 hk8)
              | fail)
          all_goals
            rename_i hheld
            have h9 : Since wr w9 := hheld.2.2
            have HX := N9
            have HB := Lib.hid (HBE.out.keep h9)
            have BR9 := Lib.hid (BR.out.trans (Below.mono h9 BR.out.size))
            obtain ⟨X, hX⟩ : ∃ X, X = (ps ++ [y]) ++ bestS rest (ps ++ [y]) := ⟨_, rfl⟩
            have hXl : X.length ≤ 6 := by have := BSL.out y; have := HLR.out; rw [hX]; omega
            rw [← hX] at HX NXk
            clear hX
            have NXT := Lib.hid fun h => NXk.out.trans (if_pos h)
            have NXN := Lib.hid fun h => NXk.out.trans (if_neg h)
            obtain ⟨xa, xcc, rfl⟩ := HX.out.form
            clear hheld hstart CELL NEWS IHk NXk h9
            have CASE := Lib.hid (show bl.length = 0 ∨ (bl.length ≠ 0 ∧ manyP bl < manyP X) ∨ (bl.length ≠ 0 ∧ ¬ manyP bl < manyP X) from by omega)
            have MX := Lib.hid (l12Many_any _ X w9 HX.out (by omega))
            have MB := Lib.hid (l12Many_any _ bl w9 HB.out (by omega))
            rcases CASE.out with h1 | ⟨h1, h2⟩ | ⟨h1, h2⟩
            · have e0 : ((bl.length : Int) == 0) = true := by rw [h1]; rfl
              have hbx := Lib.hid (NXT.out (.inl (List.length_eq_zero_iff.1 h1)))
              clear MX MB h1
              go_wp2_with fail
              go_roundw
              case rel => exact ⟨j + 1, X, by omega, by go_num, Lib.hid hbx.out.symm, HX, BR9⟩
              case measure => simp [intOf]; omega
            · have e0 : ((bl.length : Int) == 0) = false := by
                have : (bl.length : Int) ≠ 0 := by omega
                simpa using this
              have hg : ((manyP bl : Nat) : Int) < ((manyP X : Nat) : Int) := by omega
              have hbx := Lib.hid (NXT.out (.inr h2))
              clear h1 h2
              go_wp2_with fail
              refine MX.out.mono ?_
              rintro e w' ⟨rfl, rfl⟩
              go_wp2_with fail
              refine MB.out.mono ?_
              rintro e w' ⟨rfl, rfl⟩
              go_wp2_with fail
              go_roundw
              case rel => exact ⟨j + 1, X, by omega, by go_num, Lib.hid hbx.out.symm, HX, BR9⟩
              case measure => simp [intOf]; omega
            · have e0 : ((bl.length : Int) == 0) = false := by
                have : (bl.length : Int) ≠ 0 := by omega
                simpa using this
              have hg : ¬ ((manyP bl : Nat) : Int) < ((manyP X : Nat) : Int) := by omega
              have hbx := Lib.hid (NXN.out (fun hc => hc.elim (fun h => h1 (by rw [h]; rfl)) h2))
              clear h1 h2
              go_wp2_with fail
              refine MX.out.mono ?_
              rintro e w' ⟨rfl, rfl⟩
              go_wp2_with fail
              refine MB.out.mono ?_
              rintro e w' ⟨rfl, rfl⟩
              go_wp2_with fail
              go_roundw
              case rel => exact ⟨j + 1, bl, by omega, by go_num, Lib.hid hbx.out.symm, HB, BR9⟩
              case measure => simp [intOf]; omega
        · have hbx := Lib.hid (SKj.out (hasI_iffP.1 hin))
          rw [hin] at HAS
          clear IHc hin SKj NXj HBL hy hx SK NX EN HP HU hrow hne
          go_wp2_with fail
          refine HAS.out.mono ?_
          rintro e w' ⟨rfl, rfl⟩
          go_wp2_with fail
          go_roundw
          case rel => exact ⟨j + 1, bl, by omega, by go_num, Lib.hid hbx.out.symm, HBE, BR⟩
          case measure => simp [intOf]; omega
      · obtain rfl : j = us.length := by omega
        rw [← HBL.out] at EN
        have NEWS := Lib.hid fun (w' : World) (hs : Since wr w') => HoldsI.rowA ((HP.out wr BR.out).keep hs)
        have SA : Since wr (wr.alloc (.cells #[] 3)) := Since.alloc (Below.refl _ _) _
        have ho0 : (wr.alloc (.cells #[] 3)).ownsRow wr.heap.size 3 1 (.slice (some ⟨wr.heap.size, 0, none⟩) 0 0) 0 [] := own_zero (Nat.le_refl _) (heap_alloc_new _ _)
        have HSA := Lib.hid SA
        have HO0 := Lib.hid ho0
        clear SA ho0 SK NX HBL HP HU hrow hne hx
        go_wp2_with (first
          | (at_builtin; refine wpList_append_own _ rfl _ _ 27 rfl wr.heap.size 3 i0 (.int .i64 0) 1 8 Try.underlying27 HI.out HZ0.out HZ1.out HZ2.out rfl (by decide) _ ps.length (rowI ps) rfl (HO5.out.alloc _) ⟨w5.heap.size, 0, none⟩ 1 1 [.int .i64 (-1)] rfl rfl (fun j u hu => cells_new j u hu) (by simp [Value.oneCell']) (by unfold maxLen; omega) (by omega) (by simp; omega) ?_; intro v6 w6 hown6 hgrow6 _)
          | (at_builtin; refine wpList_append_own _ rfl _ _ 27 rfl wr.heap.size 3 i0 (.int .i64 0) 1 8 Try.underlying27 HI.out HZ0.out HZ1.out HZ2.out rfl (by decide) _ 0 [] rfl HO0.out ad ps.length pc (rowI ps) rfl (by rw [rowI_len, Nat.mul_one]) (NEWS.out _ HSA.out) (rowI_one _) (by unfold maxLen; omega) (by omega) (by simp) ?_; intro v5 w5 hown5 hgrow _; rw [Nat.zero_add, List.nil_append] at hown5; have HO5 := Lib.hid hown5; have HS5 := Lib.hid (show Since wr w5 from Since.on HSA.out (own_below hgrow (by simp) (fun k' hk' => (own_lt HO0.out k' hk').1))); have L5 : wr.heap.size ≤ w5.heap.size := HS5.out.size; clear hown5 hgrow)
          | fail)
        have S6 : Since wr w6 := Since.on (Since.alloc HS5.out _) (own_below hgrow6 (by simp; omega) (fun k' hk' => (own_lt HO5.out k' hk').1))
        obtain ⟨g6, c6, rfl, -, -⟩ := own_form hown6 (by omega)
        have HO6 := Lib.hid (more_row hown6)
        have HS6 := Lib.hid S6
        have IHk := Lib.hid (IHc.out (-1) g6 c6 w6 (BR.out.trans (Below.mono S6 BR.out.size)) HO6.out)
        clear hown6 hgrow6 S6 IHc
        go_wp2_with fail
        refine IHk.out.mono ?_
        rintro e w9 ⟨v9, rfl, n9, b9⟩
        have HX := Lib.hid n9
        have h9 : Since wr w9 := Since.call HS6.out b9
        have HB := Lib.hid (HBE.out.keep h9)
        have BR9 := Lib.hid (BR.out.trans (Below.mono h9 BR.out.size))
        obtain ⟨X, hX⟩ : ∃ X, X = (ps ++ [-1]) ++ bestS rest (ps ++ [-1]) := ⟨_, rfl⟩
        have hXl : X.length ≤ 6 := by have := BSL.out (-1); have := HLR.out; rw [hX]; omega
        rw [← hX] at HX EN
        clear hX n9 h9 b9
        have NXT := Lib.hid fun h => EN.out.symm.trans (if_pos h)
        have NXN := Lib.hid fun h => EN.out.symm.trans (if_neg h)
        obtain ⟨xa, xcc, rfl⟩ := HX.out.form
        clear IHk NEWS HSA HO0 HO5 HS5 HO6 HS6 EN
        have CASE := Lib.hid (show bl.length = 0 ∨ (bl.length ≠ 0 ∧ manyP bl < manyP X) ∨ (bl.length ≠ 0 ∧ ¬ manyP bl < manyP X) from by omega)
        have MX := Lib.hid (l12Many_any _ X w9 HX.out (by omega))
        have MB := Lib.hid (l12Many_any _ bl w9 HB.out (by omega))
        rcases CASE.out with h1 | ⟨h1, h2⟩ | ⟨h1, h2⟩
        · have e0 : ((bl.length : Int) == 0) = true := by rw [h1]; rfl
          have hbx := Lib.hid (NXT.out (.inl (List.length_eq_zero_iff.1 h1)))
          clear MX MB h1
          go_wp2_with fail
          go_ret
          exact ⟨_, rfl, by rw [hbx.out]; exact HX.out, BR9.out⟩
        · have e0 : ((bl.length : Int) == 0) = false := by
            have : (bl.length : Int) ≠ 0 := by omega
            simpa using this
          have hg : ((manyP bl : Nat) : Int) < ((manyP X : Nat) : Int) := by omega
          have hbx := Lib.hid (NXT.out (.inr h2))
          clear h1 h2
          go_wp2_with fail
          refine MX.out.mono ?_
          rintro e w' ⟨rfl, rfl⟩
          go_wp2_with fail
          refine MB.out.mono ?_
          rintro e w' ⟨rfl, rfl⟩
          go_wp2_with fail
          go_ret
          exact ⟨_, rfl, by rw [hbx.out]; exact HX.out, BR9.out⟩
        · have e0 : ((bl.length : Int) == 0) = false := by
            have : (bl.length : Int) ≠ 0 := by omega
            simpa using this
          have hg : ¬ ((manyP bl : Nat) : Int) < ((manyP X : Nat) : Int) := by omega
          have hbx := Lib.hid (NXN.out (fun hc => hc.elim (fun h => h1 (by rw [h]; rfl)) h2))
          clear h1 h2
          go_wp2_with fail
          refine MX.out.mono ?_
          rintro e w' ⟨rfl, rfl⟩
          go_wp2_with fail
          refine MB.out.mono ?_
          rintro e w' ⟨rfl, rfl⟩
          go_wp2_with fail
          go_ret
          exact ⟨_, rfl, by rw [hbx.out]; exact HB.out, BR9.out⟩
end Go.Proofs.Ythlcjojhmhoadaa
