/-
  The model's PlanIds, PlanNext.
-/
import Derived.Test.YtmgnbkiphdlooabGPl
import Derived.Laws.AppendOwnNone
namespace Go.Proofs.Ytmgnbkiphdlooab
open Go.RowKit
set_option linter.unusedVariables false

/-- The ids ahead of a slot. -/
def filP (p : List Int) (k : Nat) : List Int := (p.take k).filter (fun x => decide (0 < x))
theorem filP_next {p : List Int} {k : Nat} (hk : k < p.length) : filP p (k + 1) = if 0 < pAt p k then filP p k ++ [pAt p k] else filP p k := by
  unfold filP
  rw [List.take_add_one, List.getElem?_eq_getElem hk, pAt_get hk, List.filter_append]
  by_cases h : 0 < p[k]
  · rw [if_pos h]; simp [h]
  · rw [if_neg h]; simp [h]
theorem filP_len (p : List Int) (k : Nat) : (filP p k).length ≤ k := by
  unfold filP
  exact Nat.le_trans (List.length_filter_le _ _) (by rw [List.length_take]; omega)
theorem filP_end {h : Hl} {bok : Bool} {ids p : List Int} (hk : plOk h bok ids p = true) : idsP h bok ids p = filP p p.length := by
  unfold idsP filP; rw [if_pos hk, List.take_length]
/-- The next slots ahead of a slot. -/
def nxtP (h : Hl) (p : List Int) (k : Nat) : List Int := ((List.range k).filter (nextOk h p)).map Int.ofNat
def nextI (h : Hl) (bok : Bool) (ids p : List Int) : List Int := (nextP h bok ids p).map Int.ofNat
theorem nxtP_next (h : Hl) (p : List Int) (k : Nat) : nxtP h p (k + 1) = if nextOk h p k = true then nxtP h p k ++ [(k : Int)] else nxtP h p k := by
  unfold nxtP
  rw [List.range_succ, List.filter_append]
  by_cases hc : nextOk h p k = true
  · rw [if_pos hc]; simp [hc]
  · rw [if_neg hc]; simp [hc]
theorem nxtP_len (h : Hl) (p : List Int) (k : Nat) : (nxtP h p k).length ≤ k := by
  unfold nxtP
  rw [List.length_map]
  exact Nat.le_trans (List.length_filter_le _ _) (by rw [List.length_range]; omega)
theorem nxtP_end {h : Hl} {bok : Bool} {ids p : List Int} (hk : plOk h bok ids p = true) : nextI h bok ids p = nxtP h p p.length := by
  unfold nextI nextP nxtP; rw [if_pos hk]
theorem nextI_bad {h : Hl} {bok : Bool} {ids p : List Int} (hk : plOk h bok ids p = false) : nextI h bok ids p = [] := by unfold nextI nextP; rw [hk]; rfl
theorem idsP_bad {h : Hl} {bok : Bool} {ids p : List Int} (hk : plOk h bok ids p = false) : idsP h bok ids p = [] := by unfold idsP; rw [hk]; rfl

set_option maxRecDepth 10000 in
set_option maxHeartbeats 2000000 in
theorem specPlanNext_any (h : Hl) (u v : Value) (l : List Bx) (p : List Int) (w : World) (hb : HoldsBx w u l) (hp : HoldsI w v p) :
    Calls Try.prog 77 #[.agg #[.int .i64 h.b, .int .i64 h.r, .int .i64 h.t], u, v] w fun e w' => ∃ v', e = .returned v' ∧ OwnI w.heap.size w' v' (nextI h (bxsOk l) (bxIds l) p) ∧ Below w.heap.size w w' := by
  have hb1 := (Below.refl w.heap.size w).alloc (Nat.le_refl _) (.cells #[.int .i64 h.b, .int .i64 h.r, .int .i64 h.t] 24)
  have hx1 := BoxH.new w h
  obtain ⟨W1, hW1⟩ : ∃ W1, W1 = w.alloc (.cells #[.int .i64 h.b, .int .i64 h.r, .int .i64 h.t] 24) := ⟨_, rfl⟩
  rw [← hW1] at hb1 hx1
  have HW := Lib.hid hW1
  have HB := Lib.hid hb1
  have y0 := hx1.c0
  have y1 := hx1.c1
  have y2 := hx1.c2
  have HX := Lib.hid fun (w' : World) (hs : Below W1.heap.size W1 w') => hx1.keep hs
  have PK := Lib.hid fun (w' : World) (hs : Below w.heap.size w w') => hp.keep hs
  have BK := Lib.hid fun (w' : World) (hs : Below w.heap.size w w') => hb.keep hs
  have HPV := Lib.hid fun (w' : World) (hs : Below w.heap.size w w') => specPlanValid_any h u v l p w' (hb.keep hs) (hp.keep hs)
  obtain ⟨i0, hi, hz0, hz1, hz2⟩ := info_parts infoInt
  have HI := Lib.hid hi
  have HZ0 := Lib.hid hz0
  have HZ1 := Lib.hid hz1
  have HZ2 := Lib.hid hz2
  clear hi hz0 hz1 hz2
  have hs1 : W1.heap.size = w.heap.size + 1 := by rw [hW1]; simp
  have hb2 : Below W1.heap.size W1 (W1.alloc (.cells #[] 3)) := (Below.refl _ _).alloc (Nat.le_refl _) _
  have hO2 : OwnI W1.heap.size (W1.alloc (.cells #[] 3)) (.slice (some ⟨W1.heap.size, 0, none⟩) 0 0) [] := OwnI.zero (Nat.le_refl _)
  have hx2 := hx1.keep hb2
  obtain ⟨W2, hW2⟩ : ∃ W2, W2 = W1.alloc (.cells #[] 3) := ⟨_, rfl⟩
  rw [← hW2] at hb2 hO2 hx2
  have HW2 := Lib.hid hW2
  have z0 := hx2.c0
  have z1 := hx2.c1
  have z2 := hx2.c2
  have HB2 := Lib.hid (hb1.trans (hb2.mono hb1.size))
  rw [hs1] at hb2 hO2 HX
  have HO2 := Lib.hid hO2
  have HD2 := Lib.hid hb2
  clear hW2 hb2 hO2 hx2 y0 y1 y2
  cases hok : plOk h (bxsOk l) (bxIds l) p
  · have HE := Lib.hid (nextI_bad hok)
    rw [hok] at HPV
    clear hok hW1 hb1 hx1 hb hp
    go_enter Try.func77, Try.ntmps77
    go_wp2_with fail
    rw [← HW.out, ← HW2.out]
    go_wp2_with fail
    refine (HPV.out _ HB2.out).mono ?_
    rintro e w2 ⟨rfl, b2⟩
    go_wp2_with fail
    go_ret
    exact ⟨_, rfl, by rw [HE.out]; exact (HO2.out.from_ (by omega)).keep b2, HB2.out.trans (b2.mono HB2.out.size)⟩
  · have HEND := Lib.hid (nxtP_end hok)
    have hlen : 1 ≤ p.length ∧ p.length ≤ 36 := by
      obtain ⟨q1, _, q3, _⟩ := plOk_iff.1 hok
      obtain ⟨m1, m2, _⟩ := slMany_bd q1
      omega
    have HBE := Lib.hid fun k (hl : k < p.length) => pl_below (plOk_iff.1 hok).1 (plOk_iff.1 hok).2.2.1 hl
    obtain ⟨pa, pc, rfl⟩ := hp.form
    have hpc : p.length ≤ pc ∧ pc ≤ 9223372036854775807 := by
      obtain ⟨a', c', e, q1, q2, _⟩ := hp
      simp only [Value.slice.injEq] at e
      obtain ⟨-, -, rfl⟩ := e
      unfold maxLen at q2
      omega
    rw [hok] at HPV
    obtain ⟨n, hn⟩ : ∃ n, n = p.length := ⟨_, rfl⟩
    rw [← hn] at HPV PK hpc hlen HEND HBE ⊢
    have HNX := Lib.hid fun k (hk : k < n) => nxtP_next h p k
    have HLN := Lib.hid fun k => nxtP_len h p k
    clear hok hW1 hb1 hx1 hb hp hn
    go_enter Try.func77, Try.ntmps77
    go_wp2_with fail
    rw [← HW.out, ← HW2.out]
    go_wp2_with fail
    refine (HPV.out _ HB2.out).mono ?_
    rintro e w3 ⟨rfl, b3⟩
    have HO3 := Lib.hid (HO2.out.keep b3)
    have HD3 := Lib.hid (HD2.out.trans (b3.mono (by have := HD2.out.size; omega)))
    clear b3 HPV HO2 HD2 z0 z1 z2
    go_wp2_with fail
    go_loopw [7, 8] (fun va i wr => ∃ (k g c : Nat), k ≤ n ∧ va = .slice (some ⟨g, 0, none⟩) (nxtP h p k).length c ∧ i = .int .i64 k ∧ Hid (OwnI (w.heap.size + 1) wr (.slice (some ⟨g, 0, none⟩) (nxtP h p k).length c) (nxtP h p k)) ∧ Hid (Below (w.heap.size + 1) W1 wr)) (fun _ i _ => n - (intOf i).toNat)
    case atStart => exact ⟨0, w.heap.size + 1, 0, by omega, rfl, rfl, HO3, HD3⟩
    case round =>
      clear HO3 HD3
      obtain ⟨k, g, c, hkn, rfl, rfl, HO, DR⟩ := hrel
      have BR := Lib.hid (HB.out.trans (DR.out.mono (by have := HB.out.size; omega)))
      by_cases hlt : k < n
      · obtain ⟨b, off, rfl, hbl, s0⟩ := (PK.out wr BR.out).at_ hlt
        have ik : (k : Int) < (n : Int) := by omega
        have i0k : (0 : Int) ≤ (k : Int) := by omega
        have e1 : p.getD k 0 = pAt p k := rfl
        rw [e1] at s0
        clear e1
        have hfl := HLN.out k
        have HNk := Lib.hid (HNX.out k hlt)
        have y := HX.out wr DR.out
        have y0 := y.c0
        have y1 := y.c1
        have y2 := y.c2
        clear y
        have hblr : b < wr.heap.size := hbl
        have HSk := Lib.hid (specSlotBelow_any h k wr)
        have hbe := HBE.out k hlt
        by_cases hz : pAt p k = 0
        · rw [hz] at s0
          generalize hx0 : (0 : Int) = x at s0
          rcases hbe with ⟨hbm, ht⟩ | ⟨j, hj, hbm, ht⟩
          · have HN2 := Lib.hid (HNk.out.trans (if_pos (decide_eq_true ⟨hz, .inl ht⟩)))
            rw [hbm] at HSk
            subst hx0
            clear hbm ht hz HNk
            go_wp2_with fail
            refine HSk.out.mono ?_
            rintro e w4 ⟨rfl, b4⟩
            have DR4 := Lib.hid (DR.out.trans (b4.mono (by have := DR.out.size; omega)))
            have HOW := Lib.hid (HO.out.keep b4)
            have s5 : w4.cell? ⟨b, off + k, none⟩ = some (.int .i64 0) := (b4.cell (p := ⟨b, off + k, none⟩) hblr).trans s0
            clear s0 y0 y1 y2 DR HO
            have DR := DR4
            clear DR4
            go_wp2_with (at_builtin; refine wpList_append_own _ rfl _ _ 26 rfl (w.heap.size + 1) 3 i0 (.int .i64 0) 1 8 Try.underlying26 HI.out HZ0.out HZ1.out HZ2.out rfl (by decide) _ (nxtP h p k).length (rowI (nxtP h p k)) rfl (HOW.out.alloc _) ⟨w4.heap.size, 0, none⟩ 1 1 [.int .i64 (k : Int)] rfl rfl (fun j u hu => cells_new j u hu) (by simp [Value.oneCell']) (by unfold maxLen; omega) (by omega) (by have := DR.out.size; simp; omega) ?_; intro v5 w5 hown5 hgrow _)
            have hb5 : Below (w.heap.size + 1) w4 w5 := ((Below.refl _ _).alloc (by have := DR.out.size; omega) _).trans (own_below hgrow (by have := DR.out.size; simp; omega) (fun k' hk' => (own_lt HOW.out k' hk').1))
            have hO5 : OwnI (w.heap.size + 1) w5 v5 (nxtP h p k ++ [(k : Int)]) := own_put hown5
            clear hgrow hown5
            go_roundw
            case rel =>
              rw [← HN2.out] at hO5
              obtain ⟨g5, c5, cur5, rfl, -, -, -, -, -, -, -⟩ := hO5.form (by rw [HN2.out]; simp)
              exact ⟨k + 1, g5, c5, by omega, rfl, by go_num, Lib.hid hO5, Lib.hid (DR.out.trans hb5)⟩
            case measure => simp [intOf]; omega
          · obtain ⟨b', off', e', -, sj⟩ := (PK.out wr BR.out).at_ (k := j) (by omega)
            obtain ⟨rfl, rfl⟩ : b = b' ∧ off = off' := by simpa using e'
            have e2 : p.getD j 0 = pAt p j := rfl
            rw [e2] at sj
            have ij : (j : Int) < (n : Int) := by omega
            have i0j : (0 : Int) ≤ (j : Int) := by omega
            have hpj : pAt p (k - 1) = pAt p j := by rw [hj]; rfl
            rw [hbm] at HSk
            by_cases hq : 0 < pAt p j
            · have HN2 := Lib.hid (HNk.out.trans (if_pos (decide_eq_true ⟨hz, .inr (by rw [hpj]; exact hq)⟩)))
              obtain ⟨y, hyy⟩ : ∃ y, y = pAt p j := ⟨_, rfl⟩
              rw [← hyy] at sj hq
              have hdq : decide (0 < y) = true := decide_eq_true hq
              subst hx0
              clear hbm ht hz HNk hyy hpj e2 e' hj
              go_wp2_with fail
              refine HSk.out.mono ?_
              rintro e w4 ⟨rfl, b4⟩
              have DR4 := Lib.hid (DR.out.trans (b4.mono (by have := DR.out.size; omega)))
              have HOW := Lib.hid (HO.out.keep b4)
              have s5 : w4.cell? ⟨b, off + k, none⟩ = some (.int .i64 0) := (b4.cell (p := ⟨b, off + k, none⟩) hblr).trans s0
              have s6 : w4.cell? ⟨b, off + j, none⟩ = some (.int .i64 y) := (b4.cell (p := ⟨b, off + j, none⟩) hblr).trans sj
              clear sj
              clear s0 y0 y1 y2 DR HO
              have DR := DR4
              clear DR4
              go_wp2_with (at_builtin; refine wpList_append_own _ rfl _ _ 26 rfl (w.heap.size + 1) 3 i0 (.int .i64 0) 1 8 Try.underlying26 HI.out HZ0.out HZ1.out HZ2.out rfl (by decide) _ (nxtP h p k).length (rowI (nxtP h p k)) rfl (HOW.out.alloc _) ⟨w4.heap.size, 0, none⟩ 1 1 [.int .i64 (k : Int)] rfl rfl (fun j u hu => cells_new j u hu) (by simp [Value.oneCell']) (by unfold maxLen; omega) (by omega) (by have := DR.out.size; simp; omega) ?_; intro v5 w5 hown5 hgrow _)
              have hb5 : Below (w.heap.size + 1) w4 w5 := ((Below.refl _ _).alloc (by have := DR.out.size; omega) _).trans (own_below hgrow (by have := DR.out.size; simp; omega) (fun k' hk' => (own_lt HOW.out k' hk').1))
              have hO5 : OwnI (w.heap.size + 1) w5 v5 (nxtP h p k ++ [(k : Int)]) := own_put hown5
              clear hgrow hown5
              go_roundw
              case rel =>
                rw [← HN2.out] at hO5
                obtain ⟨g5, c5, cur5, rfl, -, -, -, -, -, -, -⟩ := hO5.form (by rw [HN2.out]; simp)
                exact ⟨k + 1, g5, c5, by omega, rfl, by go_num, Lib.hid hO5, Lib.hid (DR.out.trans hb5)⟩
              case measure => simp [intOf]; omega
            · have HN2 := Lib.hid (HNk.out.trans (if_neg (fun hc => (of_decide_eq_true hc).2.elim ht (by rw [hpj]; exact hq))))
              obtain ⟨y, hyy⟩ : ∃ y, y = pAt p j := ⟨_, rfl⟩
              rw [← hyy] at sj hq
              have hdq : decide (0 < y) = false := decide_eq_false hq
              subst hx0
              clear hbm ht hz HNk hyy hpj e2 e' hj
              go_wp2_with fail
              refine HSk.out.mono ?_
              rintro e w4 ⟨rfl, b4⟩
              have DR4 := Lib.hid (DR.out.trans (b4.mono (by have := DR.out.size; omega)))
              have HOW := Lib.hid (HO.out.keep b4)
              have s5 : w4.cell? ⟨b, off + k, none⟩ = some (.int .i64 0) := (b4.cell (p := ⟨b, off + k, none⟩) hblr).trans s0
              have s6 : w4.cell? ⟨b, off + j, none⟩ = some (.int .i64 y) := (b4.cell (p := ⟨b, off + j, none⟩) hblr).trans sj
              clear sj
              clear s0 y0 y1 y2 DR HO
              have DR := DR4
              clear DR4
              go_wp2_with fail
              go_roundw
              case rel => exact ⟨k + 1, g, c, by omega, by rw [HN2.out], by go_num, by rw [HN2.out]; exact HOW, Lib.hid DR.out⟩
              case measure => simp [intOf]; omega
        · have HN2 := Lib.hid (HNk.out.trans (if_neg (fun hc => hz (of_decide_eq_true hc).1)))
          obtain ⟨x, hxx⟩ : ∃ x, x = pAt p k := ⟨_, rfl⟩
          rw [← hxx] at s0 hz
          have hdz : (x == 0) = false := by simpa using hz
          generalize slBelow h k = bl at HSk
          clear hxx HNk hbe hz
          go_wp2_with fail
          refine HSk.out.mono ?_
          rintro e w4 ⟨rfl, b4⟩
          have DR4 := Lib.hid (DR.out.trans (b4.mono (by have := DR.out.size; omega)))
          have HOW := Lib.hid (HO.out.keep b4)
          have s5 : w4.cell? ⟨b, off + k, none⟩ = some (.int .i64 x) := (b4.cell (p := ⟨b, off + k, none⟩) hblr).trans s0
          clear s0 y0 y1 y2 DR HO
          have DR := DR4
          clear DR4
          go_wp2_with fail
          go_roundw
          case rel => exact ⟨k + 1, g, c, by omega, by rw [HN2.out], by go_num, by rw [HN2.out]; exact HOW, Lib.hid DR.out⟩
          case measure => simp [intOf]; omega
      · obtain rfl : k = n := by omega
        have C9 := BR.out
        have O9 := HO.out
        go_wp2_with fail
        go_ret
        exact ⟨_, rfl, by rw [HEND.out]; exact O9.from_ (by omega), C9⟩

end Go.Proofs.Ytmgnbkiphdlooab
