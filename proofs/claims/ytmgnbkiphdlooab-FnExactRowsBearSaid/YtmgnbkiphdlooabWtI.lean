/-
  The program's chapter 8: weights.
-/
import Derived.Test.YtmgnbkiphdlooabPlI
import Derived.Test.YtmgnbkiphdlooabGBl
import Derived.Test.YtmgnbkiphdlooabWtS
import Derived.Deep.RegionHeld3
namespace Go.Proofs.Ytmgnbkiphdlooab
open Go.RowKit
set_option linter.unusedVariables false

/-- The weight of what is found by an id; nothing weighs 0. -/
def gIn (l : List Bx) (x : Int) : Int := if findB l x < 0 then 0 else wAt l x
theorem gIn_plan {h : Hl} {l : List Bx} {p : List Int} (hk : plOk h (bxsOk l) (bxIds l) p = true) {k : Nat} (hl : k < p.length) : gIn l (pAt p k) = wBx l (pAt p k) := by
  unfold gIn wBx
  by_cases hz : pAt p k = 0
  · rw [if_pos hz, if_pos]
    apply Classical.byContradiction
    intro hc
    have := bxIds_pos (plOk_bok hk) _ ((findB_mem l (pAt p k)).1 (by omega))
    omega
  · have := pl_find hk hl hz
    rw [if_neg hz, if_neg (by omega)]

set_option maxRecDepth 10000 in
set_option maxHeartbeats 1000000 in
theorem weightIn_any (u : Value) (l : List Bx) (x : Int) (w : World) (hb : HoldsBx w u l) :
    Calls Try.prog 45 #[u, .int .i64 x] w fun e w' => e = .returned (.int .i64 (gIn l x)) ∧ Below w.heap.size w w' := by
  have HF := Lib.hid (indexOf_any u l x w hb)
  have hbd := (findB_bd l x).2
  by_cases hneg : findB l x < 0
  · have hr := Lib.hid (show gIn l x = 0 from if_pos hneg)
    clear hb hbd
    obtain ⟨y, hy⟩ : ∃ y, y = findB l x := ⟨_, rfl⟩
    rw [← hy] at HF hneg
    clear hy
    go_enter Try.func45, Try.ntmps45
    go_wp2_with fail
    refine HF.out.mono ?_
    rintro e w' ⟨rfl, b2⟩
    go_wp2_with fail
    go_ret
    exact ⟨by rw [hr.out]; rfl, b2⟩
  · have hr := Lib.hid (show gIn l x = wAt l x from if_neg hneg)
    obtain ⟨i, hi⟩ : ∃ i : Nat, findB l x = (i : Int) := ⟨(findB l x).toNat, by omega⟩
    have hil : i < l.length := by omega
    have hw : wAt l x = l[i].g := by
      unfold wAt
      rw [hi, Int.toNat_natCast, getD_bx hil]
    obtain ⟨bb, bo, bc, rfl, hbl, hc1⟩ : ∃ bb bo bc, u = .slice (some ⟨bb, bo, none⟩) l.length bc ∧ bb < w.heap.size ∧ w.cell? ⟨bb, bo + i * 5 + 1, none⟩ = some (.int .i64 l[i].g) := by
      obtain ⟨a', c', e, q1, q2, q3⟩ := hb
      rcases q3 with q3 | ⟨b', off', q4, q5, q6⟩
      · omega
      · exact ⟨b', off', c', by rw [e, q4], q5, q6 i hil 1 (by omega)⟩
    rw [hi] at HF
    rw [hw] at hr
    generalize l[i].g = g at hc1 hr
    have ii : (i : Int) < (l.length : Int) := by omega
    have i0i : (0 : Int) ≤ (i : Int) := by omega
    have hd0 : decide ((i : Int) < 0) = false := decide_eq_false (by omega)
    obtain ⟨m, hm⟩ : ∃ m, m = l.length := ⟨_, rfl⟩
    rw [← hm] at ii HF ⊢
    clear hb hbd hneg hi hil hw hm
    go_enter Try.func45, Try.ntmps45
    go_wp2_with fail
    refine HF.out.mono ?_
    rintro e w' ⟨rfl, b2⟩
    have hc2 : w'.cell? ⟨bb, bo + i * 5 + 1, none⟩ = some (.int .i64 g) := (b2.cell (p := ⟨bb, bo + i * 5 + 1, none⟩) hbl).trans hc1
    clear hc1
    go_wp2_with fail
    go_ret
    exact ⟨by rw [hr.out]; rfl, b2⟩

set_option maxRecDepth 10000 in
theorem fromMiddle_any (x m : Int) (w : World) (hx : -100 ≤ x ∧ x ≤ 100) (hm : -100 ≤ m ∧ m ≤ 100) :
    Calls Try.prog 66 #[.int .i64 x, .int .i64 m] w fun e w' => e = .returned (.int .i64 (2 * x - (m - 1))) ∧ w = w' := by
  have z1 : IntKind.i64.wrap (2 * x) = 2 * x := IntWalk.i64_in _ (by omega)
  have z2 : IntKind.i64.wrap (m - 1) = m - 1 := IntWalk.i64_in _ (by omega)
  have z3 : IntKind.i64.wrap (2 * x - (m - 1)) = 2 * x - (m - 1) := IntWalk.i64_in _ (by omega)
  go_enter Try.func66, Try.ntmps66
  go_wp2_with fail
  go_ret
  exact ⟨rfl, rfl⟩

set_option maxRecDepth 10000 in
set_option maxHeartbeats 4000000 in
theorem implLoadOf_any (h : Hl) (u v : Value) (l : List Bx) (p : List Int) (w : World) (hb : HoldsBx w u l) (hp : HoldsI w v p) :
    Calls Try.prog 15 #[.agg #[.int .i64 h.b, .int .i64 h.r, .int .i64 h.t], u, v] w fun e w' => e = .returned (.int .i64 (loadW h l p)) ∧ Below w.heap.size w w' := by
  have hb1 := (Below.refl w.heap.size w).alloc (Nat.le_refl _) (.cells #[.int .i64 h.b, .int .i64 h.r, .int .i64 h.t] 24)
  have hx1 := BoxH.new w h
  obtain ⟨W1, hW1⟩ : ∃ W1, W1 = w.alloc (.cells #[.int .i64 h.b, .int .i64 h.r, .int .i64 h.t] 24) := ⟨_, rfl⟩
  rw [← hW1] at hb1 hx1
  have HW := Lib.hid hW1
  have HB := Lib.hid hb1
  have y0 := hx1.c0
  have y1 := hx1.c1
  have y2 := hx1.c2
  have HX := Lib.hid fun (w' : World) (hs : Below W1.heap.size W1 w') => hx1.keep hs
  clear hW1 hb1 hx1
  have HPV := Lib.hid fun (w' : World) (hs : Below w.heap.size w w') => implPlanValid_any h u v l p w' (hb.keep hs) (hp.keep hs)
  have HPI := Lib.hid fun (w' : World) (hs : Below w.heap.size w w') => implPlanIds_any h u v l p w' (hb.keep hs) (hp.keep hs)
  cases hok : plOk h (bxsOk l) (bxIds l) p
  · have HE := Lib.hid (show loadW h l p = -1 from by unfold loadW; rw [hok]; rfl)
    rw [hok] at HPV
    clear hok hb hp
    go_enter Try.func15, Try.ntmps15
    go_wp2_with fail
    rw [← HW.out]
    go_wp2_with fail
    refine (HPV.out _ HB.out).mono ?_
    rintro e w2 ⟨rfl, b2⟩
    go_wp2_with fail
    go_ret
    exact ⟨by rw [HE.out]; rfl, HB.out.trans (b2.mono HB.out.size)⟩
  · have HE := Lib.hid (loadW_ids hok)
    have hlen : (idsP h (bxsOk l) (bxIds l) p).length ≤ 1048576 := by
      have h1 := pl_len hok
      have h2 : (idsP h (bxsOk l) (bxIds l) p).length ≤ p.length := by unfold idsP; split <;> first | exact List.length_filter_le .. | simp
      omega
    have HBW := Lib.hid fun v' (w' : World) (hs : Below w.heap.size w w') (hv : HoldsI w' v' (idsP h (bxsOk l) (bxIds l) p)) => implWeightOf_any u v' l _ w' (hb.keep hs) hv hlen
    rw [hok] at HPV
    generalize idsP h (bxsOk l) (bxIds l) p = ids at HE HBW HPI
    clear hok hb hp hlen
    go_enter Try.func15, Try.ntmps15
    go_wp2_with fail
    rw [← HW.out]
    go_wp2_with fail
    refine (HPV.out _ HB.out).mono ?_
    rintro e w2 ⟨rfl, b2⟩
    have C2 := HB.out.trans (b2.mono HB.out.size)
    have x2 := HX.out w2 b2
    have c0 := x2.c0
    have c1 := x2.c1
    have c2 := x2.c2
    clear x2 y0 y1 y2 b2
    go_wp2_with fail
    refine (HPI.out _ C2).mono ?_
    rintro e w3 ⟨v3, rfl, f3, b3⟩
    have C3 := C2.trans (b3.mono C2.size)
    have HV3 := Lib.hid (HBW.out v3 w3 C3 f3.holds)
    clear c0 c1 c2 b3 f3
    go_wp2_with fail
    refine HV3.out.mono ?_
    rintro e w4 ⟨rfl, b4⟩
    go_wp2_with fail
    go_ret
    exact ⟨by rw [HE.out]; rfl, C3.trans (b4.mono C3.size)⟩

set_option maxRecDepth 10000 in
set_option maxHeartbeats 4000000 in
theorem implHeelOf_any (h : Hl) (u v : Value) (l : List Bx) (p : List Int) (w : World) (hb : HoldsBx w u l) (hp : HoldsI w v p) :
    Calls Try.prog 30 #[.agg #[.int .i64 h.b, .int .i64 h.r, .int .i64 h.t], u, v] w fun e w' => e = .returned (.tuple #[.int .i64 (heelW h l p).1, .bool (heelW h l p).2]) ∧ Below w.heap.size w w' := by
  have hb1 := (Below.refl w.heap.size w).alloc (Nat.le_refl _) (.cells #[.int .i64 h.b, .int .i64 h.r, .int .i64 h.t] 24)
  have hx1 := BoxH.new w h
  obtain ⟨W1, hW1⟩ : ∃ W1, W1 = w.alloc (.cells #[.int .i64 h.b, .int .i64 h.r, .int .i64 h.t] 24) := ⟨_, rfl⟩
  rw [← hW1] at hb1 hx1
  have HW := Lib.hid hW1
  have HB := Lib.hid hb1
  have y0 := hx1.c0
  have y1 := hx1.c1
  have y2 := hx1.c2
  have HX := Lib.hid fun (w' : World) (hs : Below W1.heap.size W1 w') => hx1.keep hs
  clear hW1 hb1 hx1
  have HPV := Lib.hid fun (w' : World) (hs : Below w.heap.size w w') => implPlanValid_any h u v l p w' (hb.keep hs) (hp.keep hs)
  cases hok : plOk h (bxsOk l) (bxIds l) p
  · have HE := Lib.hid (show heelW h l p = (0, false) from by unfold heelW; rw [hok]; rfl)
    rw [hok] at HPV
    clear hok hb hp
    go_enter Try.func30, Try.ntmps30
    go_wp2_with fail
    rw [← HW.out]
    go_wp2_with fail
    refine (HPV.out _ HB.out).mono ?_
    rintro e w2 ⟨rfl, b2⟩
    go_wp2_with fail
    go_ret2
    exact ⟨by rw [HE.out]; rfl, HB.out.trans (b2.mono HB.out.size)⟩
  · have HE := Lib.hid (show heelW h l p = (wsN (wBx l) (heelC h) p p.length, true) from by unfold heelW; rw [if_pos hok]; rfl)
    have HBD := Lib.hid (wsN_bd hok (f := (heelC h)) (c := 2) (fun k hl => heelC_bd (plOk_iff.1 hok).1 (plOk_iff.1 hok).2.2.1 hl))
    have HWB := Lib.hid fun k (hl : k < p.length) => wBx_bd hok hl
    have HFB := Lib.hid fun k (hl : k < p.length) => (show -2 ≤ (heelC h) k ∧ (heelC h) k ≤ 2 from ( heelC_bd (plOk_iff.1 hok).1 (plOk_iff.1 hok).2.2.1 hl))
    have HNX := Lib.hid fun k => wsN_next (wBx l) (heelC h) p k
    have hlen := pl_len hok
    have HW8 := Lib.hid fun k (hl : k < p.length) (w' : World) (hs : Below w.heap.size w w') => (gIn_plan hok hl) ▸ weightIn_any u l (pAt p k) w' (hb.keep hs)
    have HPO := Lib.hid fun k (w' : World) => implPlaceOf_any h k w'
    have HPB := Lib.hid fun (k : Nat) (hl : k < p.length) => (show (0 ≤ (plOf h (k : Int)).2.1 ∧ (plOf h (k : Int)).2.1 ≤ 4) ∧ 1 ≤ h.r ∧ h.r ≤ 4 from by
      obtain ⟨g1, g2, g3, g4, g5, g6⟩ := hlOk_iff.1 (plOk_iff.1 hok).1
      have hsl := (plOk_iff.1 hok).2.2.1
      obtain ⟨p1, p2, p3, p4⟩ := plOf_in (s := (k : Int)) (plOk_iff.1 hok).1 (by omega) (by omega)
      have e := plOf_yes (s := (k : Int)) (plOk_iff.1 hok).1 (by omega) (by omega)
      rw [e]; simp only []; omega)
    have HFC := Lib.hid fun (k : Nat) => (show heelC h k = 2 * (plOf h (k : Int)).2.1 - (h.r - 1) from rfl)
    have PK := Lib.hid fun (w' : World) (hs : Below w.heap.size w w') => hp.keep hs
    rw [hok] at HPV
    obtain ⟨pa, pc, rfl⟩ := hp.form
    obtain ⟨n, hn⟩ : ∃ n, n = p.length := ⟨_, rfl⟩
    have hz0 : wsN (wBx l) (heelC h) p 0 = 0 := rfl
    rw [← hn] at HPV HE HBD HWB HFB hlen HW8 HPB PK ⊢
    generalize hgs : wsN (wBx l) (heelC h) p = s at HE HBD HNX hz0
    clear hok hb hp hn hgs
    go_enter Try.func30, Try.ntmps30
    go_wp2_with fail
    rw [← HW.out]
    go_wp2_with fail
    refine (HPV.out _ HB.out).mono ?_
    rintro e w2 ⟨rfl, b2⟩
    have D2 := Lib.hid b2
    clear b2 y0 y1 y2 HPV
    go_wp2_with fail
    go_loopw [8, 21] (fun sm i wr => ∃ k : Nat, k ≤ n ∧ sm = .int .i64 (s k) ∧ i = .int .i64 k ∧ Hid (Below W1.heap.size W1 wr)) (fun _ i _ => n - (intOf i).toNat)
    case atStart => exact ⟨0, by omega, by rw [hz0], rfl, D2⟩
    case round =>
      clear D2 hz0
      obtain ⟨k, hkn, rfl, rfl, DR⟩ := hrel
      have BR := Lib.hid (HB.out.trans (DR.out.mono HB.out.size))
      by_cases hlt : k < n
      · obtain ⟨b, off, rfl, hbl, s0⟩ := (PK.out wr BR.out).at_ hlt
        have ik : (k : Int) < (n : Int) := by omega
        have i0k : (0 : Int) ≤ (k : Int) := by omega
        have e1 : p.getD k 0 = pAt p k := rfl
        rw [e1] at s0
        clear e1
        have hnk := HNX.out k
        have hb1 := HBD.out (k + 1) (by omega)
        have hw1 := HWB.out k hlt
        have hf1 := HFB.out k hlt
        have hm1 := mulW_bd hw1 hf1
        have hpr : IntKind.i64.wrap (wBx l (pAt p k) * heelC h k) = wBx l (pAt p k) * heelC h k := IntWalk.i64_in _ (by omega)
        have hsum : IntKind.i64.wrap (s k + wBx l (pAt p k) * heelC h k) = s (k + 1) := by
          rw [hnk, IntWalk.i64_in _ (by omega)]
        have hx0 := HPB.out k hlt
        have hfc := HFC.out k
        have HPk := HPO.out k
        have HWk0 := Lib.hid fun (w' : World) (hs : Since wr w') => HW8.out k hlt w' (BR.out.trans (Below.mono hs BR.out.size))
        have y := HX.out wr DR.out
        have c0 := y.c0
        have c1 := y.c1
        have c2 := y.c2
        generalize plOf h (k : Int) = q at HPk hx0 hfc
        obtain ⟨x1, x2, x3⟩ := q
        have HP' : Hid (∀ w', Calls Try.prog 61 #[.agg #[.int .i64 h.b, .int .i64 h.r, .int .i64 h.t], .int .i64 k] w' fun e w'' => e = .returned (.tuple #[.int .i64 x1, .int .i64 x2, .int .i64 x3]) ∧ Below w'.heap.size w' w'') := Lib.hid HPk
        simp only [] at hx0 hfc
        have HFM := Lib.hid fun (w' : World) => (hfc ▸ fromMiddle_any _ h.r w' (by omega) (by omega) : Calls Try.prog 66 #[.int .i64 x2, .int .i64 h.r] w' fun e w'' => e = .returned (.int .i64 (heelC h k)) ∧ w' = w'')
        generalize wBx l (pAt p k) = bw at HWk0 hsum hpr
        generalize pAt p k = xp at HWk0 s0
        generalize heelC h k = c at HFM hsum hpr
        generalize s k = a at hsum
        clear hnk hb1 hw1 hf1 hm1 HPk hx0 hfc y
        go_wp2_with fail
        refine (HP'.out wr).mono ?_
        rintro e wr2 ⟨rfl, b4⟩
        have DR2 := Lib.hid (DR.out.trans (b4.mono DR.out.size))
        have HWk := Lib.hid fun (w' : World) (hs : Since wr2 w') => HWk0.out w' (show Since wr w' from Below.trans b4 (Below.mono hs b4.size))
        have y := HX.out wr2 DR2.out
        have HK := Lib.hid fun (w' : World) (hs : Since wr2 w') => (show w'.cell? ⟨w.heap.size, 0, none⟩ = some (.int .i64 h.b) ∧ w'.cell? ⟨w.heap.size, 1, none⟩ = some (.int .i64 h.r) ∧ w'.cell? ⟨w.heap.size, 2, none⟩ = some (.int .i64 h.t) ∧ Since wr2 w' from ⟨(y.keep hs).c0, (y.keep hs).c1, (y.keep hs).c2, hs⟩)
        have hstart := HK.out _ (show Since wr2 wr2.drew from (Below.refl _ _).drew)
        clear c0 c1 c2 y b4 s0 HP' HWk0
        go_wp2_with fail
        go_region_held3 (fun w' => w'.cell? ⟨w.heap.size, 0, none⟩ = some (.int .i64 h.b) ∧ w'.cell? ⟨w.heap.size, 1, none⟩ = some (.int .i64 h.r) ∧ w'.cell? ⟨w.heap.size, 2, none⟩ = some (.int .i64 h.t) ∧ Since wr2 w')
          (first | exact hstart | exact HK.out _ s5 | exact HK.out _ (by exact (‹_ ∧ _› : _ ∧ _ ∧ _ ∧ Since wr2 _).2.2.2) | fail)
          (first
            | (go_at_call 45; ((with_reducible refine (HWk.out _ (by exact (‹_ ∧ _› : _ ∧ _ ∧ _ ∧ Since wr2 _).2.2.2)).mono ?_); rintro e w5 ⟨rfl, d5⟩; have s5 : Since wr2 w5 := Since.call (by exact (‹_ ∧ _› : _ ∧ _ ∧ _ ∧ Since wr2 _).2.2.2) d5; clear d5))
            | (go_at_call 66; ((with_reducible refine (HFM.out _).mono ?_); rintro e w6 ⟨rfl, rfl⟩))
            | fail)
        rename_i hheld
        have hx9 := Lib.hid (DR2.out.trans (Below.mono hheld.2.2.2 DR2.out.size))
        clear hheld hstart
        go_wp2_with fail
        go_roundw
        case rel => exact ⟨k + 1, by omega, (by first | rfl | rw [hsum]), by go_num, hx9⟩
        case measure => simp [intOf]; omega
      · obtain rfl : k = n := by omega
        have C9 := BR.out
        go_wp2_with fail
        go_ret2
        exact ⟨by rw [HE.out]; rfl, C9⟩

set_option maxRecDepth 10000 in
set_option maxHeartbeats 4000000 in
theorem implTrimOf_any (h : Hl) (u v : Value) (l : List Bx) (p : List Int) (w : World) (hb : HoldsBx w u l) (hp : HoldsI w v p) :
    Calls Try.prog 31 #[.agg #[.int .i64 h.b, .int .i64 h.r, .int .i64 h.t], u, v] w fun e w' => e = .returned (.tuple #[.int .i64 (trimW h l p).1, .bool (trimW h l p).2]) ∧ Below w.heap.size w w' := by
  have hb1 := (Below.refl w.heap.size w).alloc (Nat.le_refl _) (.cells #[.int .i64 h.b, .int .i64 h.r, .int .i64 h.t] 24)
  have hx1 := BoxH.new w h
  obtain ⟨W1, hW1⟩ : ∃ W1, W1 = w.alloc (.cells #[.int .i64 h.b, .int .i64 h.r, .int .i64 h.t] 24) := ⟨_, rfl⟩
  rw [← hW1] at hb1 hx1
  have HW := Lib.hid hW1
  have HB := Lib.hid hb1
  have y0 := hx1.c0
  have y1 := hx1.c1
  have y2 := hx1.c2
  have HX := Lib.hid fun (w' : World) (hs : Below W1.heap.size W1 w') => hx1.keep hs
  clear hW1 hb1 hx1
  have HPV := Lib.hid fun (w' : World) (hs : Below w.heap.size w w') => implPlanValid_any h u v l p w' (hb.keep hs) (hp.keep hs)
  cases hok : plOk h (bxsOk l) (bxIds l) p
  · have HE := Lib.hid (show trimW h l p = (0, false) from by unfold trimW; rw [hok]; rfl)
    rw [hok] at HPV
    clear hok hb hp
    go_enter Try.func31, Try.ntmps31
    go_wp2_with fail
    rw [← HW.out]
    go_wp2_with fail
    refine (HPV.out _ HB.out).mono ?_
    rintro e w2 ⟨rfl, b2⟩
    go_wp2_with fail
    go_ret2
    exact ⟨by rw [HE.out]; rfl, HB.out.trans (b2.mono HB.out.size)⟩
  · have HE := Lib.hid (show trimW h l p = (wsN (wBx l) (trimC h) p p.length, true) from by unfold trimW; rw [if_pos hok]; rfl)
    have HBD := Lib.hid (wsN_bd hok (f := (trimC h)) (c := 3) (fun k hl => trimC_bd3 (plOk_iff.1 hok).1 (plOk_iff.1 hok).2.2.1 hl))
    have HWB := Lib.hid fun k (hl : k < p.length) => wBx_bd hok hl
    have HFB := Lib.hid fun k (hl : k < p.length) => (show -3 ≤ (trimC h) k ∧ (trimC h) k ≤ 3 from ( trimC_bd3 (plOk_iff.1 hok).1 (plOk_iff.1 hok).2.2.1 hl))
    have HNX := Lib.hid fun k => wsN_next (wBx l) (trimC h) p k
    have hlen := pl_len hok
    have HW8 := Lib.hid fun k (hl : k < p.length) (w' : World) (hs : Below w.heap.size w w') => (gIn_plan hok hl) ▸ weightIn_any u l (pAt p k) w' (hb.keep hs)
    have HPO := Lib.hid fun k (w' : World) => implPlaceOf_any h k w'
    have HPB := Lib.hid fun (k : Nat) (hl : k < p.length) => (show (0 ≤ (plOf h (k : Int)).1 ∧ (plOf h (k : Int)).1 ≤ 4) ∧ 1 ≤ h.b ∧ h.b ≤ 4 from by
      obtain ⟨g1, g2, g3, g4, g5, g6⟩ := hlOk_iff.1 (plOk_iff.1 hok).1
      have hsl := (plOk_iff.1 hok).2.2.1
      obtain ⟨p1, p2, p3, p4⟩ := plOf_in (s := (k : Int)) (plOk_iff.1 hok).1 (by omega) (by omega)
      have e := plOf_yes (s := (k : Int)) (plOk_iff.1 hok).1 (by omega) (by omega)
      rw [e]; simp only []; omega)
    have HFC := Lib.hid fun (k : Nat) => (show trimC h k = 2 * (plOf h (k : Int)).1 - (h.b - 1) from rfl)
    have PK := Lib.hid fun (w' : World) (hs : Below w.heap.size w w') => hp.keep hs
    rw [hok] at HPV
    obtain ⟨pa, pc, rfl⟩ := hp.form
    obtain ⟨n, hn⟩ : ∃ n, n = p.length := ⟨_, rfl⟩
    have hz0 : wsN (wBx l) (trimC h) p 0 = 0 := rfl
    rw [← hn] at HPV HE HBD HWB HFB hlen HW8 HPB PK ⊢
    generalize hgs : wsN (wBx l) (trimC h) p = s at HE HBD HNX hz0
    clear hok hb hp hn hgs
    go_enter Try.func31, Try.ntmps31
    go_wp2_with fail
    rw [← HW.out]
    go_wp2_with fail
    refine (HPV.out _ HB.out).mono ?_
    rintro e w2 ⟨rfl, b2⟩
    have D2 := Lib.hid b2
    clear b2 y0 y1 y2 HPV
    go_wp2_with fail
    go_loopw [8, 21] (fun sm i wr => ∃ k : Nat, k ≤ n ∧ sm = .int .i64 (s k) ∧ i = .int .i64 k ∧ Hid (Below W1.heap.size W1 wr)) (fun _ i _ => n - (intOf i).toNat)
    case atStart => exact ⟨0, by omega, by rw [hz0], rfl, D2⟩
    case round =>
      clear D2 hz0
      obtain ⟨k, hkn, rfl, rfl, DR⟩ := hrel
      have BR := Lib.hid (HB.out.trans (DR.out.mono HB.out.size))
      by_cases hlt : k < n
      · obtain ⟨b, off, rfl, hbl, s0⟩ := (PK.out wr BR.out).at_ hlt
        have ik : (k : Int) < (n : Int) := by omega
        have i0k : (0 : Int) ≤ (k : Int) := by omega
        have e1 : p.getD k 0 = pAt p k := rfl
        rw [e1] at s0
        clear e1
        have hnk := HNX.out k
        have hb1 := HBD.out (k + 1) (by omega)
        have hw1 := HWB.out k hlt
        have hf1 := HFB.out k hlt
        have hm1 := mulW_bd hw1 hf1
        have hpr : IntKind.i64.wrap (wBx l (pAt p k) * trimC h k) = wBx l (pAt p k) * trimC h k := IntWalk.i64_in _ (by omega)
        have hsum : IntKind.i64.wrap (s k + wBx l (pAt p k) * trimC h k) = s (k + 1) := by
          rw [hnk, IntWalk.i64_in _ (by omega)]
        have hx0 := HPB.out k hlt
        have hfc := HFC.out k
        have HPk := HPO.out k
        have HWk0 := Lib.hid fun (w' : World) (hs : Since wr w') => HW8.out k hlt w' (BR.out.trans (Below.mono hs BR.out.size))
        have y := HX.out wr DR.out
        have c0 := y.c0
        have c1 := y.c1
        have c2 := y.c2
        generalize plOf h (k : Int) = q at HPk hx0 hfc
        obtain ⟨x1, x2, x3⟩ := q
        have HP' : Hid (∀ w', Calls Try.prog 61 #[.agg #[.int .i64 h.b, .int .i64 h.r, .int .i64 h.t], .int .i64 k] w' fun e w'' => e = .returned (.tuple #[.int .i64 x1, .int .i64 x2, .int .i64 x3]) ∧ Below w'.heap.size w' w'') := Lib.hid HPk
        simp only [] at hx0 hfc
        have HFM := Lib.hid fun (w' : World) => (hfc ▸ fromMiddle_any _ h.b w' (by omega) (by omega) : Calls Try.prog 66 #[.int .i64 x1, .int .i64 h.b] w' fun e w'' => e = .returned (.int .i64 (trimC h k)) ∧ w' = w'')
        generalize wBx l (pAt p k) = bw at HWk0 hsum hpr
        generalize pAt p k = xp at HWk0 s0
        generalize trimC h k = c at HFM hsum hpr
        generalize s k = a at hsum
        clear hnk hb1 hw1 hf1 hm1 HPk hx0 hfc y
        go_wp2_with fail
        refine (HP'.out wr).mono ?_
        rintro e wr2 ⟨rfl, b4⟩
        have DR2 := Lib.hid (DR.out.trans (b4.mono DR.out.size))
        have HWk := Lib.hid fun (w' : World) (hs : Since wr2 w') => HWk0.out w' (show Since wr w' from Below.trans b4 (Below.mono hs b4.size))
        have y := HX.out wr2 DR2.out
        have HK := Lib.hid fun (w' : World) (hs : Since wr2 w') => (show w'.cell? ⟨w.heap.size, 0, none⟩ = some (.int .i64 h.b) ∧ w'.cell? ⟨w.heap.size, 1, none⟩ = some (.int .i64 h.r) ∧ w'.cell? ⟨w.heap.size, 2, none⟩ = some (.int .i64 h.t) ∧ Since wr2 w' from ⟨(y.keep hs).c0, (y.keep hs).c1, (y.keep hs).c2, hs⟩)
        have hstart := HK.out _ (show Since wr2 wr2.drew from (Below.refl _ _).drew)
        clear c0 c1 c2 y b4 s0 HP' HWk0
        go_wp2_with fail
        go_region_held3 (fun w' => w'.cell? ⟨w.heap.size, 0, none⟩ = some (.int .i64 h.b) ∧ w'.cell? ⟨w.heap.size, 1, none⟩ = some (.int .i64 h.r) ∧ w'.cell? ⟨w.heap.size, 2, none⟩ = some (.int .i64 h.t) ∧ Since wr2 w')
          (first | exact hstart | exact HK.out _ s5 | exact HK.out _ (by exact (‹_ ∧ _› : _ ∧ _ ∧ _ ∧ Since wr2 _).2.2.2) | fail)
          (first
            | (go_at_call 45; ((with_reducible refine (HWk.out _ (by exact (‹_ ∧ _› : _ ∧ _ ∧ _ ∧ Since wr2 _).2.2.2)).mono ?_); rintro e w5 ⟨rfl, d5⟩; have s5 : Since wr2 w5 := Since.call (by exact (‹_ ∧ _› : _ ∧ _ ∧ _ ∧ Since wr2 _).2.2.2) d5; clear d5))
            | (go_at_call 66; ((with_reducible refine (HFM.out _).mono ?_); rintro e w6 ⟨rfl, rfl⟩))
            | fail)
        rename_i hheld
        have hx9 := Lib.hid (DR2.out.trans (Below.mono hheld.2.2.2 DR2.out.size))
        clear hheld hstart
        go_wp2_with fail
        go_roundw
        case rel => exact ⟨k + 1, by omega, (by first | rfl | rw [hsum]), by go_num, hx9⟩
        case measure => simp [intOf]; omega
      · obtain rfl : k = n := by omega
        have C9 := BR.out
        go_wp2_with fail
        go_ret2
        exact ⟨by rw [HE.out]; rfl, C9⟩

end Go.Proofs.Ytmgnbkiphdlooab
