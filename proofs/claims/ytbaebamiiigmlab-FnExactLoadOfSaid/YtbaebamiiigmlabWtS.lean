/-
  The model's chapter 8: weights.
-/
import Derived.Test.YtbaebamiiigmlabGWm
import Derived.Test.YtbaebamiiigmlabGPl
import Derived.Test.YtbaebamiiigmlabGSl
import Derived.Deep.RegionHeld3
namespace Go.Proofs.Ytbaebamiiigmlab
open Go.RowKit
set_option linter.unusedVariables false

set_option maxRecDepth 10000 in
set_option maxHeartbeats 1000000 in
theorem specWeight_any (u v : Value) (l : List Bx) (p : List Int) (k : Nat) (w : World) (hb : HoldsBx w u l) (hp : HoldsI w v p) (hl : k < p.length) (hf : pAt p k ≠ 0 → 0 ≤ findB l (pAt p k)) :
    Calls Try.prog 59 #[u, v, .int .i64 k] w fun e w' => e = .returned (.int .i64 (wBx l (pAt p k))) ∧ w = w' := by
  obtain ⟨pa, pc, rfl⟩ := hp.form
  obtain ⟨b, off, rfl, hbl, s0⟩ := hp.at_ hl
  have ik : (k : Int) < (p.length : Int) := by omega
  have i0k : (0 : Int) ≤ (k : Int) := by omega
  have e1 : p.getD k 0 = pAt p k := rfl
  rw [e1] at s0
  clear e1
  by_cases hz : pAt p k = 0
  · have hr := Lib.hid (show wBx l (pAt p k) = 0 from by unfold wBx; rw [if_pos hz])
    rw [hr.out]
    rw [hz] at s0
    clear hz hr hf hb hp
    go_enter Try.func59, Try.ntmps59
    go_wp2_with fail
    go_ret
    exact ⟨rfl, rfl⟩
  · have hx0 := hf hz
    have hbd := (findB_bd l (pAt p k)).2
    have HF := Lib.hid (l2Find_any u l (pAt p k) w hb)
    obtain ⟨i, hi⟩ : ∃ i : Nat, findB l (pAt p k) = (i : Int) := ⟨(findB l (pAt p k)).toNat, by omega⟩
    have hil : i < l.length := by omega
    have hw : wBx l (pAt p k) = l[i].g := by
      unfold wBx wAt
      rw [if_neg hz, hi, Int.toNat_natCast, getD_bx hil]
    obtain ⟨bb, bo, bc, rfl, hc1⟩ : ∃ bb bo bc, u = .slice (some ⟨bb, bo, none⟩) l.length bc ∧ w.cell? ⟨bb, bo + i * 5 + 1, none⟩ = some (.int .i64 l[i].g) := by
      obtain ⟨a', c', e, q1, q2, q3⟩ := hb
      rcases q3 with q3 | ⟨b', off', q4, q5, q6⟩
      · omega
      · exact ⟨b', off', c', by rw [e, q4], q6 i hil 1 (by omega)⟩
    rw [hw]
    rw [hi] at HF
    obtain ⟨x, hxx⟩ : ∃ x, x = pAt p k := ⟨_, rfl⟩
    have hdz : (x == 0) = false := by rw [hxx]; simpa using hz
    rw [← hxx] at s0 HF
    generalize l[i].g = g at hc1 ⊢
    have ii : (i : Int) < (l.length : Int) := by omega
    have i0i : (0 : Int) ≤ (i : Int) := by omega
    obtain ⟨n, hn⟩ : ∃ n, n = p.length := ⟨_, rfl⟩
    obtain ⟨m, hm⟩ : ∃ m, m = l.length := ⟨_, rfl⟩
    rw [← hn] at ik ⊢
    rw [← hm] at ii HF ⊢
    clear hz hf hb hp hx0 hbd hi hil hw hxx hn hm hl
    go_enter Try.func59, Try.ntmps59
    go_wp2_with fail
    refine HF.out.mono ?_
    rintro e w' ⟨rfl, rfl⟩
    go_wp2_with fail
    go_ret
    exact ⟨rfl, rfl⟩

set_option maxRecDepth 10000 in
set_option maxHeartbeats 1000000 in
theorem specHeel_any (h : Hl) (k : Nat) (w : World) (hk : hlOk h = true) (hl : (k : Int) < slMany h) :
    Calls Try.prog 67 #[.agg #[.int .i64 h.b, .int .i64 h.r, .int .i64 h.t], .int .i64 k] w fun e w' => e = .returned (.int .i64 (heelC h k)) ∧ Below w.heap.size w w' := by
  have hb1 := (Below.refl w.heap.size w).alloc (Nat.le_refl _) (.cells #[.int .i64 h.b, .int .i64 h.r, .int .i64 h.t] 24)
  have hx1 := BoxH.new w h
  obtain ⟨W1, hW1⟩ : ∃ W1, W1 = w.alloc (.cells #[.int .i64 h.b, .int .i64 h.r, .int .i64 h.t] 24) := ⟨_, rfl⟩
  rw [← hW1] at hb1 hx1
  have HW := Lib.hid hW1
  have HB := Lib.hid hb1
  have y0 := hx1.c0
  have y1 := hx1.c1
  have y2 := hx1.c2
  have HX := Lib.hid fun (w' : World) (hs : Below W1.heap.size W1 w') => hx1.keep hs
  clear hW1 hb1 hx1
  have HP := Lib.hid (specPlaceOf_any h k W1)
  obtain ⟨g1, g2, g3, g4, g5, g6⟩ := hlOk_iff.1 hk
  obtain ⟨p1, p2, p3, p4⟩ := plOf_in (s := (k : Int)) hk (by omega) (by omega)
  have e := plOf_yes (s := (k : Int)) hk (by omega) (by omega)
  have hx : 0 ≤ (plOf h (k : Int)).2.1 ∧ (plOf h (k : Int)).2.1 ≤ 4 := by rw [e]; simp only []; omega
  unfold heelC
  generalize plOf h (k : Int) = q at HP hx ⊢
  obtain ⟨x, y, z⟩ := q
  have HP' : Hid (Calls Try.prog 104 #[.agg #[.int .i64 h.b, .int .i64 h.r, .int .i64 h.t], .int .i64 k] W1 fun e w' => e = .returned (.tuple #[.int .i64 x, .int .i64 y, .int .i64 z]) ∧ Below W1.heap.size W1 w') := HP
  simp only [] at hx ⊢
  clear HP e p1 p2 p3 p4 hk hl
  have z1 : IntKind.i64.wrap (2 * y) = 2 * y := IntWalk.i64_in _ (by omega)
  have z2 : IntKind.i64.wrap (h.r - 1) = h.r - 1 := IntWalk.i64_in _ (by omega)
  have z3 : IntKind.i64.wrap (2 * y - (h.r - 1)) = 2 * y - (h.r - 1) := IntWalk.i64_in _ (by omega)
  go_enter Try.func67, Try.ntmps67
  go_wp2_with fail
  rw [← HW.out]
  go_wp2_with fail
  refine HP'.out.mono ?_
  rintro e w2 ⟨rfl, b2⟩
  have C2 := HB.out.trans (b2.mono HB.out.size)
  have x2 := HX.out w2 b2
  have c0 := x2.c0
  have c1 := x2.c1
  have c2 := x2.c2
  clear x2 y0 y1 y2
  go_wp2_with fail
  go_ret
  exact ⟨rfl, C2⟩

set_option maxRecDepth 10000 in
set_option maxHeartbeats 1000000 in
theorem specTrim_any (h : Hl) (k : Nat) (w : World) (hk : hlOk h = true) (hl : (k : Int) < slMany h) :
    Calls Try.prog 69 #[.agg #[.int .i64 h.b, .int .i64 h.r, .int .i64 h.t], .int .i64 k] w fun e w' => e = .returned (.int .i64 (trimC h k)) ∧ Below w.heap.size w w' := by
  have hb1 := (Below.refl w.heap.size w).alloc (Nat.le_refl _) (.cells #[.int .i64 h.b, .int .i64 h.r, .int .i64 h.t] 24)
  have hx1 := BoxH.new w h
  obtain ⟨W1, hW1⟩ : ∃ W1, W1 = w.alloc (.cells #[.int .i64 h.b, .int .i64 h.r, .int .i64 h.t] 24) := ⟨_, rfl⟩
  rw [← hW1] at hb1 hx1
  have HW := Lib.hid hW1
  have HB := Lib.hid hb1
  have y0 := hx1.c0
  have y1 := hx1.c1
  have y2 := hx1.c2
  have HX := Lib.hid fun (w' : World) (hs : Below W1.heap.size W1 w') => hx1.keep hs
  clear hW1 hb1 hx1
  have HP := Lib.hid (specPlaceOf_any h k W1)
  obtain ⟨g1, g2, g3, g4, g5, g6⟩ := hlOk_iff.1 hk
  obtain ⟨p1, p2, p3, p4⟩ := plOf_in (s := (k : Int)) hk (by omega) (by omega)
  have e := plOf_yes (s := (k : Int)) hk (by omega) (by omega)
  have hx : 0 ≤ (plOf h (k : Int)).1 ∧ (plOf h (k : Int)).1 ≤ 4 := by rw [e]; simp only []; omega
  unfold trimC
  generalize plOf h (k : Int) = q at HP hx ⊢
  obtain ⟨x, y, z⟩ := q
  have HP' : Hid (Calls Try.prog 104 #[.agg #[.int .i64 h.b, .int .i64 h.r, .int .i64 h.t], .int .i64 k] W1 fun e w' => e = .returned (.tuple #[.int .i64 x, .int .i64 y, .int .i64 z]) ∧ Below W1.heap.size W1 w') := HP
  simp only [] at hx ⊢
  clear HP e p1 p2 p3 p4 hk hl
  have z1 : IntKind.i64.wrap (2 * x) = 2 * x := IntWalk.i64_in _ (by omega)
  have z2 : IntKind.i64.wrap (h.b - 1) = h.b - 1 := IntWalk.i64_in _ (by omega)
  have z3 : IntKind.i64.wrap (2 * x - (h.b - 1)) = 2 * x - (h.b - 1) := IntWalk.i64_in _ (by omega)
  go_enter Try.func69, Try.ntmps69
  go_wp2_with fail
  rw [← HW.out]
  go_wp2_with fail
  refine HP'.out.mono ?_
  rintro e w2 ⟨rfl, b2⟩
  have C2 := HB.out.trans (b2.mono HB.out.size)
  have x2 := HX.out w2 b2
  have c0 := x2.c0
  have c1 := x2.c1
  have c2 := x2.c2
  clear x2 y0 y1 y2
  go_wp2_with fail
  go_ret
  exact ⟨rfl, C2⟩

set_option maxRecDepth 10000 in
set_option maxHeartbeats 4000000 in
theorem specLoadOf_any (h : Hl) (u v : Value) (l : List Bx) (p : List Int) (w : World) (hb : HoldsBx w u l) (hp : HoldsI w v p) :
    Calls Try.prog 18 #[.agg #[.int .i64 h.b, .int .i64 h.r, .int .i64 h.t], u, v] w fun e w' => e = .returned (.int .i64 (loadW h l p)) ∧ Below w.heap.size w w' := by
  have hb1 := (Below.refl w.heap.size w).alloc (Nat.le_refl _) (.cells #[.int .i64 h.b, .int .i64 h.r, .int .i64 h.t] 24)
  have hx1 := BoxH.new w h
  obtain ⟨W1, hW1⟩ : ∃ W1, W1 = w.alloc (.cells #[.int .i64 h.b, .int .i64 h.r, .int .i64 h.t] 24) := ⟨_, rfl⟩
  rw [← hW1] at hb1 hx1
  have HW := Lib.hid hW1
  have HB := Lib.hid hb1
  have y0 := hx1.c0
  have y1 := hx1.c1
  have y2 := hx1.c2
  have HX := Lib.hid fun (w' : World) (hs : Below W1.heap.size W1 w') => hx1.keep hs
  clear hW1 hb1 hx1
  have HPV := Lib.hid fun (w' : World) (hs : Below w.heap.size w w') => specPlanValid_any h u v l p w' (hb.keep hs) (hp.keep hs)
  cases hok : plOk h (bxsOk l) (bxIds l) p
  · have HE := Lib.hid (show loadW h l p = -1 from by unfold loadW; rw [hok]; rfl)
    rw [hok] at HPV
    clear hok hb hp
    go_enter Try.func18, Try.ntmps18
    go_wp2_with fail
    rw [← HW.out]
    go_wp2_with fail
    refine (HPV.out _ HB.out).mono ?_
    rintro e w2 ⟨rfl, b2⟩
    go_wp2_with fail
    go_ret
    exact ⟨by rw [HE.out]; rfl, HB.out.trans (b2.mono HB.out.size)⟩
  · have HE := Lib.hid (show loadW h l p = wsN (wBx l) (fun _ => 1) p p.length from by unfold loadW; rw [if_pos hok]; rfl)
    have HBD := Lib.hid (wsN_bd hok (f := (fun _ => 1)) (c := 1) (fun k _ => by simp))
    have HWB := Lib.hid fun k (hl : k < p.length) => wBx_bd hok hl
    have HFB := Lib.hid fun k (hl : k < p.length) => (show -1 ≤ (fun _ => 1) k ∧ (fun _ => 1) k ≤ 1 from ( by simp))
    have HNX := Lib.hid fun k => wsN_next (wBx l) (fun _ => 1) p k
    have hlen := pl_len hok
    have HW8 := Lib.hid fun k (hl : k < p.length) (w' : World) (hs : Below w.heap.size w w') => specWeight_any u v l p k w' (hb.keep hs) (hp.keep hs) hl (fun hz => pl_find hok hl hz)
    rw [hok] at HPV
    obtain ⟨pa, pc, rfl⟩ := hp.form
    obtain ⟨n, hn⟩ : ∃ n, n = p.length := ⟨_, rfl⟩
    have hz0 : wsN (wBx l) (fun _ => 1) p 0 = 0 := rfl
    rw [← hn] at HPV HE HBD HWB HFB hlen HW8 ⊢
    generalize hgs : wsN (wBx l) (fun _ => 1) p = s at HE HBD HNX hz0
    clear hok hb hp hn hgs
    go_enter Try.func18, Try.ntmps18
    go_wp2_with fail
    rw [← HW.out]
    go_wp2_with fail
    refine (HPV.out _ HB.out).mono ?_
    rintro e w2 ⟨rfl, b2⟩
    have D2 := Lib.hid b2
    clear b2 y0 y1 y2 HPV
    go_wp2_with fail
    go_loopw [7, 8] (fun sm i wr => ∃ k : Nat, k ≤ n ∧ sm = .int .i64 (s k) ∧ i = .int .i64 k ∧ Hid (Below W1.heap.size W1 wr)) (fun _ i _ => n - (intOf i).toNat)
    case atStart => exact ⟨0, by omega, by rw [hz0], rfl, D2⟩
    case round =>
      clear D2 hz0
      obtain ⟨k, hkn, rfl, rfl, DR⟩ := hrel
      have BR := Lib.hid (HB.out.trans (DR.out.mono HB.out.size))
      by_cases hlt : k < n
      · have ik : (k : Int) < (n : Int) := by omega
        have hnk := HNX.out k
        have hb1 := HBD.out (k + 1) (by omega)
        have hw1 := HWB.out k hlt
        have hf1 := HFB.out k hlt
        have hsum : IntKind.i64.wrap (s k + wBx l (pAt p k)) = s (k + 1) := by
          rw [Int.mul_one] at hnk
          rw [hnk, IntWalk.i64_in _ (by omega)]
        have HWk := Lib.hid (HW8.out k hlt wr BR.out)
        generalize wBx l (pAt p k) = b at HWk hsum
        generalize s k = a at hsum
        clear hnk hb1 hw1 hf1
        go_wp2_with fail
        refine HWk.out.mono ?_
        rintro e w' ⟨rfl, rfl⟩
        go_wp2_with fail
        go_roundw
        case rel => exact ⟨k + 1, by omega, (by first | rfl | rw [hsum]), by go_num, DR⟩
        case measure => simp [intOf]; omega
      · obtain rfl : k = n := by omega
        have C9 := BR.out
        go_wp2_with fail
        go_ret
        exact ⟨by rw [HE.out]; rfl, C9⟩

set_option maxRecDepth 10000 in
set_option maxHeartbeats 4000000 in
theorem specHeelOf_any (h : Hl) (u v : Value) (l : List Bx) (p : List Int) (w : World) (hb : HoldsBx w u l) (hp : HoldsI w v p) :
    Calls Try.prog 25 #[.agg #[.int .i64 h.b, .int .i64 h.r, .int .i64 h.t], u, v] w fun e w' => e = .returned (.tuple #[.int .i64 (heelW h l p).1, .bool (heelW h l p).2]) ∧ Below w.heap.size w w' := by
  have hb1 := (Below.refl w.heap.size w).alloc (Nat.le_refl _) (.cells #[.int .i64 h.b, .int .i64 h.r, .int .i64 h.t] 24)
  have hx1 := BoxH.new w h
  obtain ⟨W1, hW1⟩ : ∃ W1, W1 = w.alloc (.cells #[.int .i64 h.b, .int .i64 h.r, .int .i64 h.t] 24) := ⟨_, rfl⟩
  rw [← hW1] at hb1 hx1
  have HW := Lib.hid hW1
  have HB := Lib.hid hb1
  have y0 := hx1.c0
  have y1 := hx1.c1
  have y2 := hx1.c2
  have HX := Lib.hid fun (w' : World) (hs : Below W1.heap.size W1 w') => hx1.keep hs
  clear hW1 hb1 hx1
  have HPV := Lib.hid fun (w' : World) (hs : Below w.heap.size w w') => specPlanValid_any h u v l p w' (hb.keep hs) (hp.keep hs)
  cases hok : plOk h (bxsOk l) (bxIds l) p
  · have HE := Lib.hid (show heelW h l p = (0, false) from by unfold heelW; rw [hok]; rfl)
    rw [hok] at HPV
    clear hok hb hp
    go_enter Try.func25, Try.ntmps25
    go_wp2_with fail
    rw [← HW.out]
    go_wp2_with fail
    refine (HPV.out _ HB.out).mono ?_
    rintro e w2 ⟨rfl, b2⟩
    go_wp2_with fail
    go_ret2
    exact ⟨by rw [HE.out]; rfl, HB.out.trans (b2.mono HB.out.size)⟩
  · have HE := Lib.hid (show heelW h l p = (wsN (wBx l) (heelC h) p p.length, true) from by unfold heelW; rw [if_pos hok]; rfl)
    have HBD := Lib.hid (wsN_bd hok (f := (heelC h)) (c := 2) (fun k hl => heelC_bd (plOk_iff.1 hok).1 (plOk_iff.1 hok).2.2.1 hl))
    have HWB := Lib.hid fun k (hl : k < p.length) => wBx_bd hok hl
    have HFB := Lib.hid fun k (hl : k < p.length) => (show -2 ≤ (heelC h) k ∧ (heelC h) k ≤ 2 from ( heelC_bd (plOk_iff.1 hok).1 (plOk_iff.1 hok).2.2.1 hl))
    have HNX := Lib.hid fun k => wsN_next (wBx l) (heelC h) p k
    have hlen := pl_len hok
    have HW8 := Lib.hid fun k (hl : k < p.length) (w' : World) (hs : Below w.heap.size w w') => specWeight_any u v l p k w' (hb.keep hs) (hp.keep hs) hl (fun hz => pl_find hok hl hz)
    have HH8 := Lib.hid fun k (hl : k < p.length) (w' : World) => specHeel_any h k w' (plOk_iff.1 hok).1 (by have := (plOk_iff.1 hok).2.2.1; omega)
    rw [hok] at HPV
    obtain ⟨pa, pc, rfl⟩ := hp.form
    obtain ⟨n, hn⟩ : ∃ n, n = p.length := ⟨_, rfl⟩
    have hz0 : wsN (wBx l) (heelC h) p 0 = 0 := rfl
    rw [← hn] at HPV HE HBD HWB HFB hlen HW8 HH8 ⊢
    generalize hgs : wsN (wBx l) (heelC h) p = s at HE HBD HNX hz0
    clear hok hb hp hn hgs
    go_enter Try.func25, Try.ntmps25
    go_wp2_with fail
    rw [← HW.out]
    go_wp2_with fail
    refine (HPV.out _ HB.out).mono ?_
    rintro e w2 ⟨rfl, b2⟩
    have D2 := Lib.hid b2
    clear b2 y0 y1 y2 HPV
    go_wp2_with fail
    go_loopw [8, 9] (fun sm i wr => ∃ k : Nat, k ≤ n ∧ sm = .int .i64 (s k) ∧ i = .int .i64 k ∧ Hid (Below W1.heap.size W1 wr)) (fun _ i _ => n - (intOf i).toNat)
    case atStart => exact ⟨0, by omega, by rw [hz0], rfl, D2⟩
    case round =>
      clear D2 hz0
      obtain ⟨k, hkn, rfl, rfl, DR⟩ := hrel
      have BR := Lib.hid (HB.out.trans (DR.out.mono HB.out.size))
      by_cases hlt : k < n
      · have ik : (k : Int) < (n : Int) := by omega
        have hnk := HNX.out k
        have hb1 := HBD.out (k + 1) (by omega)
        have hw1 := HWB.out k hlt
        have hf1 := HFB.out k hlt
        have hm1 := mulW_bd hw1 hf1
        have hpr : IntKind.i64.wrap (wBx l (pAt p k) * heelC h k) = wBx l (pAt p k) * heelC h k := IntWalk.i64_in _ (by omega)
        have hsum : IntKind.i64.wrap (s k + wBx l (pAt p k) * heelC h k) = s (k + 1) := by
          rw [hnk, IntWalk.i64_in _ (by omega)]
        have HWk := Lib.hid fun (w' : World) (hs : Since wr w') => HW8.out k hlt w' (BR.out.trans (Below.mono hs BR.out.size))
        have HHk := Lib.hid (HH8.out k hlt)
        have y := HX.out wr DR.out
        have HK := Lib.hid fun (w' : World) (hs : Since wr w') => (show w'.cell? ⟨w.heap.size, 0, none⟩ = some (.int .i64 h.b) ∧ w'.cell? ⟨w.heap.size, 1, none⟩ = some (.int .i64 h.r) ∧ w'.cell? ⟨w.heap.size, 2, none⟩ = some (.int .i64 h.t) ∧ Since wr w' from ⟨(y.keep hs).c0, (y.keep hs).c1, (y.keep hs).c2, hs⟩)
        have hstart := HK.out _ (show Since wr wr.drew from (Below.refl _ _).drew)
        generalize wBx l (pAt p k) = b at HWk hsum hpr
        generalize heelC h k = c at HHk hsum hpr
        generalize s k = a at hsum
        clear hnk hb1 hw1 hf1 hm1 y
        go_wp2_with fail
        go_region_held3 (fun w' => w'.cell? ⟨w.heap.size, 0, none⟩ = some (.int .i64 h.b) ∧ w'.cell? ⟨w.heap.size, 1, none⟩ = some (.int .i64 h.r) ∧ w'.cell? ⟨w.heap.size, 2, none⟩ = some (.int .i64 h.t) ∧ Since wr w')
          (first | exact hstart | exact HK.out _ s5 | exact HK.out _ (by exact (‹_ ∧ _› : _ ∧ _ ∧ _ ∧ Since wr _).2.2.2) | fail)
          (first
            | (go_at_call 59; ((with_reducible refine (HWk.out _ (by exact (‹_ ∧ _› : _ ∧ _ ∧ _ ∧ Since wr _).2.2.2)).mono ?_); rintro e w4 ⟨rfl, rfl⟩))
            | (go_at_call 67; ((with_reducible refine (HHk.out _).mono ?_); rintro e w5 ⟨rfl, d5⟩; have s5 : Since wr w5 := Since.call (by exact (‹_ ∧ _› : _ ∧ _ ∧ _ ∧ Since wr _).2.2.2) d5; clear d5))
            | fail)
        rename_i hheld
        have hx9 := Lib.hid (DR.out.trans (Below.mono hheld.2.2.2 DR.out.size))
        clear hheld hstart
        go_wp2_with fail
        go_roundw
        case rel => exact ⟨k + 1, by omega, (by first | rfl | rw [hsum]), by go_num, hx9⟩
        case measure => simp [intOf]; omega
      · obtain rfl : k = n := by omega
        have C9 := BR.out
        go_wp2_with fail
        go_ret2
        exact ⟨by rw [HE.out]; rfl, C9⟩

set_option maxRecDepth 10000 in
set_option maxHeartbeats 4000000 in
theorem specTrimOf_any (h : Hl) (u v : Value) (l : List Bx) (p : List Int) (w : World) (hb : HoldsBx w u l) (hp : HoldsI w v p) :
    Calls Try.prog 29 #[.agg #[.int .i64 h.b, .int .i64 h.r, .int .i64 h.t], u, v] w fun e w' => e = .returned (.tuple #[.int .i64 (trimW h l p).1, .bool (trimW h l p).2]) ∧ Below w.heap.size w w' := by
  have hb1 := (Below.refl w.heap.size w).alloc (Nat.le_refl _) (.cells #[.int .i64 h.b, .int .i64 h.r, .int .i64 h.t] 24)
  have hx1 := BoxH.new w h
  obtain ⟨W1, hW1⟩ : ∃ W1, W1 = w.alloc (.cells #[.int .i64 h.b, .int .i64 h.r, .int .i64 h.t] 24) := ⟨_, rfl⟩
  rw [← hW1] at hb1 hx1
  have HW := Lib.hid hW1
  have HB := Lib.hid hb1
  have y0 := hx1.c0
  have y1 := hx1.c1
  have y2 := hx1.c2
  have HX := Lib.hid fun (w' : World) (hs : Below W1.heap.size W1 w') => hx1.keep hs
  clear hW1 hb1 hx1
  have HPV := Lib.hid fun (w' : World) (hs : Below w.heap.size w w') => specPlanValid_any h u v l p w' (hb.keep hs) (hp.keep hs)
  cases hok : plOk h (bxsOk l) (bxIds l) p
  · have HE := Lib.hid (show trimW h l p = (0, false) from by unfold trimW; rw [hok]; rfl)
    rw [hok] at HPV
    clear hok hb hp
    go_enter Try.func29, Try.ntmps29
    go_wp2_with fail
    rw [← HW.out]
    go_wp2_with fail
    refine (HPV.out _ HB.out).mono ?_
    rintro e w2 ⟨rfl, b2⟩
    go_wp2_with fail
    go_ret2
    exact ⟨by rw [HE.out]; rfl, HB.out.trans (b2.mono HB.out.size)⟩
  · have HE := Lib.hid (show trimW h l p = (wsN (wBx l) (trimC h) p p.length, true) from by unfold trimW; rw [if_pos hok]; rfl)
    have HBD := Lib.hid (wsN_bd hok (f := (trimC h)) (c := 3) (fun k hl => trimC_bd3 (plOk_iff.1 hok).1 (plOk_iff.1 hok).2.2.1 hl))
    have HWB := Lib.hid fun k (hl : k < p.length) => wBx_bd hok hl
    have HFB := Lib.hid fun k (hl : k < p.length) => (show -3 ≤ (trimC h) k ∧ (trimC h) k ≤ 3 from ( trimC_bd3 (plOk_iff.1 hok).1 (plOk_iff.1 hok).2.2.1 hl))
    have HNX := Lib.hid fun k => wsN_next (wBx l) (trimC h) p k
    have hlen := pl_len hok
    have HW8 := Lib.hid fun k (hl : k < p.length) (w' : World) (hs : Below w.heap.size w w') => specWeight_any u v l p k w' (hb.keep hs) (hp.keep hs) hl (fun hz => pl_find hok hl hz)
    have HH8 := Lib.hid fun k (hl : k < p.length) (w' : World) => specTrim_any h k w' (plOk_iff.1 hok).1 (by have := (plOk_iff.1 hok).2.2.1; omega)
    rw [hok] at HPV
    obtain ⟨pa, pc, rfl⟩ := hp.form
    obtain ⟨n, hn⟩ : ∃ n, n = p.length := ⟨_, rfl⟩
    have hz0 : wsN (wBx l) (trimC h) p 0 = 0 := rfl
    rw [← hn] at HPV HE HBD HWB HFB hlen HW8 HH8 ⊢
    generalize hgs : wsN (wBx l) (trimC h) p = s at HE HBD HNX hz0
    clear hok hb hp hn hgs
    go_enter Try.func29, Try.ntmps29
    go_wp2_with fail
    rw [← HW.out]
    go_wp2_with fail
    refine (HPV.out _ HB.out).mono ?_
    rintro e w2 ⟨rfl, b2⟩
    have D2 := Lib.hid b2
    clear b2 y0 y1 y2 HPV
    go_wp2_with fail
    go_loopw [8, 9] (fun sm i wr => ∃ k : Nat, k ≤ n ∧ sm = .int .i64 (s k) ∧ i = .int .i64 k ∧ Hid (Below W1.heap.size W1 wr)) (fun _ i _ => n - (intOf i).toNat)
    case atStart => exact ⟨0, by omega, by rw [hz0], rfl, D2⟩
    case round =>
      clear D2 hz0
      obtain ⟨k, hkn, rfl, rfl, DR⟩ := hrel
      have BR := Lib.hid (HB.out.trans (DR.out.mono HB.out.size))
      by_cases hlt : k < n
      · have ik : (k : Int) < (n : Int) := by omega
        have hnk := HNX.out k
        have hb1 := HBD.out (k + 1) (by omega)
        have hw1 := HWB.out k hlt
        have hf1 := HFB.out k hlt
        have hm1 := mulW_bd hw1 hf1
        have hpr : IntKind.i64.wrap (wBx l (pAt p k) * trimC h k) = wBx l (pAt p k) * trimC h k := IntWalk.i64_in _ (by omega)
        have hsum : IntKind.i64.wrap (s k + wBx l (pAt p k) * trimC h k) = s (k + 1) := by
          rw [hnk, IntWalk.i64_in _ (by omega)]
        have HWk := Lib.hid fun (w' : World) (hs : Since wr w') => HW8.out k hlt w' (BR.out.trans (Below.mono hs BR.out.size))
        have HHk := Lib.hid (HH8.out k hlt)
        have y := HX.out wr DR.out
        have HK := Lib.hid fun (w' : World) (hs : Since wr w') => (show w'.cell? ⟨w.heap.size, 0, none⟩ = some (.int .i64 h.b) ∧ w'.cell? ⟨w.heap.size, 1, none⟩ = some (.int .i64 h.r) ∧ w'.cell? ⟨w.heap.size, 2, none⟩ = some (.int .i64 h.t) ∧ Since wr w' from ⟨(y.keep hs).c0, (y.keep hs).c1, (y.keep hs).c2, hs⟩)
        have hstart := HK.out _ (show Since wr wr.drew from (Below.refl _ _).drew)
        generalize wBx l (pAt p k) = b at HWk hsum hpr
        generalize trimC h k = c at HHk hsum hpr
        generalize s k = a at hsum
        clear hnk hb1 hw1 hf1 hm1 y
        go_wp2_with fail
        go_region_held3 (fun w' => w'.cell? ⟨w.heap.size, 0, none⟩ = some (.int .i64 h.b) ∧ w'.cell? ⟨w.heap.size, 1, none⟩ = some (.int .i64 h.r) ∧ w'.cell? ⟨w.heap.size, 2, none⟩ = some (.int .i64 h.t) ∧ Since wr w')
          (first | exact hstart | exact HK.out _ s5 | exact HK.out _ (by exact (‹_ ∧ _› : _ ∧ _ ∧ _ ∧ Since wr _).2.2.2) | fail)
          (first
            | (go_at_call 59; ((with_reducible refine (HWk.out _ (by exact (‹_ ∧ _› : _ ∧ _ ∧ _ ∧ Since wr _).2.2.2)).mono ?_); rintro e w4 ⟨rfl, rfl⟩))
            | (go_at_call 69; ((with_reducible refine (HHk.out _).mono ?_); rintro e w5 ⟨rfl, d5⟩; have s5 : Since wr w5 := Since.call (by exact (‹_ ∧ _› : _ ∧ _ ∧ _ ∧ Since wr _).2.2.2) d5; clear d5))
            | fail)
        rename_i hheld
        have hx9 := Lib.hid (DR.out.trans (Below.mono hheld.2.2.2 DR.out.size))
        clear hheld hstart
        go_wp2_with fail
        go_roundw
        case rel => exact ⟨k + 1, by omega, (by first | rfl | rw [hsum]), by go_num, hx9⟩
        case measure => simp [intOf]; omega
      · obtain rfl : k = n := by omega
        have C9 := BR.out
        go_wp2_with fail
        go_ret2
        exact ⟨by rw [HE.out]; rfl, C9⟩

set_option maxRecDepth 10000 in
set_option maxHeartbeats 4000000 in
theorem specSteady_any (h : Hl) (u v : Value) (l : List Bx) (p : List Int) (a b : Int) (w : World) (hb : HoldsBx w u l) (hp : HoldsI w v p) :
    Calls Try.prog 33 #[.agg #[.int .i64 h.b, .int .i64 h.r, .int .i64 h.t], u, v, .int .i64 a, .int .i64 b] w fun e w' => e = .returned (.bool (steadyW h l p a b)) ∧ Below w.heap.size w w' := by
  have hb1 := (Below.refl w.heap.size w).alloc (Nat.le_refl _) (.cells #[.int .i64 h.b, .int .i64 h.r, .int .i64 h.t] 24)
  have hx1 := BoxH.new w h
  obtain ⟨W1, hW1⟩ : ∃ W1, W1 = w.alloc (.cells #[.int .i64 h.b, .int .i64 h.r, .int .i64 h.t] 24) := ⟨_, rfl⟩
  rw [← hW1] at hb1 hx1
  have HW := Lib.hid hW1
  have HB := Lib.hid hb1
  have y0 := hx1.c0
  have y1 := hx1.c1
  have y2 := hx1.c2
  have HX := Lib.hid fun (w' : World) (hs : Below W1.heap.size W1 w') => hx1.keep hs
  clear hW1 hb1 hx1
  have HH := Lib.hid fun (w' : World) (hs : Below w.heap.size w w') => specHeelOf_any h u v l p w' (hb.keep hs) (hp.keep hs)
  have HM := Lib.hid fun (w' : World) (hs : Below w.heap.size w w') => specTrimOf_any h u v l p w' (hb.keep hs) (hp.keep hs)
  have hx := heelW_bd (h := h) (l := l) (p := p)
  have hy := trimW_bd (h := h) (l := l) (p := p)
  rw [heelW_ok] at HH
  rw [trimW_ok] at HM
  unfold steadyW
  generalize (heelW h l p).1 = x at HH hx ⊢
  generalize (trimW h l p).1 = y at HM hy ⊢
  have zx : IntKind.i64.wrap (-x) = -x := IntWalk.i64_in _ (by omega)
  have zy : IntKind.i64.wrap (-y) = -y := IntWalk.i64_in _ (by omega)
  generalize plOk h (bxsOk l) (bxIds l) p = ok at HH HM ⊢
  have hcase : (ok = false ∧ decide (ok = true ∧ max x (-x) ≤ a ∧ max y (-y) ≤ b) = false) ∨ (ok = true ∧ decide (max x (-x) ≤ a) = false ∧ decide (ok = true ∧ max x (-x) ≤ a ∧ max y (-y) ≤ b) = false) ∨ (ok = true ∧ decide (max x (-x) ≤ a) = true ∧ decide (ok = true ∧ max x (-x) ≤ a ∧ max y (-y) ≤ b) = decide (max y (-y) ≤ b)) := by
    cases ok
    · exact .inl ⟨rfl, decide_eq_false (by simp)⟩
    · by_cases h1 : max x (-x) ≤ a
      · refine .inr (.inr ⟨rfl, decide_eq_true h1, ?_⟩)
        exact decide_eq_decide.2 ⟨fun hc => hc.2.2, fun hc => ⟨rfl, h1, hc⟩⟩
      · exact .inr (.inl ⟨rfl, decide_eq_false h1, decide_eq_false fun hc => h1 hc.2.1⟩)
  obtain ⟨res, hres⟩ : ∃ res, res = decide (ok = true ∧ max x (-x) ≤ a ∧ max y (-y) ≤ b) := ⟨_, rfl⟩
  rw [← hres] at hcase ⊢
  obtain ⟨mx, hmx0⟩ : ∃ m, m = max x (-x) := ⟨_, rfl⟩
  obtain ⟨my, hmy0⟩ : ∃ m, m = max y (-y) := ⟨_, rfl⟩
  rw [← hmx0, ← hmy0] at hcase
  have hmx : (x < -x ∧ mx = -x) ∨ (-x ≤ x ∧ mx = x) := by omega
  have hmy : (y < -y ∧ my = -y) ∨ (-y ≤ y ∧ my = y) := by omega
  clear hmx0 hmy0
  clear hres hx hy hb hp
  have go : Calls Try.prog 33 #[.agg #[.int .i64 h.b, .int .i64 h.r, .int .i64 h.t], u, v, .int .i64 a, .int .i64 b] w fun e w' => e = .returned (.bool res) ∧ Below w.heap.size w w' := by
    rcases hmx with ⟨sx, rfl⟩ | ⟨sx, rfl⟩ <;> rcases hmy with ⟨sy, rfl⟩ | ⟨sy, rfl⟩ <;> rcases hcase with ⟨rfl, rfl⟩ | ⟨rfl, hd, rfl⟩ | ⟨rfl, hd, rfl⟩
    all_goals
      go_enter Try.func33, Try.ntmps33
      go_wp2_with fail
      rw [← HW.out]
      go_wp2_with fail
      refine (HH.out _ HB.out).mono ?_
      rintro e w2 ⟨rfl, b2⟩
      have C2 := HB.out.trans (b2.mono HB.out.size)
      have x2 := HX.out w2 b2
      have c0 := x2.c0
      have c1 := x2.c1
      have c2 := x2.c2
      clear x2 y0 y1 y2
      go_wp2_with fail
      refine (HM.out _ C2).mono ?_
      rintro e w3 ⟨rfl, b3⟩
      have C3 := C2.trans (b3.mono C2.size)
      clear c0 c1 c2
      go_wp2_with fail
      go_ret
      exact ⟨rfl, C3⟩
  exact go
end Go.Proofs.Ytbaebamiiigmlab
