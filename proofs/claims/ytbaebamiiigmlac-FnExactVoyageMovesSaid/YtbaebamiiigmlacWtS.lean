/-
  The model's chapter 8: weights.
-/
import Derived.Test.YtbaebamiiigmlacGWm
import Derived.Test.YtbaebamiiigmlacGPl
import Derived.Test.YtbaebamiiigmlacGSl
import Derived.Deep.RegionHeld3
namespace Go.Proofs.Ytbaebamiiigmlac
open Go.RowKit
set_option linter.unusedVariables false

set_option maxRecDepth 10000 in
set_option maxHeartbeats 1000000 in
theorem specWeight_any (u v : Value) (l : List Bx) (p : List Int) (k : Nat) (w : World) (hb : HoldsBx w u l) (hp : HoldsI w v p) (hl : k < p.length) (hf : pAt p k ≠ 0 → 0 ≤ findB l (pAt p k)) :
    Calls Try.prog 55 #[u, v, .int .i64 k] w fun e w' => e = .returned (.int .i64 (wBx l (pAt p k))) ∧ w = w' := by
  obtain ⟨pa, pc, rfl⟩ := hp.form
  obtain ⟨b, off, rfl, hbl, s0⟩ := hp.at_ hl
  have ik : (k : Int) < (p.length : Int) := by omega
  have i0k : (0 : Int) ≤ (k : Int) := by omega
  have e1 : p.getD k 0 = pAt p k := rfl
  rw [e1] at s0
  clear e1
  by_cases hz : pAt p k = 0
  · have hr := Lib.hid (show wBx l (pAt p k) = 0 from by unfold wBx; rw [if_pos hz])
    rw [hr.out]
    rw [hz] at s0
    clear hz hr hf hb hp
    go_enter Try.func55, Try.ntmps55
    go_wp2_with fail
    go_ret
    exact ⟨rfl, rfl⟩
  · have hx0 := hf hz
    have hbd := (findB_bd l (pAt p k)).2
    have HF := Lib.hid (l2Find_any u l (pAt p k) w hb)
    obtain ⟨i, hi⟩ : ∃ i : Nat, findB l (pAt p k) = (i : Int) := ⟨(findB l (pAt p k)).toNat, by omega⟩
    have hil : i < l.length := by omega
    have hw : wBx l (pAt p k) = l[i].g := by
      unfold wBx wAt
      rw [if_neg hz, hi, Int.toNat_natCast, getD_bx hil]
    obtain ⟨bb, bo, bc, rfl, hc1⟩ : ∃ bb bo bc, u = .slice (some ⟨bb, bo, none⟩) l.length bc ∧ w.cell? ⟨bb, bo + i * 5 + 1, none⟩ = some (.int .i64 l[i].g) := by
      obtain ⟨a', c', e, q1, q2, q3⟩ := hb
      rcases q3 with q3 | ⟨b', off', q4, q5, q6⟩
      · omega
      · exact ⟨b', off', c', by rw [e, q4], q6 i hil 1 (by omega)⟩
    rw [hw]
    rw [hi] at HF
    obtain ⟨x, hxx⟩ : ∃ x, x = pAt p k := ⟨_, rfl⟩
    have hdz : (x == 0) = false := by rw [hxx]; simpa using hz
    rw [← hxx] at s0 HF
    generalize l[i].g = g at hc1 ⊢
    have ii : (i : Int) < (l.length : Int) := by omega
    have i0i : (0 : Int) ≤ (i : Int) := by omega
    obtain ⟨n, hn⟩ : ∃ n, n = p.length := ⟨_, rfl⟩
    obtain ⟨m, hm⟩ : ∃ m, m = l.length := ⟨_, rfl⟩
    rw [← hn] at ik ⊢
    rw [← hm] at ii HF ⊢
    clear hz hf hb hp hx0 hbd hi hil hw hxx hn hm hl
    go_enter Try.func55, Try.ntmps55
    go_wp2_with fail
    refine HF.out.mono ?_
    rintro e w' ⟨rfl, rfl⟩
    go_wp2_with fail
    go_ret
    exact ⟨rfl, rfl⟩

set_option maxRecDepth 10000 in
set_option maxHeartbeats 1000000 in
theorem specHeel_any (h : Hl) (k : Nat) (w : World) (hk : hlOk h = true) (hl : (k : Int) < slMany h) :
    Calls Try.prog 56 #[.agg #[.int .i64 h.b, .int .i64 h.r, .int .i64 h.t], .int .i64 k] w fun e w' => e = .returned (.int .i64 (heelC h k)) ∧ Below w.heap.size w w' := by
  have hb1 := (Below.refl w.heap.size w).alloc (Nat.le_refl _) (.cells #[.int .i64 h.b, .int .i64 h.r, .int .i64 h.t] 28)
  have hx1 := BoxH.new w h
  obtain ⟨W1, hW1⟩ : ∃ W1, W1 = w.alloc (.cells #[.int .i64 h.b, .int .i64 h.r, .int .i64 h.t] 28) := ⟨_, rfl⟩
  rw [← hW1] at hb1 hx1
  have HW := Lib.hid hW1
  have HB := Lib.hid hb1
  have y0 := hx1.c0
  have y1 := hx1.c1
  have y2 := hx1.c2
  have HX := Lib.hid fun (w' : World) (hs : Below W1.heap.size W1 w') => hx1.keep hs
  clear hW1 hb1 hx1
  have HP := Lib.hid (specPlaceOf_any h k W1)
  obtain ⟨g1, g2, g3, g4, g5, g6⟩ := hlOk_iff.1 hk
  obtain ⟨p1, p2, p3, p4⟩ := plOf_in (s := (k : Int)) hk (by omega) (by omega)
  have e := plOf_yes (s := (k : Int)) hk (by omega) (by omega)
  have hx : 0 ≤ (plOf h (k : Int)).2.1 ∧ (plOf h (k : Int)).2.1 ≤ 4 := by rw [e]; simp only []; omega
  unfold heelC
  generalize plOf h (k : Int) = q at HP hx ⊢
  obtain ⟨x, y, z⟩ := q
  have HP' : Hid (Calls Try.prog 90 #[.agg #[.int .i64 h.b, .int .i64 h.r, .int .i64 h.t], .int .i64 k] W1 fun e w' => e = .returned (.tuple #[.int .i64 x, .int .i64 y, .int .i64 z]) ∧ Below W1.heap.size W1 w') := HP
  simp only [] at hx ⊢
  clear HP e p1 p2 p3 p4 hk hl
  have z1 : IntKind.i64.wrap (2 * y) = 2 * y := IntWalk.i64_in _ (by omega)
  have z2 : IntKind.i64.wrap (h.r - 1) = h.r - 1 := IntWalk.i64_in _ (by omega)
  have z3 : IntKind.i64.wrap (2 * y - (h.r - 1)) = 2 * y - (h.r - 1) := IntWalk.i64_in _ (by omega)
  go_enter Try.func56, Try.ntmps56
  go_wp2_with fail
  rw [← HW.out]
  go_wp2_with fail
  refine HP'.out.mono ?_
  rintro e w2 ⟨rfl, b2⟩
  have C2 := HB.out.trans (b2.mono HB.out.size)
  have x2 := HX.out w2 b2
  have c0 := x2.c0
  have c1 := x2.c1
  have c2 := x2.c2
  clear x2 y0 y1 y2
  go_wp2_with fail
  go_ret
  exact ⟨rfl, C2⟩

end Go.Proofs.Ytbaebamiiigmlac
