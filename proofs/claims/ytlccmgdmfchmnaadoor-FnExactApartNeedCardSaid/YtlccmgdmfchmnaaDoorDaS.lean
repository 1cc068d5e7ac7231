/-
  The model's chapter 11, first part: ApartNeed, ApartOf, l11Class.
-/
import Derived.Test.YtlccmgdmfchmnaaDoorDaMath
import Derived.Test.YtlccmgdmfchmnaaDoorGSl
import Derived.Test.YtlccmgdmfchmnaaDoorGPl
import Derived.Test.YtlccmgdmfchmnaaDoorGBx
import Derived.Deep.RegionHeld3
namespace Go.Proofs.YtlccmgdmfchmnaaDoor
open Go.RowKit
set_option linter.unusedVariables false

theorem run_min (a b c : Int) (hc : c = min a b) : ∀ W : World, Sem.run Tryd.prog (Builtin.min_ #[3, 3] 3 #[.int .i64 a, .int .i64 b]) W = .ok (.int .i64 c) W := fun W => by
  by_cases h : b < a
  · have : c = b := by omega
    subst this
    simp [Builtin.min_, Builtin.min2, List.foldlM, Sem.run_pure, h]
  · have : c = a := by omega
    subst this
    simp [Builtin.min_, Builtin.min2, List.foldlM, Sem.run_pure, h]
theorem run_max (a b c : Int) (hc : c = max a b) : ∀ W : World, Sem.run Tryd.prog (Builtin.max_ #[3, 3] 3 #[.int .i64 a, .int .i64 b]) W = .ok (.int .i64 c) W := fun W => by
  have h : (if b > a then b else a) = c := by split <;> omega
  rw [← h]
  simp [Builtin.max_, Builtin.max2, List.foldlM, Sem.run_pure]
set_option maxRecDepth 10000 in
set_option maxHeartbeats 4000000 in
theorem specApartNeed_any (a b : Int) (w : World) :
    Calls Tryd.prog 11 #[.int .i64 a, .int .i64 b] w fun e w' => e = .returned (.int .i64 (needC a b)) ∧ w = w' := by
  obtain ⟨lo, hlo⟩ : ∃ lo, lo = min a b := ⟨_, rfl⟩
  obtain ⟨hi, hhi⟩ : ∃ hi, hi = max a b := ⟨_, rfl⟩
  have hmin := run_min a b lo hlo
  have hmax := run_max a b hi hhi
  have hle : lo ≤ hi := by omega
  obtain ⟨r, hr⟩ : ∃ r, r = needC a b := ⟨_, rfl⟩
  rw [← hr]
  unfold needC at hr
  rw [← hlo, ← hhi] at hr
  clear hlo hhi
  by_cases h1 : lo < 0
  · rw [if_pos (.inl h1)] at hr
    subst hr
    go_enter Tryd.func11, Tryd.ntmps11
    go_wp2_with fail
    go_ret
    exact ⟨rfl, rfl⟩
  · by_cases h2 : 3 < hi
    · rw [if_pos (.inr h2)] at hr
      subst hr
      have h2' : decide (hi > 3) = true := decide_eq_true h2
      go_enter Tryd.func11, Tryd.ntmps11
      go_wp2_with fail
      go_ret
      exact ⟨rfl, rfl⟩
    · have hx : (lo = 0 ∧ (hi = 0 ∨ hi = 1 ∨ hi = 2 ∨ hi = 3)) ∨ (lo = 1 ∧ (hi = 1 ∨ hi = 2 ∨ hi = 3)) ∨ (lo = 2 ∧ (hi = 2 ∨ hi = 3)) ∨ (lo = 3 ∧ hi = 3) := by omega
      rcases hx with ⟨rfl, rfl | rfl | rfl | rfl⟩ | ⟨rfl, rfl | rfl | rfl⟩ | ⟨rfl, rfl | rfl⟩ | ⟨rfl, rfl⟩
      all_goals
        simp at hr
        subst hr
        clear h1 h2 hle
        go_enter Tryd.func11, Tryd.ntmps11
        go_wp2_with fail
        go_ret
        exact ⟨rfl, rfl⟩

set_option maxRecDepth 10000 in
set_option maxHeartbeats 4000000 in
theorem specApartOf_any (h : Hl) (s t : Int) (w : World) :
    Calls Tryd.prog 48 #[.agg #[.int .i64 h.b, .int .i64 h.r, .int .i64 h.t], .int .i64 s, .int .i64 t] w fun e w' => e = .returned (.int .i64 (apartS h s t)) ∧ Below w.heap.size w w' := by
  have hb1 := (Below.refl w.heap.size w).alloc (Nat.le_refl _) (.cells #[.int .i64 h.b, .int .i64 h.r, .int .i64 h.t] 29)
  have hx1 := BoxH.new w h
  obtain ⟨W1, hW1⟩ : ∃ W1, W1 = w.alloc (.cells #[.int .i64 h.b, .int .i64 h.r, .int .i64 h.t] 29) := ⟨_, rfl⟩
  rw [← hW1] at hb1 hx1
  have HW := Lib.hid hW1
  have HB := Lib.hid hb1
  have y0 := hx1.c0
  have y1 := hx1.c1
  have y2 := hx1.c2
  have HX := Lib.hid fun (w' : World) (hs : Below W1.heap.size W1 w') => hx1.keep hs
  clear hW1 hb1 hx1
  have HA := Lib.hid fun (w' : World) => specPlaceOf_any h s w'
  have HC := Lib.hid fun (w' : World) => specPlaceOf_any h t w'
  have hbd : ∀ s, -1 ≤ (plOf h s).1 ∧ (plOf h s).1 ≤ 3 := fun s => by
    rcases plOf_two h s with ⟨h1, _⟩ | ⟨h1, hk, h2, h3⟩
    · omega
    · have h4 := (plOf_in hk h2 h3).1.2
      have := hlOk_iff.1 hk
      rw [plOf_yes hk h2 h3] at h1 ⊢
      simp only [] at h1 ⊢
      omega
  have b1 := hbd s
  have b2 := hbd t
  obtain ⟨r, hr⟩ : ∃ r, r = apartS h s t := ⟨_, rfl⟩
  rw [← hr]
  unfold apartS at hr
  generalize plOf h s = p1 at HA hr b1
  generalize plOf h t = p2 at HC hr b2
  obtain ⟨x1, y1', z1'⟩ := p1
  obtain ⟨x2, y2', z2'⟩ := p2
  have HA' : Hid (∀ w' : World, Calls Tryd.prog 73 #[.agg #[.int .i64 h.b, .int .i64 h.r, .int .i64 h.t], .int .i64 s] w' fun e w2 => e = .returned (.tuple #[.int .i64 x1, .int .i64 y1', .int .i64 z1']) ∧ Below w'.heap.size w' w2) := HA
  have HC' : Hid (∀ w' : World, Calls Tryd.prog 73 #[.agg #[.int .i64 h.b, .int .i64 h.r, .int .i64 h.t], .int .i64 t] w' fun e w2 => e = .returned (.tuple #[.int .i64 x2, .int .i64 y2', .int .i64 z2']) ∧ Below w'.heap.size w' w2) := HC
  simp only [] at hr b1 b2
  clear HA HC hbd
  have zd1 : IntKind.i64.wrap (x1 - x2) = x1 - x2 := IntWalk.i64_in _ (by omega)
  have zd2 : IntKind.i64.wrap (x2 - x1) = x2 - x1 := IntWalk.i64_in _ (by omega)
  have go : ∀ r0 : Int, r = r0 → (
      (decide (x1 < 0) = true ∧ r0 = -1) ∨
      (decide (x1 < 0) = false ∧ decide (x2 < 0) = true ∧ r0 = -1) ∨
      (decide (x1 < 0) = false ∧ decide (x2 < 0) = false ∧ (x1 == x2) = true ∧ (y1' == y2') = true ∧ r0 = 0) ∨
      (decide (x1 < 0) = false ∧ decide (x2 < 0) = false ∧ (x1 == x2) = true ∧ (y1' == y2') = false ∧ r0 = 1) ∨
      (decide (x1 < 0) = false ∧ decide (x2 < 0) = false ∧ (x1 == x2) = false ∧ (x1 - x2 == 1) = true ∧ r0 = 2) ∨
      (decide (x1 < 0) = false ∧ decide (x2 < 0) = false ∧ (x1 == x2) = false ∧ (x1 - x2 == 1) = false ∧ (x2 - x1 == 1) = true ∧ r0 = 2) ∨
      (decide (x1 < 0) = false ∧ decide (x2 < 0) = false ∧ (x1 == x2) = false ∧ (x1 - x2 == 1) = false ∧ (x2 - x1 == 1) = false ∧ r0 = 3)) →
      Calls Tryd.prog 48 #[.agg #[.int .i64 h.b, .int .i64 h.r, .int .i64 h.t], .int .i64 s, .int .i64 t] w fun e w' => e = .returned (.int .i64 r) ∧ Below w.heap.size w w' := by
    rintro r0 rfl hcase
    rcases hcase with ⟨k1, rfl⟩ | ⟨k1, k2, rfl⟩ | ⟨k1, k2, k3, k4, rfl⟩ | ⟨k1, k2, k3, k4, rfl⟩ | ⟨k1, k2, k3, k4, rfl⟩ | ⟨k1, k2, k3, k4, k5, rfl⟩ | ⟨k1, k2, k3, k4, k5, rfl⟩
    all_goals
      clear hr
      go_enter Tryd.func48, Tryd.ntmps48
      go_wp2_with fail
      rw [← HW.out]
      go_wp2_with fail
      refine (HA'.out W1).mono ?_
      rintro e w2 ⟨rfl, d2⟩
      have C2 := HB.out.trans (d2.mono HB.out.size)
      have x2q := HX.out w2 d2
      have c0 := x2q.c0
      have c1 := x2q.c1
      have c2 := x2q.c2
      clear x2q y0 y1 y2 d2
      go_wp2_with fail
      refine (HC'.out w2).mono ?_
      rintro e w3 ⟨rfl, d3⟩
      have C3 := C2.trans (d3.mono C2.size)
      clear d3 c0 c1 c2
      go_wp2_with fail
      go_ret
      exact ⟨rfl, C3⟩
  refine go r rfl ?_
  clear go HA' HC' HX HB HW y0 y1 y2
  by_cases k1 : x1 < 0
  · exact .inl ⟨decide_eq_true k1, by rw [hr, if_pos (.inl k1)]⟩
  · by_cases k2 : x2 < 0
    · exact .inr (.inl ⟨decide_eq_false k1, decide_eq_true k2, by rw [hr, if_pos (.inr k2)]⟩)
    · rw [if_neg (by omega)] at hr
      by_cases k3 : x1 = x2
      · by_cases k4 : y1' = y2'
        · exact .inr (.inr (.inl ⟨decide_eq_false k1, decide_eq_false k2, by simp [k3], by simp [k4], by rw [hr, if_pos ⟨k3, k4⟩]⟩))
        · exact .inr (.inr (.inr (.inl ⟨decide_eq_false k1, decide_eq_false k2, by simp [k3], by simpa using k4, by rw [hr, if_neg (fun hc => k4 hc.2), if_pos k3]⟩)))
      · rw [if_neg (fun hc => k3 hc.1), if_neg k3] at hr
        by_cases k5 : x1 - x2 = 1
        · exact .inr (.inr (.inr (.inr (.inl ⟨decide_eq_false k1, decide_eq_false k2, by simpa using k3, by simp [k5], by rw [hr, if_pos (.inl k5)]⟩))))
        · by_cases k6 : x2 - x1 = 1
          · exact .inr (.inr (.inr (.inr (.inr (.inl ⟨decide_eq_false k1, decide_eq_false k2, by simpa using k3, by simpa using k5, by simp [k6], by rw [hr, if_pos (.inr k6)]⟩)))))
          · exact .inr (.inr (.inr (.inr (.inr (.inr ⟨decide_eq_false k1, decide_eq_false k2, by simpa using k3, by simpa using k5, by simpa using k6, by rw [hr, if_neg (by omega)]⟩)))))

set_option maxRecDepth 10000 in
set_option maxHeartbeats 1000000 in
theorem specClass_any (u v : Value) (l : List Bx) (p : List Int) (k : Nat) (w : World) (hb : HoldsBx w u l) (hp : HoldsI w v p) (hl : k < p.length) (hf : pAt p k ≠ 0 → 0 ≤ findB l (pAt p k)) :
    Calls Tryd.prog 49 #[u, v, .int .i64 k] w fun e w' => e = .returned (.int .i64 (clsB l (pAt p k))) ∧ w = w' := by
  obtain ⟨pa, pc, rfl⟩ := hp.form
  obtain ⟨b, off, rfl, hbl, s0⟩ := hp.at_ hl
  have ik : (k : Int) < (p.length : Int) := by omega
  have i0k : (0 : Int) ≤ (k : Int) := by omega
  have e1 : p.getD k 0 = pAt p k := rfl
  rw [e1] at s0
  clear e1
  by_cases hz : pAt p k = 0
  · have hr := Lib.hid (show clsB l (pAt p k) = 0 from by unfold clsB; rw [if_pos hz])
    rw [hr.out]
    rw [hz] at s0
    clear hz hr hf hb hp
    go_enter Tryd.func49, Tryd.ntmps49
    go_wp2_with fail
    go_ret
    exact ⟨rfl, rfl⟩
  · have hx0 := hf hz
    have hbd := (findB_bd l (pAt p k)).2
    have HF := Lib.hid (l2Find_any u l (pAt p k) w hb)
    obtain ⟨i, hi⟩ : ∃ i : Nat, findB l (pAt p k) = (i : Int) := ⟨(findB l (pAt p k)).toNat, by omega⟩
    have hil : i < l.length := by omega
    have hw : clsB l (pAt p k) = l[i].c := by
      unfold clsB
      rw [if_neg hz, hi, Int.toNat_natCast, getD_bx hil]
    obtain ⟨bb, bo, bc, rfl, hc1⟩ : ∃ bb bo bc, u = .slice (some ⟨bb, bo, none⟩) l.length bc ∧ w.cell? ⟨bb, bo + i * 5 + 2, none⟩ = some (.int .i64 l[i].c) := by
      obtain ⟨a', c', e, q1, q2, q3⟩ := hb
      rcases q3 with q3 | ⟨b', off', q4, q5, q6⟩
      · omega
      · exact ⟨b', off', c', by rw [e, q4], q6 i hil 2 (by omega)⟩
    rw [hw]
    rw [hi] at HF
    obtain ⟨x, hxx⟩ : ∃ x, x = pAt p k := ⟨_, rfl⟩
    have hdz : (x == 0) = false := by rw [hxx]; simpa using hz
    rw [← hxx] at s0 HF
    generalize l[i].c = g at hc1 ⊢
    have ii : (i : Int) < (l.length : Int) := by omega
    have i0i : (0 : Int) ≤ (i : Int) := by omega
    obtain ⟨n, hn⟩ : ∃ n, n = p.length := ⟨_, rfl⟩
    obtain ⟨m, hm⟩ : ∃ m, m = l.length := ⟨_, rfl⟩
    rw [← hn] at ik ⊢
    rw [← hm] at ii HF ⊢
    clear hz hf hb hp hx0 hbd hi hil hw hxx hn hm hl
    go_enter Tryd.func49, Tryd.ntmps49
    go_wp2_with fail
    refine HF.out.mono ?_
    rintro e w' ⟨rfl, rfl⟩
    go_wp2_with fail
    go_ret
    exact ⟨rfl, rfl⟩

end Go.Proofs.YtlccmgdmfchmnaaDoor
