/-
  The model's chapter 11, first part: ApartNeed, ApartOf, l11Class.
-/
import Derived.Test.YtlccmgdmfchmnaaDaMath
import Derived.Test.YtlccmgdmfchmnaaGSl
import Derived.Test.YtlccmgdmfchmnaaGPl
import Derived.Test.YtlccmgdmfchmnaaGBx
import Derived.Deep.RegionHeld3
namespace Go.Proofs.Ytlccmgdmfchmnaa
open Go.RowKit
set_option linter.unusedVariables false

theorem run_min (a b c : Int) (hc : c = min a b) : ∀ W : World, Sem.run Try.prog (Builtin.min_ #[3, 3] 3 #[.int .i64 a, .int .i64 b]) W = .ok (.int .i64 c) W := fun W => by
  by_cases h : b < a
  · have : c = b := by omega
    subst this
    simp [Builtin.min_, Builtin.min2, List.foldlM, Sem.run_pure, h]
  · have : c = a := by omega
    subst this
    simp [Builtin.min_, Builtin.min2, List.foldlM, Sem.run_pure, h]
theorem run_max (a b c : Int) (hc : c = max a b) : ∀ W : World, Sem.run Try.prog (Builtin.max_ #[3, 3] 3 #[.int .i64 a, .int .i64 b]) W = .ok (.int .i64 c) W := fun W => by
  have h : (if b > a then b else a) = c := by split <;> omega
  rw [← h]
  simp [Builtin.max_, Builtin.max2, List.foldlM, Sem.run_pure]
set_option maxRecDepth 10000 in
set_option maxHeartbeats 4000000 in
theorem specApartOf_any (h : Hl) (s t : Int) (w : World) :
    Calls Try.prog 7 #[.agg #[.int .i64 h.b, .int .i64 h.r, .int .i64 h.t], .int .i64 s, .int .i64 t] w fun e w' => e = .returned (.int .i64 (apartS h s t)) ∧ Below w.heap.size w w' := by
  have hb1 := (Below.refl w.heap.size w).alloc (Nat.le_refl _) (.cells #[.int .i64 h.b, .int .i64 h.r, .int .i64 h.t] 24)
  have hx1 := BoxH.new w h
  obtain ⟨W1, hW1⟩ : ∃ W1, W1 = w.alloc (.cells #[.int .i64 h.b, .int .i64 h.r, .int .i64 h.t] 24) := ⟨_, rfl⟩
  rw [← hW1] at hb1 hx1
  have HW := Lib.hid hW1
  have HB := Lib.hid hb1
  have y0 := hx1.c0
  have y1 := hx1.c1
  have y2 := hx1.c2
  have HX := Lib.hid fun (w' : World) (hs : Below W1.heap.size W1 w') => hx1.keep hs
  clear hW1 hb1 hx1
  have HA := Lib.hid fun (w' : World) => specPlaceOf_any h s w'
  have HC := Lib.hid fun (w' : World) => specPlaceOf_any h t w'
  have hbd : ∀ s, -1 ≤ (plOf h s).1 ∧ (plOf h s).1 ≤ 3 := fun s => by
    rcases plOf_two h s with ⟨h1, _⟩ | ⟨h1, hk, h2, h3⟩
    · omega
    · have h4 := (plOf_in hk h2 h3).1.2
      have := hlOk_iff.1 hk
      rw [plOf_yes hk h2 h3] at h1 ⊢
      simp only [] at h1 ⊢
      omega
  have b1 := hbd s
  have b2 := hbd t
  obtain ⟨r, hr⟩ : ∃ r, r = apartS h s t := ⟨_, rfl⟩
  rw [← hr]
  unfold apartS at hr
  generalize plOf h s = p1 at HA hr b1
  generalize plOf h t = p2 at HC hr b2
  obtain ⟨x1, y1', z1'⟩ := p1
  obtain ⟨x2, y2', z2'⟩ := p2
  have HA' : Hid (∀ w' : World, Calls Try.prog 16 #[.agg #[.int .i64 h.b, .int .i64 h.r, .int .i64 h.t], .int .i64 s] w' fun e w2 => e = .returned (.tuple #[.int .i64 x1, .int .i64 y1', .int .i64 z1']) ∧ Below w'.heap.size w' w2) := HA
  have HC' : Hid (∀ w' : World, Calls Try.prog 16 #[.agg #[.int .i64 h.b, .int .i64 h.r, .int .i64 h.t], .int .i64 t] w' fun e w2 => e = .returned (.tuple #[.int .i64 x2, .int .i64 y2', .int .i64 z2']) ∧ Below w'.heap.size w' w2) := HC
  simp only [] at hr b1 b2
  clear HA HC hbd
  have zd1 : IntKind.i64.wrap (x1 - x2) = x1 - x2 := IntWalk.i64_in _ (by omega)
  have zd2 : IntKind.i64.wrap (x2 - x1) = x2 - x1 := IntWalk.i64_in _ (by omega)
  have go : ∀ r0 : Int, r = r0 → (
      (decide (x1 < 0) = true ∧ r0 = -1) ∨
      (decide (x1 < 0) = false ∧ decide (x2 < 0) = true ∧ r0 = -1) ∨
      (decide (x1 < 0) = false ∧ decide (x2 < 0) = false ∧ (x1 == x2) = true ∧ (y1' == y2') = true ∧ r0 = 0) ∨
      (decide (x1 < 0) = false ∧ decide (x2 < 0) = false ∧ (x1 == x2) = true ∧ (y1' == y2') = false ∧ r0 = 1) ∨
      (decide (x1 < 0) = false ∧ decide (x2 < 0) = false ∧ (x1 == x2) = false ∧ (x1 - x2 == 1) = true ∧ r0 = 2) ∨
      (decide (x1 < 0) = false ∧ decide (x2 < 0) = false ∧ (x1 == x2) = false ∧ (x1 - x2 == 1) = false ∧ (x2 - x1 == 1) = true ∧ r0 = 2) ∨
      (decide (x1 < 0) = false ∧ decide (x2 < 0) = false ∧ (x1 == x2) = false ∧ (x1 - x2 == 1) = false ∧ (x2 - x1 == 1) = false ∧ r0 = 3)) →
      Calls Try.prog 7 #[.agg #[.int .i64 h.b, .int .i64 h.r, .int .i64 h.t], .int .i64 s, .int .i64 t] w fun e w' => e = .returned (.int .i64 r) ∧ Below w.heap.size w w' := by
    rintro r0 rfl hcase
    rcases hcase with ⟨k1, rfl⟩ | ⟨k1, k2, rfl⟩ | ⟨k1, k2, k3, k4, rfl⟩ | ⟨k1, k2, k3, k4, rfl⟩ | ⟨k1, k2, k3, k4, rfl⟩ | ⟨k1, k2, k3, k4, k5, rfl⟩ | ⟨k1, k2, k3, k4, k5, rfl⟩
    all_goals
      clear hr
      go_enter Try.func7, Try.ntmps7
      go_wp2_with fail
      rw [← HW.out]
      go_wp2_with fail
      refine (HA'.out W1).mono ?_
      rintro e w2 ⟨rfl, d2⟩
      have C2 := HB.out.trans (d2.mono HB.out.size)
      have x2q := HX.out w2 d2
      have c0 := x2q.c0
      have c1 := x2q.c1
      have c2 := x2q.c2
      clear x2q y0 y1 y2 d2
      go_wp2_with fail
      refine (HC'.out w2).mono ?_
      rintro e w3 ⟨rfl, d3⟩
      have C3 := C2.trans (d3.mono C2.size)
      clear d3 c0 c1 c2
      go_wp2_with fail
      go_ret
      exact ⟨rfl, C3⟩
  refine go r rfl ?_
  clear go HA' HC' HX HB HW y0 y1 y2
  by_cases k1 : x1 < 0
  · exact .inl ⟨decide_eq_true k1, by rw [hr, if_pos (.inl k1)]⟩
  · by_cases k2 : x2 < 0
    · exact .inr (.inl ⟨decide_eq_false k1, decide_eq_true k2, by rw [hr, if_pos (.inr k2)]⟩)
    · rw [if_neg (by omega)] at hr
      by_cases k3 : x1 = x2
      · by_cases k4 : y1' = y2'
        · exact .inr (.inr (.inl ⟨decide_eq_false k1, decide_eq_false k2, by simp [k3], by simp [k4], by rw [hr, if_pos ⟨k3, k4⟩]⟩))
        · exact .inr (.inr (.inr (.inl ⟨decide_eq_false k1, decide_eq_false k2, by simp [k3], by simpa using k4, by rw [hr, if_neg (fun hc => k4 hc.2), if_pos k3]⟩)))
      · rw [if_neg (fun hc => k3 hc.1), if_neg k3] at hr
        by_cases k5 : x1 - x2 = 1
        · exact .inr (.inr (.inr (.inr (.inl ⟨decide_eq_false k1, decide_eq_false k2, by simpa using k3, by simp [k5], by rw [hr, if_pos (.inl k5)]⟩))))
        · by_cases k6 : x2 - x1 = 1
          · exact .inr (.inr (.inr (.inr (.inr (.inl ⟨decide_eq_false k1, decide_eq_false k2, by simpa using k3, by simpa using k5, by simp [k6], by rw [hr, if_pos (.inr k6)]⟩)))))
          · exact .inr (.inr (.inr (.inr (.inr (.inr ⟨decide_eq_false k1, decide_eq_false k2, by simpa using k3, by simpa using k5, by simpa using k6, by rw [hr, if_neg (by omega)]⟩)))))

end Go.Proofs.Ytlccmgdmfchmnaa
