/-
  The program's chapter 11: ApartNeed, ApartOf, classOf, slotsTooNear, TooNear, SafeSlots.
-/
import Derived.Test.YtlccmgdmfchmnaaDaTb
import Derived.Test.YtlccmgdmfchmnaaDaMath3
import Derived.Test.YtlccmgdmfchmnaaDaMath2
import Derived.Test.YtlccmgdmfchmnaaDaS
import Derived.Test.YtlccmgdmfchmnaaLsI
import Derived.Test.YtlccmgdmfchmnaaPlI
import Derived.Test.YtlccmgdmfchmnaaPrF
import Derived.Test.YtlccmgdmfchmnaaGBl
import Derived.Laws.AppendOwnNone
import Derived.Maps.AppendAt
import Derived.Deep.RegionHeld3
namespace Go.Proofs.Ytlccmgdmfchmnaa
open Go.RowKit
set_option linter.unusedVariables false

set_option maxRecDepth 10000 in
set_option maxHeartbeats 4000000 in
theorem implApartOf_any (h : Hl) (s t : Int) (w : World) :
    Calls Try.prog 6 #[.agg #[.int .i64 h.b, .int .i64 h.r, .int .i64 h.t], .int .i64 s, .int .i64 t] w fun e w' => e = .returned (.int .i64 (apartS h s t)) ∧ Below w.heap.size w w' := by
  have hb1 := (Below.refl w.heap.size w).alloc (Nat.le_refl _) (.cells #[.int .i64 h.b, .int .i64 h.r, .int .i64 h.t] 24)
  have hx1 := BoxH.new w h
  obtain ⟨W1, hW1⟩ : ∃ W1, W1 = w.alloc (.cells #[.int .i64 h.b, .int .i64 h.r, .int .i64 h.t] 24) := ⟨_, rfl⟩
  rw [← hW1] at hb1 hx1
  have HW := Lib.hid hW1
  have HB := Lib.hid hb1
  have y0 := hx1.c0
  have y1 := hx1.c1
  have y2 := hx1.c2
  have HX := Lib.hid fun (w' : World) (hs : Below W1.heap.size W1 w') => hx1.keep hs
  clear hW1 hb1 hx1
  have HA := Lib.hid fun (w' : World) => implPlaceOf_any h s w'
  have HC := Lib.hid fun (w' : World) => implPlaceOf_any h t w'
  have hbd : ∀ s, -1 ≤ (plOf h s).1 ∧ (plOf h s).1 ≤ 3 := fun s => by
    rcases plOf_two h s with ⟨h1, _⟩ | ⟨h1, hk, h2, h3⟩
    · omega
    · have h4 := (plOf_in hk h2 h3).1.2
      have := hlOk_iff.1 hk
      rw [plOf_yes hk h2 h3] at h1 ⊢
      simp only [] at h1 ⊢
      omega
  have b1 := hbd s
  have b2 := hbd t
  obtain ⟨r, hr⟩ : ∃ r, r = apartS h s t := ⟨_, rfl⟩
  rw [← hr]
  unfold apartS at hr
  generalize plOf h s = p1 at HA hr b1
  generalize plOf h t = p2 at HC hr b2
  obtain ⟨x1, y1', z1'⟩ := p1
  obtain ⟨x2, y2', z2'⟩ := p2
  have HA' : Hid (∀ w' : World, Calls Try.prog 15 #[.agg #[.int .i64 h.b, .int .i64 h.r, .int .i64 h.t], .int .i64 s] w' fun e w2 => e = .returned (.tuple #[.int .i64 x1, .int .i64 y1', .int .i64 z1']) ∧ Below w'.heap.size w' w2) := HA
  have HC' : Hid (∀ w' : World, Calls Try.prog 15 #[.agg #[.int .i64 h.b, .int .i64 h.r, .int .i64 h.t], .int .i64 t] w' fun e w2 => e = .returned (.tuple #[.int .i64 x2, .int .i64 y2', .int .i64 z2']) ∧ Below w'.heap.size w' w2) := HC
  simp only [] at hr b1 b2
  obtain ⟨mx, hmx⟩ : ∃ mx, mx = max x1 x2 := ⟨_, rfl⟩
  obtain ⟨mn, hmn⟩ : ∃ mn, mn = min x1 x2 := ⟨_, rfl⟩
  have hmax := run_max x1 x2 mx hmx
  have hmin := run_min x1 x2 mn hmn
  obtain ⟨dv, hdv⟩ : ∃ dv, dv = mx - mn := ⟨_, rfl⟩
  have zd1 : IntKind.i64.wrap (mx - mn) = dv := by rw [hdv]; exact IntWalk.i64_in _ (by omega)
  have HM := Lib.hid (And.intro hmx (And.intro hmn hdv))
  clear HA HC hbd hmx hmn hdv
  have go : ∀ r0 : Int, r = r0 → (
      (decide (x1 < 0) = true ∧ r0 = -1) ∨
      (decide (x1 < 0) = false ∧ decide (x2 < 0) = true ∧ r0 = -1) ∨
      (decide (x1 < 0) = false ∧ decide (x2 < 0) = false ∧ decide (dv > 1) = true ∧ r0 = 3) ∨
      (decide (x1 < 0) = false ∧ decide (x2 < 0) = false ∧ decide (dv > 1) = false ∧ (dv == 1) = true ∧ r0 = 2) ∨
      (decide (x1 < 0) = false ∧ decide (x2 < 0) = false ∧ decide (dv > 1) = false ∧ (dv == 1) = false ∧ (y1' != y2') = true ∧ r0 = 1) ∨
      (decide (x1 < 0) = false ∧ decide (x2 < 0) = false ∧ decide (dv > 1) = false ∧ (dv == 1) = false ∧ (y1' != y2') = false ∧ r0 = 0)) →
      Calls Try.prog 6 #[.agg #[.int .i64 h.b, .int .i64 h.r, .int .i64 h.t], .int .i64 s, .int .i64 t] w fun e w' => e = .returned (.int .i64 r) ∧ Below w.heap.size w w' := by
    rintro r0 rfl hcase
    clear HM
    rcases hcase with ⟨k1, rfl⟩ | ⟨k1, k2, rfl⟩ | ⟨k1, k2, k3, rfl⟩ | ⟨k1, k2, k3, k4, rfl⟩ | ⟨k1, k2, k3, k4, k5, rfl⟩ | ⟨k1, k2, k3, k4, k5, rfl⟩
    all_goals
      clear hr
      go_enter Try.func6, Try.ntmps6
      go_wp2_with fail
      rw [← HW.out]
      go_wp2_with fail
      refine (HA'.out W1).mono ?_
      rintro e w2 ⟨rfl, d2⟩
      have C2 := HB.out.trans (d2.mono HB.out.size)
      have x2q := HX.out w2 d2
      have c0 := x2q.c0
      have c1 := x2q.c1
      have c2 := x2q.c2
      clear x2q y0 y1 y2 d2
      go_wp2_with fail
      refine (HC'.out w2).mono ?_
      rintro e w3 ⟨rfl, d3⟩
      have C3 := C2.trans (d3.mono C2.size)
      clear d3 c0 c1 c2
      go_wp2_with fail
      go_ret
      exact ⟨rfl, C3⟩
  refine go r rfl ?_
  obtain ⟨hmx, hmn, hdv⟩ := HM.out
  clear go HA' HC' HX HB HW y0 y1 y2 hmax hmin zd1 HM
  by_cases k1 : x1 < 0
  · exact .inl ⟨decide_eq_true k1, by rw [hr, if_pos (.inl k1)]⟩
  · by_cases k2 : x2 < 0
    · exact .inr (.inl ⟨decide_eq_false k1, decide_eq_true k2, by rw [hr, if_pos (.inr k2)]⟩)
    · rw [if_neg (by omega)] at hr
      by_cases k3 : dv > 1
      · exact .inr (.inr (.inl ⟨decide_eq_false k1, decide_eq_false k2, decide_eq_true k3, by rw [hr, if_neg (by omega), if_neg (by omega), if_neg (by omega)]⟩))
      · by_cases k4 : dv = 1
        · exact .inr (.inr (.inr (.inl ⟨decide_eq_false k1, decide_eq_false k2, decide_eq_false k3, by simp [k4], by rw [hr, if_neg (by omega), if_neg (by omega), if_pos (by omega)]⟩)))
        · have k6 : x1 = x2 := by omega
          by_cases k5 : y1' = y2'
          · exact .inr (.inr (.inr (.inr (.inr ⟨decide_eq_false k1, decide_eq_false k2, decide_eq_false k3, by simpa using k4, by simp [k5], by rw [hr, if_pos ⟨k6, k5⟩]⟩))))
          · exact .inr (.inr (.inr (.inr (.inl ⟨decide_eq_false k1, decide_eq_false k2, decide_eq_false k3, by simpa using k4, by simpa using k5, by rw [hr, if_neg (fun hc => k5 hc.2), if_pos k6]⟩))))

end Go.Proofs.Ytlccmgdmfchmnaa
