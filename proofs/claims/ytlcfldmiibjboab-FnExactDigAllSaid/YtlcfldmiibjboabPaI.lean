/-
  The contract of the program's StackAbove.
-/
import Derived.Test.YtlcfldmiibjboabGStk
namespace Go.Proofs.Ytlcfldmiibjboab
open Go.RowKit
set_option linter.unusedVariables false

theorem aboveS_idx {l : List Int} {high id : Int} (h : stOk l high = true) : aboveS l high id = if idxI l id < 0 then -1 else (l.length : Int) - 1 - idxI l id := by
  unfold aboveS idxI
  rw [if_pos h]
  cases firstI l id with
  | none => rfl
  | some k => simp only []; rw [if_neg (by omega)]
theorem idxI_lt (l : List Int) (n : Int) : -1 ≤ idxI l n ∧ idxI l n < l.length := by
  unfold idxI
  cases h : firstI l n with
  | none => simp only []; omega
  | some k =>
    obtain ⟨hk, _⟩ := firstI_some l n k h
    simp only []; omega

set_option maxHeartbeats 1000000 in
theorem implStackAbove_any (v : Value) (l : List Int) (high id : Int) (w : World) (h : HoldsI w v l) :
    Calls Try.prog 34 #[v, .int .i64 high, .int .i64 id] w fun e w' => e = .returned (.int .i64 (aboveS l high id)) ∧ Below w.heap.size w w' := by
  have HV := Lib.hid (implStackValid_any v l high w h)
  have HX := Lib.hid fun w' (hb : Below w.heap.size w w') => slIndex_any v l id w' (h.keep hb)
  obtain ⟨a, cap, rfl, h2, h3, h4⟩ := h
  have hm : l.length ≤ 9223372036854775807 := by unfold maxLen at h3; omega
  clear h2 h3 h4
  have hx := idxI_lt l id
  cases hok : stOk l high
  · have hr := Lib.hid (aboveS_bad (id := id) hok)
    rw [hok] at HV
    clear hok hx
    go_enter Try.func34, Try.ntmps34
    go_wp2_with fail
    refine HV.out.mono ?_
    rintro e w2 ⟨rfl, b2⟩
    go_wp2_with fail
    go_ret
    exact ⟨by rw [hr.out]; rfl, b2⟩
  · have hr := Lib.hid (aboveS_idx (id := id) hok)
    rw [hok] at HV
    clear hok
    generalize idxI l id = x at HX hr hx
    obtain ⟨x0, x1⟩ := hx
    by_cases hx0 : x < 0
    · have hr2 := Lib.hid (hr.out.trans (if_pos hx0))
      go_enter Try.func34, Try.ntmps34
      go_wp2_with fail
      refine HV.out.mono ?_
      rintro e w2 ⟨rfl, b2⟩
      go_wp2_with fail
      refine (HX.out _ b2).mono ?_
      rintro e w3 ⟨rfl, rfl⟩
      go_wp2_with fail
      go_ret
      exact ⟨by rw [hr2.out]; rfl, b2⟩
    · have hr2 := Lib.hid (hr.out.trans (if_neg hx0))
      go_enter Try.func34, Try.ntmps34
      go_wp2_with fail
      refine HV.out.mono ?_
      rintro e w2 ⟨rfl, b2⟩
      go_wp2_with fail
      refine (HX.out _ b2).mono ?_
      rintro e w3 ⟨rfl, rfl⟩
      go_wp2_with fail
      go_ret
      exact ⟨by rw [hr2.out]; rfl, b2⟩
end Go.Proofs.Ytlcfldmiibjboab
