/-
  The contract of the program's BoxValid.
-/
import Derived.Test.YtnnjphhkheocgaaBx
import Derived.Test.YtnnjphhkheocgaaGStk
namespace Go.Proofs.Ytnnjphhkheocgaa
open Go.RowKit
set_option linter.unusedVariables false

set_option maxHeartbeats 400000 in
theorem implBoxValid_any (i g c p : Int) (d : Bool) (w : World) :
    Calls Try.prog 72 #[.agg #[.int .i64 i, .int .i64 g, .int .i64 c, .int .i64 p, .bool d]] w fun e w' => e = .returned (.bool (bxOk i g c p)) ∧ Below w.heap.size w w' := by
  have HB := Lib.hid (show ∀ o, Below w.heap.size w (w.alloc o) from fun o => (Below.refl _ _).alloc (Nat.le_refl _) o)
  go_enter Try.func72, Try.ntmps72
  by_cases hi : 1 ≤ i ∧ i ≤ 999
  · go_wp2_with fail
    refine (implIdValid_yes i _ hi).mono ?_
    rintro e w' ⟨rfl, rfl⟩
    go_wp2
    all_goals
      go_ret
      refine ⟨ret_bool ?_, HB.out _⟩
      unfold bxOk
      first | (refine (decide_eq_false ?_).symm; omega) | (rw [decide_eq_decide]; omega) | (refine (decide_eq_true ?_).symm; omega)
  · go_wp2_with fail
    refine (implIdValid_no i _ hi).mono ?_
    rintro e w' ⟨rfl, rfl⟩
    go_wp2
    all_goals
      go_ret
      refine ⟨ret_bool ?_, HB.out _⟩
      unfold bxOk
      first | (refine (decide_eq_false ?_).symm; omega) | (rw [decide_eq_decide]; omega) | (refine (decide_eq_true ?_).symm; omega)
end Go.Proofs.Ytnnjphhkheocgaa
