/-
  The model's chapter 11, first part: ApartNeed, ApartOf, l11Class.
-/
import Derived.Test.YtfeobdgdhgcgoaaDaMath
import Derived.Test.YtfeobdgdhgcgoaaGSl
import Derived.Test.YtfeobdgdhgcgoaaGPl
import Derived.Test.YtfeobdgdhgcgoaaGBx
import Derived.Deep.RegionHeld3
namespace Go.Proofs.Ytfeobdgdhgcgoaa
open Go.RowKit
set_option linter.unusedVariables false

theorem run_min (a b c : Int) (hc : c = min a b) : ∀ W : World, Sem.run Try.prog (Builtin.min_ #[3, 3] 3 #[.int .i64 a, .int .i64 b]) W = .ok (.int .i64 c) W := fun W => by
  by_cases h : b < a
  · have : c = b := by omega
    subst this
    simp [Builtin.min_, Builtin.min2, List.foldlM, Sem.run_pure, h]
  · have : c = a := by omega
    subst this
    simp [Builtin.min_, Builtin.min2, List.foldlM, Sem.run_pure, h]
theorem run_max (a b c : Int) (hc : c = max a b) : ∀ W : World, Sem.run Try.prog (Builtin.max_ #[3, 3] 3 #[.int .i64 a, .int .i64 b]) W = .ok (.int .i64 c) W := fun W => by
  have h : (if b > a then b else a) = c := by split <;> omega
  rw [← h]
  simp [Builtin.max_, Builtin.max2, List.foldlM, Sem.run_pure]
end Go.Proofs.Ytfeobdgdhgcgoaa
