/-
  The laws' comparison of two slices of numbers: both outcomes.
-/
import Derived.Test.YtggbgjadfmjaaaaGBase
namespace Go.Proofs.Ytggbgjadfmjaaaa
open Go.RowKit

theorem sameP_yes (u v : Value) (l : List Int) (w : World) (hu : HoldsI w u l) (hv : HoldsI w v l) :
    Calls Try.prog 25 #[u, v] w fun e w' => e = .returned (.bool true) ∧ Below w.heap.size w w' := by
  have := sameInts_any u v l l w hu hv
  rwa [decide_eq_true (rfl : l = l)] at this
theorem sameP_no (u v : Value) (l m : List Int) (w : World) (hu : HoldsI w u l) (hv : HoldsI w v m) (h : ¬ l = m) :
    Calls Try.prog 25 #[u, v] w fun e w' => e = .returned (.bool false) ∧ Below w.heap.size w w' := by
  have := sameInts_any u v l m w hu hv
  rwa [decide_eq_false h] at this
end Go.Proofs.Ytggbgjadfmjaaaa
