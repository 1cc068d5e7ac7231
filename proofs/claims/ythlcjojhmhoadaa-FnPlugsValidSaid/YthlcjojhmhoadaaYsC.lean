/-
  The contract of the model's l4Copy: a yard in memory of its own.
-/
import Derived.Test.YthlcjojhmhoadaaGYh
import Derived.Deep.RegionLaw
import Derived.Deep.CutRange
import Derived.Deep.CutBlock
namespace Go.Proofs.Ythlcjojhmhoadaa
open Go.RowKit
set_option linter.unusedVariables false

theorem own_slice0 {w : World} {base n size : Nat} {e : TypeId} {v : Value} {xs : List Value} (h : w.ownsRow base e size v (0 + n) xs) : ∃ a c, v = .slice a n c := by
  rw [Nat.zero_add] at h
  exact own_slice h
/-- What a call gives that copies a yard. -/
def CopyGives (h : Int) (ss : List (List Int)) (w : World) (e : Ending) (w' : World) : Prop :=
  ∃ u us, e = .returned (.agg #[.int .i64 h, u]) ∧ OwnY w.heap.size w' u us ss.length (rowAt ss) ∧ Below w.heap.size w w'

end Go.Proofs.Ythlcjojhmhoadaa
