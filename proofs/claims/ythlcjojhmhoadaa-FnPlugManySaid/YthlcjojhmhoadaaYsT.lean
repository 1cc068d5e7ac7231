/-
  The contract of the model's YardTake.
-/
import Derived.Test.YthlcjojhmhoadaaYv
import Derived.Test.YthlcjojhmhoadaaGYh
import Derived.Test.YthlcjojhmhoadaaYsC
namespace Go.Proofs.Ythlcjojhmhoadaa
open Go.RowKit
set_option linter.unusedVariables false

/-- What a call gives that takes from a yard. -/
def TakeYGives (h : Int) (ss : List (List Int)) (f : Int) (w : World) (e : Ending) (w' : World) : Prop :=
  ∃ u, e = .returned (.tuple #[.agg #[.int .i64 (takeY h ss f).1.1, u], .int .i64 (takeY h ss f).2]) ∧ NewY w.heap.size w' u (takeY h ss f).1.2 ∧ Below w.heap.size w w'
theorem NewY.drew_ {K : Nat} {w : World} {v : Value} {ss : List (List Int)} (h : NewY K w v ss) : NewY K w.drew v ss := h.keep (Below.refl _ _).drew
end Go.Proofs.Ythlcjojhmhoadaa
