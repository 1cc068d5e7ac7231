/-
  The contract of the model's StackTake.
-/
import Derived.Test.YtfeobdgdhgcgoaaGBase
namespace Go.Proofs.Ytfeobdgdhgcgoaa
open Go.RowKit
set_option linter.unusedVariables false

/-- What a call gives that takes from a stack. -/
def TakeGives (l : List Int) (high : Int) (w : World) (e : Ending) (w' : World) : Prop :=
  ∃ v, e = .returned (.tuple #[v, .int .i64 (takeS l high).2]) ∧ NewI w.heap.size w' v (takeS l high).1 ∧ Below w.heap.size w w'

end Go.Proofs.Ytfeobdgdhgcgoaa
