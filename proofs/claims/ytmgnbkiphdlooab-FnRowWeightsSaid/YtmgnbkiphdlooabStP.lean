/-
  The contract of the model's StackPut.
-/
import Derived.Test.YtmgnbkiphdlooabStT
import Derived.Laws.AppendOwnNone
namespace Go.Proofs.Ytmgnbkiphdlooab
open Go.RowKit
set_option linter.unusedVariables false

/-- What a call gives that puts onto a stack. -/
def PutGives (l : List Int) (high id : Int) (w : World) (e : Ending) (w' : World) : Prop :=
  ∃ v, e = .returned (.tuple #[v, .bool (putS l high id).2]) ∧ NewI w.heap.size w' v (putS l high id).1 ∧ Below w.heap.size w w'





end Go.Proofs.Ytmgnbkiphdlooab
