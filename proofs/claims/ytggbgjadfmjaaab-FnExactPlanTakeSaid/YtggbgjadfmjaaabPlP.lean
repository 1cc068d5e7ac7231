/-
  The model's PlanPut.
-/
import Derived.Test.YtggbgjadfmjaaabPlO
import Derived.Laws.AppendOwnNone
namespace Go.Proofs.Ytggbgjadfmjaaab
open Go.RowKit
set_option linter.unusedVariables false

end Go.Proofs.Ytggbgjadfmjaaab
