/-
  The model's PlanFind.
-/
import Derived.Test.YtggbgjadfmjaaabPlO
namespace Go.Proofs.Ytggbgjadfmjaaab
open Go.RowKit
set_option linter.unusedVariables false

end Go.Proofs.Ytggbgjadfmjaaab
