/-
  The model's PlanFind.
-/
import Derived.Test.YtnnjphhkheocgaaPlO
namespace Go.Proofs.Ytnnjphhkheocgaa
open Go.RowKit
set_option linter.unusedVariables false

end Go.Proofs.Ytnnjphhkheocgaa
