/-
  The model's PlanTake.
-/
import Derived.Test.YtnnjphhkheocgaaPlO
import Derived.Laws.AppendOwnNone
import Derived.Deep.RegionHeld3
namespace Go.Proofs.Ytnnjphhkheocgaa
open Go.RowKit
set_option linter.unusedVariables false

end Go.Proofs.Ytnnjphhkheocgaa
