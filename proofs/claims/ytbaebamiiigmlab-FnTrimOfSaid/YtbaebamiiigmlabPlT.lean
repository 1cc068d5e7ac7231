/-
  The model's PlanTake.
-/
import Derived.Test.YtbaebamiiigmlabGPl
import Derived.Laws.AppendOwnNone
import Derived.Deep.RegionHeld3
namespace Go.Proofs.Ytbaebamiiigmlab
open Go.RowKit
set_option linter.unusedVariables false

end Go.Proofs.Ytbaebamiiigmlab
