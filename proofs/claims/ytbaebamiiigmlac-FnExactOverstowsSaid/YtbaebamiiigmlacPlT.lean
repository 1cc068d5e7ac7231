/-
  The model's PlanTake.
-/
import Derived.Test.YtbaebamiiigmlacGPl
import Derived.Laws.AppendOwnNone
import Derived.Deep.RegionHeld3
namespace Go.Proofs.Ytbaebamiiigmlac
open Go.RowKit
set_option linter.unusedVariables false

end Go.Proofs.Ytbaebamiiigmlac
