/-
  The model's PlanTake.
-/
import Derived.Test.YtmgnbkiphdlooaaGPl
import Derived.Laws.AppendOwnNone
import Derived.Deep.RegionHeld3
namespace Go.Proofs.Ytmgnbkiphdlooaa
open Go.RowKit
set_option linter.unusedVariables false

end Go.Proofs.Ytmgnbkiphdlooaa
