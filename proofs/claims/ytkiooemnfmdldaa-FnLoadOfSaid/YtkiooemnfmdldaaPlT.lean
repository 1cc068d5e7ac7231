/-
  The model's PlanTake.
-/
import Derived.Test.YtkiooemnfmdldaaGPl
import Derived.Laws.AppendOwnNone
import Derived.Deep.RegionHeld3
namespace Go.Proofs.Ytkiooemnfmdldaa
open Go.RowKit
set_option linter.unusedVariables false

end Go.Proofs.Ytkiooemnfmdldaa
