/-
  The model's PlanTake.
-/
import Derived.Test.YtbglbkeebapfpaaGPl
import Derived.Laws.AppendOwnNone
import Derived.Deep.RegionHeld3
namespace Go.Proofs.Ytbglbkeebapfpaa
open Go.RowKit
set_option linter.unusedVariables false

end Go.Proofs.Ytbglbkeebapfpaa
