/-
  The model's PlanTake.
-/
import Derived.Test.YtmkdkepbnhlflaaGPl
import Derived.Laws.AppendOwnNone
import Derived.Deep.RegionHeld3
namespace Go.Proofs.Ytmkdkepbnhlflaa
open Go.RowKit
set_option linter.unusedVariables false

end Go.Proofs.Ytmkdkepbnhlflaa
