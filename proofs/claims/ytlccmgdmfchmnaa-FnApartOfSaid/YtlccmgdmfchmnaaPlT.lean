/-
  The model's PlanTake.
-/
import Derived.Test.YtlccmgdmfchmnaaGPl
import Derived.Laws.AppendOwnNone
import Derived.Deep.RegionHeld3
namespace Go.Proofs.Ytlccmgdmfchmnaa
open Go.RowKit
set_option linter.unusedVariables false

end Go.Proofs.Ytlccmgdmfchmnaa
