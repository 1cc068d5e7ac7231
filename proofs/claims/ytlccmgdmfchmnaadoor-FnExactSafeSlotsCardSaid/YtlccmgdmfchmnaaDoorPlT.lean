/-
  The model's PlanTake.
-/
import Derived.Test.YtlccmgdmfchmnaaDoorGPl
import Derived.Laws.AppendOwnNone
import Derived.Deep.RegionHeld3
namespace Go.Proofs.YtlccmgdmfchmnaaDoor
open Go.RowKit
set_option linter.unusedVariables false

end Go.Proofs.YtlccmgdmfchmnaaDoor
