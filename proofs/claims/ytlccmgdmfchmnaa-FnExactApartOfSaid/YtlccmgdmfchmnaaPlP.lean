/-
  The model's PlanPut.
-/
import Derived.Test.YtlccmgdmfchmnaaGPl
import Derived.Laws.AppendOwnNone
namespace Go.Proofs.Ytlccmgdmfchmnaa
open Go.RowKit
set_option linter.unusedVariables false

end Go.Proofs.Ytlccmgdmfchmnaa
