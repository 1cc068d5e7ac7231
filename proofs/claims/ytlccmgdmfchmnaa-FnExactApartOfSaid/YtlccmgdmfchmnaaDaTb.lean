/-
  The program's table of distances in a world; ApartNeed, which reads it.
-/
import Derived.Test.YtlccmgdmfchmnaaDaMath
import Derived.Test.YtlccmgdmfchmnaaGBl
import Derived.Test.YtlccmgdmfchmnaaTbl
namespace Go.Proofs.Ytlccmgdmfchmnaa
open Go.RowKit
set_option linter.unusedVariables false

def tabA : List Int := [0, 0, 0, 0, 0, 0, 1, 2, 0, 1, 0, 3, 0, 2, 3, 1]
/-- The program's table of distances stands in a world. -/
def TabA (w : World) : Prop := w.var? Try.prog "loop.example/containerport/impl.apartNeeds" = some (tabA.map (.int .i64)).toArray
theorem TabA.keep {w w' : World} (h : TabA w) (hb : Below w.heap.size w w') : TabA w' := keepVar hb h
end Go.Proofs.Ytlccmgdmfchmnaa
