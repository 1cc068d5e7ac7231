/-
  Draws of a ship, boxes, a plan and a port.
-/
import Derived.Test.YtlccmgdmfchmnaaDoorGPw
namespace Go.Proofs.YtlccmgdmfchmnaaDoor
open Go.RowKit
set_option linter.unusedVariables false

/-- A ship, boxes, a plan and a small number. -/
def DrewPT (w : World) (e : Ending) (w' : World) : Prop := ∃ x : Int, -1000 ≤ x ∧ x ≤ 1000 ∧ DrewP w [.int .i64 x] e w'

end Go.Proofs.YtlccmgdmfchmnaaDoor
