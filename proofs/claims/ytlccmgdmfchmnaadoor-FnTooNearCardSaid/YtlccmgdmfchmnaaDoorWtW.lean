/-
  Draws of a ship, boxes and a plan, of stages 8 to 13.
-/
import Derived.Test.YtlccmgdmfchmnaaDoorGPw
namespace Go.Proofs.YtlccmgdmfchmnaaDoor
open Go.RowKit
set_option linter.unusedVariables false

/-- A ship, boxes, a plan and two small numbers. -/
def DrewPS (w : World) (e : Ending) (w' : World) : Prop := ∃ x y : Int, -1000 ≤ x ∧ x ≤ 1000 ∧ -1000 ≤ y ∧ y ≤ 1000 ∧ DrewP w [.int .i64 x, .int .i64 y] e w'

end Go.Proofs.YtlccmgdmfchmnaaDoor
