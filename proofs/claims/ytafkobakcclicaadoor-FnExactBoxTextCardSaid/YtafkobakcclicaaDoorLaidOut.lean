/-
  Two closed facts of the program that every proof over it asks.
-/
import Derived.Test.YtafkobakcclicaaDoorRows
import Derived.ProofKit
import Derived.ChangeOld
namespace Go.Proofs.YtafkobakcclicaaDoor

theorem own : ownKnob Tryd.prog.godebug = none := by kernel_rfl
theorem laidOut : laidOutB Tryd.prog = true := by kernel_rfl
end Go.Proofs.YtafkobakcclicaaDoor
