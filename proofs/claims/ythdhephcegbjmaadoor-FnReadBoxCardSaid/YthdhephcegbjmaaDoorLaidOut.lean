/-
  Two closed facts of the program that every proof over it asks.
-/
import Derived.Test.YthdhephcegbjmaaDoorRows
import Derived.ProofKit
import Derived.ChangeOld
namespace Go.Proofs.YthdhephcegbjmaaDoor

theorem own : ownKnob Tryd.prog.godebug = none := by kernel_rfl
theorem laidOut : laidOutB Tryd.prog = true := by kernel_rfl
end Go.Proofs.YthdhephcegbjmaaDoor
