/-
  Two closed facts of the program that every proof over it asks.
-/
import Derived.Test.YtnjmdfjplmakpaaRows
import Derived.ProofKit
import Derived.ChangeOld
namespace Go.Proofs.Ytnjmdfjplmakpaa

theorem own : ownKnob Try.prog.godebug = none := by kernel_rfl
theorem laidOut : laidOutB Try.prog = true := by kernel_rfl
end Go.Proofs.Ytnjmdfjplmakpaa
