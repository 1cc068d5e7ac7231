/-
  Two closed facts of the program that every proof over it asks.
-/
import Derived.Test.YtdmbahpifbidlaaRows
import Derived.ProofKit
import Derived.ChangeOld
namespace Go.Proofs.Ytdmbahpifbidlaa

theorem own : ownKnob Try.prog.godebug = none := by kernel_rfl
theorem laidOut : laidOutB Try.prog = true := by kernel_rfl
end Go.Proofs.Ytdmbahpifbidlaa
