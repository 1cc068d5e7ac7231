/-
  The model's chapter 10, first part: Overstows, PortMoves.
-/
import Derived.Test.YtmgnbkiphdlooabGOm
import Derived.Test.YtmgnbkiphdlooabWtS
import Derived.Test.YtmgnbkiphdlooabGPl
import Derived.Test.YtmgnbkiphdlooabPlC
import Derived.Test.YtmgnbkiphdlooabGBase
import Derived.Laws.AppendOwnNone
import Derived.Deep.RegionHeld3
namespace Go.Proofs.Ytmgnbkiphdlooab
open Go.RowKit
set_option linter.unusedVariables false

/-- What a box is asked of one below it. -/
def ovG (T : Nat) (f : Int → Int) (p : List Int) (k j : Nat) : Bool := decide (pAt p j ≠ 0 ∧ k / T = j / T ∧ f (pAt p j) < f (pAt p k))
def mvG (T : Nat) (f : Int → Int) (q : Int) (p : List Int) (k j : Nat) : Bool := decide (pAt p j ≠ 0 ∧ k / T = j / T ∧ f (pAt p j) = q)
theorem overS_any {T : Nat} {f : Int → Int} {p : List Int} {k : Nat} (hz : pAt p k ≠ 0) : overS T f p k = anyN (ovG T f p k) k := by unfold overS; rw [decide_eq_true hz, Bool.true_and]; rfl
theorem overS_zero {T : Nat} {f : Int → Int} {p : List Int} {k : Nat} (hz : pAt p k = 0) : overS T f p k = false := by unfold overS; rw [hz]; rfl
theorem moveS_any {T : Nat} {f : Int → Int} {q : Int} {p : List Int} {k : Nat} (hz : pAt p k ≠ 0) : moveS T f q p k = (decide (f (pAt p k) = q) || anyN (mvG T f q p k) k) := by unfold moveS; rw [decide_eq_true hz, Bool.true_and]; rfl
theorem moveS_zero {T : Nat} {f : Int → Int} {q : Int} {p : List Int} {k : Nat} (hz : pAt p k = 0) : moveS T f q p k = false := by unfold moveS; rw [hz]; rfl

end Go.Proofs.Ytmgnbkiphdlooab
