/-
  Stage 7's draws: a ship, boxes and a plan; numbers besides.
-/
import Derived.Test.YtnnjphhkheocgaaPlD
import Derived.Test.YtnnjphhkheocgaaSlW
namespace Go.Proofs.Ytnnjphhkheocgaa
open Go.RowKit
set_option linter.unusedVariables false

/-- What a draw of a ship, boxes and a plan gives its law; with numbers besides. -/
def DrewP (w : World) (xs : List Value) (e : Ending) (w' : World) : Prop :=
  ∃ (h : Hl) (l : List Bx) (pl : List Int) (u v : Value), l.length ≤ 40 ∧ pl.length ≤ 40 ∧ e = .returned (.tuple (#[.agg #[.int .i64 h.b, .int .i64 h.r, .int .i64 h.t], u, v] ++ xs.toArray)) ∧ NewBx w.heap.size w' u l ∧ OwnI w.heap.size w' v pl ∧ Below w.heap.size w w'
def DrewP0 (w : World) (e : Ending) (w' : World) : Prop := DrewP w [] e w'
def DrewP1 (w : World) (e : Ending) (w' : World) : Prop := ∃ x : Int, DrewP w [.int .i64 x] e w'
def DrewP2 (w : World) (e : Ending) (w' : World) : Prop := ∃ x y : Int, DrewP w [.int .i64 x, .int .i64 y] e w'
theorem Only3 (R : Nat) (w : World) (a b c : Value) : MostB R w (((w.setCell ⟨R, 0, none⟩ a).setCell ⟨R, 1, none⟩ b).setCell ⟨R, 2, none⟩ c) :=
  (((Only.set R 0 w a).trans (Only.set R 1 _ b)).trans (Only.set R 2 _ c)).mostB

end Go.Proofs.Ytnnjphhkheocgaa
