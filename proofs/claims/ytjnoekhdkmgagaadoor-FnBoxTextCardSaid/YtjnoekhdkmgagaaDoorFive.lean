/-
  A box laid into a result's place, cell by cell.
-/
import Derived.Test.YtjnoekhdkmgagaaDoorRows
import Derived.WalkKit
import Derived.Lib.SmallJoins
import Derived.Below
namespace Go.Proofs.YtjnoekhdkmgagaaDoor
open Go.RowKit
set_option linter.unusedVariables false

theorem fiveOpen {w : World} {R : Nat} {v0 v1 v2 v3 v4 : Value} {t : TypeId} (h : w.heap[R]? = some (.cells #[v0, v1, v2, v3, v4] t (0, 0))) :
    (w.cell? ⟨R, 0, none⟩ = some v0 ∧ w.cell? ⟨R, 1, none⟩ = some v1 ∧ w.cell? ⟨R, 2, none⟩ = some v2 ∧ w.cell? ⟨R, 3, none⟩ = some v3 ∧ w.cell? ⟨R, 4, none⟩ = some v4) ∧ ∀ j, w.frozen? ⟨R, j, none⟩ = false := by
  refine ⟨⟨?_, ?_, ?_, ?_, ?_⟩, fun j => ?_⟩ <;> simp [World.cell?, World.frozen?, h]

/-- A box is laid into a result's place, block R. -/
theorem fiveEnds {w W : World} {R : Nat} {t : TypeId} {cs : Array Value} (hb : Below w.heap.size w W) (hR : W.heap[R]? = some (.cells cs t (0, 0))) (hw : w.heap.size ≤ R) (h5 : cs.size = 5) (v0 v1 v2 v3 v4 : Value) :
    Below w.heap.size w (((((W.setCell ⟨R, 0, none⟩ v0).setCell ⟨R, 1, none⟩ v1).setCell ⟨R, 2, none⟩ v2).setCell ⟨R, 3, none⟩ v3).setCell ⟨R, 4, none⟩ v4) ∧
    (((((W.setCell ⟨R, 0, none⟩ v0).setCell ⟨R, 1, none⟩ v1).setCell ⟨R, 2, none⟩ v2).setCell ⟨R, 3, none⟩ v3).setCell ⟨R, 4, none⟩ v4).heap[R]? = some (.cells #[v0, v1, v2, v3, v4] t (0, 0)) := by
  have e0 := Joins.block_setCell (i := 0) hR v0
  have b0 := hb.setCell (p := ⟨R, 0, none⟩) hw v0
  generalize W.setCell ⟨R, 0, none⟩ v0 = W0 at e0 b0 ⊢
  have e1 := Joins.block_setCell (i := 1) e0 v1
  have b1 := b0.setCell (p := ⟨R, 1, none⟩) hw v1
  generalize W0.setCell ⟨R, 1, none⟩ v1 = W1 at e1 b1 ⊢
  have e2 := Joins.block_setCell (i := 2) e1 v2
  have b2 := b1.setCell (p := ⟨R, 2, none⟩) hw v2
  generalize W1.setCell ⟨R, 2, none⟩ v2 = W2 at e2 b2 ⊢
  have e3 := Joins.block_setCell (i := 3) e2 v3
  have b3 := b2.setCell (p := ⟨R, 3, none⟩) hw v3
  generalize W2.setCell ⟨R, 3, none⟩ v3 = W3 at e3 b3 ⊢
  have e4 := Joins.block_setCell (i := 4) e3 v4
  have b4 := b3.setCell (p := ⟨R, 4, none⟩) hw v4
  generalize W3.setCell ⟨R, 4, none⟩ v4 = W4 at e4 b4 ⊢
  refine And.intro b4 ?_
  rw [e4]
  clear e0 e1 e2 e3 e4 b0 b1 b2 b3 b4 hR hb
  obtain ⟨l⟩ := cs
  match l, h5 with
  | [a, b, c, d, e], _ => simp
end Go.Proofs.YtjnoekhdkmgagaaDoor
