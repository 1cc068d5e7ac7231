/-
  The contract of the model's BoxText.
-/
import Derived.Test.YtnnjphhkheocgaaBx
import Derived.Test.YtnnjphhkheocgaaNo
import Derived.Test.YtnnjphhkheocgaaBtMath
import Derived.Deep.RegionHeld3
namespace Go.Proofs.Ytnnjphhkheocgaa
open Go.RowKit
set_option linter.unusedVariables false

/-- The box's cells in a world, and that nothing that was there has turned. -/
def HasBox (B : Nat) (i g c p : Int) (d : Bool) (w w' : World) : Prop :=
  w'.cell? ⟨B, 0, none⟩ = some (.int .i64 i) ∧ w'.cell? ⟨B, 1, none⟩ = some (.int .i64 g) ∧ w'.cell? ⟨B, 2, none⟩ = some (.int .i64 c) ∧ w'.cell? ⟨B, 3, none⟩ = some (.int .i64 p) ∧ w'.cell? ⟨B, 4, none⟩ = some (.bool d) ∧ B < w'.heap.size ∧ Below w.heap.size w w'
theorem HasBox.keep {B : Nat} {i g c p : Int} {d : Bool} {w w1 w2 : World} (h : HasBox B i g c p d w w1) (hb : Below w1.heap.size w1 w2) : HasBox B i g c p d w w2 := by
  obtain ⟨h0, h1, h2, h3, h4, h5, h6⟩ := h
  have k : ∀ o, w2.cell? ⟨B, o, none⟩ = w1.cell? ⟨B, o, none⟩ := fun o => hb.cell (p := ⟨B, o, none⟩) h5
  exact ⟨by rw [k]; exact h0, by rw [k]; exact h1, by rw [k]; exact h2, by rw [k]; exact h3, by rw [k]; exact h4, Nat.lt_of_lt_of_le h5 hb.size, h6.trans (hb.mono h6.size)⟩

/-- What the region's worlds bear: the four cells that it loads, and the rest. -/
theorem HasBox.bears {B : Nat} {i g c p : Int} {d : Bool} {w w1 : World} (h : HasBox B i g c p d w w1) :
    w1.cell? ⟨B, 0, none⟩ = some (.int .i64 i) ∧ w1.cell? ⟨B, 1, none⟩ = some (.int .i64 g) ∧ w1.cell? ⟨B, 2, none⟩ = some (.int .i64 c) ∧ w1.cell? ⟨B, 3, none⟩ = some (.int .i64 p) ∧ HasBox B i g c p d w w1 :=
  ⟨h.1, h.2.1, h.2.2.1, h.2.2.2.1, h⟩
theorem HasBox.bears_on {B : Nat} {i g c p : Int} {d : Bool} {w w1 w2 : World} (hb : Below w1.heap.size w1 w2)
    (h : w1.cell? ⟨B, 0, none⟩ = some (.int .i64 i) ∧ w1.cell? ⟨B, 1, none⟩ = some (.int .i64 g) ∧ w1.cell? ⟨B, 2, none⟩ = some (.int .i64 c) ∧ w1.cell? ⟨B, 3, none⟩ = some (.int .i64 p) ∧ HasBox B i g c p d w w1) :
    w2.cell? ⟨B, 0, none⟩ = some (.int .i64 i) ∧ w2.cell? ⟨B, 1, none⟩ = some (.int .i64 g) ∧ w2.cell? ⟨B, 2, none⟩ = some (.int .i64 c) ∧ w2.cell? ⟨B, 3, none⟩ = some (.int .i64 p) ∧ HasBox B i g c p d w w2 := (h.2.2.2.2.keep hb).bears
theorem HasBox.drew {B : Nat} {i g c p : Int} {d : Bool} {w w1 : World} (h : HasBox B i g c p d w w1) : HasBox B i g c p d w w1.drew := h.keep (Below.refl _ _).drew

/-- The text of a box: none if it is not valid. -/
def bxText (i g c p : Int) (d : Bool) : ByteArray := if bxOk i g c p = true then btS i g c p d else ⟨#[]⟩
end Go.Proofs.Ytnnjphhkheocgaa
