/-
  What a draw of a text gives; a new block of texts.
-/
import Derived.Test.YtjnoekhdkmgagaaDoorGBase
namespace Go.Proofs.YtjnoekhdkmgagaaDoor
open Go.RowKit
set_option linter.unusedVariables false

/-- What a draw of a text gives. -/
def DrewText (n : Nat) (w : World) (e : Ending) (w' : World) : Prop :=
  ∃ s : ByteArray, s.size ≤ n ∧ e = .returned (.string s) ∧ Below w.heap.size w w'

theorem new_strings {w : World} (base B : Nat) (l : List ByteArray) (n : Nat) (hn : ∀ s ∈ l, s.size ≤ n) (T : TypeId) (w3 : World)
    (ho : Only B (w.alloc (.cells ((l.map Value.string).toArray) T)) w3) (hB : B < w.heap.size) (u : Int) (h0 : 0 ≤ u) (h1 : u < l.length) :
    ∃ s : ByteArray, w3.cell? ⟨w.heap.size, u.toNat, none⟩ = some (.string s) ∧ s.size ≤ n := by
  have hu : u.toNat < l.length := by omega
  refine ⟨l[u.toNat], ?_, hn _ (List.getElem_mem hu)⟩
  rw [ho.cell _ _ (by omega), World.cell?_alloc_new]
  simp [hu]

end Go.Proofs.YtjnoekhdkmgagaaDoor
