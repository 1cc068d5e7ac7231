/-
  Slices of numbers that a call has made, whole, in a block of their own; the model's PlanEmpty.
-/
import Derived.Test.YtggbgjadfmjaaabPlV
import Derived.Test.YtggbgjadfmjaaabGBase
namespace Go.Proofs.Ytggbgjadfmjaaab
open Go.RowKit
set_option linter.unusedVariables false

/-- A slice that holds these numbers, at the head of a block of its own, from K on. -/
def OwnI (K : Nat) (w : World) (v : Value) (l : List Int) : Prop := w.ownsRow K 3 1 v l.length (rowI l)
theorem OwnI.new {K : Nat} {w : World} {v : Value} {l : List Int} (h : OwnI K w v l) : NewI K w v l := NewI.of_own h
theorem OwnI.holds {K : Nat} {w : World} {v : Value} {l : List Int} (h : OwnI K w v l) : HoldsI w v l := h.new.holds
theorem OwnI.keep {K : Nat} {w w' : World} {v : Value} {l : List Int} (h : OwnI K w v l) (hb : Below w.heap.size w w') : OwnI K w' v l := own_keep h fun k _ hk => hb.block k hk
theorem OwnI.from_ {K K' : Nat} {w : World} {v : Value} {l : List Int} (h : OwnI K w v l) (hk : K' ≤ K) : OwnI K' w v l := by
  obtain ⟨h1, h2⟩ := h
  refine ⟨h1, ?_⟩
  rcases h2 with h2 | ⟨g, cap, cur, e1, e2, e3⟩
  · exact .inl h2
  · exact .inr ⟨g, cap, cur, e1, Nat.le_trans hk e2, e3⟩
theorem OwnI.zero {K : Nat} {w : World} (hk : K ≤ w.heap.size) : OwnI K (w.alloc (.cells #[] 3)) (.slice (some ⟨w.heap.size, 0, none⟩) 0 0) [] := own_empty hk (heap_alloc_new _ _)
theorem OwnI.form {K : Nat} {w : World} {v : Value} {l : List Int} (h : OwnI K w v l) (hn : 0 < l.length) :
    ∃ g cap cur, v = .slice (some ⟨g, 0, none⟩) l.length cap ∧ K ≤ g ∧ g < w.heap.size ∧ w.heap[g]? = some (.cells cur 3 (0, 0)) ∧ l.length ≤ cap ∧ cap ≤ maxLen ∧ cur.size = cap ∧ cur.toList.take l.length = rowI l := by
  obtain ⟨h1, h2⟩ := h
  rcases h2 with ⟨_, h2⟩ | ⟨g, cap, cur, e1, e2, e3, e4, e5, e6, e7⟩
  · omega
  · refine ⟨g, cap, cur, e1, e2, free_lt e3, e3, e4, e5, by omega, by rw [Nat.mul_one] at e7; exact e7⟩
theorem OwnI.free {K : Nat} {w : World} {v : Value} {l : List Int} (h : OwnI K w v l) (hn : 0 < l.length) : FreeI K w v l := by
  obtain ⟨g, cap, cur, e1, e2, e3, e4, e5, e6, e7, e8⟩ := h.form hn
  refine ⟨g, cap, e1, e2, e3, e5, e6, cur, 3, e4, by omega, fun k hk => ?_⟩
  have : (cur.toList.take l.length)[k]? = (rowI l)[k]? := by rw [e8]
  rw [List.getElem?_take, if_pos hk] at this
  rw [← Array.getElem?_toList, this]
  simp [rowI, hk]
/-- A number is stored. -/
theorem OwnI.set {K g cap : Nat} {w : World} {l : List Int} (h : OwnI K w (.slice (some ⟨g, 0, none⟩) l.length cap) l) {k : Nat} (hk : k < l.length) (x : Int) :
    OwnI K (w.setCell ⟨g, k, none⟩ (.int .i64 x)) (.slice (some ⟨g, 0, none⟩) l.length cap) (l.set k x) := by
  obtain ⟨g', cap', cur, e1, e2, e3, e4, e5, e6, e7, e8⟩ := h.form (by omega)
  simp only [Value.slice.injEq, Option.some.injEq, Addr.mk.injEq] at e1
  obtain ⟨⟨rfl, -, -⟩, -, rfl⟩ := e1
  refine ⟨by simp [rowI], .inr ⟨g, cap, _, by rw [List.length_set], e2, Joins.block_setCell e4 _, by rw [List.length_set]; exact e5, e6, by simpa using e7, ?_⟩⟩
  rw [List.length_set, Nat.mul_one, Array.toList_setIfInBounds, List.take_set, e8]
  simp [rowI, List.map_set]
theorem OwnI.made {K n : Nat} {w : World} {v : Value} (h : w.ownsRow K 3 1 v n (madeCells (Value.int .i64 0).cells (n * 1)).toList) : OwnI K w v (List.replicate n 0) := by
  have e : (madeCells (Value.int .i64 0).cells (n * 1)).toList = rowI (List.replicate n 0) := by
    apply List.ext_getElem
    · simp [madeCells, rowI]
    · intro i h1 h2
      simp [madeCells, rowI, Value.cells, Nat.mod_one]
  rw [e] at h
  unfold OwnI
  rw [List.length_replicate]
  exact h

/-- What PlanEmpty gives. -/
def emptyP (h : Hl) : List Int := if hlOk h = true then List.replicate (slMany h).toNat 0 else []

end Go.Proofs.Ytggbgjadfmjaaab
