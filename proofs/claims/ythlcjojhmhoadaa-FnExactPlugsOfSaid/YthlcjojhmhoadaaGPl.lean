/-
  The model's PlanValid.
  Slices of numbers that a call has made, whole, in a block of their own; the model's PlanEmpty.
  The model's PlanFind.
  What stands while other blocks change; a place of a row of the call's own.
-/
import Derived.Test.YthlcjojhmhoadaaGSl
import Derived.Test.YthlcjojhmhoadaaGBx
import Derived.Test.YthlcjojhmhoadaaGBase
import Derived.Test.YthlcjojhmhoadaaGYh
import Derived.Test.YthlcjojhmhoadaaGPm
import Derived.Deep.RegionHeld3
namespace Go.Proofs.Ythlcjojhmhoadaa
open Go.RowKit
set_option linter.unusedVariables false

end Go.Proofs.Ythlcjojhmhoadaa
namespace Go.Proofs.Ythlcjojhmhoadaa
open Go.RowKit
set_option linter.unusedVariables false

/-- A slice that holds these numbers, at the head of a block of its own, from K on. -/
def OwnI (K : Nat) (w : World) (v : Value) (l : List Int) : Prop := w.ownsRow K 3 1 v l.length (rowI l)
theorem OwnI.new {K : Nat} {w : World} {v : Value} {l : List Int} (h : OwnI K w v l) : NewI K w v l := NewI.of_own h
theorem OwnI.holds {K : Nat} {w : World} {v : Value} {l : List Int} (h : OwnI K w v l) : HoldsI w v l := h.new.holds
theorem OwnI.keep {K : Nat} {w w' : World} {v : Value} {l : List Int} (h : OwnI K w v l) (hb : Below w.heap.size w w') : OwnI K w' v l := own_keep h fun k _ hk => hb.block k hk
theorem OwnI.from_ {K K' : Nat} {w : World} {v : Value} {l : List Int} (h : OwnI K w v l) (hk : K' ≤ K) : OwnI K' w v l := by
  obtain ⟨h1, h2⟩ := h
  refine ⟨h1, ?_⟩
  rcases h2 with h2 | ⟨g, cap, cur, e1, e2, e3⟩
  · exact .inl h2
  · exact .inr ⟨g, cap, cur, e1, Nat.le_trans hk e2, e3⟩
theorem OwnI.zero {K : Nat} {w : World} (hk : K ≤ w.heap.size) : OwnI K (w.alloc (.cells #[] 3)) (.slice (some ⟨w.heap.size, 0, none⟩) 0 0) [] := own_empty hk (heap_alloc_new _ _)
theorem OwnI.form {K : Nat} {w : World} {v : Value} {l : List Int} (h : OwnI K w v l) (hn : 0 < l.length) :
    ∃ g cap cur, v = .slice (some ⟨g, 0, none⟩) l.length cap ∧ K ≤ g ∧ g < w.heap.size ∧ w.heap[g]? = some (.cells cur 3 (0, 0)) ∧ l.length ≤ cap ∧ cap ≤ maxLen ∧ cur.size = cap ∧ cur.toList.take l.length = rowI l := by
  obtain ⟨h1, h2⟩ := h
  rcases h2 with ⟨_, h2⟩ | ⟨g, cap, cur, e1, e2, e3, e4, e5, e6, e7⟩
  · omega
  · refine ⟨g, cap, cur, e1, e2, free_lt e3, e3, e4, e5, by omega, by rw [Nat.mul_one] at e7; exact e7⟩
theorem OwnI.free {K : Nat} {w : World} {v : Value} {l : List Int} (h : OwnI K w v l) (hn : 0 < l.length) : FreeI K w v l := by
  obtain ⟨g, cap, cur, e1, e2, e3, e4, e5, e6, e7, e8⟩ := h.form hn
  refine ⟨g, cap, e1, e2, e3, e5, e6, cur, 3, e4, by omega, fun k hk => ?_⟩
  have : (cur.toList.take l.length)[k]? = (rowI l)[k]? := by rw [e8]
  rw [List.getElem?_take, if_pos hk] at this
  rw [← Array.getElem?_toList, this]
  simp [rowI, hk]
/-- A number is stored. -/
theorem OwnI.set {K g cap : Nat} {w : World} {l : List Int} (h : OwnI K w (.slice (some ⟨g, 0, none⟩) l.length cap) l) {k : Nat} (hk : k < l.length) (x : Int) :
    OwnI K (w.setCell ⟨g, k, none⟩ (.int .i64 x)) (.slice (some ⟨g, 0, none⟩) l.length cap) (l.set k x) := by
  obtain ⟨g', cap', cur, e1, e2, e3, e4, e5, e6, e7, e8⟩ := h.form (by omega)
  simp only [Value.slice.injEq, Option.some.injEq, Addr.mk.injEq] at e1
  obtain ⟨⟨rfl, -, -⟩, -, rfl⟩ := e1
  refine ⟨by simp [rowI], .inr ⟨g, cap, _, by rw [List.length_set], e2, Joins.block_setCell e4 _, by rw [List.length_set]; exact e5, e6, by simpa using e7, ?_⟩⟩
  rw [List.length_set, Nat.mul_one, Array.toList_setIfInBounds, List.take_set, e8]
  simp [rowI, List.map_set]
theorem OwnI.made {K n : Nat} {w : World} {v : Value} (h : w.ownsRow K 3 1 v n (madeCells (Value.int .i64 0).cells (n * 1)).toList) : OwnI K w v (List.replicate n 0) := by
  have e : (madeCells (Value.int .i64 0).cells (n * 1)).toList = rowI (List.replicate n 0) := by
    apply List.ext_getElem
    · simp [madeCells, rowI]
    · intro i h1 h2
      simp [madeCells, rowI, Value.cells, Nat.mod_one]
  rw [e] at h
  unfold OwnI
  rw [List.length_replicate]
  exact h

/-- What PlanEmpty gives. -/
def emptyP (h : Hl) : List Int := if hlOk h = true then List.replicate (slMany h).toNat 0 else []

end Go.Proofs.Ythlcjojhmhoadaa
namespace Go.Proofs.Ythlcjojhmhoadaa
open Go.RowKit
set_option linter.unusedVariables false

end Go.Proofs.Ythlcjojhmhoadaa
namespace Go.Proofs.Ythlcjojhmhoadaa
open Go.RowKit
set_option linter.unusedVariables false

/-- The blocks from one on that were there stand as they were. -/
def Mid (a : Nat) (w w' : World) : Prop := w.heap.size ≤ w'.heap.size ∧ ∀ k, a ≤ k → k < w.heap.size → w'.heap[k]? = w.heap[k]?
theorem Mid.refl (a : Nat) (w : World) : Mid a w w := ⟨Nat.le_refl _, fun _ _ _ => rfl⟩
theorem Mid.on {a : Nat} {w w1 w2 : World} (h : Mid a w w1) (hb : Below w1.heap.size w1 w2) : Mid a w w2 := ⟨Nat.le_trans h.1 hb.size, fun k hk hl => (hb.block k (Nat.lt_of_lt_of_le hl h.1)).trans (h.2 k hk hl)⟩
theorem Mid.alloc {a : Nat} {w w1 : World} (h : Mid a w w1) (o : Obj) : Mid a w (w1.alloc o) := h.on ((Below.refl _ _).alloc (Nat.le_refl _) o)
theorem Mid.grown {a : Nat} {w w1 w2 : World} {row : Option Nat} (h : Mid a w w1) (hg : w1.grownBy w2 row) (hr : ∀ k, row = some k → k < a ∨ w.heap.size ≤ k) : Mid a w w2 :=
  ⟨Nat.le_trans h.1 hg.size, fun k hk hl => (hg.block k (Nat.lt_of_lt_of_le hl h.1) (fun e => by
    rcases hr k e.symm with e2 | e2 <;> omega)).trans (h.2 k hk hl)⟩
theorem NewI.mid {a : Nat} {w w' : World} {v : Value} {l : List Int} (h : NewI a w v l) (hm : Mid a w w') : NewI a w' v l := by
  obtain ⟨x, cap, h1, h2, h3, h4⟩ := h
  refine ⟨x, cap, h1, h2, h3, ?_⟩
  rcases h4 with h4 | ⟨b, off, h5, h6, h7, h8⟩
  · exact .inl h4
  · exact .inr ⟨b, off, h5, h6, Nat.lt_of_lt_of_le h7 hm.1, fun k hk => (World.cell?_of_block (w := w) (hm.2 b h6 h7)).trans (h8 k hk)⟩
/-- A place of a row of the call's own can be written. -/
theorem OwnI.slot {K g cap n : Nat} {w : World} {q : List Int} (h : OwnI K w (.slice (some ⟨g, 0, none⟩) n cap) q) {k : Nat} (hk : k < q.length) : K ≤ g ∧ g < w.heap.size ∧ n = q.length ∧ (∃ x, w.cell? ⟨g, k, none⟩ = some x) ∧ w.frozen? ⟨g, k, none⟩ = false := by
  obtain ⟨g', cap', cur, e, hg1, hg2, hcur, hcap, hcapm, hcs, hct⟩ := h.form (by omega)
  simp only [Value.slice.injEq, Option.some.injEq, Addr.mk.injEq, and_true] at e
  obtain ⟨rfl, rfl, rfl⟩ := e
  refine ⟨hg1, hg2, rfl, ⟨cur[k]'(by omega), ?_⟩, by simp [World.frozen?, hcur]⟩
  simp only [World.cell?, hcur]
  exact Array.getElem?_eq_getElem _
end Go.Proofs.Ythlcjojhmhoadaa
