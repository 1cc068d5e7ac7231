/-
  Pairs in memory that can be written.
-/
import Derived.Test.YtlccmgdmfchmnaaPr
namespace Go.Proofs.Ytlccmgdmfchmnaa
open Go.RowKit
set_option linter.unusedVariables false

/-- A list of pairs at the head of a block that can be written. -/
def FreePAt (g : Nat) (w : World) (v : Value) (l : List (Int × Int)) : Prop :=
  ∃ (cap : Nat) (cur : Array Value) (T : TypeId), v = .slice (some ⟨g, 0, none⟩) l.length cap ∧ l.length ≤ cap ∧ cap ≤ maxLen ∧ w.heap[g]? = some (.cells cur T (0, 0)) ∧ l.length * 2 ≤ cur.size ∧
    ∀ k (hk : k < l.length), cur[k * 2]? = some (.int .i64 l[k].1) ∧ cur[k * 2 + 1]? = some (.int .i64 l[k].2)
/-- Or an empty one. -/
def FreeQ (K : Nat) (w : World) (v : Value) (l : List (Int × Int)) : Prop := (l = [] ∧ ∃ a cap, v = .slice a 0 cap ∧ cap ≤ maxLen) ∨ ∃ g, K ≤ g ∧ FreePAt g w v l
theorem FreePAt.lt {g : Nat} {w : World} {v : Value} {l : List (Int × Int)} (h : FreePAt g w v l) : g < w.heap.size := by obtain ⟨cap, cur, T, h1, h3, h4, h5, h6⟩ := h; exact free_lt h5
theorem FreePAt.same {g : Nat} {w w' : World} {v : Value} {l : List (Int × Int)} (h : FreePAt g w v l) (hb : w'.heap[g]? = w.heap[g]?) : FreePAt g w' v l := by
  obtain ⟨cap, cur, T, h1, h3, h4, h5, h6⟩ := h
  exact ⟨cap, cur, T, h1, h3, h4, hb.trans h5, h6⟩
theorem FreePAt.holds {g : Nat} {w : World} {v : Value} {l : List (Int × Int)} (h : FreePAt g w v l) : HoldsM w v l := by
  obtain ⟨cap, cur, T, h1, h3, h4, h5, h6, h7⟩ := h
  refine ⟨_, cap, h1, h3, h4, .inr ⟨g, 0, rfl, free_lt h5, fun k hk => ?_⟩⟩
  obtain ⟨q1, q2⟩ := h7 k hk
  refine ⟨?_, ?_⟩
  · rw [Nat.zero_add, World.cell?, h5]; exact q1
  · rw [Nat.zero_add, World.cell?, h5]; exact q2
theorem FreeQ.holds {K : Nat} {w : World} {v : Value} {l : List (Int × Int)} (h : FreeQ K w v l) : HoldsM w v l := by
  rcases h with ⟨rfl, a, cap, rfl, hc⟩ | ⟨g, _, h⟩
  · exact ⟨a, cap, rfl, Nat.zero_le _, hc, .inl rfl⟩
  · exact h.holds
theorem FreeQ.keep {K : Nat} {w w' : World} {v : Value} {l : List (Int × Int)} (h : FreeQ K w v l) (hb : Below w.heap.size w w') : FreeQ K w' v l := by
  rcases h with h | ⟨g, hk, h⟩
  · exact .inl h
  · exact .inr ⟨g, hk, h.same (hb.block g h.lt)⟩
theorem FreeQ.most {K N : Nat} {w w' : World} {v : Value} {l : List (Int × Int)} (h : FreeQ K w v l) (hm : MostB N w w') (hN : N < K) : FreeQ K w' v l := by
  rcases h with h | ⟨g, hk, h⟩
  · exact .inl h
  · exact .inr ⟨g, hk, h.same (hm.block g (by omega) h.lt)⟩
theorem FreeQ.from_ {K K' : Nat} {w : World} {v : Value} {l : List (Int × Int)} (h : FreeQ K w v l) (hk : K' ≤ K) : FreeQ K' w v l := by
  rcases h with h | ⟨g, hk2, h⟩
  · exact .inl h
  · exact .inr ⟨g, by omega, h⟩
theorem FreeQ.nil {K : Nat} {w : World} : FreeQ K w (.slice none 0 0) [] := .inl ⟨rfl, none, 0, rfl, by simp [maxLen]⟩
theorem two_setP {w : World} {G : Nat} {cur : Array Value} {T : TypeId} (h : w.heap[G]? = some (.cells cur T (0, 0))) (o : Nat) (v0 v1 : Value) :
    ((w.setCell ⟨G, o, none⟩ v0).setCell ⟨G, o + 1, none⟩ v1).heap[G]? = some (.cells ((cur.setIfInBounds o v0).setIfInBounds (o + 1) v1) T (0, 0)) :=
  Joins.block_setCell (Joins.block_setCell h v0) v1
/-- The marks of a list of n pairs from q on. -/
def marksP (q n : Nat) : List (Int × Int) := (List.range n).map fun k => (((q + 2 * k : Nat) : Int), ((q + 2 * k : Nat) : Int) + 1)
theorem marksP_len (q n : Nat) : (marksP q n).length = n := by simp [marksP]
theorem marksP_at (q n k : Nat) (hk : k < (marksP q n).length) : (marksP q n)[k] = (((q + 2 * k : Nat) : Int), ((q + 2 * k : Nat) : Int) + 1) := by simp [marksP]
end Go.Proofs.Ytlccmgdmfchmnaa
