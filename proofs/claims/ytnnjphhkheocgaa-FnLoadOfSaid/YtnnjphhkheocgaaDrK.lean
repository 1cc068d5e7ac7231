/-
  What draws of lists share: rows of the call's own beside the reader.
-/
import Derived.Test.YtnnjphhkheocgaaDrB
import Derived.Test.YtnnjphhkheocgaaBxS
namespace Go.Proofs.Ytnnjphhkheocgaa
open Go.RowKit
set_option linter.unusedVariables false

/-- The cells of a list of boxes. -/
def rowB (l : List Bx) : List Value := l.flatMap Bx.cells
theorem rowB_len : ∀ l : List Bx, (rowB l).length = l.length * 5
  | [] => rfl
  | b :: l => by
    have e : rowB (b :: l) = b.cells ++ rowB l := rfl
    rw [e, List.length_append, rowB_len l, List.length_cons]
    show 5 + _ = _
    omega
theorem rowB_app (l l' : List Bx) : rowB (l ++ l') = rowB l ++ rowB l' := by simp [rowB]
theorem rowB_at : ∀ (l : List Bx) (k : Nat) (hk : k < l.length) (j : Nat), j < 5 → (rowB l)[k * 5 + j]? = l[k].cells[j]?
  | b :: l, 0, _, j, hj => by
    have e : rowB (b :: l) = b.cells ++ rowB l := rfl
    rw [e, List.getElem?_append_left (by show 0 * 5 + j < 5; omega), Nat.zero_mul, Nat.zero_add]
    rfl
  | b :: l, k + 1, hk, j, hj => by
    have e : rowB (b :: l) = b.cells ++ rowB l := rfl
    rw [e, List.getElem?_append_right (by show 5 ≤ _; omega)]
    have e2 : (k + 1) * 5 + j - b.cells.length = k * 5 + j := by show (k + 1) * 5 + j - 5 = _; omega
    rw [e2, rowB_at l k (by simpa using hk) j hj]
    rfl

/-- A slice of boxes that lies from block K on. -/
def NewBx (K : Nat) (w : World) (v : Value) (l : List Bx) : Prop :=
  ∃ (a : Option Addr) (cap : Nat), v = .slice a l.length cap ∧ l.length ≤ cap ∧ cap ≤ maxLen ∧
    (l.length = 0 ∨ ∃ b off, a = some ⟨b, off, none⟩ ∧ K ≤ b ∧ b < w.heap.size ∧ ∀ k (hk : k < l.length), ∀ j, j < 5 → w.cell? ⟨b, off + (k * 5 + j), none⟩ = l[k].cells[j]?)
theorem NewBx.holds {K : Nat} {w : World} {v : Value} {l : List Bx} (h : NewBx K w v l) : HoldsBx w v l := by
  obtain ⟨a, cap, h1, h2, h3, h4⟩ := h
  exact ⟨a, cap, h1, h2, h3, h4.imp id fun ⟨b, off, h5, _, h6, h7⟩ => ⟨b, off, h5, h6, h7⟩⟩
theorem NewBx.most {K B : Nat} {w w' : World} {v : Value} {l : List Bx} (h : NewBx K w v l) (hm : MostB B w w') (hB : B < K) : NewBx K w' v l := by
  obtain ⟨a, cap, h1, h2, h3, h4⟩ := h
  refine ⟨a, cap, h1, h2, h3, ?_⟩
  rcases h4 with h4 | ⟨b, off, h5, h6, h7, h8⟩
  · exact .inl h4
  · exact .inr ⟨b, off, h5, h6, Nat.lt_of_lt_of_le h7 hm.size, fun k hk j hj => (World.cell?_of_block (w := w) (hm.block b (by omega) h7)).trans (h8 k hk j hj)⟩
theorem NewBx.of_own {w : World} {base : Nat} {e : TypeId} {v : Value} {l : List Bx} (h : w.ownsRow base e 5 v l.length (rowB l)) : NewBx base w v l := by
  rcases h.2 with ⟨rfl, h0⟩ | ⟨g, cap, cur, rfl, hb, hg, hc, hm, hs, hx⟩
  · exact ⟨none, 0, by rw [h0], by omega, by simp [maxLen], .inl h0⟩
  · have hlt := (own_lt h g (by simp [Value.ownBlock])).2
    refine ⟨some ⟨g, 0, none⟩, cap, rfl, hc, hm, .inr ⟨g, 0, rfl, hb, hlt, fun k hk j hj => ?_⟩⟩
    rw [← rowB_at l k hk j hj, ← hx, List.getElem?_take, if_pos (by omega), Nat.zero_add]
    simp [World.cell?, hg]
end Go.Proofs.Ytnnjphhkheocgaa
