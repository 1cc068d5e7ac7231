/-
  What draws of lists share: rows of the call's own beside the reader.
-/
import Derived.Test.YthdhephcegbjmaaDrB
import Derived.Test.YthdhephcegbjmaaBxS
import Derived.OwnWalk
namespace Go.Proofs.Ythdhephcegbjmaa
open Go.RowKit
set_option linter.unusedVariables false

theorem MostB.refl (B : Nat) (w : World) : MostB B w w := ⟨rfl, rfl, rfl, Nat.le_refl _, fun _ _ _ => rfl⟩
theorem MostB.trans {B : Nat} {a b c : World} (h : MostB B a b) (k : MostB B b c) : MostB B a c :=
  ⟨k.os.trans h.os, k.tape.trans h.tape, k.output.trans h.output, Nat.le_trans h.size k.size, fun i hi hl => (k.block i hi (Nat.lt_of_lt_of_le hl h.size)).trans (h.block i hi hl)⟩
theorem Only.mostB {B : Nat} {w w' : World} (h : Only B w w') : MostB B w w' := ⟨h.os, h.tape, h.output, Nat.le_of_eq h.size.symm, fun k hk _ => h.block k hk⟩
theorem MostB.below_ {B : Nat} {a w w' : World} (h : MostB B a w) (hb : Below a.heap.size w w') : MostB B a w' :=
  ⟨hb.os.trans h.os, hb.tape.trans h.tape, hb.output.trans h.output, Nat.le_trans h.size hb.size, fun i hi hl => (hb.block i hl).trans (h.block i hi hl)⟩
theorem MostB.alloc {B : Nat} {a w : World} (h : MostB B a w) (o : Obj) : MostB B a (w.alloc o) := h.below_ ((Below.refl _ _).alloc h.size o)
theorem MostB.under {B base : Nat} {w w' : World} (h : MostB B w w') (hb : base ≤ B) (hs : base ≤ w.heap.size) : Below base w w' :=
  ⟨h.os, h.tape, h.output, h.size, fun k hk => h.block k (by omega) (by omega)⟩
/-- A reader stands in every world that kept all blocks below one above it. -/
theorem Rdr.keepK {base B p K : Nat} {w w' : World} (h : Rdr base B p w) (hb : Below K w w') (hK : B < K) : Rdr base B p w' := by
  obtain ⟨h0, h1, h2, h3, h4⟩ := h
  have hB : ∀ o, w'.cell? ⟨B, o, none⟩ = w.cell? ⟨B, o, none⟩ := fun o => hb.cell (p := ⟨B, o, none⟩) hK
  refine ⟨h0, Nat.lt_of_lt_of_le h1 hb.size, by rw [hB]; exact h2, (hb.frozen (p := ⟨B, 1, none⟩) hK).trans h3, ?_⟩
  rcases h4 with ⟨a, cap, h⟩ | ⟨b, off, len, cap, hb', hl, hl', hs, hc⟩
  · exact .inl ⟨a, cap, by rw [hB]; exact h⟩
  · refine .inr ⟨b, off, len, cap, hb', hl, hl', by rw [hB]; exact hs, fun i hi => ?_⟩
    obtain ⟨c, c0, c1, hci⟩ := hc i hi
    exact ⟨c, c0, c1, (hb.cell (p := ⟨b, off + i, none⟩) (by show b < K; omega)).trans hci⟩
theorem own_lt {w : World} {base n size : Nat} {e : TypeId} {v : Value} {xs : List Value} (h : w.ownsRow base e size v n xs) (k : Nat) (hk : v.ownBlock = some k) : base ≤ k ∧ k < w.heap.size := by
  rcases h.2 with ⟨rfl, _⟩ | ⟨g, cap, cur, rfl, hb, hg, _⟩
  · simp [Value.ownBlock] at hk
  · have e : g = k := by simpa [Value.ownBlock] using hk
    subst e
    refine ⟨hb, ?_⟩
    rcases Nat.lt_or_ge g w.heap.size with h' | h'
    · exact h'
    · rw [Array.getElem?_eq_none h'] at hg; cases hg
/-- An owned row stays where its block stays. -/
theorem own_keep {w w' : World} {base n size : Nat} {e : TypeId} {v : Value} {xs : List Value} (h : w.ownsRow base e size v n xs) (hk : ∀ k, base ≤ k → k < w.heap.size → w'.heap[k]? = w.heap[k]?) : w'.ownsRow base e size v n xs := by
  refine ⟨h.1, ?_⟩
  rcases h.2 with h2 | ⟨g, cap, cur, rfl, hb, hg, h3⟩
  · exact .inl h2
  · have := (own_lt h g (by simp [Value.ownBlock])).2
    exact .inr ⟨g, cap, cur, rfl, hb, by rw [hk g hb this]; exact hg, h3⟩
theorem own_most {w w' : World} {base n size B : Nat} {e : TypeId} {v : Value} {xs : List Value} (h : w.ownsRow base e size v n xs) (hm : MostB B w w') (hB : B < base) : w'.ownsRow base e size v n xs :=
  own_keep h fun k hk hl => hm.block k (by omega) hl
/-- Behind an append to a row of the call's own nothing elder has turned. -/
theorem own_below {w w1 : World} {K : Nat} {v : Value} (hg : w.grownBy w1 v.ownBlock) (hK : K ≤ w.heap.size) (hv : ∀ k, v.ownBlock = some k → K ≤ k) : Below K w w1 := (Below.refl K w).grown hg hK hv

/-- The cells of a list of boxes. -/
def rowB (l : List Bx) : List Value := l.flatMap Bx.cells
theorem rowB_len : ∀ l : List Bx, (rowB l).length = l.length * 5
  | [] => rfl
  | b :: l => by
    have e : rowB (b :: l) = b.cells ++ rowB l := rfl
    rw [e, List.length_append, rowB_len l, List.length_cons]
    show 5 + _ = _
    omega
theorem rowB_app (l l' : List Bx) : rowB (l ++ l') = rowB l ++ rowB l' := by simp [rowB]
theorem rowB_at : ∀ (l : List Bx) (k : Nat) (hk : k < l.length) (j : Nat), j < 5 → (rowB l)[k * 5 + j]? = l[k].cells[j]?
  | b :: l, 0, _, j, hj => by
    have e : rowB (b :: l) = b.cells ++ rowB l := rfl
    rw [e, List.getElem?_append_left (by show 0 * 5 + j < 5; omega), Nat.zero_mul, Nat.zero_add]
    rfl
  | b :: l, k + 1, hk, j, hj => by
    have e : rowB (b :: l) = b.cells ++ rowB l := rfl
    rw [e, List.getElem?_append_right (by show 5 ≤ _; omega)]
    have e2 : (k + 1) * 5 + j - b.cells.length = k * 5 + j := by show (k + 1) * 5 + j - 5 = _; omega
    rw [e2, rowB_at l k (by simpa using hk) j hj]
    rfl

/-- A slice of boxes that lies from block K on. -/
def NewBx (K : Nat) (w : World) (v : Value) (l : List Bx) : Prop :=
  ∃ (a : Option Addr) (cap : Nat), v = .slice a l.length cap ∧ l.length ≤ cap ∧ cap ≤ maxLen ∧
    (l.length = 0 ∨ ∃ b off, a = some ⟨b, off, none⟩ ∧ K ≤ b ∧ b < w.heap.size ∧ ∀ k (hk : k < l.length), ∀ j, j < 5 → w.cell? ⟨b, off + (k * 5 + j), none⟩ = l[k].cells[j]?)
theorem NewBx.holds {K : Nat} {w : World} {v : Value} {l : List Bx} (h : NewBx K w v l) : HoldsBx w v l := by
  obtain ⟨a, cap, h1, h2, h3, h4⟩ := h
  exact ⟨a, cap, h1, h2, h3, h4.imp id fun ⟨b, off, h5, _, h6, h7⟩ => ⟨b, off, h5, h6, h7⟩⟩
theorem NewBx.most {K B : Nat} {w w' : World} {v : Value} {l : List Bx} (h : NewBx K w v l) (hm : MostB B w w') (hB : B < K) : NewBx K w' v l := by
  obtain ⟨a, cap, h1, h2, h3, h4⟩ := h
  refine ⟨a, cap, h1, h2, h3, ?_⟩
  rcases h4 with h4 | ⟨b, off, h5, h6, h7, h8⟩
  · exact .inl h4
  · exact .inr ⟨b, off, h5, h6, Nat.lt_of_lt_of_le h7 hm.size, fun k hk j hj => (World.cell?_of_block (w := w) (hm.block b (by omega) h7)).trans (h8 k hk j hj)⟩
theorem NewBx.of_own {w : World} {base : Nat} {e : TypeId} {v : Value} {l : List Bx} (h : w.ownsRow base e 5 v l.length (rowB l)) : NewBx base w v l := by
  rcases h.2 with ⟨rfl, h0⟩ | ⟨g, cap, cur, rfl, hb, hg, hc, hm, hs, hx⟩
  · exact ⟨none, 0, by rw [h0], by omega, by simp [maxLen], .inl h0⟩
  · have hlt := (own_lt h g (by simp [Value.ownBlock])).2
    refine ⟨some ⟨g, 0, none⟩, cap, rfl, hc, hm, .inr ⟨g, 0, rfl, hb, hlt, fun k hk j hj => ?_⟩⟩
    rw [← rowB_at l k hk j hj, ← hx, List.getElem?_take, if_pos (by omega), Nat.zero_add]
    simp [World.cell?, hg]
end Go.Proofs.Ythdhephcegbjmaa
