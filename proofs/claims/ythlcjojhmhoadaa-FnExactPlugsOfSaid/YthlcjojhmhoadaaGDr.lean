/-
  The contract of l20Box, which draws a box.
  Draws of one box: what they share.
  What draws of lists share: rows of the call's own beside the reader.
  The contract of l20Boxes, which draws a list of boxes.
-/
import Derived.Test.YthlcjojhmhoadaaGBase
import Derived.Test.YthlcjojhmhoadaaGBx
import Derived.Lib.SmallJoins
import Derived.Deep.Draws
import Derived.Laws.Rows
namespace Go.Proofs.Ythlcjojhmhoadaa
open Go.RowKit
set_option linter.unusedVariables false

/-- What a call of l20Box gives. -/
def DrewBox (base B p : Nat) (w : World) (e : Ending) (w' : World) : Prop :=
  ∃ (b : Bx) (q : Nat), q ≤ p + 8 ∧ e = .returned (.agg #[.int .i64 b.i, .int .i64 b.g, .int .i64 b.c, .int .i64 b.p, .bool b.d]) ∧ Rdr base B q w' ∧ MostB B w w'

theorem odd_all (base B q : Nat) (n : Int) (w : World) (h : Rdr base B q w) (hq : q ≤ 1000000) (hn0 : 0 ≤ n) (hn1 : n ≤ 1000) :
    Calls Try.prog 47 #[.pointer (some ⟨B, 0, none⟩), .int .i64 n] w fun e w' => ∃ (v : Bool) (q' : Nat), e = .returned (.bool v) ∧ q' ≤ q + 1 ∧ Rdr base B q' w' ∧ Only B w w' := by
  by_cases hn : n = 0
  · subst hn
    exact (odd_zero B w).mono fun e w' ⟨he, hw⟩ => ⟨false, q, he, by omega, by subst hw; exact h, by subst hw; exact Only.refl _ _⟩
  · exact (odd_any base B q n w h (by omega) (by omega) (by omega)).mono fun e w' ⟨v, he, hr, ho⟩ => ⟨v, q + 1, he, by omega, hr, ho⟩

/-- How a drawn box ends: it is laid into the answer's place. -/
theorem MostB.set {B R : Nat} {w0 w : World} (h : MostB B w0 w) (hR : w0.heap.size ≤ R) (j : Nat) (v : Value) : MostB B w0 (w.setCell ⟨R, j, none⟩ v) := by
  have k : ∀ i, i ≠ R → (w.setCell ⟨R, j, none⟩ v).heap[i]? = w.heap[i]? := fun i hi => Below.heap_setCell w _ v i hi
  have hz : (w.setCell ⟨R, j, none⟩ v).heap.size = w.heap.size := by simp [World.setCell]
  exact ⟨h.os, h.tape, h.output, by rw [hz]; exact h.size, fun i hi hl => (k i (by omega)).trans (h.block i hi hl)⟩
def Shut (B base q : Nat) (w0 w : World) : Prop := Rdr base B q w ∧ MostB B w0 w
theorem Shut.set {B base q : Nat} {w0 w : World} (h : Shut B base q w0 w) (hB : B < w0.heap.size) (j : Nat) (v : Value) : Shut B base q w0 (w.setCell ⟨w0.heap.size, j, none⟩ v) := by
  have hb := h.1.1
  exact ⟨h.1.set_other (by omega) (by omega) j v, h.2.set (Nat.le_refl _) j v⟩
end Go.Proofs.Ythlcjojhmhoadaa
namespace Go.Proofs.Ythlcjojhmhoadaa
open Go.RowKit
set_option linter.unusedVariables false

theorem MostB.below {B base : Nat} {w w' : World} (h : MostB B w w') (hb : base ≤ B) (hs : base ≤ w.heap.size) : Below base w w' :=
  ⟨h.os, h.tape, h.output, h.size, fun k hk => h.block k (by omega) (by omega)⟩

/-- What a draw of one box gives. -/
def DrewOne (w : World) (e : Ending) (w' : World) : Prop :=
  ∃ b : Bx, e = .returned (.agg #[.int .i64 b.i, .int .i64 b.g, .int .i64 b.c, .int .i64 b.p, .bool b.d]) ∧ Below w.heap.size w w'

theorem cell_lt {w : World} {p : Addr} {v : Value} (h : w.cell? p = some v) : p.block < w.heap.size := by
  rcases Nat.lt_or_ge p.block w.heap.size with h' | h'
  · exact h'
  · rw [World.cell?, Array.getElem?_eq_none h'] at h; cases h
theorem IsRow8.keep {w w' : World} {a : Option Addr} {len cap : Nat} (h : IsRow8 w a len cap) (hb : Below w.heap.size w w') : IsRow8 w' a len cap := by
  rcases h with h | ⟨x, h1, h2, h3, h4⟩
  · exact .inl h
  · refine .inr ⟨x, h1, h2, h3, fun i hi => ?_⟩
    obtain ⟨c, c0, c1, hc⟩ := h4 i hi
    exact ⟨c, c0, c1, (hb.cell (cell_lt hc)).trans hc⟩
theorem five_open {w : World} {R : Nat} {v0 v1 v2 v3 v4 : Value} {t : TypeId} (h : w.heap[R]? = some (.cells #[v0, v1, v2, v3, v4] t (0, 0))) :
    (w.cell? ⟨R, 0, none⟩ = some v0 ∧ w.cell? ⟨R, 1, none⟩ = some v1 ∧ w.cell? ⟨R, 2, none⟩ = some v2 ∧ w.cell? ⟨R, 3, none⟩ = some v3 ∧ w.cell? ⟨R, 4, none⟩ = some v4) ∧ ∀ j, w.frozen? ⟨R, j, none⟩ = false := by
  refine ⟨⟨?_, ?_, ?_, ?_, ?_⟩, fun j => ?_⟩ <;> simp [World.cell?, World.frozen?, h]

/-- How a draw of one box ends: what the inner draw gave is laid into the answer's place, block R. -/
theorem DrewOne.ends {w W : World} {R : Nat} {t : TypeId} {cs : Array Value} (hb : Below w.heap.size w W) (hR : W.heap[R]? = some (.cells cs t (0, 0))) (hw : w.heap.size ≤ R) (h5 : cs.size = 5) (v0 v1 v2 v3 v4 : Value) :
    Below w.heap.size w (((((W.setCell ⟨R, 0, none⟩ v0).setCell ⟨R, 1, none⟩ v1).setCell ⟨R, 2, none⟩ v2).setCell ⟨R, 3, none⟩ v3).setCell ⟨R, 4, none⟩ v4) ∧
    (((((W.setCell ⟨R, 0, none⟩ v0).setCell ⟨R, 1, none⟩ v1).setCell ⟨R, 2, none⟩ v2).setCell ⟨R, 3, none⟩ v3).setCell ⟨R, 4, none⟩ v4).heap[R]? = some (.cells #[v0, v1, v2, v3, v4] t (0, 0)) := by
  have e0 := Joins.block_setCell (i := 0) hR v0
  have b0 := hb.setCell (p := ⟨R, 0, none⟩) hw v0
  generalize W.setCell ⟨R, 0, none⟩ v0 = W0 at e0 b0 ⊢
  have e1 := Joins.block_setCell (i := 1) e0 v1
  have b1 := b0.setCell (p := ⟨R, 1, none⟩) hw v1
  generalize W0.setCell ⟨R, 1, none⟩ v1 = W1 at e1 b1 ⊢
  have e2 := Joins.block_setCell (i := 2) e1 v2
  have b2 := b1.setCell (p := ⟨R, 2, none⟩) hw v2
  generalize W1.setCell ⟨R, 2, none⟩ v2 = W2 at e2 b2 ⊢
  have e3 := Joins.block_setCell (i := 3) e2 v3
  have b3 := b2.setCell (p := ⟨R, 3, none⟩) hw v3
  generalize W2.setCell ⟨R, 3, none⟩ v3 = W3 at e3 b3 ⊢
  have e4 := Joins.block_setCell (i := 4) e3 v4
  have b4 := b3.setCell (p := ⟨R, 4, none⟩) hw v4
  generalize W3.setCell ⟨R, 4, none⟩ v4 = W4 at e4 b4 ⊢
  refine And.intro b4 ?_
  rw [e4]
  clear e0 e1 e2 e3 e4 b0 b1 b2 b3 b4 hR hb
  obtain ⟨l⟩ := cs
  match l, h5 with
  | [a, b, c, d, e], _ => simp

end Go.Proofs.Ythlcjojhmhoadaa
namespace Go.Proofs.Ythlcjojhmhoadaa
open Go.RowKit
set_option linter.unusedVariables false

/-- The cells of a list of boxes. -/
def rowB (l : List Bx) : List Value := l.flatMap Bx.cells
theorem rowB_len : ∀ l : List Bx, (rowB l).length = l.length * 5
  | [] => rfl
  | b :: l => by
    have e : rowB (b :: l) = b.cells ++ rowB l := rfl
    rw [e, List.length_append, rowB_len l, List.length_cons]
    show 5 + _ = _
    omega
theorem rowB_app (l l' : List Bx) : rowB (l ++ l') = rowB l ++ rowB l' := by simp [rowB]
theorem rowB_at : ∀ (l : List Bx) (k : Nat) (hk : k < l.length) (j : Nat), j < 5 → (rowB l)[k * 5 + j]? = l[k].cells[j]?
  | b :: l, 0, _, j, hj => by
    have e : rowB (b :: l) = b.cells ++ rowB l := rfl
    rw [e, List.getElem?_append_left (by show 0 * 5 + j < 5; omega), Nat.zero_mul, Nat.zero_add]
    rfl
  | b :: l, k + 1, hk, j, hj => by
    have e : rowB (b :: l) = b.cells ++ rowB l := rfl
    rw [e, List.getElem?_append_right (by show 5 ≤ _; omega)]
    have e2 : (k + 1) * 5 + j - b.cells.length = k * 5 + j := by show (k + 1) * 5 + j - 5 = _; omega
    rw [e2, rowB_at l k (by simpa using hk) j hj]
    rfl

/-- A slice of boxes that lies from block K on. -/
def NewBx (K : Nat) (w : World) (v : Value) (l : List Bx) : Prop :=
  ∃ (a : Option Addr) (cap : Nat), v = .slice a l.length cap ∧ l.length ≤ cap ∧ cap ≤ maxLen ∧
    (l.length = 0 ∨ ∃ b off, a = some ⟨b, off, none⟩ ∧ K ≤ b ∧ b < w.heap.size ∧ ∀ k (hk : k < l.length), ∀ j, j < 5 → w.cell? ⟨b, off + (k * 5 + j), none⟩ = l[k].cells[j]?)
theorem NewBx.holds {K : Nat} {w : World} {v : Value} {l : List Bx} (h : NewBx K w v l) : HoldsBx w v l := by
  obtain ⟨a, cap, h1, h2, h3, h4⟩ := h
  exact ⟨a, cap, h1, h2, h3, h4.imp id fun ⟨b, off, h5, _, h6, h7⟩ => ⟨b, off, h5, h6, h7⟩⟩
theorem NewBx.most {K B : Nat} {w w' : World} {v : Value} {l : List Bx} (h : NewBx K w v l) (hm : MostB B w w') (hB : B < K) : NewBx K w' v l := by
  obtain ⟨a, cap, h1, h2, h3, h4⟩ := h
  refine ⟨a, cap, h1, h2, h3, ?_⟩
  rcases h4 with h4 | ⟨b, off, h5, h6, h7, h8⟩
  · exact .inl h4
  · exact .inr ⟨b, off, h5, h6, Nat.lt_of_lt_of_le h7 hm.size, fun k hk j hj => (World.cell?_of_block (w := w) (hm.block b (by omega) h7)).trans (h8 k hk j hj)⟩
theorem NewBx.of_own {w : World} {base : Nat} {e : TypeId} {v : Value} {l : List Bx} (h : w.ownsRow base e 5 v l.length (rowB l)) : NewBx base w v l := by
  rcases h.2 with ⟨rfl, h0⟩ | ⟨g, cap, cur, rfl, hb, hg, hc, hm, hs, hx⟩
  · exact ⟨none, 0, by rw [h0], by omega, by simp [maxLen], .inl h0⟩
  · have hlt := (own_lt h g (by simp [Value.ownBlock])).2
    refine ⟨some ⟨g, 0, none⟩, cap, rfl, hc, hm, .inr ⟨g, 0, rfl, hb, hlt, fun k hk j hj => ?_⟩⟩
    rw [← rowB_at l k hk j hj, ← hx, List.getElem?_take, if_pos (by omega), Nat.zero_add]
    simp [World.cell?, hg]
end Go.Proofs.Ythlcjojhmhoadaa
namespace Go.Proofs.Ythlcjojhmhoadaa
open Go.RowKit
set_option linter.unusedVariables false

/-- What a draw of a list of boxes gives. -/
def DrewBoxes (base B p : Nat) (w : World) (e : Ending) (w' : World) : Prop :=
  ∃ (l : List Bx) (v : Value) (q : Nat), q ≤ p + 1000 ∧ l.length ≤ 40 ∧ e = .returned v ∧ NewBx w.heap.size w' v l ∧ Rdr base B q w' ∧ MostB B w w'

theorem own_boxes {w : World} {base : Nat} {e : TypeId} {v : Value} {l m : List Bx} {n : Nat} {xs : List Value} (h : w.ownsRow base e 5 v (l.length + n) (rowB l ++ xs)) (hm : m.length = n) (hx : xs = rowB m) : w.ownsRow base e 5 v (l ++ m).length (rowB (l ++ m)) := by
  subst hm hx
  rw [rowB_app, List.length_append]; exact h
theorem NewBx.from_ {K K' : Nat} {w : World} {v : Value} {l : List Bx} (h : NewBx K w v l) (hk : K' ≤ K) : NewBx K' w v l := by
  obtain ⟨a, cap, h1, h2, h3, h4⟩ := h
  exact ⟨a, cap, h1, h2, h3, h4.imp id fun ⟨b, off, h5, h6, h7⟩ => ⟨b, off, h5, by omega, h7⟩⟩
theorem eleven {w : World} {base : Nat} {e : TypeId} {v : Value} (h : w.ownsRow base e 5 v 11 (madeCells (Value.agg #[.int .i64 0, .int .i64 0, .int .i64 0, .int .i64 0, .bool false]).cells (11 * 5)).toList) : w.ownsRow base e 5 v (List.replicate 11 Bx.zero).length (rowB (List.replicate 11 Bx.zero)) := by
  have e1 : (madeCells (Value.agg #[.int .i64 0, .int .i64 0, .int .i64 0, .int .i64 0, .bool false]).cells (11 * 5)).toList = rowB (List.replicate 11 Bx.zero) := by kernel_rfl
  rw [e1] at h
  exact h
end Go.Proofs.Ythlcjojhmhoadaa
