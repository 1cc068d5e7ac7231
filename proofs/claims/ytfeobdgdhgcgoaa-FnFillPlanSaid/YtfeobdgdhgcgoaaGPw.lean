/-
  Stage 6's draws: a ship, and places or slots of it.
  Stage 7's draws: a ship, boxes and a plan; numbers besides.
-/
import Derived.Test.YtfeobdgdhgcgoaaSlD
import Derived.Deep.RegionHeld3
import Derived.Test.YtfeobdgdhgcgoaaPlD
namespace Go.Proofs.Ytfeobdgdhgcgoaa
open Go.RowKit
set_option linter.unusedVariables false

theorem row8_keepS {w w' : World} {a : Option Addr} {len cap : Nat} (h : IsRow8 w a len cap) (hb : Below w.heap.size w w') : IsRow8 w' a len cap := by
  rcases h with h | ⟨x, h1, h2, h3, h4⟩
  · exact .inl h
  · refine .inr ⟨x, h1, h2, h3, fun i hi => ?_⟩
    obtain ⟨c, c0, c1, hc⟩ := h4 i hi
    have hlt : (x.add i).block < w.heap.size := by
      rcases Nat.lt_or_ge (x.add i).block w.heap.size with h' | h'
      · exact h'
      · rw [World.cell?, Array.getElem?_eq_none h'] at hc; cases hc
    exact ⟨c, c0, c1, (hb.cell hlt).trans hc⟩
theorem BoxH.at_ {B : Nat} {w w' : World} {h : Hl} (hb : BoxH B w h) (hk : w'.heap[B]? = w.heap[B]?) : BoxH B w' h := by unfold BoxH at hb ⊢; rw [hk]; exact hb
theorem BoxH.frozen {B : Nat} {w : World} {h : Hl} (hb : BoxH B w h) (k : Nat) : w.frozen? ⟨B, k, none⟩ = false := by unfold BoxH at hb; simp [World.frozen?, hb]
theorem BoxH.lay {B : Nat} {w : World} {h : Hl} (hb : BoxH B w h) (g : Hl) : BoxH B (((w.setCell ⟨B, 0, none⟩ (.int .i64 g.b)).setCell ⟨B, 1, none⟩ (.int .i64 g.r)).setCell ⟨B, 2, none⟩ (.int .i64 g.t)) g := by
  unfold BoxH at hb ⊢
  rw [Joins.block_setCell (i := 2) (Joins.block_setCell (i := 1) (Joins.block_setCell (i := 0) hb _) _) _]; rfl
/-- The answer's place that a ship is laid into. -/
theorem BoxH.end_ {w w1 : World} {h : Hl} (g : Hl) (hb : BoxH w.heap.size w1 h) (b : Below w.heap.size w w1) :
    w1.cell? ⟨w.heap.size, 0, none⟩ = some (.int .i64 h.b) ∧ w1.cell? ⟨w.heap.size, 1, none⟩ = some (.int .i64 h.r) ∧ w1.cell? ⟨w.heap.size, 2, none⟩ = some (.int .i64 h.t) ∧
    (∀ k, w1.frozen? ⟨w.heap.size, k, none⟩ = false) ∧ BoxH w.heap.size (((w1.setCell ⟨w.heap.size, 0, none⟩ (.int .i64 g.b)).setCell ⟨w.heap.size, 1, none⟩ (.int .i64 g.r)).setCell ⟨w.heap.size, 2, none⟩ (.int .i64 g.t)) g ∧
    Below w.heap.size w (((w1.setCell ⟨w.heap.size, 0, none⟩ (.int .i64 g.b)).setCell ⟨w.heap.size, 1, none⟩ (.int .i64 g.r)).setCell ⟨w.heap.size, 2, none⟩ (.int .i64 g.t)) :=
  ⟨hb.c0, hb.c1, hb.c2, hb.frozen, hb.lay g, ((b.setCell (p := ⟨w.heap.size, 0, none⟩) (Nat.le_refl _) _).setCell (p := ⟨w.heap.size, 1, none⟩) (Nat.le_refl _) _).setCell (p := ⟨w.heap.size, 2, none⟩) (Nat.le_refl _) _⟩
theorem BoxH.other {B N : Nat} {w : World} {h : Hl} (hb : BoxH B w h) (hne : B ≠ N) (o : Nat) (u : Value) : BoxH B (w.setCell ⟨N, o, none⟩ u) h := by
  unfold BoxH at hb ⊢
  rw [Below.heap_setCell _ _ _ _ hne]; exact hb
/-- Nothing but the reader's block has turned since, or the answer's place was written at last. -/
def LaidH (R B : Nat) (g : Hl) (W w' : World) : Prop := ∃ wm, MostB B W wm ∧ (w' = wm ∨ w' = ((wm.setCell ⟨R, 0, none⟩ (.int .i64 g.b)).setCell ⟨R, 1, none⟩ (.int .i64 g.r)).setCell ⟨R, 2, none⟩ (.int .i64 g.t))
theorem only_most {B base q : Nat} {w w' : World} (h : Only B w w') (hr : Rdr base B q w) : MostB B w w' :=
  ⟨h.os, h.tape, h.output, Nat.le_of_eq h.size.symm, fun k hk hl => h.block k hk⟩
/-- What a draw of a ship gives its law. -/
def DrewH (w : World) (e : Ending) (w' : World) : Prop := ∃ h : Hl, e = .returned (.agg #[.int .i64 h.b, .int .i64 h.r, .int .i64 h.t]) ∧ Below w.heap.size w w'
def DrewH3 (w : World) (e : Ending) (w' : World) : Prop := ∃ (h : Hl) (x y z : Int), e = .returned (.tuple #[.agg #[.int .i64 h.b, .int .i64 h.r, .int .i64 h.t], .int .i64 x, .int .i64 y, .int .i64 z]) ∧ Below w.heap.size w w'
def DrewH1 (w : World) (e : Ending) (w' : World) : Prop := ∃ (h : Hl) (x : Int), e = .returned (.tuple #[.agg #[.int .i64 h.b, .int .i64 h.r, .int .i64 h.t], .int .i64 x]) ∧ Below w.heap.size w w'
end Go.Proofs.Ytfeobdgdhgcgoaa
namespace Go.Proofs.Ytfeobdgdhgcgoaa
open Go.RowKit
set_option linter.unusedVariables false

/-- What a draw of a ship, boxes and a plan gives its law; with numbers besides. -/
def DrewP (w : World) (xs : List Value) (e : Ending) (w' : World) : Prop :=
  ∃ (h : Hl) (l : List Bx) (pl : List Int) (u v : Value), l.length ≤ 40 ∧ pl.length ≤ 40 ∧ e = .returned (.tuple (#[.agg #[.int .i64 h.b, .int .i64 h.r, .int .i64 h.t], u, v] ++ xs.toArray)) ∧ NewBx w.heap.size w' u l ∧ OwnI w.heap.size w' v pl ∧ Below w.heap.size w w'
def DrewP0 (w : World) (e : Ending) (w' : World) : Prop := DrewP w [] e w'
def DrewP1 (w : World) (e : Ending) (w' : World) : Prop := ∃ x : Int, DrewP w [.int .i64 x] e w'
def DrewP2 (w : World) (e : Ending) (w' : World) : Prop := ∃ x y : Int, DrewP w [.int .i64 x, .int .i64 y] e w'
theorem Only3 (R : Nat) (w : World) (a b c : Value) : MostB R w (((w.setCell ⟨R, 0, none⟩ a).setCell ⟨R, 1, none⟩ b).setCell ⟨R, 2, none⟩ c) :=
  (((Only.set R 0 w a).trans (Only.set R 1 _ b)).trans (Only.set R 2 _ c)).mostB

end Go.Proofs.Ytfeobdgdhgcgoaa
