/-
  The exact laws' own ship, and their copy of it.
-/
import Derived.Test.YtnnjphhkheocgaaSlS
import Derived.WalkKit
namespace Go.Proofs.Ytnnjphhkheocgaa
open Go.RowKit
set_option linter.unusedVariables false

/-- The law's own ship in a block of its own. -/
def BoxG (B : Nat) (w : World) (h : Hl) : Prop := w.heap[B]? = some (.cells #[.int .i64 h.b, .int .i64 h.r, .int .i64 h.t] 43 (0, 0))
theorem BoxG.lt {B : Nat} {w : World} {h : Hl} (hb : BoxG B w h) : B < w.heap.size := by
  unfold BoxG at hb
  rcases Nat.lt_or_ge B w.heap.size with h' | h'
  · exact h'
  · rw [Array.getElem?_eq_none h'] at hb; cases hb
theorem BoxG.c0 {B : Nat} {w : World} {h : Hl} (hb : BoxG B w h) : w.cell? ⟨B, 0, none⟩ = some (.int .i64 h.b) := by unfold BoxG at hb; simp [World.cell?, hb]
theorem BoxG.c1 {B : Nat} {w : World} {h : Hl} (hb : BoxG B w h) : w.cell? ⟨B, 1, none⟩ = some (.int .i64 h.r) := by unfold BoxG at hb; simp [World.cell?, hb]
theorem BoxG.c2 {B : Nat} {w : World} {h : Hl} (hb : BoxG B w h) : w.cell? ⟨B, 2, none⟩ = some (.int .i64 h.t) := by unfold BoxG at hb; simp [World.cell?, hb]
theorem BoxG.keep {B : Nat} {w w' : World} {h : Hl} (hb : BoxG B w h) (hk : Below w.heap.size w w') : BoxG B w' h := by
  have := hb.lt
  unfold BoxG at hb ⊢
  rw [hk.block B this]; exact hb
theorem BoxG.new (w : World) (h : Hl) : BoxG w.heap.size (w.alloc (.cells #[.int .i64 h.b, .int .i64 h.r, .int .i64 h.t] 43)) h := by
  show (w.heap.push _)[w.heap.size]? = _
  simp
theorem toHull_any (h : Hl) (w : World) :
    Calls Try.prog 31 #[.agg #[.int .i64 h.b, .int .i64 h.r, .int .i64 h.t]] w fun e w' => e = .returned (.agg #[.int .i64 h.b, .int .i64 h.r, .int .i64 h.t]) ∧ Below w.heap.size w w' := by
  go_enter Try.func31, Try.ntmps31
  go_wp2
  exact bodyPost_ret (v := .agg #[.int .i64 h.b, .int .i64 h.r, .int .i64 h.t]) (by simp [results, Try.results31, go_sem]) rfl
    ⟨rfl, (((Below.refl _ _).alloc (Nat.le_refl _) _).alloc (by simp) _).alloc (by simp; omega) _⟩
end Go.Proofs.Ytnnjphhkheocgaa
