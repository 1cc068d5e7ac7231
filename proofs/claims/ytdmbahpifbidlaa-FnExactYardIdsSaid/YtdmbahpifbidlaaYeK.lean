/-
  What the exact laws on yards keep: their argument in a block of its own, and what the drawn comparison of the copies holds.
-/
import Derived.Test.YtdmbahpifbidlaaYlC
namespace Go.Proofs.Ytdmbahpifbidlaa
open Go.ChangeShapes Go.WideShapes Go.RowKit
set_option linter.unusedVariables false

/-- A law's yard in a block of its own. -/
def ArgY (A : Nat) (w : World) (h : Int) (v : Value) : Prop := w.heap[A]? = some (.cells #[.int .i64 h, v] 53 (0, 0))
theorem ArgY.lt {A : Nat} {w : World} {h : Int} {v : Value} (hb : ArgY A w h v) : A < w.heap.size := free_lt hb
theorem ArgY.c0 {A : Nat} {w : World} {h : Int} {v : Value} (hb : ArgY A w h v) : w.cell? ⟨A, 0, none⟩ = some (.int .i64 h) := by
  unfold ArgY at hb
  simp [World.cell?, hb]
theorem ArgY.c1 {A : Nat} {w : World} {h : Int} {v : Value} (hb : ArgY A w h v) : w.cell? ⟨A, 1, none⟩ = some v := by
  unfold ArgY at hb
  simp [World.cell?, hb]
theorem ArgY.keep {A : Nat} {w w' : World} {h : Int} {v : Value} (hb : ArgY A w h v) (hk : Below w.heap.size w w') : ArgY A w' h v := by
  unfold ArgY at hb ⊢
  rw [hk.block A (free_lt hb)]
  exact hb
theorem ArgY.new (w : World) (h : Int) (v : Value) : ArgY w.heap.size (w.alloc (.cells #[.int .i64 h, v] 53)) h v := heap_alloc_new _ _
theorem BoxY.new_ (w w' : World) (h : Int) (v : Value) : BoxY w.heap.size (w.alloc (.cells #[.int .i64 h, v] 25)) h v := heap_alloc_new _ _
/-- The argument's block and the copy's, and all that was there. -/
theorem two_yards {A X : Nat} {h : Int} {u v : Value} {w w' : World} (y : ArgY A w h u) (x : BoxY X w h v) (hs : Since w w') :
    w'.cell? ⟨A, 0, none⟩ = some (.int .i64 h) ∧ w'.cell? ⟨A, 1, none⟩ = some u ∧ w'.cell? ⟨X, 0, none⟩ = some (.int .i64 h) ∧ w'.cell? ⟨X, 1, none⟩ = some v ∧ Since w w' :=
  ⟨(y.keep hs).c0, (y.keep hs).c1, (x.keep hs).c0, (x.keep hs).c1, hs⟩
end Go.Proofs.Ytdmbahpifbidlaa
