/-
  Contracts of the marks that the exact laws lay in yards and look for.
  What the exact laws on yards keep: their argument in a block of its own, and what the drawn comparison of the copies holds.
  What writing the marks leaves: blocks below the copies, and those behind.
-/
import Derived.Test.YtlcfldmiibjboabGYh
namespace Go.Proofs.Ytlcfldmiibjboab
open Go.RowKit
set_option linter.unusedVariables false

/-- The rows when the first i of them are marked from q on. -/
def mkR (q : Nat) (ss : List (List Int)) (i : Nat) : Nat → List Int := fun k => if k < i then marksI (q + sumY ss k) (rowAt ss k).length else rowAt ss k
theorem mkR_at (q : Nat) (ss : List (List Int)) (i : Nat) : mkR q ss i i = rowAt ss i := if_neg (by omega)
theorem mkR_next (q : Nat) (ss : List (List Int)) (i k : Nat) : upd (mkR q ss i) i (marksI (q + sumY ss i) (rowAt ss i).length) k = mkR q ss (i + 1) k := by
  by_cases h : k = i
  · subst h; rw [upd_self]; exact (if_pos (by omega)).symm
  · rw [upd_ne h]
    unfold mkR
    by_cases h2 : k < i
    · rw [if_pos h2, if_pos (by omega)]
    · rw [if_neg h2, if_neg (by omega)]
theorem mkR_nil {q : Nat} {ss : List (List Int)} {i : Nat} (h : rowAt ss i = []) (k : Nat) : mkR q ss i k = mkR q ss (i + 1) k := by
  rw [← mkR_next]
  by_cases e : k = i
  · subst e; rw [upd_self, mkR_at, h]; rfl
  · rw [upd_ne e]
/-- The marks from q on, as rows. -/
def marksY (q : Nat) (ss : List (List Int)) : List (List Int) := (List.range ss.length).map fun k => marksI (q + sumY ss k) (rowAt ss k).length
theorem marksY_len (q : Nat) (ss : List (List Int)) : (marksY q ss).length = ss.length := by simp [marksY]
theorem marksY_row {q : Nat} {ss : List (List Int)} {k : Nat} (h : k < ss.length) : rowAt (marksY q ss) k = marksI (q + sumY ss k) (rowAt ss k).length := by
  rw [rowAt_get (by rw [marksY_len]; exact h)]
  simp [marksY]
theorem mkR_end {q : Nat} {ss : List (List Int)} {k : Nat} (h : k < ss.length) : mkR q ss ss.length k = rowAt (marksY q ss) k := by
  rw [marksY_row h]; exact if_pos h

/-- What writing into blocks from K on and below B leaves. -/
structure MidB (K B : Nat) (w w' : World) : Prop where
  os : w'.os = w.os
  tape : w'.tape = w.tape
  output : w'.output = w.output
  size : w.heap.size ≤ w'.heap.size
  block : ∀ k, k < K ∨ B ≤ k → k < w.heap.size → w'.heap[k]? = w.heap[k]?
theorem MidB.refl (K B : Nat) (w : World) : MidB K B w w := ⟨rfl, rfl, rfl, Nat.le_refl _, fun _ _ _ => rfl⟩
theorem MidB.most {K B G : Nat} {a w w' : World} (h : MidB K B a w) (hm : MostB G w w') (h1 : K ≤ G) (h2 : G < B) : MidB K B a w' :=
  ⟨hm.os.trans h.os, hm.tape.trans h.tape, hm.output.trans h.output, Nat.le_trans h.size hm.size, fun k hk hl => (hm.block k (by omega) (Nat.lt_of_lt_of_le hl h.size)).trans (h.block k hk hl)⟩
theorem MidB.below {K B : Nat} {w w' : World} (h : MidB K B w w') (hK : K ≤ w.heap.size) : Below K w w' :=
  ⟨h.os, h.tape, h.output, h.size, fun k hk => h.block k (.inl hk) (by omega)⟩
theorem FreeY.mid {K B K' B' : Nat} {w w' : World} {v : Value} {n : Nat} {R : Nat → List Int} (h : FreeY K B w v n R) (hm : MidB K' B' w w') (hd : B' ≤ K) : FreeY K B w' v n R :=
  h.far hm.size fun k hk _ hl => hm.block k (.inr (by omega)) hl

end Go.Proofs.Ytlcfldmiibjboab
namespace Go.Proofs.Ytlcfldmiibjboab
open Go.ChangeShapes Go.WideShapes Go.RowKit
set_option linter.unusedVariables false

/-- A law's yard in a block of its own. -/
def ArgY (A : Nat) (w : World) (h : Int) (v : Value) : Prop := w.heap[A]? = some (.cells #[.int .i64 h, v] 24 (0, 0))
theorem ArgY.lt {A : Nat} {w : World} {h : Int} {v : Value} (hb : ArgY A w h v) : A < w.heap.size := free_lt hb
theorem ArgY.c0 {A : Nat} {w : World} {h : Int} {v : Value} (hb : ArgY A w h v) : w.cell? ⟨A, 0, none⟩ = some (.int .i64 h) := by
  unfold ArgY at hb
  simp [World.cell?, hb]
theorem ArgY.c1 {A : Nat} {w : World} {h : Int} {v : Value} (hb : ArgY A w h v) : w.cell? ⟨A, 1, none⟩ = some v := by
  unfold ArgY at hb
  simp [World.cell?, hb]
theorem ArgY.keep {A : Nat} {w w' : World} {h : Int} {v : Value} (hb : ArgY A w h v) (hk : Below w.heap.size w w') : ArgY A w' h v := by
  unfold ArgY at hb ⊢
  rw [hk.block A (free_lt hb)]
  exact hb
theorem ArgY.new (w : World) (h : Int) (v : Value) : ArgY w.heap.size (w.alloc (.cells #[.int .i64 h, v] 24)) h v := heap_alloc_new _ _
theorem BoxY.new_ (w w' : World) (h : Int) (v : Value) : BoxY w.heap.size (w.alloc (.cells #[.int .i64 h, v] 29)) h v := heap_alloc_new _ _
/-- The argument's block and the copy's, and all that was there. -/
theorem two_yards {A X : Nat} {h : Int} {u v : Value} {w w' : World} (y : ArgY A w h u) (x : BoxY X w h v) (hs : Since w w') :
    w'.cell? ⟨A, 0, none⟩ = some (.int .i64 h) ∧ w'.cell? ⟨A, 1, none⟩ = some u ∧ w'.cell? ⟨X, 0, none⟩ = some (.int .i64 h) ∧ w'.cell? ⟨X, 1, none⟩ = some v ∧ Since w w' :=
  ⟨(y.keep hs).c0, (y.keep hs).c1, (x.keep hs).c0, (x.keep hs).c1, hs⟩
end Go.Proofs.Ytlcfldmiibjboab
namespace Go.Proofs.Ytlcfldmiibjboab
open Go.ChangeShapes Go.WideShapes Go.RowKit
set_option linter.unusedVariables false

theorem ArgY.under {A K : Nat} {w w' : World} {h : Int} {v : Value} (hb : ArgY A w h v) (hk : Below K w w') (hA : A < K) : ArgY A w' h v := by
  unfold ArgY at hb ⊢
  rw [hk.block A hA]
  exact hb
theorem BoxY.under {A K : Nat} {w w' : World} {h : Int} {v : Value} (hb : BoxY A w h v) (hk : Below K w w') (hA : A < K) : BoxY A w' h v := by
  unfold BoxY at hb ⊢
  rw [hk.block A hA]
  exact hb
theorem BoxY.mid {A K B : Nat} {w w' : World} {h : Int} {v : Value} (hb : BoxY A w h v) (hm : MidB K B w w') (hA : B ≤ A) : BoxY A w' h v := by
  have hl := hb.lt
  unfold BoxY at hb ⊢
  rw [hm.block A (.inr hA) hl]
  exact hb
theorem FreeAt.mid {K B g : Nat} {w w' : World} {v : Value} {l : List Int} (h : FreeAt g w v l) (hm : MidB K B w w') (hg : B ≤ g) : FreeAt g w' v l := h.far hm.size (hm.block g (.inr hg) h.lt)
theorem FreeE.mid {K B N : Nat} {w w' : World} {v : Value} {l : List Int} (h : FreeE N w v l) (hm : MidB K B w w') (hN : B ≤ N) : FreeE N w' v l := by
  rcases h with h | ⟨g, hg, hf⟩
  · exact .inl h
  · exact .inr ⟨g, hg, hf.mid hm (Nat.le_trans hN hg)⟩
end Go.Proofs.Ytlcfldmiibjboab
