/-
  The draw of a ship, boxes and a plan: l20Plan.
-/
import Derived.Test.YtlccmgdmfchmnaaSlD
import Derived.Test.YtlccmgdmfchmnaaGDr
import Derived.Test.YtlccmgdmfchmnaaPlP
import Derived.Test.YtlccmgdmfchmnaaPlC
import Derived.Lib.SmallJoins
import Derived.Deep.RegionHeld3
namespace Go.Proofs.Ytlccmgdmfchmnaa
open Go.RowKit
set_option linter.unusedVariables false

theorem DrawH.on {w0 : World} {base B q N K : Nat} {b : Hl} {w w1 : World} (h : DrawH w0 base B q N b w) (hb : Below K w w1) (hK : N < K) : DrawH w0 base B q N b w1 := by
  have hN := h.hN
  have hB := h.hB
  exact ⟨h.rdr.keepK hb (by omega), by rw [hb.block N hK]; exact h.box, by rw [hb.block _ (by omega)]; exact h.res, h.hN, h.hB, hb.os.trans h.os, hb.tape.trans h.tape, hb.output.trans h.output, fun k hk hl => (hb.block k (by omega)).trans (h.block k hk hl)⟩
theorem DrawH.mostD {w0 : World} {base B q q' N : Nat} {b : Hl} {w w1 : World} (h : DrawH w0 base B q N b w) (hm : MostB B w w1) (hr : Rdr base B q' w1) : DrawH w0 base B q' N b w1 := by
  have hN := h.hN
  have hB := h.hB
  have hs := h.size
  exact ⟨hr, by rw [hm.block N (by omega) hs]; exact h.box, by rw [hm.block _ (by omega) (by omega)]; exact h.res, h.hN, h.hB, hm.os.trans h.os, hm.tape.trans h.tape, hm.output.trans h.output, fun k hk hl => (hm.block k hk (by omega)).trans (h.block k hk hl)⟩
theorem DrawH.startM {w w1 : World} {base B q : Nat} (b : Hl) (h : Rdr base B q w1) (hB : B < w.heap.size) (m : MostB B (w.alloc (.cells #[.int .i64 0, .int .i64 0, .int .i64 0] 24)) w1) :
    DrawH w base B q w1.heap.size b (w1.alloc (.cells #[.int .i64 b.b, .int .i64 b.r, .int .i64 b.t] 24)) := by
  have hs : w.heap.size < w1.heap.size := by have := m.size; simp at this; omega
  have k : ∀ o i, i < w1.heap.size → (w1.alloc o).heap[i]? = w1.heap[i]? := fun o i hi => Below.heap_alloc w1 o i hi
  refine ⟨h.keep ((Below.refl _ _).alloc (Nat.le_refl _) _), ?_, ?_, hs, hB, m.os, m.tape, m.output, fun i hi hl => ?_⟩
  · show (w1.heap.push _)[w1.heap.size]? = _
    simp [Hl.cells]
  · rw [k _ _ (by omega), m.block _ (by omega) (by simp)]
    show (w.heap.push _)[w.heap.size]? = _
    simp [Hl.cells, Hl.zero]
  · rw [k _ _ (by omega), m.block _ hi (by simp; omega)]
    exact Below.heap_alloc w _ i hl
theorem OwnI.most {K B : Nat} {w w' : World} {v : Value} {l : List Int} (h : OwnI K w v l) (hm : MostB B w w') (hB : B < K) : OwnI K w' v l := own_most h hm hB
theorem putP_len {h : Hl} {bok : Bool} {ids p : List Int} {s id : Int} {n : Nat} (hp : p.length ≤ n) : (putP h bok ids p s id).1.length ≤ n := by
  rcases putP_cases h bok ids p s id with ⟨_, e⟩ | ⟨_, e⟩ | ⟨_, _, _, _, _, _, e⟩ <;> rw [e] <;> simp [hp]
theorem emptyP_len (h : Hl) : (emptyP h).length ≤ 36 := by
  unfold emptyP
  by_cases hk : hlOk h = true
  · rw [if_pos hk, List.length_replicate]; have := (slMany_bd hk).2.1; omega
  · rw [if_neg hk]; simp
/-- What has been the same since w but for block B. -/
def KeepP (B : Nat) (w w' : World) : Prop := MostB B w w'
/-- What a draw of a ship, boxes and a plan gives. -/
def DrewPlan (base B p : Nat) (w : World) (e : Ending) (w' : World) : Prop :=
  ∃ (h : Hl) (l : List Bx) (pl : List Int) (u v : Value) (q : Nat), q ≤ p + 1200 ∧ l.length ≤ 40 ∧ pl.length ≤ 40 ∧ e = .returned (.tuple #[.agg #[.int .i64 h.b, .int .i64 h.r, .int .i64 h.t], u, v]) ∧ NewBx w.heap.size w' u l ∧ OwnI w.heap.size w' v pl ∧ Rdr base B q w' ∧ MostB B w w'

end Go.Proofs.Ytlccmgdmfchmnaa
