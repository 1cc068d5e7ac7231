/-
  Words for a region that appends twice: blocks made in either order, what stays of them.
-/
import Derived.Test.YthdhephcegbjmaaApB
namespace Go.Proofs.Ythdhephcegbjmaa
open Go.RowKit
set_option linter.unusedVariables false

theorem HoldsBx.drop1 {w : World} {b off cap : Nat} {l : List Bx} (h : HoldsBx w (.slice (some ⟨b, off, none⟩) l.length cap) l) (hz : ¬ l.length = 0) : HoldsBx w (.slice (some ⟨b, if cap = 1 then off else off + 5, none⟩) (l.length - 1) (cap - 1)) (l.drop 1) := by
  obtain ⟨a, cap', he, h2, h3, h4⟩ := h
  simp only [Value.slice.injEq, true_and] at he
  obtain ⟨rfl, rfl⟩ := he
  refine ⟨_, cap - 1, by rw [List.length_drop], by rw [List.length_drop]; omega, by omega, ?_⟩
  rcases h4 with h4 | ⟨b', off', h5, h6, h7⟩
  · exact absurd h4 hz
  · simp only [Option.some.injEq, Addr.mk.injEq, and_true] at h5
    obtain ⟨rfl, rfl⟩ := h5
    by_cases hc : cap = 1
    · exact .inl (by rw [List.length_drop]; omega)
    · rw [if_neg hc]
      refine .inr ⟨b, off + 5, rfl, h6, fun k hk j hj => ?_⟩
      have hk' : k + 1 < l.length := by rw [List.length_drop] at hk; omega
      have e := h7 (k + 1) hk' j hj
      rw [show off + 5 + (k * 5 + j) = off + ((k + 1) * 5 + j) by omega, e, List.getElem_drop]
      simp only [Nat.add_comm 1 k]
theorem cells_kept {w w0 : World} {NB : Nat} {cs : List Value} {T : TypeId} {fr : Nat × Nat} (h0 : w0.heap[NB]? = some (.cells cs.toArray T fr)) (hk : w.heap[NB]? = w0.heap[NB]?) (j : Nat) (u : Value) (hu : cs[j]? = some u) : w.cell? ((⟨NB, 0, none⟩ : Addr).add j) = some u := by
  have e : (⟨NB, 0, none⟩ : Addr).add j = ⟨NB, j, none⟩ := by
    unfold Addr.add
    split
    · next h => subst h; rfl
    · simp
  rw [e]
  simp only [World.cell?, hk, h0]
  simpa using hu
theorem final_holds {w : World} {base : Nat} {e : TypeId} {v : Value} {l : List Bx} {x : Bx} (h : w.ownsRow base e 5 v (l.length + 1) (rowB l ++ [.int .i64 x.i, .int .i64 x.g, .int .i64 x.c, .int .i64 x.p, .bool x.d])) : HoldsBx w v (l ++ [x]) := by
  refine (NewBx.of_own (base := base) (e := e) (l := l ++ [x]) ?_).holds
  rw [rowB_app, List.length_append]
  exact h

theorem two_lo (w : World) (a b : Obj) : ((w.alloc a).alloc b).heap[w.heap.size]? = some a := (Below.heap_alloc _ _ _ (by simp)).trans (heap_alloc_new w a)
theorem two_hi (w : World) (a b : Obj) : ((w.alloc a).alloc b).heap[w.heap.size + 1]? = some b := by
  have e := heap_alloc_new (w.alloc a) b
  rw [show (w.alloc a).heap.size = w.heap.size + 1 by simp] at e
  exact e
theorem kept_hi {w4 w5 : World} {base : Nat} {cs : List Value} {T : TypeId} (hb : base ≤ w4.heap.size) (hk : ∀ k, base ≤ k → k < ((w4.alloc (.cells #[] T)).alloc (.cells cs.toArray T)).heap.size → (Value.slice (some ⟨w4.heap.size, 0, none⟩) 0 0).ownBlock ≠ some k → w5.heap[k]? = ((w4.alloc (.cells #[] T)).alloc (.cells cs.toArray T)).heap[k]?) (j : Nat) (u : Value) (hu : cs[j]? = some u) :
    w5.cell? ((⟨w4.heap.size + 1, 0, none⟩ : Addr).add j) = some u :=
  cells_kept (two_hi w4 (.cells #[] T) (.cells cs.toArray T)) (hk _ (by omega) (by simp) (by simp [Value.ownBlock])) j u hu
theorem kept_lo {w4 w5 : World} {base : Nat} {cs : List Value} {T : TypeId} (hb : base ≤ w4.heap.size) (hk : ∀ k, base ≤ k → k < ((w4.alloc (.cells cs.toArray T)).alloc (.cells #[] T)).heap.size → (Value.slice (some ⟨w4.heap.size + 1, 0, none⟩) 0 0).ownBlock ≠ some k → w5.heap[k]? = ((w4.alloc (.cells cs.toArray T)).alloc (.cells #[] T)).heap[k]?) (j : Nat) (u : Value) (hu : cs[j]? = some u) :
    w5.cell? ((⟨w4.heap.size, 0, none⟩ : Addr).add j) = some u :=
  cells_kept (two_lo w4 (.cells cs.toArray T) (.cells #[] T)) (hk _ hb (by simp; omega) (by simp [Value.ownBlock])) j u hu
theorem Since.size0 {w0 w : World} (h : Since w0 w) : w0.heap.size ≤ w.heap.size := h.size
end Go.Proofs.Ythdhephcegbjmaa
