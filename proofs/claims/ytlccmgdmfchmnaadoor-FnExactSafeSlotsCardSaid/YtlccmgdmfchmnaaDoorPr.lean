/-
  Rows of pairs that a call makes.
-/
import Derived.Test.YtlccmgdmfchmnaaDoorYmM
import Derived.Test.YtlccmgdmfchmnaaDoorGBase
namespace Go.Proofs.YtlccmgdmfchmnaaDoor
open Go.RowKit
set_option linter.unusedVariables false

def rowQ (l : List (Int × Int)) : List Value := l.flatMap fun m => [.int .i64 m.1, .int .i64 m.2]
theorem rowQ_len : ∀ l : List (Int × Int), (rowQ l).length = l.length * 2
  | [] => rfl
  | b :: l => by
    have e : rowQ (b :: l) = [.int .i64 b.1, .int .i64 b.2] ++ rowQ l := rfl
    rw [e, List.length_append, rowQ_len l, List.length_cons]
    simp
    omega
theorem rowQ_app (l l' : List (Int × Int)) : rowQ (l ++ l') = rowQ l ++ rowQ l' := by simp [rowQ]
theorem rowQ_at : ∀ (l : List (Int × Int)) (k : Nat) (hk : k < l.length), (rowQ l)[k * 2]? = some (.int .i64 l[k].1) ∧ (rowQ l)[k * 2 + 1]? = some (.int .i64 l[k].2)
  | b :: l, 0, _ => ⟨rfl, rfl⟩
  | b :: l, k + 1, hk => by
    have e : rowQ (b :: l) = .int .i64 b.1 :: .int .i64 b.2 :: rowQ l := rfl
    have ih := rowQ_at l k (by simpa using hk)
    have e1 : (k + 1) * 2 = k * 2 + 1 + 1 := by omega
    rw [e, e1]
    exact ih
theorem infoPair : (Tryd.prog.info? 43).map (fun i => (i.zero, i.size, i.bytes)) = some (some (.agg #[.int .i64 0, .int .i64 0]), 2, 16) := by kernel_rfl
/-- A row of pairs that is the call's own. -/
def OwnQ (K : Nat) (w : World) (v : Value) (l : List (Int × Int)) : Prop := w.ownsRow K 43 2 v l.length (rowQ l)
theorem OwnQ.holds {K : Nat} {w : World} {v : Value} {l : List (Int × Int)} (h : OwnQ K w v l) : HoldsM w v l := by
  rcases h.2 with ⟨rfl, h0⟩ | ⟨g, cap, cur, rfl, hb, hg, hc, hm, hs, hx⟩
  · exact ⟨none, 0, by rw [h0], by omega, by simp [maxLen], .inl h0⟩
  · have hlt := (own_lt h g (by simp [Value.ownBlock])).2
    refine ⟨some ⟨g, 0, none⟩, cap, rfl, hc, hm, .inr ⟨g, 0, rfl, hlt, fun k hk => ?_⟩⟩
    have hrow : ∀ j, j < l.length * 2 → w.cell? ⟨g, 0 + j, none⟩ = (rowQ l)[j]? := fun j hj => by
      simp only [World.cell?, hg, Nat.zero_add]
      rw [← hx, List.getElem?_take]
      have hj' : j < l.length * 2 := hj
      rw [if_pos hj']
      simp
    obtain ⟨q1, q2⟩ := rowQ_at l k hk
    exact ⟨(hrow (k * 2) (by omega)).trans q1, (hrow (k * 2 + 1) (by omega)).trans q2⟩
theorem OwnQ.keep {K : Nat} {w w' : World} {v : Value} {l : List (Int × Int)} (h : OwnQ K w v l) (hb : Below w.heap.size w w') : OwnQ K w' v l := own_keep h fun k _ hk => hb.block k hk
theorem OwnQ.from_ {K K' : Nat} {w : World} {v : Value} {l : List (Int × Int)} (h : OwnQ K w v l) (hk : K' ≤ K) : OwnQ K' w v l := by
  obtain ⟨h1, h2⟩ := h
  refine ⟨h1, ?_⟩
  rcases h2 with h2 | ⟨g, cap, cur, e1, e2, e3⟩
  · exact .inl h2
  · exact .inr ⟨g, cap, cur, e1, by omega, e3⟩
theorem OwnQ.zero {K : Nat} {w : World} (hk : K ≤ w.heap.size) : OwnQ K (w.alloc (.cells #[] 43)) (.slice (some ⟨w.heap.size, 0, none⟩) 0 0) [] := own_zero hk (heap_alloc_new _ _)
theorem OwnQ.put {K : Nat} {w : World} {v : Value} {l : List (Int × Int)} {a b : Int} (h : w.ownsRow K 43 2 v (l.length + 1) (rowQ l ++ [.int .i64 a, .int .i64 b])) : OwnQ K w v (l ++ [(a, b)]) := by
  unfold OwnQ
  rw [rowQ_app, List.length_append]
  exact h
end Go.Proofs.YtlccmgdmfchmnaaDoor
