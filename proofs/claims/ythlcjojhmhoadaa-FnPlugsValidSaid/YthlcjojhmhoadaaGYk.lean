/-
  A yard that a draw builds row by row, beside a reader that writes its own block.
  The draw of a yard: two more rows at once; a row in the first one's place.
  The draw of a yard.
-/
import Derived.Test.YthlcjojhmhoadaaGBase
import Derived.Test.YthlcjojhmhoadaaGYh
import Derived.Test.YthlcjojhmhoadaaYsT
import Derived.Deep.AppendLies
import Derived.Deep.OwnRows
import Derived.Deep.RegionLaw
import Derived.Deep.CutRange
import Derived.Deep.CutBlock
namespace Go.Proofs.Ythlcjojhmhoadaa
open Go.RowKit
set_option linter.unusedVariables false

theorem rowAt_app_lt {ss : List (List Int)} {l : List Int} {k : Nat} (h : k < ss.length) : rowAt (ss ++ [l]) k = rowAt ss k := by
  rw [rowAt_get (by simp; omega), rowAt_get h, List.getElem_append_left h]
theorem rowAt_app_eq (ss : List (List Int)) (l : List Int) : rowAt (ss ++ [l]) ss.length = l := by
  rw [rowAt_get (by simp)]
  simp
theorem OwnY.congr {K : Nat} {w : World} {v : Value} {us : List Value} {n : Nat} {R R' : Nat → List Int} (h : OwnY K w v us n R) (hR : ∀ k, k < n → R k = R' k) : OwnY K w v us n R' :=
  ⟨h.out, h.len, fun k hk => by
    obtain ⟨u, h1, h2, h3⟩ := h.row k hk
    exact ⟨u, h1, by rw [← hR k hk]; exact h2, h3⟩, h.apart⟩
theorem OwnY.pushB {K : Nat} {wr w5 X w6 : World} {v : Value} {us : List Value} {k : Nat} {R : Nat → List Int} {u5 : Value} {g cap : Nat} (h : OwnY K wr v us k R) (hK : K ≤ wr.heap.size) (s1 : wr.heap.size ≤ w5.heap.size) (hb5 : ∀ j, K ≤ j → j < wr.heap.size → w5.heap[j]? = wr.heap[j]?) (hbX : Below w5.heap.size w5 X)
    (hu5 : w5.ownsRow wr.heap.size 3 1 u5 (R k).length (rowI (R k))) (ho6 : w6.ownsRow K 27 1 (.slice (some ⟨g, 0, none⟩) (k + 1) cap) (k + 1) (us ++ [u5]))
    (hblk : ∀ j, j < X.heap.size → v.ownBlock ≠ some j → w6.heap[j]? = X.heap[j]?) (hg : v.ownBlock = some g ∨ g = X.heap.size) : OwnY K w6 (.slice (some ⟨g, 0, none⟩) (k + 1) cap) (us ++ [u5]) (k + 1) R := by
  have s2 := hbX.size
  have hvlt : ∀ b, v.ownBlock = some b → b < wr.heap.size := fun b hb => (own_lt h.out b hb).2
  have hold : ∀ j, K ≤ j → j < wr.heap.size → v.ownBlock ≠ some j → w6.heap[j]? = wr.heap[j]? := fun j hK' hj hne => by
    rw [hblk j (by omega) hne, hbX.block j (by omega), hb5 j hK' hj]
  have gne : ∀ b, b < X.heap.size → v.ownBlock ≠ some b → g ≠ b := fun b hb hne e => by
    rcases hg with hg | hg
    · exact hne (by rw [hg, e])
    · omega
  refine ⟨ho6, by rw [List.length_append, h.len]; rfl, fun j hj => ?_, ?_⟩
  · by_cases e : j = k
    · subst e
      refine ⟨u5, ?_, ?_, fun b hb => ?_⟩
      · rw [List.getElem?_append_right (by rw [h.len]; exact Nat.le_refl _), h.len, Nat.sub_self]; rfl
      · refine own_from (base := wr.heap.size) ?_ hK
        refine own_keep hu5 fun b hb hbl => ?_
        rw [hblk b (by omega) (fun e => by have := hvlt b e; omega), hbX.block b hbl]
      · have hbl := own_lt hu5 b hb
        intro e2
        have : g = b := by simpa [Value.ownBlock] using e2
        exact gne b (by omega) (fun e3 => by have := hvlt b e3; omega) this
    · obtain ⟨u, h1, h2, h3⟩ := h.row j (by omega)
      refine ⟨u, ?_, ?_, fun b hb => ?_⟩
      · rw [List.getElem?_append_left (by rw [h.len]; omega)]; exact h1
      · refine ⟨h2.1, ?_⟩
        rcases h2.2 with q | ⟨g', cap', cur, rfl, q1, q2, q3⟩
        · exact .inl q
        · refine .inr ⟨g', cap', cur, rfl, q1, ?_, q3⟩
          rw [hold g' q1 (free_lt q2) (h3 g' rfl)]; exact q2
      · have hbl := own_lt h2 b hb
        intro e2
        have : g = b := by simpa [Value.ownBlock] using e2
        exact gne b (by omega) (h3 b hb) this
  · refine List.pairwise_append.2 ⟨h.apart, List.pairwise_singleton _ _, fun x hx y hy b hb => ?_⟩
    rw [List.mem_singleton] at hy
    subst hy
    intro hc
    have h5 := own_lt hu5 b hc
    obtain ⟨j, hj, rfl⟩ := List.getElem_of_mem hx
    obtain ⟨u, h1, h2, _⟩ := h.row j (by rw [← h.len]; exact hj)
    rw [List.getElem?_eq_getElem hj] at h1
    obtain rfl := Option.some.inj h1
    have := own_lt h2 b hb
    omega

theorem flat_app (ss : List (List Int)) (l : List Int) : (ss ++ [l]).flatten.length = ss.flatten.length + l.length := by simp
/-- What a draw of a yard gives. -/
def DrewYard (base B p : Nat) (w : World) (e : Ending) (w' : World) : Prop :=
  ∃ (h : Int) (u : Value) (ss : List (List Int)) (q : Nat), q ≤ p + 60 ∧ ss.length ≤ 7 ∧ ss.flatten.length ≤ 100 ∧ e = .returned (.agg #[.int .i64 h, u]) ∧ NewY w.heap.size w' u ss ∧ Rdr base B q w' ∧ MostB B w w'
end Go.Proofs.Ythlcjojhmhoadaa
namespace Go.Proofs.Ythlcjojhmhoadaa
open Go.RowKit
set_option linter.unusedVariables false

theorem NewY.of_rows {K : Nat} {w : World} {v : Value} {us : List Value} {ss : List (List Int)} (h : w.ownsRow K 27 1 v ss.length us) (hr : ∀ k, k < ss.length → ∃ u, us[k]? = some u ∧ NewI K w u (rowAt ss k) ∧ NilOk u) : NewY K w v ss := by
  obtain ⟨a, c, rfl⟩ := own_slice h
  have hnil := NilOk.of_own h
  have hcc : ss.length ≤ c ∧ c ≤ maxLen := by
    rcases h.2 with ⟨e, _⟩ | ⟨g, cap', cur, hv, hb, hg, hc, hm, _⟩
    · simp only [Value.slice.injEq] at e
      unfold maxLen; omega
    · simp only [Value.slice.injEq] at hv
      obtain ⟨_, _, rfl⟩ := hv
      exact ⟨hc, hm⟩
  refine ⟨a, c, rfl, hcc.1, hcc.2, fun e => hnil _ _ (by rw [e]), ?_⟩
  by_cases hz : ss.length = 0
  · exact .inl hz
  · obtain ⟨g, rfl, _, hb, hl, _⟩ := own_cell h (k := 0) (by omega)
    refine .inr ⟨g, 0, rfl, hb, hl, fun k hk => ?_⟩
    obtain ⟨u, h1, h2, h3⟩ := hr k hk
    obtain ⟨g', e, _, _, _, _, _, hcell, _⟩ := own_cell h hk
    simp only [Option.some.injEq, Addr.mk.injEq, and_true] at e
    obtain rfl := e
    exact ⟨u, by rw [Nat.zero_add, hcell, h1], h2, h3⟩
theorem newI_one {K G : Nat} {w : World} {x : Int} {T : TypeId} {fr : Nat × Nat} (hK : K ≤ G) (h : w.heap[G]? = some (.cells #[.int .i64 x] T fr)) : NewI K w (.slice (some ⟨G, 0, none⟩) 1 1) [x] :=
  ⟨some ⟨G, 0, none⟩, 1, rfl, Nat.le_refl _, by unfold maxLen; omega, .inr ⟨G, 0, rfl, hK, free_lt h, fun k hk => by
    have : k = 0 := by simp at hk; omega
    subst this
    simp [World.cell?, h]⟩⟩
theorem own_three (w : World) {K : Nat} (hK : K ≤ w.heap.size) : (w.alloc (.cells #[.int .i64 0, .int .i64 0, .int .i64 0] 3)).ownsRow K 3 1 (.slice (some ⟨w.heap.size, 0, none⟩) 3 3) 3 (rowI [0, 0, 0]) :=
  ⟨by simp [rowI], .inr ⟨w.heap.size, 3, #[.int .i64 0, .int .i64 0, .int .i64 0], rfl, hK, heap_alloc_new _ _, Nat.le_refl _, by unfold maxLen; omega, by simp, by simp [rowI]⟩⟩
theorem flat_set0 (ss : List (List Int)) (l : List Int) : (ss.set 0 l).flatten.length ≤ ss.flatten.length + l.length := by
  cases ss with
  | nil => simp
  | cons a t => rw [List.set_cons_zero, List.flatten_cons, List.flatten_cons, List.length_append, List.length_append]; omega
end Go.Proofs.Ythlcjojhmhoadaa
namespace Go.Proofs.Ythlcjojhmhoadaa
open Go.RowKit
set_option linter.unusedVariables false

end Go.Proofs.Ythlcjojhmhoadaa
