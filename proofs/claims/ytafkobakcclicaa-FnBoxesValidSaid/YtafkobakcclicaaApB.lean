/-
  Appends of boxes inside a region that draws its order; what such a region's worlds bear.
-/
import Derived.Test.YtafkobakcclicaaDrL
namespace Go.Proofs.Ytafkobakcclicaa
open Go.RowKit
set_option linter.unusedVariables false

theorem HoldsBx.row {w : World} {b off cap : Nat} {l : List Bx} (h : HoldsBx w (.slice (some ⟨b, off, none⟩) l.length cap) l) (j : Nat) (u : Value) (hu : (rowB l)[j]? = some u) : w.cell? ((⟨b, off, none⟩ : Addr).add j) = some u := by
  have hj : j < (rowB l).length := by
    rcases Nat.lt_or_ge j (rowB l).length with h' | h'
    · exact h'
    · rw [List.getElem?_eq_none h'] at hu; cases hu
  rw [rowB_len] at hj
  obtain ⟨a, cap', he, _, _, h4⟩ := h
  simp only [Value.slice.injEq, true_and] at he
  obtain ⟨rfl, rfl⟩ := he
  rcases h4 with h4 | ⟨b', off', h5, h6, h7⟩
  · omega
  · simp only [Option.some.injEq, Addr.mk.injEq, and_true] at h5
    obtain ⟨rfl, rfl⟩ := h5
    have e : (⟨b, off, none⟩ : Addr).add j = ⟨b, off + j, none⟩ := by
      unfold Addr.add
      split
      · next h => subst h; rfl
      · rfl
    have hk : j / 5 < l.length := by omega
    have e2 := h7 (j / 5) hk (j % 5) (Nat.mod_lt _ (by omega))
    rw [← rowB_at l (j / 5) hk (j % 5) (Nat.mod_lt _ (by omega)), show j / 5 * 5 + j % 5 = j by omega] at e2
    rw [e, e2, hu]
theorem rowB_one : ∀ (l : List Bx), ∀ u ∈ rowB l, u.oneCell' = true := by
  intro l u hu
  obtain ⟨b, _, hb⟩ := List.mem_flatMap.1 hu
  simp only [Bx.cells, List.mem_cons, List.not_mem_nil, or_false] at hb
  rcases hb with rfl | rfl | rfl | rfl | rfl <;> rfl

/-- Five cells of an elder block, in every later world. -/
theorem five_since {w0 w : World} {b off : Nat} {v0 v1 v2 v3 v4 : Value} (hlt : b < w0.heap.size)
    (h : w0.cell? ⟨b, off, none⟩ = some v0 ∧ w0.cell? ⟨b, off + 1, none⟩ = some v1 ∧ w0.cell? ⟨b, off + 2, none⟩ = some v2 ∧ w0.cell? ⟨b, off + 3, none⟩ = some v3 ∧ w0.cell? ⟨b, off + 4, none⟩ = some v4) (hb : Since w0 w) :
    w.cell? ⟨b, off, none⟩ = some v0 ∧ w.cell? ⟨b, off + 1, none⟩ = some v1 ∧ w.cell? ⟨b, off + 2, none⟩ = some v2 ∧ w.cell? ⟨b, off + 3, none⟩ = some v3 ∧ w.cell? ⟨b, off + 4, none⟩ = some v4 ∧ Since w0 w := by
  have k : ∀ o, w.cell? ⟨b, o, none⟩ = w0.cell? ⟨b, o, none⟩ := fun o => Below.cell (p := ⟨b, o, none⟩) hb hlt
  exact ⟨by rw [k]; exact h.1, by rw [k]; exact h.2.1, by rw [k]; exact h.2.2.1, by rw [k]; exact h.2.2.2.1, by rw [k]; exact h.2.2.2.2, hb⟩
end Go.Proofs.Ytafkobakcclicaa
