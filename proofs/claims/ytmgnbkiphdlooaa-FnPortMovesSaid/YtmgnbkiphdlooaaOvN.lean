/-
  Plain mathematics of overstowage, fourth part: the list of PortMoves.
-/
import Derived.Test.YtmgnbkiphdlooaaGOm
import Derived.Test.YtmgnbkiphdlooaaGBase
namespace Go.Proofs.Ytmgnbkiphdlooaa
set_option linter.unusedVariables false

theorem moveO_in {h : Hl} {l : List Bx} {p : List Int} {q : Int} (hk : plOk h (bxsOk l) (bxIds l) p = true) (h0 : 0 ≤ q) (h6 : q ≤ 6) : moveO h l p q = ((List.range p.length).filter (moveS h.t.toNat (ptB l) q p)).map Int.ofNat := by unfold moveO; rw [if_pos ⟨hk, h0, h6⟩]
theorem moveO_has {h : Hl} {l : List Bx} {p : List Int} {q : Int} (hk : plOk h (bxsOk l) (bxIds l) p = true) (h0 : 0 ≤ q) (h6 : q ≤ 6) {k : Nat} (hl : k < p.length) (hz : pAt p k ≠ 0) (hf : ptB l (pAt p k) = q) : hasI (moveO h l p q) (k : Int) = true := by
  rw [moveO_in hk h0 h6]
  refine decide_eq_true (List.mem_map.2 ⟨k, List.mem_filter.2 ⟨List.mem_range.2 hl, ?_⟩, rfl⟩)
  unfold moveS
  rw [decide_eq_true hz, decide_eq_true hf]
  rfl
theorem moveO_asc (h : Hl) (l : List Bx) (p : List Int) (q : Int) : ∀ k, k + 1 < (moveO h l p q).length → (moveO h l p q).getD k 0 < (moveO h l p q).getD (k + 1) 0 := by
  intro k hk
  have hs : (moveO h l p q).Pairwise (· < ·) := by
    unfold moveO
    split
    · rw [List.pairwise_map]
      refine List.Pairwise.imp ?_ (List.Pairwise.filter _ List.pairwise_lt_range)
      intro a b hab
      exact Int.ofNat_lt.2 hab
    · exact List.Pairwise.nil
  have := List.pairwise_iff_getElem.1 hs k (k + 1) (by omega) hk (by omega)
  rw [List.getD_eq_getElem?_getD, List.getD_eq_getElem?_getD, List.getElem?_eq_getElem (by omega), List.getElem?_eq_getElem hk, Option.getD_some, Option.getD_some]
  exact this
theorem moveO_first {h : Hl} {l : List Bx} {p : List Int} {m : Int} (hk : plOk h (bxsOk l) (bxIds l) p = true) (h0 : 0 ≤ m) (h6 : m ≤ 6) (hm : ∀ j, j < p.length → pAt p j ≠ 0 → m ≤ ptB l (pAt p j)) :
    (moveO h l p m).length ≤ 36 ∧ (overO h l p = 0 → ∀ j, j < (moveO h l p m).length → ∃ t : Nat, t < p.length ∧ pAt p t ≠ 0 ∧ (moveO h l p m).getD j 0 = (t : Int) ∧ ptB l (pAt p t) = m) := by
  refine ⟨Nat.le_trans (moveO_le h l p m) (pl_len hk).2, fun ho j hj => ?_⟩
  have ho2 : cnt (overS h.t.toNat (ptB l) p) p.length = 0 := by
    unfold overO at ho
    rw [if_pos hk] at ho
    omega
  rw [moveO_in hk h0 h6] at hj ⊢
  have hx := List.getElem_mem hj
  obtain ⟨t, ht, e⟩ := List.mem_map.1 hx
  obtain ⟨ht1, ht2⟩ := List.mem_filter.1 ht
  have htl := List.mem_range.1 ht1
  obtain ⟨hz, hf⟩ := move_least hm ho2 htl ht2
  refine ⟨t, htl, hz, ?_, hf⟩
  rw [List.getD_eq_getElem?_getD, List.getElem?_eq_getElem hj, Option.getD_some]
  exact e.symm
end Go.Proofs.Ytmgnbkiphdlooaa
