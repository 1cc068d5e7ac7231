/-
  Plain mathematics of plans, fifth part: what the list of the next slots has.
-/
import Derived.Test.YtggbgjadfmjaaaaPlC
import Derived.Test.YtggbgjadfmjaaaaPlMath4
namespace Go.Proofs.Ytggbgjadfmjaaaa
open Go.RowKit
set_option linter.unusedVariables false

theorem nextI_has {h : Hl} {bok : Bool} {ids p : List Int} (hk : plOk h bok ids p = true) {k : Nat} (hl : k < p.length) : hasI (nextI h bok ids p) (k : Int) = nextOk h p k := by
  unfold nextI nextP
  rw [if_pos hk]
  cases hc : nextOk h p k
  · cases hh : hasI (((List.range p.length).filter (nextOk h p)).map Int.ofNat) (k : Int)
    · rfl
    · obtain ⟨j, hj, e⟩ := List.mem_map.1 (hasI_iffP.1 hh)
      obtain ⟨_, hj2⟩ := List.mem_filter.1 hj
      obtain rfl : j = k := Int.ofNat.inj e
      rw [hc] at hj2; cases hj2
  · exact hasI_iffP.2 (List.mem_map.2 ⟨k, List.mem_filter.2 ⟨List.mem_range.2 hl, hc⟩, rfl⟩)
theorem nextI_len {h : Hl} {l : List Bx} {p : List Int} (hk : plOk h (bxsOk l) (bxIds l) p = true) {T n : Nat} (hT : (T : Int) = h.t) (hn : n * T = p.length) : (nextI h (bxsOk l) (bxIds l) p).length = roomRows T p n := by
  unfold nextI nextP
  rw [if_pos hk, List.length_map, ← hn]
  exact next_count (bxIds_pos (plOk_bok hk)) hk hT n (by omega)
theorem nextI_asc (h : Hl) (bok : Bool) (ids p : List Int) : ∀ k, k + 1 < (nextI h bok ids p).length → (nextI h bok ids p).getD k 0 < (nextI h bok ids p).getD (k + 1) 0 := by
  have hs : (nextI h bok ids p).Pairwise (· < ·) := by
    unfold nextI nextP
    split
    · refine List.pairwise_map.2 ((List.pairwise_lt_range (n := p.length)).filter _ |>.imp ?_)
      intro a b hab
      exact Int.ofNat_lt.2 hab
    · exact List.Pairwise.nil
  intro k hk
  have := List.pairwise_iff_getElem.1 hs k (k + 1) (by omega) hk (by omega)
  rw [List.getD_eq_getElem?_getD, List.getD_eq_getElem?_getD, List.getElem?_eq_getElem hk, List.getElem?_eq_getElem (by omega), Option.getD_some, Option.getD_some]
  exact this
/-- How many rows of slots a ship has, and how high they are. -/
theorem rows_of {h : Hl} (hk : hlOk h = true) {n : Nat} (hn : (n : Int) = slMany h) : ∃ R T : Nat, (T : Int) = h.t ∧ 1 ≤ T ∧ T ≤ 3 ∧ R * T = n := by
  obtain ⟨g1, g2, g3, g4, g5, g6⟩ := hlOk_iff.1 hk
  refine ⟨(h.b * h.r).toNat, h.t.toNat, by omega, by omega, by omega, ?_⟩
  have e : slMany h = h.b * h.r * h.t := by unfold slMany; rw [if_pos hk]
  have hb : 0 ≤ h.b * h.r := Int.mul_nonneg (by omega) (by omega)
  have : (((h.b * h.r).toNat * h.t.toNat : Nat) : Int) = (n : Int) := by
    rw [hn, e, Int.natCast_mul, Int.toNat_of_nonneg hb, Int.toNat_of_nonneg (by omega)]
  exact_mod_cast this
theorem putP_nextX {h : Hl} {l : List Bx} {p : List Int} (hk : plOk h (bxsOk l) (bxIds l) p = true) {i : Nat} (hi : i < l.length) (hn : hasI p l[i].i = false) {k : Nat} (hl : k < p.length) : (putP h (bxsOk l) (bxIds l) p (k : Int) l[i].i).2 = nextOk h p k := by
  refine putP_next (bxIds_pos (plOk_bok hk)) hk ?_ (fun hm => ?_) hl
  · unfold bxIds; exact List.mem_map.2 ⟨l[i], List.getElem_mem hi, rfl⟩
  · rw [hasI_iffP.2 hm] at hn; cases hn
end Go.Proofs.Ytggbgjadfmjaaaa
