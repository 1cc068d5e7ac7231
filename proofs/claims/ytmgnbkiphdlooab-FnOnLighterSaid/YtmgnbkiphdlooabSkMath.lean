/-
  Facts on stacks by value, and the laws' comparison of two slices of numbers where it is known to be yes or no.
-/
import Derived.Test.YtmgnbkiphdlooabStT
import Derived.Test.YtmgnbkiphdlooabStP
import Derived.Test.YtmgnbkiphdlooabGBase
namespace Go.Proofs.Ytmgnbkiphdlooab
open Go.RowKit
set_option linter.unusedVariables false

theorem sameInts_yes (u v : Value) (l : List Int) (w : World) (hu : HoldsI w u l) (hv : HoldsI w v l) :
    Calls Try.prog 13 #[u, v] w fun e w' => e = .returned (.bool true) ∧ Below w.heap.size w w' := by
  have := sameInts_any u v l l w hu hv
  rwa [decide_eq_true (rfl : l = l)] at this
theorem sameInts_no (u v : Value) (l m : List Int) (w : World) (hu : HoldsI w u l) (hv : HoldsI w v m) (h : ¬ l = m) :
    Calls Try.prog 13 #[u, v] w fun e w' => e = .returned (.bool false) ∧ Below w.heap.size w w' := by
  have := sameInts_any u v l m w hu hv
  rwa [decide_eq_false h] at this
theorem putS_cases (l : List Int) (high id : Int) : (stOk l high = false ∧ putS l high id = ([], false)) ∨ (stOk l high = true ∧ stOk (l ++ [id]) high = false ∧ putS l high id = (l, false)) ∨ (stOk l high = true ∧ stOk (l ++ [id]) high = true ∧ putS l high id = (l ++ [id], true)) := by
  cases h : stOk l high
  · exact .inl ⟨rfl, putS_bad h⟩
  · cases h2 : stOk (l ++ [id]) high
    · exact .inr (.inl ⟨rfl, rfl, putS_no h h2⟩)
    · exact .inr (.inr ⟨rfl, rfl, putS_yes h h2⟩)
theorem takeS_cases (l : List Int) (high : Int) : takeS l high = ([], -1) ∨ (stOk l high = true ∧ ∃ m x, l = m ++ [x] ∧ 1 ≤ x ∧ x ≤ 999 ∧ takeS l high = (m, x)) := by
  by_cases h : stOk l high = true ∧ 0 < l.length
  · obtain ⟨h, hl⟩ := h
    refine .inr ⟨h, l.take (l.length - 1), l[l.length - 1], ?_, ?_, ?_, takeS_yes h hl⟩
    · have := List.take_append_getElem (l := l) (i := l.length - 1) (by omega)
      rw [this, show l.length - 1 + 1 = l.length by omega, List.take_length]
    · exact ((stOk_iff.1 h).1 _ (by omega)).1
    · exact ((stOk_iff.1 h).1 _ (by omega)).2
  · refine .inl (takeS_no ?_)
    cases hc : stOk l high
    · exact .inl rfl
    · exact .inr (by
        rcases Nat.eq_zero_or_pos l.length with h0 | h0
        · exact h0
        · exact absurd ⟨hc, h0⟩ h)
theorem takeS_app {l : List Int} {high x : Int} (h : stOk (l ++ [x]) high = true) : takeS (l ++ [x]) high = (l, x) := by
  rw [takeS_yes h (by simp)]
  simp
theorem stOk_init {l : List Int} {high x : Int} (h : stOk (l ++ [x]) high = true) : stOk l high = true := by
  obtain ⟨h1, h2, h3, h4, h5⟩ := stOk_iff.1 h
  refine stOk_iff.2 ⟨fun k hk => ?_, (List.nodup_append.1 h2).1, h3, h4, by simp at h5; omega⟩
  have := h1 k (by simp; omega)
  rwa [List.getElem_append_left hk] at this
theorem aboveS_top {l : List Int} {high x : Int} (h : stOk (l ++ [x]) high = true) : aboveS (l ++ [x]) high x = 0 := by
  have hn := (stOk_iff.1 h).2.1
  rw [aboveS_hit h (k := l.length) (by simp) (fun j hj hjk => ?_) (by simp)]
  · simp
  · rw [List.getElem_append_left hjk]
    intro e
    have := (List.nodup_append.1 hn).2.2 l[j] (List.getElem_mem hjk) x (by simp)
    exact this e
theorem stOk_twice {l : List Int} {high x : Int} (hx : x ∈ l) : stOk (l ++ [x]) high = false := by
  cases h : stOk (l ++ [x]) high
  · rfl
  · have hn := (stOk_iff.1 h).2.1
    exact absurd rfl ((List.nodup_append.1 hn).2.2 x hx x (by simp))
theorem stOk_zero (l : List Int) : stOk l 0 = false := by
  cases h : stOk l 0
  · rfl
  · have := (stOk_iff.1 h).2.2.1; omega
theorem aboveS_cases (l : List Int) (high id : Int) : (aboveS l high id = -1 ∧ (stOk l high = false ∨ (stOk l high = true ∧ hasI l id = false))) ∨ (stOk l high = true ∧ ∃ k, k < l.length ∧ aboveS l high id = (l.length : Int) - 1 - k ∧ l.getD k 0 = id ∧ ∀ j, k < j → j < l.length → l.getD j 0 ≠ id) := by
  cases h : stOk l high
  · exact .inl ⟨aboveS_bad h, .inl rfl⟩
  · cases hf : firstI l id with
    | none =>
      refine .inl ⟨by unfold aboveS; rw [if_pos h, hf], .inr ⟨rfl, ?_⟩⟩
      refine hasI_no fun k hk he => ?_
      clear h
      induction l generalizing k with
      | nil => simp at hk
      | cons a t ih =>
        rw [firstI] at hf
        split at hf
        · cases hf
        · next hne =>
          cases k with
          | zero => exact hne he
          | succ k =>
            rw [Option.map_eq_none_iff] at hf
            exact ih hf k (by simpa using hk) (by simpa using he)
    | some k =>
      obtain ⟨hk, he⟩ := firstI_some l id k hf
      refine .inr ⟨rfl, k, hk, by unfold aboveS; rw [if_pos h, hf], by rw [getD_i hk]; exact he, fun j hkj hj => ?_⟩
      rw [getD_i hj]
      have hn := (stOk_iff.1 h).2.1
      intro e
      have := List.pairwise_iff_getElem.1 hn k j hk hj hkj
      exact this (he.trans e.symm)
theorem stOk_take {l : List Int} {high : Int} (m : Nat) (h : stOk l high = true) : stOk (l.take m) high = true := by
  obtain ⟨h1, h2, h3, h4, h5⟩ := stOk_iff.1 h
  refine stOk_iff.2 ⟨fun k hk => ?_, h2.sublist (List.take_sublist _ _), h3, h4, ?_⟩
  · rw [List.getElem_take]; exact h1 k (by rw [List.length_take] at hk; omega)
  · rw [List.length_take]; omega
theorem takeS_take {l : List Int} {high : Int} (h : stOk l high = true) {m : Nat} (hm0 : 0 < m) (hm : m ≤ l.length) : takeS (l.take m) high = (l.take (m - 1), l.getD (m - 1) 0) := by
  have hl : (l.take m).length = m := by rw [List.length_take]; omega
  rw [takeS_yes (stOk_take m h) (by omega), List.take_take, List.getElem_take, getD_i (by omega)]
  simp only [hl]
  rw [Nat.min_eq_left (by omega)]
end Go.Proofs.Ytmgnbkiphdlooab
