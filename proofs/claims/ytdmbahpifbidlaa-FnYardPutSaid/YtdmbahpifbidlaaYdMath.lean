/-
  Plain mathematics of yards: when one is valid, what finding, putting, taking and moving give. Nothing of the program.
-/
import Derived.Test.YtdmbahpifbidlaaStMath
namespace Go.Proofs.Ytdmbahpifbidlaa
set_option linter.unusedVariables false

/-- The row at a place. -/
def rowAt (ss : List (List Int)) (k : Nat) : List Int := ss.getD k []
theorem rowAt_get {ss : List (List Int)} {k : Nat} (h : k < ss.length) : rowAt ss k = ss[k] := by
  unfold rowAt
  rw [List.getD_eq_getElem?_getD, List.getElem?_eq_getElem h, Option.getD_some]
theorem rowAt_out {ss : List (List Int)} {k : Nat} (h : ss.length ≤ k) : rowAt ss k = [] := by
  unfold rowAt
  rw [List.getD_eq_getElem?_getD, List.getElem?_eq_none h, Option.getD_none]
theorem rowAt_mem {ss : List (List Int)} {k : Nat} (h : k < ss.length) : rowAt ss k ∈ ss := by rw [rowAt_get h]; exact List.getElem_mem h
theorem rowAt_set_self {ss : List (List Int)} {k : Nat} (h : k < ss.length) (s : List Int) : rowAt (ss.set k s) k = s := by
  rw [rowAt_get (by rw [List.length_set]; exact h), List.getElem_set_self]
theorem rowAt_set_ne {ss : List (List Int)} {k j : Nat} (h : k ≠ j) (s : List Int) : rowAt (ss.set k s) j = rowAt ss j := by
  unfold rowAt
  rw [List.getD_eq_getElem?_getD, List.getD_eq_getElem?_getD, List.getElem?_set_ne h]
theorem set_rowAt {ss : List (List Int)} {k : Nat} (h : k < ss.length) : ss.set k (rowAt ss k) = ss := by
  rw [rowAt_get h, List.set_getElem_self]

/-- Whether a yard is valid. -/
def ydOk (h : Int) (ss : List (List Int)) : Bool := decide ((∀ s ∈ ss, stOk s h = true) ∧ ss.flatten.Nodup ∧ 1 ≤ ss.length ∧ ss.length ≤ 5 ∧ 1 ≤ h ∧ h ≤ 5)
theorem ydOk_iff {h : Int} {ss : List (List Int)} : ydOk h ss = true ↔ (∀ s ∈ ss, stOk s h = true) ∧ ss.flatten.Nodup ∧ 1 ≤ ss.length ∧ ss.length ≤ 5 ∧ 1 ≤ h ∧ h ≤ 5 := decide_eq_true_iff
theorem ydOk_row {h : Int} {ss : List (List Int)} (hk : ydOk h ss = true) {k : Nat} (hl : k < ss.length) : stOk (rowAt ss k) h = true := (ydOk_iff.1 hk).1 _ (rowAt_mem hl)
theorem ydOk_stack {h : Int} {ss : List (List Int)} {k : Nat} (hl : k < ss.length) (hf : stOk (rowAt ss k) h = false) : ydOk h ss = false := by
  cases hc : ydOk h ss
  · rfl
  · rw [ydOk_row hc hl] at hf; cases hf
theorem ydOk_nil (h : Int) : ydOk h [] = false := by
  cases hc : ydOk h []
  · rfl
  · have := (ydOk_iff.1 hc).2.2.1
    simp at this

/-- The ids ahead of a place. -/
def allY (ss : List (List Int)) (k j : Nat) : List Int := (ss.take k).flatten ++ (rowAt ss k).take j
theorem allY_next {ss : List (List Int)} {k j : Nat} (h : j < (rowAt ss k).length) : allY ss k (j + 1) = allY ss k j ++ [(rowAt ss k).getD j 0] := by
  unfold allY
  rw [getD_i h, List.append_assoc, List.take_append_getElem h]
theorem allY_row {ss : List (List Int)} {k : Nat} (h : k < ss.length) : allY ss (k + 1) 0 = allY ss k (rowAt ss k).length := by
  unfold allY
  rw [List.take_zero, List.append_nil, List.take_length, rowAt_get h, ← List.take_append_getElem h, List.flatten_append]
  simp
theorem allY_start (ss : List (List Int)) : allY ss 0 0 = [] := by simp [allY]
theorem allY_end (ss : List (List Int)) : allY ss ss.length 0 = ss.flatten := by simp [allY]
theorem allY_prefix {ss : List (List Int)} {k j : Nat} (h : k < ss.length) : allY ss k j <+: ss.flatten := by
  refine ⟨(rowAt ss k).drop j ++ (ss.drop (k + 1)).flatten, ?_⟩
  unfold allY
  rw [List.append_assoc, ← List.append_assoc ((rowAt ss k).take j), List.take_append_drop, rowAt_get h]
  have e : ss.drop k = ss[k] :: ss.drop (k + 1) := List.drop_eq_getElem_cons h
  have e2 : (ss.drop k).flatten = ss[k] ++ (ss.drop (k + 1)).flatten := by rw [e, List.flatten_cons]
  rw [← e2, ← List.flatten_append, List.take_append_drop]
theorem ydOk_dup {h : Int} {ss : List (List Int)} {k j : Nat} (hk : k < ss.length) (hj : j < (rowAt ss k).length) (hm : hasI (allY ss k j) ((rowAt ss k).getD j 0) = true) : ydOk h ss = false := by
  cases hc : ydOk h ss
  · rfl
  · have hn := (ydOk_iff.1 hc).2.1
    have hp : (allY ss k (j + 1)).Nodup := hn.sublist (allY_prefix hk).sublist
    rw [allY_next hj] at hp
    have hm' : (rowAt ss k).getD j 0 ∈ allY ss k j := of_decide_eq_true hm
    exact absurd rfl ((List.nodup_append.1 hp).2.2 _ hm' _ (by simp))
theorem allY_nodup {ss : List (List Int)} {k j : Nat} (h : (allY ss k j).Nodup) (hj : j < (rowAt ss k).length) (hm : hasI (allY ss k j) ((rowAt ss k).getD j 0) = false) : (allY ss k (j + 1)).Nodup := by
  rw [allY_next hj]
  refine List.nodup_append.2 ⟨h, by simp, fun a ha b hb => ?_⟩
  rw [List.mem_singleton] at hb
  subst hb
  intro e
  subst e
  exact of_decide_eq_false hm ha
theorem ydOk_end {h : Int} {ss : List (List Int)} (hs : ∀ k, k < ss.length → stOk (rowAt ss k) h = true) (hn : (allY ss ss.length 0).Nodup) : ydOk h ss = (decide (1 ≤ (ss.length : Int) ∧ (ss.length : Int) ≤ 5) && decide (1 ≤ h ∧ h ≤ 5)) := by
  rw [allY_end] at hn
  have hs' : ∀ s ∈ ss, stOk s h = true := fun s hm => by
    obtain ⟨k, hk, rfl⟩ := List.getElem_of_mem hm
    rw [← rowAt_get hk]; exact hs k hk
  by_cases h1 : 1 ≤ (ss.length : Int) ∧ (ss.length : Int) ≤ 5
  · by_cases h2 : 1 ≤ h ∧ h ≤ 5
    · rw [decide_eq_true h1, decide_eq_true h2]
      exact ydOk_iff.2 ⟨hs', hn, by omega, by omega, h2.1, h2.2⟩
    · rw [decide_eq_true h1, decide_eq_false h2]
      cases hc : ydOk h ss
      · rfl
      · exact absurd (ydOk_iff.1 hc).2.2.2.2 h2
  · rw [decide_eq_false h1]
    cases hc : ydOk h ss
    · rfl
    · have := ydOk_iff.1 hc
      omega
theorem ydOk_more {h : Int} {ss : List (List Int)} (hk : ydOk h ss = true) (hl : ss.length ≠ 5) : ydOk h (ss ++ [[]]) = true := by
  obtain ⟨h1, h2, h3, h4, h5, h6⟩ := ydOk_iff.1 hk
  refine ydOk_iff.2 ⟨fun s hm => ?_, by simpa using h2, by simp, by simp; omega, h5, h6⟩
  rcases List.mem_append.1 hm with hm | hm
  · exact h1 s hm
  · rw [List.mem_singleton] at hm
    subst hm
    exact stOk_iff.2 ⟨fun k hk => by simp at hk, by simp, h5, h6, by simp; omega⟩

/-- The first row that has an id. -/
def rowOf : List (List Int) → Int → Option Nat
  | [], _ => none
  | s :: ss, n => if n ∈ s then some 0 else (rowOf ss n).map (· + 1)
theorem rowOf_hit : ∀ (ss : List (List Int)) (n : Int) (k : Nat), k < ss.length → (∀ j, j < k → hasI (rowAt ss j) n = false) → hasI (rowAt ss k) n = true → rowOf ss n = some k
  | s :: ss, n, 0, _, _, h => by
    have h' : n ∈ s := of_decide_eq_true h
    rw [rowOf, if_pos h']
  | s :: ss, n, k + 1, hk, hn, h => by
    have h0 : n ∉ s := of_decide_eq_false (hn 0 (by omega))
    have ih := rowOf_hit ss n k (by simpa using hk) (fun j hj => hn (j + 1) (by omega)) h
    rw [rowOf, if_neg h0, ih]; rfl
theorem rowOf_none : ∀ (ss : List (List Int)) (n : Int), (∀ j, j < ss.length → hasI (rowAt ss j) n = false) → rowOf ss n = none
  | [], _, _ => rfl
  | s :: ss, n, hn => by
    have h0 : n ∉ s := of_decide_eq_false (hn 0 (by simp))
    have ih := rowOf_none ss n (fun j hj => hn (j + 1) (by simpa using hj))
    rw [rowOf, if_neg h0, ih]; rfl
theorem rowOf_some : ∀ (ss : List (List Int)) (n : Int) (k : Nat), rowOf ss n = some k → k < ss.length ∧ hasI (rowAt ss k) n = true
  | s :: ss, n, k, h => by
    rw [rowOf] at h
    split at h
    · next e => cases h; exact ⟨by simp, decide_eq_true e⟩
    · obtain ⟨j, hj, rfl⟩ := Option.map_eq_some_iff.1 h
      obtain ⟨h1, h2⟩ := rowOf_some ss n j hj
      exact ⟨by simpa using h1, h2⟩
theorem rowOf_no : ∀ (ss : List (List Int)) (n : Int), rowOf ss n = none → n ∉ ss.flatten
  | [], _, _ => by simp
  | s :: ss, n, h => by
    rw [rowOf] at h
    split at h
    · cases h
    · next e =>
      rw [Option.map_eq_none_iff] at h
      rw [List.flatten_cons, List.mem_append]
      rintro (h' | h')
      · exact e h'
      · exact rowOf_no ss n h h'
theorem rowOf_flat {ss : List (List Int)} {n : Int} (h : n ∉ ss.flatten) : rowOf ss n = none :=
  rowOf_none ss n fun j hj => decide_eq_false fun hm => h (List.mem_flatten.2 ⟨_, rowAt_mem hj, hm⟩)
/-- What YardFind gives. -/
def findY (h : Int) (ss : List (List Int)) (n : Int) : Int := if ydOk h ss = true then (match rowOf ss n with | some k => (k : Int) | none => -1) else -1
theorem findY_bad {h : Int} {ss : List (List Int)} {n : Int} (hk : ydOk h ss = false) : findY h ss n = -1 := by
  unfold findY; rw [hk]; rfl
theorem findY_hit {h : Int} {ss : List (List Int)} {n : Int} (hk : ydOk h ss = true) {k : Nat} (hl : k < ss.length) (hn : ∀ j, j < k → hasI (rowAt ss j) n = false) (he : hasI (rowAt ss k) n = true) : findY h ss n = (k : Int) := by
  unfold findY; rw [if_pos hk, rowOf_hit ss n k hl hn he]
theorem findY_none {h : Int} {ss : List (List Int)} {n : Int} (hn : ∀ j, j < ss.length → hasI (rowAt ss j) n = false) : findY h ss n = -1 := by
  unfold findY; rw [rowOf_none ss n hn]; split <;> rfl
theorem findY_flat {h : Int} {ss : List (List Int)} {n : Int} (hn : n ∉ ss.flatten) : findY h ss n = -1 := by
  unfold findY; rw [rowOf_flat hn]; split <;> rfl
theorem findY_bd (h : Int) (ss : List (List Int)) (n : Int) : -1 ≤ findY h ss n ∧ findY h ss n < (ss.length : Int) ∨ findY h ss n = -1 := by
  unfold findY
  split
  · cases hr : rowOf ss n with
    | none => exact .inr rfl
    | some k =>
      have := (rowOf_some ss n k hr).1
      exact .inl ⟨by simp only []; omega, by simp only []; omega⟩
  · exact .inr rfl
theorem row_unique {h : Int} {ss : List (List Int)} {n : Int} (hk : ydOk h ss = true) {j k : Nat} (hj : j < ss.length) (hl : k < ss.length) (h1 : hasI (rowAt ss j) n = true) (h2 : hasI (rowAt ss k) n = true) : j = k := by
  have hn := (ydOk_iff.1 hk).2.1
  have hp := (List.pairwise_flatten.1 hn).2
  have m1 : n ∈ rowAt ss j := of_decide_eq_true h1
  have m2 : n ∈ rowAt ss k := of_decide_eq_true h2
  rw [rowAt_get hj] at m1
  rw [rowAt_get hl] at m2
  rcases Nat.lt_trichotomy j k with hjk | hjk | hjk
  · exact absurd rfl (List.pairwise_iff_getElem.1 hp j k hj hl hjk n m1 n m2)
  · exact hjk
  · exact absurd rfl (List.pairwise_iff_getElem.1 hp k j hl hj hjk n m2 n m1)
/-- Every box is in one stack. -/
theorem findY_law {h : Int} {ss : List (List Int)} {n : Int} (hk : ydOk h ss = true) {k : Nat} (hl : k < ss.length) : hasI (rowAt ss k) n = decide ((k : Int) = findY h ss n) := by
  unfold findY
  rw [if_pos hk]
  cases hr : rowOf ss n with
  | none =>
    rw [decide_eq_false (by simp only []; omega)]
    exact decide_eq_false fun hm => rowOf_no ss n hr (List.mem_flatten.2 ⟨_, rowAt_mem hl, hm⟩)
  | some j =>
    obtain ⟨h1, h2⟩ := rowOf_some ss n j hr
    by_cases e : k = j
    · subst e
      rw [h2, decide_eq_true rfl]
    · rw [decide_eq_false (by simp only []; omega)]
      cases hc : hasI (rowAt ss k) n
      · rfl
      · exact absurd (row_unique hk hl h1 hc h2) e
theorem findY_in {h : Int} {ss : List (List Int)} {n : Int} (hk : ydOk h ss = true) (hm : n ∈ ss.flatten) : 0 ≤ findY h ss n := by
  unfold findY
  rw [if_pos hk]
  cases hr : rowOf ss n with
  | none => exact absurd hm (rowOf_no ss n hr)
  | some j => simp only []; omega
end Go.Proofs.Ytdmbahpifbidlaa
