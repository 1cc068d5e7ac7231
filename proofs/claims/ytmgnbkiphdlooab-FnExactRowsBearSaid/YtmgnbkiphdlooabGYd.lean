/-
  Plain mathematics of yards: when one is valid, what finding, putting, taking and moving give. Nothing of the program.
  Plain mathematics of yards: the ids in ascending order. Nothing of the program.
  Plain mathematics of yards: what putting, taking and moving give, and what undoes them. Nothing of the program.
  Plain mathematics of sorted ids: what sorting and compacting tell of a yard. Nothing of the program.
  Plain mathematics of yards: putting and taking by way of one stack. Nothing of the program.
-/
import Derived.Test.YtmgnbkiphdlooabGBase
import Derived.Lib.SlicesCompact
namespace Go.Proofs.Ytmgnbkiphdlooab
set_option linter.unusedVariables false

/-- The row at a place. -/
def rowAt (ss : List (List Int)) (k : Nat) : List Int := ss.getD k []
theorem rowAt_get {ss : List (List Int)} {k : Nat} (h : k < ss.length) : rowAt ss k = ss[k] := by
  unfold rowAt
  rw [List.getD_eq_getElem?_getD, List.getElem?_eq_getElem h, Option.getD_some]
theorem rowAt_out {ss : List (List Int)} {k : Nat} (h : ss.length ≤ k) : rowAt ss k = [] := by
  unfold rowAt
  rw [List.getD_eq_getElem?_getD, List.getElem?_eq_none h, Option.getD_none]
theorem rowAt_mem {ss : List (List Int)} {k : Nat} (h : k < ss.length) : rowAt ss k ∈ ss := by rw [rowAt_get h]; exact List.getElem_mem h
theorem rowAt_set_self {ss : List (List Int)} {k : Nat} (h : k < ss.length) (s : List Int) : rowAt (ss.set k s) k = s := by
  rw [rowAt_get (by rw [List.length_set]; exact h), List.getElem_set_self]
theorem rowAt_set_ne {ss : List (List Int)} {k j : Nat} (h : k ≠ j) (s : List Int) : rowAt (ss.set k s) j = rowAt ss j := by
  unfold rowAt
  rw [List.getD_eq_getElem?_getD, List.getD_eq_getElem?_getD, List.getElem?_set_ne h]
theorem set_rowAt {ss : List (List Int)} {k : Nat} (h : k < ss.length) : ss.set k (rowAt ss k) = ss := by
  rw [rowAt_get h, List.set_getElem_self]

/-- Whether a yard is valid. -/
def ydOk (h : Int) (ss : List (List Int)) : Bool := decide ((∀ s ∈ ss, stOk s h = true) ∧ ss.flatten.Nodup ∧ 1 ≤ ss.length ∧ ss.length ≤ 5 ∧ 1 ≤ h ∧ h ≤ 5)
theorem ydOk_iff {h : Int} {ss : List (List Int)} : ydOk h ss = true ↔ (∀ s ∈ ss, stOk s h = true) ∧ ss.flatten.Nodup ∧ 1 ≤ ss.length ∧ ss.length ≤ 5 ∧ 1 ≤ h ∧ h ≤ 5 := decide_eq_true_iff
theorem ydOk_row {h : Int} {ss : List (List Int)} (hk : ydOk h ss = true) {k : Nat} (hl : k < ss.length) : stOk (rowAt ss k) h = true := (ydOk_iff.1 hk).1 _ (rowAt_mem hl)
theorem ydOk_stack {h : Int} {ss : List (List Int)} {k : Nat} (hl : k < ss.length) (hf : stOk (rowAt ss k) h = false) : ydOk h ss = false := by
  cases hc : ydOk h ss
  · rfl
  · rw [ydOk_row hc hl] at hf; cases hf
theorem ydOk_nil (h : Int) : ydOk h [] = false := by
  cases hc : ydOk h []
  · rfl
  · have := (ydOk_iff.1 hc).2.2.1
    simp at this

/-- The ids ahead of a place. -/
def allY (ss : List (List Int)) (k j : Nat) : List Int := (ss.take k).flatten ++ (rowAt ss k).take j
theorem allY_next {ss : List (List Int)} {k j : Nat} (h : j < (rowAt ss k).length) : allY ss k (j + 1) = allY ss k j ++ [(rowAt ss k).getD j 0] := by
  unfold allY
  rw [getD_i h, List.append_assoc, List.take_append_getElem h]
theorem allY_row {ss : List (List Int)} {k : Nat} (h : k < ss.length) : allY ss (k + 1) 0 = allY ss k (rowAt ss k).length := by
  unfold allY
  rw [List.take_zero, List.append_nil, List.take_length, rowAt_get h, ← List.take_append_getElem h, List.flatten_append]
  simp
theorem allY_start (ss : List (List Int)) : allY ss 0 0 = [] := by simp [allY]
theorem allY_end (ss : List (List Int)) : allY ss ss.length 0 = ss.flatten := by simp [allY]
theorem allY_prefix {ss : List (List Int)} {k j : Nat} (h : k < ss.length) : allY ss k j <+: ss.flatten := by
  refine ⟨(rowAt ss k).drop j ++ (ss.drop (k + 1)).flatten, ?_⟩
  unfold allY
  rw [List.append_assoc, ← List.append_assoc ((rowAt ss k).take j), List.take_append_drop, rowAt_get h]
  have e : ss.drop k = ss[k] :: ss.drop (k + 1) := List.drop_eq_getElem_cons h
  have e2 : (ss.drop k).flatten = ss[k] ++ (ss.drop (k + 1)).flatten := by rw [e, List.flatten_cons]
  rw [← e2, ← List.flatten_append, List.take_append_drop]
theorem ydOk_dup {h : Int} {ss : List (List Int)} {k j : Nat} (hk : k < ss.length) (hj : j < (rowAt ss k).length) (hm : hasI (allY ss k j) ((rowAt ss k).getD j 0) = true) : ydOk h ss = false := by
  cases hc : ydOk h ss
  · rfl
  · have hn := (ydOk_iff.1 hc).2.1
    have hp : (allY ss k (j + 1)).Nodup := hn.sublist (allY_prefix hk).sublist
    rw [allY_next hj] at hp
    have hm' : (rowAt ss k).getD j 0 ∈ allY ss k j := of_decide_eq_true hm
    exact absurd rfl ((List.nodup_append.1 hp).2.2 _ hm' _ (by simp))
theorem allY_nodup {ss : List (List Int)} {k j : Nat} (h : (allY ss k j).Nodup) (hj : j < (rowAt ss k).length) (hm : hasI (allY ss k j) ((rowAt ss k).getD j 0) = false) : (allY ss k (j + 1)).Nodup := by
  rw [allY_next hj]
  refine List.nodup_append.2 ⟨h, by simp, fun a ha b hb => ?_⟩
  rw [List.mem_singleton] at hb
  subst hb
  intro e
  subst e
  exact of_decide_eq_false hm ha
theorem ydOk_end {h : Int} {ss : List (List Int)} (hs : ∀ k, k < ss.length → stOk (rowAt ss k) h = true) (hn : (allY ss ss.length 0).Nodup) : ydOk h ss = (decide (1 ≤ (ss.length : Int) ∧ (ss.length : Int) ≤ 5) && decide (1 ≤ h ∧ h ≤ 5)) := by
  rw [allY_end] at hn
  have hs' : ∀ s ∈ ss, stOk s h = true := fun s hm => by
    obtain ⟨k, hk, rfl⟩ := List.getElem_of_mem hm
    rw [← rowAt_get hk]; exact hs k hk
  by_cases h1 : 1 ≤ (ss.length : Int) ∧ (ss.length : Int) ≤ 5
  · by_cases h2 : 1 ≤ h ∧ h ≤ 5
    · rw [decide_eq_true h1, decide_eq_true h2]
      exact ydOk_iff.2 ⟨hs', hn, by omega, by omega, h2.1, h2.2⟩
    · rw [decide_eq_true h1, decide_eq_false h2]
      cases hc : ydOk h ss
      · rfl
      · exact absurd (ydOk_iff.1 hc).2.2.2.2 h2
  · rw [decide_eq_false h1]
    cases hc : ydOk h ss
    · rfl
    · have := ydOk_iff.1 hc
      omega
theorem ydOk_more {h : Int} {ss : List (List Int)} (hk : ydOk h ss = true) (hl : ss.length ≠ 5) : ydOk h (ss ++ [[]]) = true := by
  obtain ⟨h1, h2, h3, h4, h5, h6⟩ := ydOk_iff.1 hk
  refine ydOk_iff.2 ⟨fun s hm => ?_, by simpa using h2, by simp, by simp; omega, h5, h6⟩
  rcases List.mem_append.1 hm with hm | hm
  · exact h1 s hm
  · rw [List.mem_singleton] at hm
    subst hm
    exact stOk_iff.2 ⟨fun k hk => by simp at hk, by simp, h5, h6, by simp; omega⟩

/-- The first row that has an id. -/
def rowOf : List (List Int) → Int → Option Nat
  | [], _ => none
  | s :: ss, n => if n ∈ s then some 0 else (rowOf ss n).map (· + 1)
theorem rowOf_hit : ∀ (ss : List (List Int)) (n : Int) (k : Nat), k < ss.length → (∀ j, j < k → hasI (rowAt ss j) n = false) → hasI (rowAt ss k) n = true → rowOf ss n = some k
  | s :: ss, n, 0, _, _, h => by
    have h' : n ∈ s := of_decide_eq_true h
    rw [rowOf, if_pos h']
  | s :: ss, n, k + 1, hk, hn, h => by
    have h0 : n ∉ s := of_decide_eq_false (hn 0 (by omega))
    have ih := rowOf_hit ss n k (by simpa using hk) (fun j hj => hn (j + 1) (by omega)) h
    rw [rowOf, if_neg h0, ih]; rfl
theorem rowOf_none : ∀ (ss : List (List Int)) (n : Int), (∀ j, j < ss.length → hasI (rowAt ss j) n = false) → rowOf ss n = none
  | [], _, _ => rfl
  | s :: ss, n, hn => by
    have h0 : n ∉ s := of_decide_eq_false (hn 0 (by simp))
    have ih := rowOf_none ss n (fun j hj => hn (j + 1) (by simpa using hj))
    rw [rowOf, if_neg h0, ih]; rfl
theorem rowOf_some : ∀ (ss : List (List Int)) (n : Int) (k : Nat), rowOf ss n = some k → k < ss.length ∧ hasI (rowAt ss k) n = true
  | s :: ss, n, k, h => by
    rw [rowOf] at h
    split at h
    · next e => cases h; exact ⟨by simp, decide_eq_true e⟩
    · obtain ⟨j, hj, rfl⟩ := Option.map_eq_some_iff.1 h
      obtain ⟨h1, h2⟩ := rowOf_some ss n j hj
      exact ⟨by simpa using h1, h2⟩
theorem rowOf_no : ∀ (ss : List (List Int)) (n : Int), rowOf ss n = none → n ∉ ss.flatten
  | [], _, _ => by simp
  | s :: ss, n, h => by
    rw [rowOf] at h
    split at h
    · cases h
    · next e =>
      rw [Option.map_eq_none_iff] at h
      rw [List.flatten_cons, List.mem_append]
      rintro (h' | h')
      · exact e h'
      · exact rowOf_no ss n h h'
theorem rowOf_flat {ss : List (List Int)} {n : Int} (h : n ∉ ss.flatten) : rowOf ss n = none :=
  rowOf_none ss n fun j hj => decide_eq_false fun hm => h (List.mem_flatten.2 ⟨_, rowAt_mem hj, hm⟩)
/-- What YardFind gives. -/
def findY (h : Int) (ss : List (List Int)) (n : Int) : Int := if ydOk h ss = true then (match rowOf ss n with | some k => (k : Int) | none => -1) else -1
theorem findY_bad {h : Int} {ss : List (List Int)} {n : Int} (hk : ydOk h ss = false) : findY h ss n = -1 := by
  unfold findY; rw [hk]; rfl
theorem findY_hit {h : Int} {ss : List (List Int)} {n : Int} (hk : ydOk h ss = true) {k : Nat} (hl : k < ss.length) (hn : ∀ j, j < k → hasI (rowAt ss j) n = false) (he : hasI (rowAt ss k) n = true) : findY h ss n = (k : Int) := by
  unfold findY; rw [if_pos hk, rowOf_hit ss n k hl hn he]
theorem findY_none {h : Int} {ss : List (List Int)} {n : Int} (hn : ∀ j, j < ss.length → hasI (rowAt ss j) n = false) : findY h ss n = -1 := by
  unfold findY; rw [rowOf_none ss n hn]; split <;> rfl
theorem findY_flat {h : Int} {ss : List (List Int)} {n : Int} (hn : n ∉ ss.flatten) : findY h ss n = -1 := by
  unfold findY; rw [rowOf_flat hn]; split <;> rfl
theorem findY_bd (h : Int) (ss : List (List Int)) (n : Int) : -1 ≤ findY h ss n ∧ findY h ss n < (ss.length : Int) ∨ findY h ss n = -1 := by
  unfold findY
  split
  · cases hr : rowOf ss n with
    | none => exact .inr rfl
    | some k =>
      have := (rowOf_some ss n k hr).1
      exact .inl ⟨by simp only []; omega, by simp only []; omega⟩
  · exact .inr rfl
theorem row_unique {h : Int} {ss : List (List Int)} {n : Int} (hk : ydOk h ss = true) {j k : Nat} (hj : j < ss.length) (hl : k < ss.length) (h1 : hasI (rowAt ss j) n = true) (h2 : hasI (rowAt ss k) n = true) : j = k := by
  have hn := (ydOk_iff.1 hk).2.1
  have hp := (List.pairwise_flatten.1 hn).2
  have m1 : n ∈ rowAt ss j := of_decide_eq_true h1
  have m2 : n ∈ rowAt ss k := of_decide_eq_true h2
  rw [rowAt_get hj] at m1
  rw [rowAt_get hl] at m2
  rcases Nat.lt_trichotomy j k with hjk | hjk | hjk
  · exact absurd rfl (List.pairwise_iff_getElem.1 hp j k hj hl hjk n m1 n m2)
  · exact hjk
  · exact absurd rfl (List.pairwise_iff_getElem.1 hp k j hl hj hjk n m2 n m1)
/-- Every box is in one stack. -/
theorem findY_law {h : Int} {ss : List (List Int)} {n : Int} (hk : ydOk h ss = true) {k : Nat} (hl : k < ss.length) : hasI (rowAt ss k) n = decide ((k : Int) = findY h ss n) := by
  unfold findY
  rw [if_pos hk]
  cases hr : rowOf ss n with
  | none =>
    rw [decide_eq_false (by simp only []; omega)]
    exact decide_eq_false fun hm => rowOf_no ss n hr (List.mem_flatten.2 ⟨_, rowAt_mem hl, hm⟩)
  | some j =>
    obtain ⟨h1, h2⟩ := rowOf_some ss n j hr
    by_cases e : k = j
    · subst e
      rw [h2, decide_eq_true rfl]
    · rw [decide_eq_false (by simp only []; omega)]
      cases hc : hasI (rowAt ss k) n
      · rfl
      · exact absurd (row_unique hk hl h1 hc h2) e
theorem findY_in {h : Int} {ss : List (List Int)} {n : Int} (hk : ydOk h ss = true) (hm : n ∈ ss.flatten) : 0 ≤ findY h ss n := by
  unfold findY
  rw [if_pos hk]
  cases hr : rowOf ss n with
  | none => exact absurd hm (rowOf_no ss n hr)
  | some j => simp only []; omega
end Go.Proofs.Ytmgnbkiphdlooab
namespace Go.Proofs.Ytmgnbkiphdlooab
set_option linter.unusedVariables false

/-- A number laid at its place. -/
def insI : List Int → Int → List Int
  | [], n => [n]
  | a :: l, n => if a < n then a :: insI l n else n :: a :: l
theorem insI_perm : ∀ (l : List Int) (n : Int), (insI l n).Perm (n :: l)
  | [], n => List.Perm.refl _
  | a :: l, n => by
    rw [insI]
    split
    · exact ((insI_perm l n).cons a).trans (List.Perm.swap n a l)
    · exact List.Perm.refl _
theorem insI_comm : ∀ (l : List Int) (a b : Int), insI (insI l a) b = insI (insI l b) a
  | [], a, b => by
    simp only [insI]
    split <;> split <;> first | rfl | omega | (have : a = b := by omega); subst this; rfl
  | c :: l, a, b => by
    have ih := insI_comm l a b
    simp only [insI]
    by_cases h1 : c < a
    · by_cases h2 : c < b
      · simp only [insI, if_pos h1, if_pos h2, ih]
      · by_cases h3 : b < a
        · simp only [insI, if_pos h1, if_neg h2, if_pos h3]
        · exact absurd h1 (by omega)
    · by_cases h2 : c < b
      · by_cases h3 : a < b
        · simp only [insI, if_neg h1, if_pos h2, if_pos h3]
        · exact absurd h2 (by omega)
      · by_cases h3 : a < b
        · have h4 : ¬ b < a := by omega
          simp only [insI, if_neg h1, if_neg h2, if_pos h3, if_neg h4]
        · by_cases h4 : b < a
          · simp only [insI, if_neg h1, if_neg h2, if_neg h3, if_pos h4]
          · have : a = b := by omega
            subst this
            rfl
theorem insI_sorted : ∀ (l : List Int) (n : Int), l.Pairwise (· < ·) → n ∉ l → (insI l n).Pairwise (· < ·)
  | [], n, _, _ => by simp [insI]
  | a :: l, n, hp, hn => by
    rw [List.pairwise_cons] at hp
    rw [List.mem_cons, not_or] at hn
    rw [insI]
    split
    · next h =>
      refine List.pairwise_cons.2 ⟨fun x hx => ?_, insI_sorted l n hp.2 hn.2⟩
      have := (insI_perm l n).mem_iff.1 hx
      rcases List.mem_cons.1 this with e | e
      · omega
      · exact hp.1 x e
    · next h =>
      refine List.pairwise_cons.2 ⟨fun x hx => ?_, List.pairwise_cons.2 hp⟩
      rcases List.mem_cons.1 hx with e | e
      · have := hn.1; omega
      · have := hp.1 x e; have := hn.1; omega
theorem foldI_perm : ∀ (l acc : List Int), (l.foldl insI acc).Perm (acc ++ l)
  | [], acc => by simp
  | a :: l, acc => by
    rw [List.foldl_cons]
    refine (foldI_perm l (insI acc a)).trans ?_
    refine ((insI_perm acc a).append_right l).trans ?_
    exact (List.perm_middle (a := a) (l₁ := acc) (l₂ := l)).symm
theorem foldI_sorted : ∀ (l acc : List Int), acc.Pairwise (· < ·) → (acc ++ l).Nodup → (l.foldl insI acc).Pairwise (· < ·)
  | [], acc, hp, _ => by simpa using hp
  | a :: l, acc, hp, hn => by
    rw [List.foldl_cons]
    have hna : a ∉ acc := fun hm => absurd rfl ((List.nodup_append.1 hn).2.2 a hm a (by simp))
    refine foldI_sorted l (insI acc a) (insI_sorted acc a hp hna) ?_
    have : (insI acc a ++ l).Perm (acc ++ a :: l) := ((insI_perm acc a).append_right l).trans (List.perm_middle (a := a) (l₁ := acc) (l₂ := l)).symm
    exact this.nodup_iff.2 hn
/-- What YardIds gives. -/
def idsY (h : Int) (ss : List (List Int)) : List Int := if ydOk h ss = true then ss.flatten.foldl insI [] else []
theorem idsY_bad {h : Int} {ss : List (List Int)} (hk : ydOk h ss = false) : idsY h ss = [] := by unfold idsY; rw [hk]; rfl
theorem idsY_perm {h : Int} {ss : List (List Int)} (hk : ydOk h ss = true) : (idsY h ss).Perm ss.flatten := by
  unfold idsY
  rw [if_pos hk]
  simpa using foldI_perm ss.flatten []
theorem idsY_sorted {h : Int} {ss : List (List Int)} : (idsY h ss).Pairwise (· < ·) := by
  unfold idsY
  split
  · next hk => exact foldI_sorted _ [] List.Pairwise.nil (by simpa using (ydOk_iff.1 hk).2.1)
  · exact List.Pairwise.nil
theorem idsY_len {h : Int} {ss : List (List Int)} (hk : ydOk h ss = true) : (idsY h ss).length = ss.flatten.length := (idsY_perm hk).length_eq
theorem idsY_mem {h : Int} {ss : List (List Int)} {n : Int} (hm : n ∈ idsY h ss) : n ∈ ss.flatten ∧ 0 ≤ findY h ss n := by
  cases hk : ydOk h ss
  · rw [idsY_bad hk] at hm; simp at hm
  · have := (idsY_perm hk).mem_iff.1 hm
    exact ⟨this, findY_in hk this⟩
theorem idsY_eq {h : Int} {ss tt : List (List Int)} (hs : ydOk h ss = true) (ht : ydOk h tt = true) (hp : ss.flatten.Perm tt.flatten) : idsY h ss = idsY h tt := by
  unfold idsY
  rw [if_pos hs, if_pos ht]
  exact hp.foldl_eq' (fun x _ y _ z => insI_comm z x y) []

/-- How many boxes the first rows have. -/
def sumY (ss : List (List Int)) (k : Nat) : Nat := (ss.take k).flatten.length
theorem sumY_start (ss : List (List Int)) : sumY ss 0 = 0 := by simp [sumY]
theorem sumY_next {ss : List (List Int)} {k : Nat} (h : k < ss.length) : sumY ss (k + 1) = sumY ss k + (rowAt ss k).length := by
  unfold sumY
  rw [rowAt_get h, ← List.take_append_getElem h, List.flatten_append]
  simp
theorem sumY_end (ss : List (List Int)) : sumY ss ss.length = ss.flatten.length := by simp [sumY]
theorem ydOk_size {h : Int} {ss : List (List Int)} (hk : ydOk h ss = true) : ss.flatten.length ≤ 25 := by
  obtain ⟨h1, _, _, h4, _, _⟩ := ydOk_iff.1 hk
  have : ∀ (tt : List (List Int)), (∀ s ∈ tt, s.length ≤ 5) → tt.flatten.length ≤ 5 * tt.length := by
    intro tt
    induction tt with
    | nil => intro _; simp
    | cons a t ih =>
      intro h
      have h0 := h a (by simp)
      have h1 := ih fun s hs => h s (by simp [hs])
      rw [List.flatten_cons, List.length_append, List.length_cons]
      omega
  have := this ss fun s hs => by have := stOk_iff.1 (h1 s hs); omega
  omega
theorem sumY_le {ss : List (List Int)} {k : Nat} (h : k ≤ ss.length) : sumY ss k ≤ ss.flatten.length := by
  unfold sumY
  have e : ss.flatten = (ss.take k).flatten ++ (ss.drop k).flatten := by rw [← List.flatten_append, List.take_append_drop]
  rw [e, List.length_append]
  omega
end Go.Proofs.Ytmgnbkiphdlooab
namespace Go.Proofs.Ytmgnbkiphdlooab
set_option linter.unusedVariables false

abbrev Yd := Int × List (List Int)
/-- What YardTake gives. -/
def takeY (h : Int) (ss : List (List Int)) (f : Int) : Yd × Int :=
  if ydOk h ss = true then
    (if 0 ≤ f ∧ f < (ss.length : Int) ∧ 0 < (rowAt ss f.toNat).length then ((h, ss.set f.toNat ((rowAt ss f.toNat).take ((rowAt ss f.toNat).length - 1))), (rowAt ss f.toNat).getD ((rowAt ss f.toNat).length - 1) 0) else ((h, ss), -1))
  else ((0, []), -1)
/-- What YardPut gives. -/
def putY (h : Int) (ss : List (List Int)) (t id : Int) : Yd × Bool :=
  if ydOk h ss = true then
    (if 0 ≤ t ∧ t < (ss.length : Int) ∧ ydOk h (ss.set t.toNat (rowAt ss t.toNat ++ [id])) = true then ((h, ss.set t.toNat (rowAt ss t.toNat ++ [id])), true) else ((h, ss), false))
  else ((0, []), false)
/-- What YardMove gives. -/
def moveY (h : Int) (ss : List (List Int)) (f t : Int) : Yd × Bool :=
  if ydOk h ss = true then
    (if (takeY h ss f).2 < 0 ∨ f = t then ((h, ss), false)
     else if (putY (takeY h ss f).1.1 (takeY h ss f).1.2 t (takeY h ss f).2).2 = true then ((putY (takeY h ss f).1.1 (takeY h ss f).1.2 t (takeY h ss f).2).1, true) else ((h, ss), false))
  else ((0, []), false)

theorem takeY_bad {h : Int} {ss : List (List Int)} {f : Int} (hk : ydOk h ss = false) : takeY h ss f = ((0, []), -1) := by unfold takeY; rw [hk]; rfl
theorem putY_bad {h : Int} {ss : List (List Int)} {t id : Int} (hk : ydOk h ss = false) : putY h ss t id = ((0, []), false) := by unfold putY; rw [hk]; rfl
theorem moveY_bad {h : Int} {ss : List (List Int)} {f t : Int} (hk : ydOk h ss = false) : moveY h ss f t = ((0, []), false) := by unfold moveY; rw [hk]; rfl
theorem takeY_no {h : Int} {ss : List (List Int)} {f : Int} (hk : ydOk h ss = true) (hf : ¬ (0 ≤ f ∧ f < (ss.length : Int) ∧ 0 < (rowAt ss f.toNat).length)) : takeY h ss f = ((h, ss), -1) := by unfold takeY; rw [if_pos hk, if_neg hf]
theorem putY_no {h : Int} {ss : List (List Int)} {t id : Int} (hk : ydOk h ss = true) (hf : ¬ (0 ≤ t ∧ t < (ss.length : Int) ∧ ydOk h (ss.set t.toNat (rowAt ss t.toNat ++ [id])) = true)) : putY h ss t id = ((h, ss), false) := by unfold putY; rw [if_pos hk, if_neg hf]
theorem putY_yes {h : Int} {ss : List (List Int)} {t id : Int} (hk : ydOk h ss = true) (h0 : 0 ≤ t) (h1 : t < (ss.length : Int)) (h2 : ydOk h (ss.set t.toNat (rowAt ss t.toNat ++ [id])) = true) : putY h ss t id = ((h, ss.set t.toNat (rowAt ss t.toNat ++ [id])), true) := by unfold putY; rw [if_pos hk, if_pos ⟨h0, h1, h2⟩]
theorem takeY_yes {h : Int} {ss : List (List Int)} {f : Int} (hk : ydOk h ss = true) (h0 : 0 ≤ f) (h1 : f < (ss.length : Int)) {m : List Int} {x : Int} (h2 : rowAt ss f.toNat = m ++ [x]) : takeY h ss f = ((h, ss.set f.toNat m), x) := by
  unfold takeY
  have hl : (rowAt ss f.toNat).length = m.length + 1 := by rw [h2]; simp
  rw [if_pos hk, if_pos ⟨h0, h1, by omega⟩, h2]
  simp [List.getD_eq_getElem?_getD]

theorem flat_put : ∀ (ss : List (List Int)) (k : Nat) (x : Int), k < ss.length → (ss.set k (rowAt ss k ++ [x])).flatten.Perm (x :: ss.flatten)
  | s :: ss, 0, x, _ => by
    show ((s ++ [x]) ++ ss.flatten).Perm (x :: (s ++ ss.flatten))
    rw [List.append_assoc]
    exact List.perm_middle
  | s :: ss, k + 1, x, h => by
    show (s ++ (ss.set k (rowAt ss k ++ [x])).flatten).Perm (x :: (s ++ ss.flatten))
    exact ((flat_put ss k x (by simpa using h)).append_left s).trans List.perm_middle
/-- A row is a lower one and its highest box. -/
theorem row_top {l : List Int} (h : 0 < l.length) : l = l.take (l.length - 1) ++ [l.getD (l.length - 1) 0] := by
  have := List.take_append_getElem (l := l) (i := l.length - 1) (by omega)
  rw [getD_i (by omega), this, show l.length - 1 + 1 = l.length by omega, List.take_length]
theorem flat_take {ss : List (List Int)} {k : Nat} {m : List Int} {x : Int} (hk : k < ss.length) (hr : rowAt ss k = m ++ [x]) : ss.flatten.Perm (x :: (ss.set k m).flatten) := by
  have e : (ss.set k m).set k (rowAt (ss.set k m) k ++ [x]) = ss := by
    rw [rowAt_set_self hk, List.set_set, ← hr, set_rowAt hk]
  have := flat_put (ss.set k m) k x (by rw [List.length_set]; exact hk)
  rwa [e] at this
theorem ydOk_take {h : Int} {ss : List (List Int)} {k : Nat} {m : List Int} {x : Int} (hk : ydOk h ss = true) (hl : k < ss.length) (hr : rowAt ss k = m ++ [x]) : ydOk h (ss.set k m) = true ∧ 1 ≤ x ∧ x ≤ 999 ∧ x ∉ (ss.set k m).flatten := by
  obtain ⟨h1, h2, h3, h4, h5, h6⟩ := ydOk_iff.1 hk
  have hn := (flat_take hl hr).nodup_iff.1 h2
  rw [List.nodup_cons] at hn
  have hrow := h1 _ (rowAt_mem hl)
  rw [hr] at hrow
  obtain ⟨q1, q2, q3, q4, q5⟩ := stOk_iff.1 hrow
  have hx := q1 m.length (by simp)
  rw [List.getElem_concat_length rfl] at hx
  refine ⟨ydOk_iff.2 ⟨fun s hs => ?_, hn.2, by rw [List.length_set]; exact h3, by rw [List.length_set]; exact h4, h5, h6⟩, hx.1, hx.2, hn.1⟩
  rcases List.mem_or_eq_of_mem_set hs with hs | hs
  · exact h1 s hs
  · subst hs
    refine stOk_iff.2 ⟨fun j hj => ?_, (List.nodup_append.1 q2).1, q3, q4, by simp at q5; omega⟩
    have := q1 j (by simp; omega)
    rwa [List.getElem_append_left hj] at this
/-- What was taken can be put back. -/
theorem put_back {h : Int} {ss : List (List Int)} {f : Int} {m : List Int} {x : Int} (hk : ydOk h ss = true) (h0 : 0 ≤ f) (h1 : f < (ss.length : Int)) (hr : rowAt ss f.toNat = m ++ [x]) : putY h (ss.set f.toNat m) f x = ((h, ss), true) := by
  have hl : f.toNat < ss.length := by omega
  have e : (ss.set f.toNat m).set f.toNat (rowAt (ss.set f.toNat m) f.toNat ++ [x]) = ss := by
    rw [rowAt_set_self hl, List.set_set, ← hr, set_rowAt hl]
  rw [putY_yes (ydOk_take hk hl hr).1 h0 (by rw [List.length_set]; exact h1) (by rw [e]; exact hk), e]
/-- What was put can be taken. -/
theorem take_back {h : Int} {ss : List (List Int)} {t id : Int} (h0 : 0 ≤ t) (h1 : t < (ss.length : Int)) (h2 : ydOk h (ss.set t.toNat (rowAt ss t.toNat ++ [id])) = true) : takeY h (ss.set t.toNat (rowAt ss t.toNat ++ [id])) t = ((h, ss), id) := by
  have hl : t.toNat < ss.length := by omega
  rw [takeY_yes h2 h0 (by rw [List.length_set]; exact h1) (rowAt_set_self hl _), List.set_set, set_rowAt hl]
theorem put_len {h : Int} {ss : List (List Int)} {k : Nat} {id : Int} (hk : ydOk h ss = true) (hl : k < ss.length) (h2 : ydOk h (ss.set k (rowAt ss k ++ [id])) = true) : (idsY h (ss.set k (rowAt ss k ++ [id]))).length = (idsY h ss).length + 1 := by
  rw [idsY_len hk, idsY_len h2, (flat_put ss k id hl).length_eq, List.length_cons]

/-- The ways of a take. -/
theorem takeY_cases (h : Int) (ss : List (List Int)) (f : Int) : (ydOk h ss = false ∧ takeY h ss f = ((0, []), -1)) ∨ (ydOk h ss = true ∧ ¬ (0 ≤ f ∧ f < (ss.length : Int) ∧ 0 < (rowAt ss f.toNat).length) ∧ takeY h ss f = ((h, ss), -1)) ∨
    (ydOk h ss = true ∧ 0 ≤ f ∧ f < (ss.length : Int) ∧ ∃ m x, rowAt ss f.toNat = m ++ [x] ∧ 1 ≤ x ∧ x ≤ 999 ∧ takeY h ss f = ((h, ss.set f.toNat m), x)) := by
  cases hk : ydOk h ss
  · exact .inl ⟨rfl, takeY_bad hk⟩
  · by_cases hf : 0 ≤ f ∧ f < (ss.length : Int) ∧ 0 < (rowAt ss f.toNat).length
    · have hr := row_top hf.2.2
      have := ydOk_take hk (k := f.toNat) (by omega) hr
      exact .inr (.inr ⟨rfl, hf.1, hf.2.1, _, _, hr, this.2.1, this.2.2.1, takeY_yes hk hf.1 hf.2.1 hr⟩)
    · exact .inr (.inl ⟨rfl, hf, takeY_no hk hf⟩)
/-- The ways of a put. -/
theorem putY_cases (h : Int) (ss : List (List Int)) (t id : Int) : (ydOk h ss = false ∧ putY h ss t id = ((0, []), false)) ∨ (ydOk h ss = true ∧ putY h ss t id = ((h, ss), false)) ∨
    (ydOk h ss = true ∧ 0 ≤ t ∧ t < (ss.length : Int) ∧ ydOk h (ss.set t.toNat (rowAt ss t.toNat ++ [id])) = true ∧ putY h ss t id = ((h, ss.set t.toNat (rowAt ss t.toNat ++ [id])), true)) := by
  cases hk : ydOk h ss
  · exact .inl ⟨rfl, putY_bad hk⟩
  · by_cases hf : 0 ≤ t ∧ t < (ss.length : Int) ∧ ydOk h (ss.set t.toNat (rowAt ss t.toNat ++ [id])) = true
    · exact .inr (.inr ⟨rfl, hf.1, hf.2.1, hf.2.2, putY_yes hk hf.1 hf.2.1 hf.2.2⟩)
    · exact .inr (.inl ⟨rfl, putY_no hk hf⟩)
/-- The ways of a move, and what undoes one. -/
theorem moveY_cases (h : Int) (ss : List (List Int)) (f t : Int) : (ydOk h ss = false ∧ moveY h ss f t = ((0, []), false)) ∨ (ydOk h ss = true ∧ moveY h ss f t = ((h, ss), false)) ∨
    (ydOk h ss = true ∧ ∃ tt, moveY h ss f t = ((h, tt), true) ∧ ydOk h tt = true ∧ moveY h tt t f = ((h, ss), true) ∧ tt.flatten.Perm ss.flatten ∧ tt ≠ ss) := by
  rcases takeY_cases h ss f with ⟨hk, e⟩ | ⟨hk, _, e⟩ | ⟨hk, f0, f1, m, x, hr, x0, x1, e⟩
  · exact .inl ⟨hk, moveY_bad hk⟩
  · refine .inr (.inl ⟨hk, ?_⟩)
    unfold moveY
    rw [if_pos hk, e, if_pos (.inl (show ((-1 : Int) < 0) by omega))]
  · by_cases hft : f = t
    · refine .inr (.inl ⟨hk, ?_⟩)
      unfold moveY
      rw [if_pos hk, if_pos (.inr hft)]
    have hfl : f.toNat < ss.length := by omega
    have hno : ¬ ((takeY h ss f).2 < 0 ∨ f = t) := by
      rw [e]
      intro hc
      rcases hc with hc | hc
      · simp only [] at hc; omega
      · exact hft hc
    rcases putY_cases h (ss.set f.toNat m) t x with ⟨hk2, _⟩ | ⟨_, e2⟩ | ⟨hk2, t0, t1, hk3, e2⟩
    · rw [(ydOk_take hk hfl hr).1] at hk2; cases hk2
    · refine .inr (.inl ⟨hk, ?_⟩)
      unfold moveY
      rw [if_pos hk, if_neg hno, e]
      simp only [e2]
      rw [if_neg (by simp)]
    · have tl : t.toNat < ss.length := by rw [List.length_set] at t1; omega
      have hne : f.toNat ≠ t.toNat := by omega
      have hrt : rowAt (ss.set f.toNat m) t.toNat = rowAt ss t.toNat := rowAt_set_ne hne m
      rw [hrt] at hk3 e2
      have em : moveY h ss f t = ((h, (ss.set f.toNat m).set t.toNat (rowAt ss t.toNat ++ [x])), true) := by
        unfold moveY
        rw [if_pos hk, if_neg hno, e]
        simp only [e2, if_true]
      have hl2 : t.toNat < (ss.set f.toNat m).length := by rw [List.length_set]; exact tl
      have et : takeY h ((ss.set f.toNat m).set t.toNat (rowAt ss t.toNat ++ [x])) t = ((h, ss.set f.toNat m), x) := by
        have := take_back (h := h) (ss := ss.set f.toNat m) (t := t) (id := x) t0 t1 (by rw [hrt]; exact hk3)
        rwa [hrt] at this
      have hno2 : ¬ ((takeY h ((ss.set f.toNat m).set t.toNat (rowAt ss t.toNat ++ [x])) t).2 < 0 ∨ t = f) := by
        rw [et]; intro hc; rcases hc with hc | hc
        · simp only [] at hc; omega
        · exact hft hc.symm
      refine .inr (.inr ⟨hk, _, em, hk3, ?_, ?_, ?_⟩)
      · unfold moveY
        rw [if_pos hk3, if_neg hno2, et]
        simp only [put_back hk f0 f1 hr, if_true]
      · have p1 := flat_put (ss.set f.toNat m) t.toNat x hl2
        rw [hrt] at p1
        exact p1.trans (flat_take hfl hr).symm
      · intro hc
        have h1 : rowAt ((ss.set f.toNat m).set t.toNat (rowAt ss t.toNat ++ [x])) f.toNat = m := by
          rw [rowAt_set_ne (Ne.symm hne), rowAt_set_self hfl]
        rw [hc, hr] at h1
        have := congrArg List.length h1
        simp at this
/-- Moves one after the other, up to the first that cannot be done: the stacks, and how many were done. -/
def runS (h : Int) : List (List Int) → List (Int × Int) → List (List Int) × Nat
  | ss, [] => (ss, 0)
  | ss, m :: ms => if (moveY h ss m.1 m.2).2 = true then ((runS h (moveY h ss m.1 m.2).1.2 ms).1, (runS h (moveY h ss m.1 m.2).1.2 ms).2 + 1) else (ss, 0)
/-- What YardRun gives. -/
def runY (h : Int) (ss : List (List Int)) (ms : List (Int × Int)) : Yd × Int := if ydOk h ss = true ∧ ms.length ≤ 40 then ((h, (runS h ss ms).1), ((runS h ss ms).2 : Int)) else ((0, []), 0)
/-- All moves of a list, one after the other, each done. -/
inductive Done (h : Int) : List (List Int) → List (Int × Int) → List (List Int) → Prop
  | nil (ss) : Done h ss [] ss
  | cons (ss) (m : Int × Int) (tt) (ms) (uu) : moveY h ss m.1 m.2 = ((h, tt), true) → Done h tt ms uu → Done h ss (m :: ms) uu
theorem Done.ok {h : Int} {ss : List (List Int)} {ms : List (Int × Int)} {tt : List (List Int)} (hd : Done h ss ms tt) : ydOk h ss = true → ydOk h tt = true ∧ tt.flatten.Perm ss.flatten := by
  induction hd with
  | nil ss => exact fun hk => ⟨hk, List.Perm.refl _⟩
  | cons ss m tt ms uu he _ ih =>
    intro hk
    rcases moveY_cases h ss m.1 m.2 with ⟨hk', _⟩ | ⟨_, e⟩ | ⟨_, tt', e, hk2, _, hp, _⟩
    · rw [hk] at hk'; cases hk'
    · rw [e] at he; simp at he
    · rw [e] at he
      simp only [Prod.mk.injEq, true_and, and_true] at he
      subst he
      exact ⟨(ih hk2).1, (ih hk2).2.trans hp⟩
theorem Done.snoc {h : Int} {ss : List (List Int)} {ms : List (Int × Int)} {tt uu : List (List Int)} {m : Int × Int} (hd : Done h ss ms tt) (hm : moveY h tt m.1 m.2 = ((h, uu), true)) : Done h ss (ms ++ [m]) uu := by
  induction hd with
  | nil ss => exact .cons _ _ _ _ _ hm (.nil _)
  | cons ss m' tt ms uu' he _ ih => exact .cons _ _ _ _ _ he (ih hm)
theorem Done.back {h : Int} {ss : List (List Int)} {ms : List (Int × Int)} {tt : List (List Int)} (hd : Done h ss ms tt) : ydOk h ss = true → Done h tt (ms.reverse.map fun m => (m.2, m.1)) ss := by
  induction hd with
  | nil ss => exact fun _ => .nil _
  | cons ss m tt ms uu he _ ih =>
    intro hk
    rcases moveY_cases h ss m.1 m.2 with ⟨hk', _⟩ | ⟨_, e⟩ | ⟨_, tt', e, hk2, hb, _, _⟩
    · rw [hk] at hk'; cases hk'
    · rw [e] at he; simp at he
    · rw [e] at he
      simp only [Prod.mk.injEq, true_and, and_true] at he
      subst he
      rw [List.reverse_cons, List.map_append]
      exact (ih hk2).snoc hb
theorem Done.run {h : Int} {ss : List (List Int)} {ms : List (Int × Int)} {tt : List (List Int)} (hd : Done h ss ms tt) : runS h ss ms = (tt, ms.length) := by
  induction hd with
  | nil ss => rfl
  | cons ss m tt ms uu he _ ih => rw [runS, he]; simp only [if_true, ih]; rfl
theorem runS_done {h : Int} : ∀ (ms : List (Int × Int)) (ss : List (List Int)), (runS h ss ms).2 ≤ ms.length ∧ (ydOk h ss = true → Done h ss (ms.take (runS h ss ms).2) (runS h ss ms).1)
  | [], ss => ⟨Nat.le_refl _, fun _ => .nil _⟩
  | m :: ms, ss => by
    rw [runS]
    split
    · next he =>
      have ih := runS_done (h := h) ms (moveY h ss m.1 m.2).1.2
      refine ⟨by simp only [List.length_cons]; omega, fun hk => ?_⟩
      rcases moveY_cases h ss m.1 m.2 with ⟨hk', _⟩ | ⟨_, e⟩ | ⟨_, tt', e, hk2, _, _, _⟩
      · rw [hk] at hk'; cases hk'
      · rw [e] at he; simp at he
      · rw [e] at ih ⊢
        simp only [List.take_succ_cons]
        exact .cons _ _ _ _ _ e (ih.2 hk2)
    · exact ⟨Nat.zero_le _, fun _ => .nil _⟩
end Go.Proofs.Ytmgnbkiphdlooab
namespace Go.Proofs.Ytmgnbkiphdlooab
set_option linter.unusedVariables false

/-- A list sorted. -/
def sortI (l : List Int) : List Int := l.mergeSort fun x y => decide (x ≤ y)
theorem sortI_perm (l : List Int) : (sortI l).Perm l := List.mergeSort_perm l _
theorem sortI_len (l : List Int) : (sortI l).length = l.length := (sortI_perm l).length_eq
theorem sortI_le (l : List Int) : (sortI l).Pairwise (· ≤ ·) := by
  have := List.pairwise_mergeSort (le := fun x y : Int => decide (x ≤ y)) (fun a b c h1 h2 => by simp at h1 h2 ⊢; omega) (fun a b => by simp; omega) l
  exact this.imp fun h => of_decide_eq_true h
theorem sortI_ids {l : List Int} (h : l.Nodup) : sortI l = l.foldl insI [] := by
  refine List.Perm.eq_of_pairwise (le := (· ≤ ·)) (fun a b _ _ h1 h2 => by omega) (sortI_le l) ?_ ?_
  · exact (foldI_sorted l [] List.Pairwise.nil (by simpa using h)).imp fun h => by omega
  · have := foldI_perm l []
    rw [List.nil_append] at this
    exact (sortI_perm l).trans this.symm
theorem sortI_idsY {h : Int} {ss : List (List Int)} (hk : ydOk h ss = true) : sortI ss.flatten = idsY h ss := by
  unfold idsY
  rw [if_pos hk, sortI_ids (ydOk_iff.1 hk).2.1]
theorem keeps_iff {zs : List Int} (hs : zs.Pairwise (· ≤ ·)) : (∀ j, j < zs.length → Lib.keeps zs.toArray j = true) ↔ zs.Nodup := by
  have hget : ∀ j (hj : j < zs.length), zs.toArray[j]! = zs[j] := fun j hj => by simp [getElem!_pos, hj]
  constructor
  · intro h
    refine List.pairwise_iff_getElem.2 fun i j hi hj hij e => ?_
    have hk := h j hj
    have hj1 : j - 1 < zs.length := by omega
    have hle1 : zs[i] ≤ zs[j - 1] := by
      rcases Nat.lt_or_ge i (j - 1) with hlt | hge
      · exact List.pairwise_iff_getElem.1 hs i (j - 1) hi hj1 hlt
      · have : i = j - 1 := by omega
        subst this; exact Int.le_refl _
    have hle2 : zs[j - 1] ≤ zs[j] := List.pairwise_iff_getElem.1 hs (j - 1) j hj1 hj (by omega)
    have heq : zs[j] = zs[j - 1] := by omega
    have : Lib.keeps zs.toArray j = false := Lib.keeps_neg (by omega) (by rw [hget j hj, hget (j - 1) hj1, heq])
    rw [this] at hk; cases hk
  · intro h j hj
    rcases Nat.eq_zero_or_pos j with h0 | h0
    · subst h0; simp [Lib.keeps]
    · refine Lib.keeps_pos ?_
      rw [hget j hj, hget (j - 1) (by omega)]
      exact fun e => List.pairwise_iff_getElem.1 h (j - 1) j (by omega) hj (by omega) e.symm
theorem compact_len {zs : List Int} (hs : zs.Pairwise (· ≤ ·)) : (Lib.compact zs).length = zs.length ↔ zs.Nodup := by
  rw [← keeps_iff hs]
  unfold Lib.compact Lib.compactUpTo
  rw [List.length_map]
  have := List.length_filter_eq_length_iff (p := Lib.keeps zs.toArray) (l := List.range zs.length)
  rw [List.length_range] at this
  rw [this]
  exact ⟨fun h j hj => h j (List.mem_range.2 hj), fun h j hj => h j (List.mem_range.1 hj)⟩
theorem compact_nodup (l : List Int) : decide ((Lib.compact (sortI l)).length = l.length) = decide l.Nodup := by
  have h := compact_len (sortI_le l)
  rw [sortI_len] at h
  exact decide_eq_decide.2 (h.trans (sortI_perm l).nodup_iff)
/-- When all stacks are valid and there are as many as there may be, a yard is valid if no box is there twice. -/
theorem ydOk_flat {h : Int} {ss : List (List Int)} (hs : ∀ k, k < ss.length → stOk (rowAt ss k) h = true) (h1 : 1 ≤ ss.length) (h5 : ss.length ≤ 5) : ydOk h ss = decide ss.flatten.Nodup := by
  have h0 := stOk_iff.1 (hs 0 (by omega))
  have hs' : ∀ s ∈ ss, stOk s h = true := fun s hm => by
    obtain ⟨k, hk, rfl⟩ := List.getElem_of_mem hm
    rw [← rowAt_get hk]; exact hs k hk
  by_cases hn : ss.flatten.Nodup
  · rw [decide_eq_true hn]
    exact ydOk_iff.2 ⟨hs', hn, h1, h5, h0.2.2.1, h0.2.2.2.1⟩
  · rw [decide_eq_false hn]
    cases hc : ydOk h ss
    · rfl
    · exact absurd (ydOk_iff.1 hc).2.1 hn
theorem flat_size {h : Int} {ss : List (List Int)} (hs : ∀ k, k < ss.length → stOk (rowAt ss k) h = true) (h5 : ss.length ≤ 5) : ss.flatten.length ≤ 25 := by
  have : ∀ (tt : List (List Int)), (∀ s ∈ tt, s.length ≤ 5) → tt.flatten.length ≤ 5 * tt.length := by
    intro tt
    induction tt with
    | nil => intro _; simp
    | cons a t ih =>
      intro h
      have h0 := h a (by simp)
      have h1 := ih fun s hs => h s (by simp [hs])
      rw [List.flatten_cons, List.length_append, List.length_cons]
      omega
  have := this ss fun s hm => by
    obtain ⟨k, hk, rfl⟩ := List.getElem_of_mem hm
    rw [← rowAt_get hk]; exact stOk_len (hs k hk)
  omega
end Go.Proofs.Ytmgnbkiphdlooab
namespace Go.Proofs.Ytmgnbkiphdlooab
set_option linter.unusedVariables false

theorem putY_found {h : Int} {ss : List (List Int)} {t id : Int} (hk : ydOk h ss = true) (hf : 0 ≤ findY h ss id) : putY h ss t id = ((h, ss), false) := by
  refine putY_no hk fun hc => ?_
  have hl : t.toNat < ss.length := by omega
  have hn := (ydOk_iff.1 hc.2.2).2.1
  have hn2 := (flat_put ss t.toNat id hl).nodup_iff.1 hn
  rw [List.nodup_cons] at hn2
  rw [findY_flat hn2.1] at hf
  omega
theorem putY_out {h : Int} {ss : List (List Int)} {t id : Int} (hk : ydOk h ss = true) (hf : ¬ (0 ≤ t ∧ t < (ss.length : Int))) : putY h ss t id = ((h, ss), false) :=
  putY_no hk fun hc => hf ⟨hc.1, hc.2.1⟩
theorem ydOk_put {h : Int} {ss : List (List Int)} {k : Nat} {id : Int} (hk : ydOk h ss = true) (hl : k < ss.length) (hf : findY h ss id < 0) (hs : stOk (rowAt ss k ++ [id]) h = true) : ydOk h (ss.set k (rowAt ss k ++ [id])) = true := by
  obtain ⟨h1, h2, h3, h4, h5, h6⟩ := ydOk_iff.1 hk
  refine ydOk_iff.2 ⟨fun s hm => ?_, ?_, by rw [List.length_set]; exact h3, by rw [List.length_set]; exact h4, h5, h6⟩
  · rcases List.mem_or_eq_of_mem_set hm with hm | hm
    · exact h1 s hm
    · subst hm; exact hs
  · refine (flat_put ss k id hl).nodup_iff.2 (List.nodup_cons.2 ⟨fun hm => ?_, h2⟩)
    have := findY_in hk hm
    omega
theorem putY_stack {h : Int} {ss : List (List Int)} {k : Nat} {id : Int} (hk : ydOk h ss = true) (hl : k < ss.length) (hf : findY h ss id < 0) : putY h ss (k : Int) id = ((h, ss.set k (putS (rowAt ss k) h id).1), (putS (rowAt ss k) h id).2) := by
  have hrow := ydOk_row hk hl
  cases hs : stOk (rowAt ss k ++ [id]) h
  · rw [putS_no hrow hs, set_rowAt hl]
    refine putY_no hk fun hc => ?_
    rw [Int.toNat_natCast] at hc
    have := ydOk_row hc.2.2 (k := k) (by rw [List.length_set]; exact hl)
    rw [rowAt_set_self hl, hs] at this
    cases this
  · rw [putS_yes hrow hs]
    have := putY_yes (t := (k : Int)) (id := id) hk (by omega) (by omega) (by rw [Int.toNat_natCast]; exact ydOk_put hk hl hf hs)
    rw [Int.toNat_natCast] at this
    exact this
theorem takeY_out {h : Int} {ss : List (List Int)} {f : Int} (hk : ydOk h ss = true) (hf : ¬ (0 ≤ f ∧ f < (ss.length : Int))) : takeY h ss f = ((h, ss), -1) :=
  takeY_no hk fun hc => hf ⟨hc.1, hc.2.1⟩
theorem takeY_stack {h : Int} {ss : List (List Int)} {k : Nat} (hk : ydOk h ss = true) (hl : k < ss.length) (hp : 0 < (rowAt ss k).length) : takeY h ss (k : Int) = ((h, ss.set k (takeS (rowAt ss k) h).1), (takeS (rowAt ss k) h).2) ∧ 0 ≤ (takeS (rowAt ss k) h).2 := by
  have hrow := ydOk_row hk hl
  have hr := row_top hp
  have ht := takeS_yes hrow hp
  have hx : (takeS (rowAt ss k) h).2 = (rowAt ss k).getD ((rowAt ss k).length - 1) 0 := by rw [ht, getD_i (by omega)]
  have h1 := ydOk_take hk hl hr
  have h2 := takeY_yes (f := (k : Int)) hk (by omega) (by omega) (by rw [Int.toNat_natCast]; exact hr)
  rw [Int.toNat_natCast] at h2
  refine ⟨?_, by rw [hx]; omega⟩
  rw [h2, hx]
  have : (takeS (rowAt ss k) h).1 = (rowAt ss k).take ((rowAt ss k).length - 1) := by rw [ht]
  rw [this]
theorem takeY_none {h : Int} {ss : List (List Int)} {k : Nat} (hk : ydOk h ss = true) (hp : (rowAt ss k).length = 0) : takeY h ss (k : Int) = ((h, ss), -1) ∧ (takeS (rowAt ss k) h).2 = -1 := by
  refine ⟨takeY_no hk fun hc => ?_, by rw [takeS_no (.inr hp)]⟩
  rw [Int.toNat_natCast] at hc
  omega
end Go.Proofs.Ytmgnbkiphdlooab
