/-
  Plain mathematics of stacks: when one is valid, what putting, taking and counting give. Nothing of the program.
-/
import Derived.Test.YtdmbahpifbidlaaInS
namespace Go.Proofs.Ytdmbahpifbidlaa
set_option linter.unusedVariables false

/-- Whether a list has a number. -/
def hasI (l : List Int) (n : Int) : Bool := decide (n ∈ l)
theorem hasI_yes {l : List Int} {n : Int} {k : Nat} (hk : k < l.length) (h : l[k] = n) : hasI l n = true := decide_eq_true (h ▸ List.getElem_mem hk)
theorem hasI_no {l : List Int} {n : Int} (h : ∀ k (hk : k < l.length), l[k] ≠ n) : hasI l n = false := decide_eq_false fun hm => by
  obtain ⟨k, hk, he⟩ := List.getElem_of_mem hm
  exact h k hk he
/-- Whether the id at a place is an id, and the first of its kind. -/
def stAt (l : List Int) (k : Nat) : Bool := decide (1 ≤ l.getD k 0 ∧ l.getD k 0 ≤ 999) && !hasI (l.take k) (l.getD k 0)
/-- Whether a stack is valid. -/
def stOk (l : List Int) (high : Int) : Bool := (List.range l.length).all (stAt l) && decide (1 ≤ high ∧ high ≤ 5 ∧ (l.length : Int) ≤ high)
theorem getD_i {l : List Int} {k : Nat} (h : k < l.length) : l.getD k 0 = l[k] := by
  rw [List.getD_eq_getElem?_getD, List.getElem?_eq_getElem h, Option.getD_some]
theorem stOk_at {l : List Int} {high : Int} {k : Nat} (h : k < l.length) (hf : stAt l k = false) : stOk l high = false := by
  unfold stOk
  rw [show (List.range l.length).all (stAt l) = false from ?_]
  · rfl
  · rw [List.all_eq_false]
    exact ⟨k, List.mem_range.2 h, by rw [hf]; decide⟩
theorem stOk_end {l : List Int} {high : Int} (h : ∀ k, k < l.length → stAt l k = true) : stOk l high = decide (1 ≤ high ∧ high ≤ 5 ∧ (l.length : Int) ≤ high) := by
  unfold stOk
  rw [show (List.range l.length).all (stAt l) = true from List.all_eq_true.2 fun k hk => h k (List.mem_range.1 hk)]
  rfl
theorem stOk_iff {l : List Int} {high : Int} : stOk l high = true ↔ (∀ k (hk : k < l.length), 1 ≤ l[k] ∧ l[k] ≤ 999) ∧ l.Nodup ∧ 1 ≤ high ∧ high ≤ 5 ∧ (l.length : Int) ≤ high := by
  have hat : (∀ k, k < l.length → stAt l k = true) ↔ (∀ k (hk : k < l.length), 1 ≤ l[k] ∧ l[k] ≤ 999) ∧ l.Nodup := by
    constructor
    · intro h
      refine ⟨fun k hk => ?_, ?_⟩
      · have := h k hk
        unfold stAt at this
        rw [getD_i hk, Bool.and_eq_true] at this
        exact of_decide_eq_true this.1
      · refine List.pairwise_iff_getElem.2 fun i j hi hj hij he => ?_
        have := h j hj
        unfold stAt at this
        rw [getD_i hj, Bool.and_eq_true, Bool.not_eq_true'] at this
        have h2 := of_decide_eq_false this.2
        apply h2
        rw [← he]
        exact List.mem_take_iff_getElem.2 ⟨i, by omega, rfl⟩
    · rintro ⟨h1, h2⟩ k hk
      unfold stAt
      rw [getD_i hk, Bool.and_eq_true, Bool.not_eq_true']
      refine ⟨decide_eq_true (h1 k hk), decide_eq_false fun hm => ?_⟩
      obtain ⟨i, hi, he⟩ := List.mem_take_iff_getElem.1 hm
      have hik : i < k := by omega
      exact List.pairwise_iff_getElem.1 h2 i k (by omega) hk hik he
  constructor
  · intro h
    have hall : ∀ k, k < l.length → stAt l k = true := fun k hk => by
      cases hc : stAt l k
      · rw [stOk_at hk hc] at h; cases h
      · rfl
    rw [stOk_end hall] at h
    have h3 := of_decide_eq_true h
    exact ⟨(hat.1 hall).1, (hat.1 hall).2, h3⟩
  · rintro ⟨h1, h2, h3⟩
    rw [stOk_end (hat.2 ⟨h1, h2⟩)]
    exact decide_eq_true h3

/-- What StackPut gives. -/
def putS (l : List Int) (high id : Int) : List Int × Bool := if stOk l high = true then (if stOk (l ++ [id]) high = true then (l ++ [id], true) else (l, false)) else ([], false)
/-- What StackTake gives. -/
def takeS (l : List Int) (high : Int) : List Int × Int := if stOk l high = true ∧ 0 < l.length then (l.take (l.length - 1), l.getD (l.length - 1) 0) else ([], -1)
/-- The first place of an id. -/
def firstI : List Int → Int → Option Nat
  | [], _ => none
  | a :: l, n => if a = n then some 0 else (firstI l n).map (· + 1)
theorem firstI_hit : ∀ (l : List Int) (n : Int) (k : Nat) (hk : k < l.length), (∀ j (hj : j < l.length), j < k → l[j] ≠ n) → l[k] = n → firstI l n = some k
  | a :: l, n, 0, _, _, h => by
    have h' : a = n := h
    rw [firstI, if_pos h']
  | a :: l, n, k + 1, hk, hn, h => by
    have h0 : a ≠ n := hn 0 (by simp) (by omega)
    have ih := firstI_hit l n k (by simpa using hk) (fun j hj hjk => hn (j + 1) (by simpa using hj) (by omega)) h
    rw [firstI, if_neg h0, ih]; rfl
theorem firstI_none : ∀ (l : List Int) (n : Int), (∀ j (hj : j < l.length), l[j] ≠ n) → firstI l n = none
  | [], _, _ => rfl
  | a :: l, n, hn => by
    have h0 : a ≠ n := hn 0 (by simp)
    have ih := firstI_none l n (fun j hj => hn (j + 1) (by simpa using hj))
    rw [firstI, if_neg h0, ih]; rfl
theorem firstI_some : ∀ (l : List Int) (n : Int) (k : Nat), firstI l n = some k → ∃ hk : k < l.length, l[k] = n
  | a :: l, n, k, h => by
    rw [firstI] at h
    split at h
    · next e => cases h; exact ⟨by simp, e⟩
    · obtain ⟨j, hj, rfl⟩ := Option.map_eq_some_iff.1 h
      obtain ⟨hk, he⟩ := firstI_some l n j hj
      exact ⟨by simpa using hk, by simpa using he⟩
/-- What StackAbove gives. -/
def aboveS (l : List Int) (high id : Int) : Int := if stOk l high = true then (match firstI l id with | some k => (l.length : Int) - 1 - k | none => -1) else -1
theorem aboveS_bad {l : List Int} {high id : Int} (h : stOk l high = false) : aboveS l high id = -1 := by
  unfold aboveS; rw [h]; rfl
theorem aboveS_hit {l : List Int} {high id : Int} (h : stOk l high = true) {k : Nat} (hk : k < l.length) (hn : ∀ j (hj : j < l.length), j < k → l[j] ≠ id) (he : l[k] = id) : aboveS l high id = (l.length : Int) - 1 - k := by
  unfold aboveS; rw [if_pos h, firstI_hit l id k hk hn he]
theorem aboveS_none {l : List Int} {high id : Int} (h : stOk l high = true) (hn : ∀ j (hj : j < l.length), l[j] ≠ id) : aboveS l high id = -1 := by
  unfold aboveS; rw [if_pos h, firstI_none l id hn]
theorem takeS_no {l : List Int} {high : Int} (h : stOk l high = false ∨ l.length = 0) : takeS l high = ([], -1) := by
  unfold takeS
  rw [if_neg]
  rintro ⟨h1, h2⟩
  rcases h with h | h
  · rw [h] at h1; cases h1
  · omega
theorem takeS_yes {l : List Int} {high : Int} (h : stOk l high = true) (hl : 0 < l.length) : takeS l high = (l.take (l.length - 1), l[l.length - 1]) := by
  unfold takeS
  rw [if_pos ⟨h, hl⟩, getD_i (by omega)]
theorem stOk_len {l : List Int} {high : Int} (h : stOk l high = true) : l.length ≤ 5 := by
  have := stOk_iff.1 h
  omega
theorem putS_bad {l : List Int} {high id : Int} (h : stOk l high = false) : putS l high id = ([], false) := by unfold putS; rw [h]; rfl
theorem putS_no {l : List Int} {high id : Int} (h : stOk l high = true) (h' : stOk (l ++ [id]) high = false) : putS l high id = (l, false) := by unfold putS; rw [h, h']; rfl
theorem putS_yes {l : List Int} {high id : Int} (h : stOk l high = true) (h' : stOk (l ++ [id]) high = true) : putS l high id = (l ++ [id], true) := by unfold putS; rw [h, h']; rfl
end Go.Proofs.Ytdmbahpifbidlaa
