/-
  Plain mathematics of yards: the ids in ascending order. Nothing of the program.
-/
import Derived.Test.YtdmbahpifbidlaaYdMath
namespace Go.Proofs.Ytdmbahpifbidlaa
set_option linter.unusedVariables false

/-- A number laid at its place. -/
def insI : List Int → Int → List Int
  | [], n => [n]
  | a :: l, n => if a < n then a :: insI l n else n :: a :: l
theorem insI_perm : ∀ (l : List Int) (n : Int), (insI l n).Perm (n :: l)
  | [], n => List.Perm.refl _
  | a :: l, n => by
    rw [insI]
    split
    · exact ((insI_perm l n).cons a).trans (List.Perm.swap n a l)
    · exact List.Perm.refl _
theorem insI_comm : ∀ (l : List Int) (a b : Int), insI (insI l a) b = insI (insI l b) a
  | [], a, b => by
    simp only [insI]
    split <;> split <;> first | rfl | omega | (have : a = b := by omega); subst this; rfl
  | c :: l, a, b => by
    have ih := insI_comm l a b
    simp only [insI]
    by_cases h1 : c < a
    · by_cases h2 : c < b
      · simp only [insI, if_pos h1, if_pos h2, ih]
      · by_cases h3 : b < a
        · simp only [insI, if_pos h1, if_neg h2, if_pos h3]
        · exact absurd h1 (by omega)
    · by_cases h2 : c < b
      · by_cases h3 : a < b
        · simp only [insI, if_neg h1, if_pos h2, if_pos h3]
        · exact absurd h2 (by omega)
      · by_cases h3 : a < b
        · have h4 : ¬ b < a := by omega
          simp only [insI, if_neg h1, if_neg h2, if_pos h3, if_neg h4]
        · by_cases h4 : b < a
          · simp only [insI, if_neg h1, if_neg h2, if_neg h3, if_pos h4]
          · have : a = b := by omega
            subst this
            rfl
theorem insI_sorted : ∀ (l : List Int) (n : Int), l.Pairwise (· < ·) → n ∉ l → (insI l n).Pairwise (· < ·)
  | [], n, _, _ => by simp [insI]
  | a :: l, n, hp, hn => by
    rw [List.pairwise_cons] at hp
    rw [List.mem_cons, not_or] at hn
    rw [insI]
    split
    · next h =>
      refine List.pairwise_cons.2 ⟨fun x hx => ?_, insI_sorted l n hp.2 hn.2⟩
      have := (insI_perm l n).mem_iff.1 hx
      rcases List.mem_cons.1 this with e | e
      · omega
      · exact hp.1 x e
    · next h =>
      refine List.pairwise_cons.2 ⟨fun x hx => ?_, List.pairwise_cons.2 hp⟩
      rcases List.mem_cons.1 hx with e | e
      · have := hn.1; omega
      · have := hp.1 x e; have := hn.1; omega
theorem foldI_perm : ∀ (l acc : List Int), (l.foldl insI acc).Perm (acc ++ l)
  | [], acc => by simp
  | a :: l, acc => by
    rw [List.foldl_cons]
    refine (foldI_perm l (insI acc a)).trans ?_
    refine ((insI_perm acc a).append_right l).trans ?_
    exact (List.perm_middle (a := a) (l₁ := acc) (l₂ := l)).symm
theorem foldI_sorted : ∀ (l acc : List Int), acc.Pairwise (· < ·) → (acc ++ l).Nodup → (l.foldl insI acc).Pairwise (· < ·)
  | [], acc, hp, _ => by simpa using hp
  | a :: l, acc, hp, hn => by
    rw [List.foldl_cons]
    have hna : a ∉ acc := fun hm => absurd rfl ((List.nodup_append.1 hn).2.2 a hm a (by simp))
    refine foldI_sorted l (insI acc a) (insI_sorted acc a hp hna) ?_
    have : (insI acc a ++ l).Perm (acc ++ a :: l) := ((insI_perm acc a).append_right l).trans (List.perm_middle (a := a) (l₁ := acc) (l₂ := l)).symm
    exact this.nodup_iff.2 hn
/-- What YardIds gives. -/
def idsY (h : Int) (ss : List (List Int)) : List Int := if ydOk h ss = true then ss.flatten.foldl insI [] else []
theorem idsY_bad {h : Int} {ss : List (List Int)} (hk : ydOk h ss = false) : idsY h ss = [] := by unfold idsY; rw [hk]; rfl
theorem idsY_perm {h : Int} {ss : List (List Int)} (hk : ydOk h ss = true) : (idsY h ss).Perm ss.flatten := by
  unfold idsY
  rw [if_pos hk]
  simpa using foldI_perm ss.flatten []
theorem idsY_sorted {h : Int} {ss : List (List Int)} : (idsY h ss).Pairwise (· < ·) := by
  unfold idsY
  split
  · next hk => exact foldI_sorted _ [] List.Pairwise.nil (by simpa using (ydOk_iff.1 hk).2.1)
  · exact List.Pairwise.nil
theorem idsY_len {h : Int} {ss : List (List Int)} (hk : ydOk h ss = true) : (idsY h ss).length = ss.flatten.length := (idsY_perm hk).length_eq
theorem idsY_mem {h : Int} {ss : List (List Int)} {n : Int} (hm : n ∈ idsY h ss) : n ∈ ss.flatten ∧ 0 ≤ findY h ss n := by
  cases hk : ydOk h ss
  · rw [idsY_bad hk] at hm; simp at hm
  · have := (idsY_perm hk).mem_iff.1 hm
    exact ⟨this, findY_in hk this⟩
theorem idsY_eq {h : Int} {ss tt : List (List Int)} (hs : ydOk h ss = true) (ht : ydOk h tt = true) (hp : ss.flatten.Perm tt.flatten) : idsY h ss = idsY h tt := by
  unfold idsY
  rw [if_pos hs, if_pos ht]
  exact hp.foldl_eq' (fun x _ y _ z => insI_comm z x y) []

/-- How many boxes the first rows have. -/
def sumY (ss : List (List Int)) (k : Nat) : Nat := (ss.take k).flatten.length
theorem sumY_start (ss : List (List Int)) : sumY ss 0 = 0 := by simp [sumY]
theorem sumY_next {ss : List (List Int)} {k : Nat} (h : k < ss.length) : sumY ss (k + 1) = sumY ss k + (rowAt ss k).length := by
  unfold sumY
  rw [rowAt_get h, ← List.take_append_getElem h, List.flatten_append]
  simp
theorem sumY_end (ss : List (List Int)) : sumY ss ss.length = ss.flatten.length := by simp [sumY]
theorem ydOk_size {h : Int} {ss : List (List Int)} (hk : ydOk h ss = true) : ss.flatten.length ≤ 25 := by
  obtain ⟨h1, _, _, h4, _, _⟩ := ydOk_iff.1 hk
  have : ∀ (tt : List (List Int)), (∀ s ∈ tt, s.length ≤ 5) → tt.flatten.length ≤ 5 * tt.length := by
    intro tt
    induction tt with
    | nil => intro _; simp
    | cons a t ih =>
      intro h
      have h0 := h a (by simp)
      have h1 := ih fun s hs => h s (by simp [hs])
      rw [List.flatten_cons, List.length_append, List.length_cons]
      omega
  have := this ss fun s hs => by have := stOk_iff.1 (h1 s hs); omega
  omega
theorem sumY_le {ss : List (List Int)} {k : Nat} (h : k ≤ ss.length) : sumY ss k ≤ ss.flatten.length := by
  unfold sumY
  have e : ss.flatten = (ss.take k).flatten ++ (ss.drop k).flatten := by rw [← List.flatten_append, List.take_append_drop]
  rw [e, List.length_append]
  omega
end Go.Proofs.Ytdmbahpifbidlaa
