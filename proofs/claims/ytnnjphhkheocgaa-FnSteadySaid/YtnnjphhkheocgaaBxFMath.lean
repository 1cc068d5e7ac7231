/-
  Plain mathematics: each of valid boxes is found at its own index. Nothing of the program.
-/
import Derived.Test.YtnnjphhkheocgaaBlI
namespace Go.Proofs.Ytnnjphhkheocgaa
set_option linter.unusedVariables false

theorem findB_le : ∀ (l : List Bx) (k : Nat) (hk : k < l.length), findB l l[k].i ≤ k
  | b :: l, 0, _ => by
    show findB (b :: l) b.i ≤ 0
    rw [findB, if_pos rfl]; exact Int.le_refl _
  | b :: l, k + 1, hk => by
    have ih := findB_le l k (by simpa using hk)
    rw [List.getElem_cons_succ]
    unfold findB
    split
    · omega
    · split <;> omega
theorem findS_at {l : List Bx} (h : bxsOk l = true) {k : Nat} (hk : k < l.length) : findS l l[k].i = k := by
  unfold findS
  rw [if_pos h]
  have h1 := (bxsOk_each h).1 k hk
  unfold okAt at h1
  rw [getD_bx hk, Bool.and_eq_true] at h1
  have h2 : ¬ findB l l[k].i < k := by simpa using h1.2
  have h3 := findB_le l k hk
  omega
theorem findB_in : ∀ (l : List Bx) (id : Int) (h : 0 ≤ findB l id), ∃ (hk : (findB l id).toNat < l.length), l[(findB l id).toNat].i = id
  | [], id, h => by
    have e : findB [] id = -1 := rfl
    omega
  | b :: l, id, h => by
    unfold findB at h ⊢
    split
    · next e => exact ⟨by simp, e⟩
    · next e =>
      rw [if_neg e] at h
      by_cases h1 : findB l id < 0
      · rw [if_pos h1] at h; omega
      · obtain ⟨hk, he⟩ := findB_in l id (by omega)
        have e2 : (if findB l id < 0 then (-1 : Int) else findB l id + 1).toNat = (findB l id).toNat + 1 := by rw [if_neg h1]; omega
        refine ⟨by rw [e2, List.length_cons]; omega, ?_⟩
        simp only [e2, List.getElem_cons_succ]
        exact he
theorem findB_neg {l : List Bx} {id : Int} (h : findB l id < 0) {k : Nat} (hk : k < l.length) : l[k].i ≠ id := fun e => by
  have := findB_has hk
  rw [e] at this
  omega
theorem findS_bd (l : List Bx) (id : Int) : -1 ≤ findS l id ∧ findS l id < (l.length : Int) + 1 := by
  have := findB_bd l id
  unfold findS
  split <;> omega
end Go.Proofs.Ytnnjphhkheocgaa
