/-
  Plain mathematics: the weights of some of valid boxes. Nothing of the program.
-/
import Derived.Test.YtnnjphhkheocgaaBxVMath
namespace Go.Proofs.Ytnnjphhkheocgaa
set_option linter.unusedVariables false

theorem bxsOk_each {l : List Bx} (h : bxsOk l = true) : (∀ k, k < l.length → okAt l k = true) ∧ l.length ≤ 10 := by
  unfold bxsOk at h
  rw [Bool.and_eq_true] at h
  exact ⟨fun k hk => List.all_eq_true.1 h.1 k (List.mem_range.2 hk), of_decide_eq_true h.2⟩
theorem bxsOk_box {l : List Bx} (h : bxsOk l = true) {k : Nat} (hk : k < l.length) : l[k].ok = true := by
  have := (bxsOk_each h).1 k hk
  unfold okAt at this
  rw [getD_bx hk, Bool.and_eq_true] at this
  exact this.1
/-- The weight of the box with an id. -/
def wAt (l : List Bx) (id : Int) : Int := (l.getD (findB l id).toNat Bx.zero).g
/-- The weights of the first k of some ids. -/
def sumT (l : List Bx) (ids : List Int) : Nat → Int
  | 0 => 0
  | k + 1 => sumT l ids k + wAt l (ids.getD k 0)
theorem wAt_bd {l : List Bx} (h : bxsOk l = true) (id : Int) (hf : 0 ≤ findB l id) : 1 ≤ wAt l id ∧ wAt l id ≤ 30 := by
  have hb := (findB_bd l id).2
  have hk : (findB l id).toNat < l.length := by omega
  have := bxOk_yes (bxsOk_box h hk)
  unfold wAt
  rw [getD_bx hk]
  omega
theorem sumT_bd {l : List Bx} {ids : List Int} (h : bxsOk l = true) : ∀ k, (∀ j, j < k → 0 ≤ findB l (ids.getD j 0)) → 0 ≤ sumT l ids k ∧ sumT l ids k ≤ 30 * k
  | 0, _ => ⟨Int.le_refl 0, Int.le_refl 0⟩
  | k + 1, hf => by
    have h1 := sumT_bd h k (fun j hj => hf j (by omega))
    have h2 := wAt_bd h (ids.getD k 0) (hf k (by omega))
    unfold sumT
    omega
/-- What WeightOf gives. -/
def weighS (l : List Bx) (ids : List Int) : Int := if bxsOk l = true ∧ (∀ j, j < ids.length → 0 ≤ findB l (ids.getD j 0)) then sumT l ids ids.length else -1
theorem weighS_bad {l : List Bx} {ids : List Int} (h : bxsOk l = false) : weighS l ids = -1 := by
  unfold weighS; rw [if_neg (by rw [h]; rintro ⟨h, _⟩; cases h)]
theorem weighS_none {l : List Bx} {ids : List Int} (j : Nat) (hj : j < ids.length) (h : findB l (ids.getD j 0) < 0) : weighS l ids = -1 := by
  unfold weighS; rw [if_neg (by rintro ⟨_, h'⟩; have := h' j hj; omega)]
theorem weighS_sum {l : List Bx} {ids : List Int} (h : bxsOk l = true) (hf : ∀ j, j < ids.length → 0 ≤ findB l (ids.getD j 0)) : weighS l ids = sumT l ids ids.length := by
  unfold weighS; rw [if_pos ⟨h, hf⟩]
end Go.Proofs.Ytnnjphhkheocgaa
