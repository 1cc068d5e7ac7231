/-
  Plain mathematics: weights add up. Nothing of the program.
-/
import Derived.Test.YtjnoekhdkmgagaaGNo
namespace Go.Proofs.Ytjnoekhdkmgagaa
set_option linter.unusedVariables false

theorem sumT_take {l : List Bx} {ids : List Int} (h : Nat) : ∀ k, k ≤ h → sumT l (ids.take h) k = sumT l ids k
  | 0, _ => rfl
  | k + 1, hk => by
    unfold sumT
    rw [sumT_take h k (by omega)]
    congr 2
    rw [List.getD_eq_getElem?_getD, List.getD_eq_getElem?_getD, List.getElem?_take, if_pos (by omega)]
theorem sumT_drop {l : List Bx} {ids : List Int} (h : Nat) : ∀ k, sumT l (ids.drop h) k + sumT l ids h = sumT l ids (h + k)
  | 0 => by show 0 + _ = _; rw [Nat.add_zero]; omega
  | k + 1 => by
    have e : sumT l ids (h + (k + 1)) = sumT l ids (h + k) + wAt l (ids.getD (h + k) 0) := rfl
    have e2 : sumT l (ids.drop h) (k + 1) = sumT l (ids.drop h) k + wAt l ((ids.drop h).getD k 0) := rfl
    have e3 : (ids.drop h).getD k 0 = ids.getD (h + k) 0 := by
      rw [List.getD_eq_getElem?_getD, List.getD_eq_getElem?_getD, List.getElem?_drop]
    have ih := sumT_drop (l := l) (ids := ids) h k
    rw [e, e2, e3]
    omega
theorem sumT_ge {l : List Bx} {ids : List Int} (h : bxsOk l = true) : ∀ k, (∀ j, j < k → 0 ≤ findB l (ids.getD j 0)) → (k : Int) ≤ sumT l ids k
  | 0, _ => Int.le_refl _
  | k + 1, hf => by
    have h1 := sumT_ge h k (fun j hj => hf j (by omega))
    have h2 := wAt_bd h (ids.getD k 0) (hf k (by omega))
    unfold sumT
    omega
theorem weighS_bd (l : List Bx) (ids : List Int) : -1 ≤ weighS l ids ∧ weighS l ids ≤ 30 * ids.length := by
  unfold weighS
  split
  · next h => have := sumT_bd h.1 ids.length h.2; omega
  · omega
theorem weighS_cut {l : List Bx} {ids : List Int} (h : Nat) (hh : h ≤ ids.length) (h0 : 0 ≤ weighS l ids) :
    weighS l (ids.take h) + weighS l (ids.drop h) = weighS l ids ∧ (ids.length : Int) ≤ weighS l ids ∧ 0 ≤ weighS l (ids.take h) ∧ 0 ≤ weighS l (ids.drop h) := by
  by_cases hc : bxsOk l = true ∧ ∀ j, j < ids.length → 0 ≤ findB l (ids.getD j 0)
  · have e := weighS_sum hc.1 hc.2
    have lt : (ids.take h).length = h := by rw [List.length_take]; omega
    have ld : (ids.drop h).length = ids.length - h := List.length_drop
    have f1 : ∀ j, j < (ids.take h).length → 0 ≤ findB l ((ids.take h).getD j 0) := fun j hj => by
      rw [lt] at hj
      rw [List.getD_eq_getElem?_getD, List.getElem?_take, if_pos hj, ← List.getD_eq_getElem?_getD]
      exact hc.2 j (by omega)
    have f2 : ∀ j, j < (ids.drop h).length → 0 ≤ findB l ((ids.drop h).getD j 0) := fun j hj => by
      rw [ld] at hj
      rw [List.getD_eq_getElem?_getD, List.getElem?_drop, ← List.getD_eq_getElem?_getD]
      exact hc.2 (h + j) (by omega)
    have e1 := weighS_sum hc.1 f1
    have e2 := weighS_sum hc.1 f2
    have g1 := sumT_ge hc.1 _ f1
    have g2 := sumT_ge hc.1 _ f2
    have g := sumT_ge hc.1 _ hc.2
    rw [lt] at e1 g1
    rw [ld] at e2 g2
    rw [e1, e2, e, sumT_take h h (Nat.le_refl _)]
    rw [sumT_take h h (Nat.le_refl _)] at g1
    have := sumT_drop (l := l) (ids := ids) h (ids.length - h)
    rw [show h + (ids.length - h) = ids.length by omega] at this
    omega
  · have e : weighS l ids = -1 := by unfold weighS; rw [if_neg hc]
    omega
end Go.Proofs.Ytjnoekhdkmgagaa
