/-
  Plans of boxes: what PlanValid's loop finds at a slot. Nothing of the program.
-/
import Derived.Test.YtnnjphhkheocgaaPlMath2
import Derived.Test.YtnnjphhkheocgaaBxVMath
namespace Go.Proofs.Ytnnjphhkheocgaa
set_option linter.unusedVariables false

/-- The ids of boxes. -/
def bxIds (l : List Bx) : List Int := l.map (·.i)
theorem findB_mem : ∀ (l : List Bx) (id : Int), 0 ≤ findB l id ↔ id ∈ bxIds l
  | [], id => by
    show (0 : Int) ≤ -1 ↔ id ∈ ([] : List Int)
    simp
  | b :: l, id => by
    have ih := findB_mem l id
    have e : bxIds (b :: l) = b.i :: bxIds l := rfl
    rw [e, findB, List.mem_cons]
    by_cases h : b.i = id
    · rw [if_pos h]; simp [h]
    · rw [if_neg h]
      have h2 : ¬ id = b.i := fun e => h e.symm
      by_cases h3 : findB l id < 0
      · rw [if_pos h3]
        have : ¬ id ∈ bxIds l := fun hc => by have := ih.2 hc; omega
        simp [h2, this]
      · rw [if_neg h3]
        have : id ∈ bxIds l := ih.1 (by omega)
        simp only [h2, this, or_true, iff_true]
        omega
theorem hasI_iffP {l : List Int} {n : Int} : hasI l n = true ↔ n ∈ l := decide_eq_true_iff
theorem pl_bad1 {h : Hl} {bok : Bool} {l : List Bx} {p : List Int} {k : Nat} (hk : k < p.length) (hz : pAt p k ≠ 0) (hf : findB l (pAt p k) < 0) : plOk h bok (bxIds l) p = false :=
  plOk_slot hk fun hc => by
    have := (findB_mem l (pAt p k)).2 (hc hz).1
    omega
theorem pl_bad2 {h : Hl} {bok : Bool} {ids p : List Int} {k : Nat} (hk : k < p.length) (hz : pAt p k ≠ 0) (hf : hasI (p.take k) (pAt p k) = true) : plOk h bok ids p = false :=
  plOk_slot hk fun hc => (hc hz).2.1 (hasI_iffP.1 hf)
theorem pl_bad3 {h : Hl} {bok : Bool} {ids p : List Int} {k : Nat} (hk : k < p.length) (hz : pAt p k ≠ 0) (ht : ¬ (k : Int) % h.t = 0) (hf : pAt p (k - 1) = 0) : plOk h bok ids p = false :=
  plOk_slot hk fun hc => (hc hz).2.2 ht hf
theorem pl_good {h : Hl} {l : List Bx} {p : List Int} {k : Nat} (hf : ¬ findB l (pAt p k) < 0) (hh : hasI (p.take k) (pAt p k) = false) (hb : (k : Int) % h.t = 0 ∨ pAt p (k - 1) ≠ 0) : slotOk h (bxIds l) p k := fun _ =>
  ⟨(findB_mem l _).1 (by omega), (fun hm => by rw [hasI_iffP.2 hm] at hh; exact Bool.noConfusion hh), fun ht => hb.resolve_left ht⟩
theorem pl_zero {h : Hl} {ids p : List Int} {k : Nat} (hz : pAt p k = 0) : slotOk h ids p k := fun hc => absurd hz hc
theorem pl_end {h : Hl} {ids p : List Int} (hk : hlOk h = true) (hn : (p.length : Int) = slMany h) (ha : ∀ k, k < p.length → slotOk h ids p k) : plOk h true ids p = true := plOk_iff.2 ⟨hk, rfl, hn, ha⟩
theorem pl_below {h : Hl} {p : List Int} {k : Nat} (hk : hlOk h = true) (hn : (p.length : Int) = slMany h) (hl : k < p.length) : (slBelow h k = -1 ∧ (k : Int) % h.t = 0) ∨ (∃ j, k = j + 1 ∧ slBelow h k = (j : Int) ∧ ¬ (k : Int) % h.t = 0) := by
  have e := slBelow_val (s := (k : Int)) hk (by omega) (by omega)
  by_cases ht : (k : Int) % h.t = 0
  · rw [if_pos ht] at e; exact .inl ⟨e, ht⟩
  · rw [if_neg ht] at e
    have hk0 : k ≠ 0 := fun e => ht (by rw [e]; simp)
    exact .inr ⟨k - 1, by omega, by rw [e]; omega, ht⟩
end Go.Proofs.Ytnnjphhkheocgaa
