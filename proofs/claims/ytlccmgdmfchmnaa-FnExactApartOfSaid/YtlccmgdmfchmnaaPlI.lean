/-
  The program's chapter 7: plans.
-/
import Derived.Test.YtlccmgdmfchmnaaPlC
import Derived.Test.YtlccmgdmfchmnaaPlT
import Derived.Test.YtlccmgdmfchmnaaPlP
import Derived.Test.YtlccmgdmfchmnaaGPl
import Derived.Test.YtlccmgdmfchmnaaGSl
import Derived.Test.YtlccmgdmfchmnaaGBl
import Derived.Test.YtlccmgdmfchmnaaGPn
import Derived.Test.YtlccmgdmfchmnaaGStk
import Derived.Test.YtlccmgdmfchmnaaGBase
import Derived.Laws.AppendOwnNone
import Derived.Deep.RegionHeld3
namespace Go.Proofs.Ytlccmgdmfchmnaa
open Go.RowKit
set_option linter.unusedVariables false

theorem OwnI.freeE {K : Nat} {w : World} {v : Value} {l : List Int} (h : OwnI K w v l) : FreeE K w v l := FreeE.of_own h

/-- Whether a slot is a lowest one or above a box. -/
def carr (h : Hl) (p : List Int) (k : Nat) : Bool := decide ((k : Int) % h.t = 0 ∨ pAt p (k - 1) ≠ 0)
theorem carr_bad {h : Hl} {bok : Bool} {ids p : List Int} {k : Nat} (hk : k < p.length) (hz : pAt p k ≠ 0) (hc : carr h p k = false) : plOk h bok ids p = false := by
  have h1 := of_decide_eq_false hc
  exact pl_bad3 hk hz (fun e => h1 (.inl e)) (Classical.byContradiction fun e => h1 (.inr e))
theorem carr_good {h : Hl} {l : List Bx} {p : List Int} {k : Nat} (hf : ¬ findB l (pAt p k) < 0) (hh : hasI (p.take k) (pAt p k) = false) (hc : carr h p k = true) : slotOk h (bxIds l) p k := pl_good hf hh (of_decide_eq_true hc)
theorem nextOk_carr {h : Hl} {l : List Bx} {p : List Int} (hok : plOk h (bxsOk l) (bxIds l) p = true) {k : Nat} (hk : k < p.length) : nextOk h p k = (decide (pAt p k = 0) && carr h p k) := by
  have hp := (pAt_pos (bxIds_pos (plOk_bok hok)) hok (k := k - 1) (by omega))
  unfold nextOk carr
  by_cases h1 : pAt p k = 0
  · rw [decide_eq_true h1, Bool.true_and]
    apply decide_eq_decide.2
    constructor
    · rintro ⟨-, h2 | h2⟩
      · exact .inl h2
      · exact .inr (by omega)
    · rintro (h2 | h2)
      · exact ⟨h1, .inl h2⟩
      · exact ⟨h1, .inr (hp.2 h2)⟩
  · rw [decide_eq_false h1, Bool.false_and]
    exact decide_eq_false fun hc => h1 hc.1

theorem FreeE.zero {K : Nat} {w : World} : FreeE K w (.slice none 0 0) [] := .inl ⟨rfl, none, 0, rfl, by unfold maxLen; omega, fun _ => rfl⟩
theorem OwnI.nil {K : Nat} {w : World} : OwnI K w (.slice none 0 0) [] := ⟨by simp [rowI], .inl ⟨rfl, rfl⟩⟩
theorem findP_idx {h : Hl} {bok : Bool} {ids p : List Int} {id : Int} (h0 : 0 < id) (hk : plOk h bok ids p = true) : findP h bok ids p id = idxI p id := by
  unfold idxI
  cases hf : firstI p id with
  | none => exact findP_none fun hc => firstI_mem hc.2.2 hf
  | some k =>
    obtain ⟨hl, he⟩ := firstI_some p id k hf
    exact findP_hit h0 hk hl (by rw [pAt_get hl]; exact he)

end Go.Proofs.Ytlccmgdmfchmnaa
