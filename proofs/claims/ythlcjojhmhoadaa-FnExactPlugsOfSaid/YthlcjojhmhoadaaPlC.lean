/-
  The model's PlanIds, PlanNext.
-/
import Derived.Test.YthlcjojhmhoadaaGPl
import Derived.Laws.AppendOwnNone
namespace Go.Proofs.Ythlcjojhmhoadaa
open Go.RowKit
set_option linter.unusedVariables false

/-- The ids ahead of a slot. -/
def filP (p : List Int) (k : Nat) : List Int := (p.take k).filter (fun x => decide (0 < x))
theorem filP_next {p : List Int} {k : Nat} (hk : k < p.length) : filP p (k + 1) = if 0 < pAt p k then filP p k ++ [pAt p k] else filP p k := by
  unfold filP
  rw [List.take_add_one, List.getElem?_eq_getElem hk, pAt_get hk, List.filter_append]
  by_cases h : 0 < p[k]
  · rw [if_pos h]; simp [h]
  · rw [if_neg h]; simp [h]
theorem filP_len (p : List Int) (k : Nat) : (filP p k).length ≤ k := by
  unfold filP
  exact Nat.le_trans (List.length_filter_le _ _) (by rw [List.length_take]; omega)
theorem filP_end {h : Hl} {bok : Bool} {ids p : List Int} (hk : plOk h bok ids p = true) : idsP h bok ids p = filP p p.length := by
  unfold idsP filP; rw [if_pos hk, List.take_length]
/-- The next slots ahead of a slot. -/
def nxtP (h : Hl) (p : List Int) (k : Nat) : List Int := ((List.range k).filter (nextOk h p)).map Int.ofNat
def nextI (h : Hl) (bok : Bool) (ids p : List Int) : List Int := (nextP h bok ids p).map Int.ofNat
theorem nxtP_next (h : Hl) (p : List Int) (k : Nat) : nxtP h p (k + 1) = if nextOk h p k = true then nxtP h p k ++ [(k : Int)] else nxtP h p k := by
  unfold nxtP
  rw [List.range_succ, List.filter_append]
  by_cases hc : nextOk h p k = true
  · rw [if_pos hc]; simp [hc]
  · rw [if_neg hc]; simp [hc]
theorem nxtP_len (h : Hl) (p : List Int) (k : Nat) : (nxtP h p k).length ≤ k := by
  unfold nxtP
  rw [List.length_map]
  exact Nat.le_trans (List.length_filter_le _ _) (by rw [List.length_range]; omega)
theorem nxtP_end {h : Hl} {bok : Bool} {ids p : List Int} (hk : plOk h bok ids p = true) : nextI h bok ids p = nxtP h p p.length := by
  unfold nextI nextP nxtP; rw [if_pos hk]
theorem nextI_bad {h : Hl} {bok : Bool} {ids p : List Int} (hk : plOk h bok ids p = false) : nextI h bok ids p = [] := by unfold nextI nextP; rw [hk]; rfl
theorem idsP_bad {h : Hl} {bok : Bool} {ids p : List Int} (hk : plOk h bok ids p = false) : idsP h bok ids p = [] := by unfold idsP; rw [hk]; rfl

end Go.Proofs.Ythlcjojhmhoadaa
