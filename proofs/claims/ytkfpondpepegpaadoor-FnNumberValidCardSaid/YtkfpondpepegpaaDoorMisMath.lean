/-
  Plain mathematics: another digit, or two neighbours exchanged, change the rest of a number. Nothing of the program.
-/
import Derived.Test.YtkfpondpepegpaaDoorNoForm
namespace Go.Proofs.YtkfpondpepegpaaDoor
set_option linter.unusedVariables false

theorem sumM_ten (s : ByteArray) : sumM s 10 = cvB (byteAt s 0) + 2 * cvB (byteAt s 1) + 4 * cvB (byteAt s 2) + 8 * cvB (byteAt s 3) + 16 * cvB (byteAt s 4) + 32 * cvB (byteAt s 5) + 64 * cvB (byteAt s 6) + 128 * cvB (byteAt s 7) + 256 * cvB (byteAt s 8) + 512 * cvB (byteAt s 9) := by
  simp only [sumM, p2]
  omega

/-- A text with one byte put in the place of another. -/
def putAt (s t : ByteArray) (k : Nat) : ByteArray := s.extract 0 k ++ t ++ s.extract (k + 1) s.size
/-- A text with two neighbours exchanged. -/
def swapAt (s : ByteArray) (k : Nat) : ByteArray := s.extract 0 k ++ s.extract (k + 1) (k + 2) ++ s.extract k (k + 1) ++ s.extract (k + 2) s.size

theorem ext_head (s : ByteArray) (k : Nat) : (s.extract 0 k).data.toList = s.data.toList.take k := by
  rw [ByteArray.data_extract, Array.toList_extract, List.extract_eq_take_drop, List.drop_zero, Nat.sub_zero]
theorem ext_tail (s : ByteArray) (k : Nat) : (s.extract k s.size).data.toList = s.data.toList.drop k := by
  rw [ByteArray.data_extract, Array.toList_extract, List.extract_eq_take_drop]
  apply List.take_of_length_le
  rw [List.length_drop, Array.length_toList]
  exact Nat.le_refl _

theorem putAt_list {s t : ByteArray} {k : Nat} {b : UInt8} (ht : t.data.toList = [b]) : (putAt s t k).data.toList = s.data.toList.take k ++ b :: s.data.toList.drop (k + 1) := by
  rw [putAt, ByteArray.data_append, ByteArray.data_append, Array.toList_append, Array.toList_append, ext_head, ext_tail, ht, List.append_assoc]
  rfl
theorem swapAt_list {s : ByteArray} {k : Nat} (h : k + 1 < s.size) : (swapAt s k).data.toList = s.data.toList.take k ++ s.data.toList.getD (k + 1) 0 :: s.data.toList.getD k 0 :: s.data.toList.drop (k + 2) := by
  rw [swapAt, ByteArray.data_append, ByteArray.data_append, ByteArray.data_append, Array.toList_append, Array.toList_append, Array.toList_append, ext_head, ext_tail, extract_one s k (by omega)]
  have := extract_one s (k + 1) h
  rw [show k + 2 = k + 1 + 1 from rfl, this]
  simp

theorem byteAt_put {s t : ByteArray} {k : Nat} {b : UInt8} (ht : t.data.toList = [b]) (hk : k < s.size) (j : Nat) : byteAt (putAt s t k) j = if j = k then (b.toNat : Int) else byteAt s j := by
  have hl : k < s.data.toList.length := by rw [Array.length_toList]; exact hk
  unfold byteAt
  rw [putAt_list ht, List.getD_eq_getElem?_getD, List.getElem?_append]
  rw [List.length_take, Nat.min_eq_left (by omega)]
  by_cases h1 : j < k
  · rw [if_pos h1, if_neg (by omega), List.getElem?_take_of_lt h1, List.getD_eq_getElem?_getD]
  · rw [if_neg h1]
    by_cases h2 : j = k
    · rw [if_pos h2, h2, Nat.sub_self]; rfl
    · rw [if_neg h2, show j - k = (j - k - 1) + 1 by omega, List.getElem?_cons_succ, List.getElem?_drop, List.getD_eq_getElem?_getD]
      congr 4; omega
theorem byteAt_swap {s : ByteArray} {k : Nat} (hk : k + 1 < s.size) (j : Nat) : byteAt (swapAt s k) j = if j = k then byteAt s (k + 1) else if j = k + 1 then byteAt s k else byteAt s j := by
  have hl : k + 1 < s.data.toList.length := by rw [Array.length_toList]; exact hk
  unfold byteAt
  rw [swapAt_list hk, List.getD_eq_getElem?_getD, List.getElem?_append]
  rw [List.length_take, Nat.min_eq_left (by omega)]
  by_cases h1 : j < k
  · rw [if_pos h1, if_neg (by omega), if_neg (by omega), List.getElem?_take_of_lt h1, List.getD_eq_getElem?_getD (i := j)]
  · rw [if_neg h1]
    by_cases h2 : j = k
    · rw [if_pos h2, h2, Nat.sub_self]; rfl
    · rw [if_neg h2]
      by_cases h3 : j = k + 1
      · rw [if_pos h3, h3, show k + 1 - k = 1 by omega]; rfl
      · rw [if_neg h3, show j - k = (j - k - 2) + 1 + 1 by omega, List.getElem?_cons_succ, List.getElem?_cons_succ, List.getElem?_drop, List.getD_eq_getElem?_getD (i := j)]
        congr 4; omega

theorem size_list (s : ByteArray) : s.size = s.data.toList.length := by rw [Array.length_toList]; rfl
theorem putAt_size {s t : ByteArray} {k : Nat} {b : UInt8} (ht : t.data.toList = [b]) (hk : k < s.size) : (putAt s t k).size = s.size := by
  have hl : k < s.data.toList.length := by rw [Array.length_toList]; exact hk
  rw [size_list, putAt_list ht, size_list]
  simp; omega
theorem swapAt_size {s : ByteArray} {k : Nat} (hk : k + 1 < s.size) : (swapAt s k).size = s.size := by
  have hl : k + 1 < s.data.toList.length := by rw [Array.length_toList]; exact hk
  rw [size_list, swapAt_list hk, size_list]
  simp; omega
theorem putAt_eq {s t : ByteArray} {k : Nat} {b : UInt8} (ht : t.data.toList = [b]) (hk : k < s.size) : putAt s t k = s ↔ (b.toNat : Int) = byteAt s k := by
  constructor
  · intro e
    have := byteAt_put ht hk k
    rw [if_pos rfl, e] at this
    exact this.symm
  · intro e
    apply Go.WideShapes.bytes_inj
    have hl : k < s.data.toList.length := by rw [Array.length_toList]; exact hk
    rw [putAt_list ht]
    have hb : b = s.data.toList[k] := by
      apply UInt8.toNat_inj.1
      unfold byteAt at e
      rw [List.getD_eq_getElem?_getD, List.getElem?_eq_getElem hl, Option.getD_some] at e
      omega
    rw [hb, ← List.drop_eq_getElem_cons hl, List.take_append_drop]

theorem fits_digit {c : Int} {k : Nat} (hk : 4 ≤ k) : fitsB c k = true ↔ (48 ≤ c ∧ c ≤ 57) := by
  unfold fitsB
  rw [decide_eq_true_iff]
  omega

/-- Another digit: another rest. -/
theorem crS_put {s t : ByteArray} {k : Nat} {b : UInt8} (hf : formB s = true) (ht : t.data.toList = [b]) (hk4 : 4 ≤ k) (hk : k < 10) (hb : 48 ≤ (b.toNat : Int) ∧ (b.toNat : Int) ≤ 57) :
    crS (putAt s t k) = crS s ↔ putAt s t k = s := by
  have hs := formB_size hf
  have hk' : k < s.size := by omega
  rw [putAt_eq ht hk']
  have hB := byteAt_put ht hk'
  have hfy : formB (putAt s t k) = true := formB_true (by rw [putAt_size ht hk']; exact hs) fun j hj => by
    rw [hB]
    by_cases e : j = k
    · rw [if_pos e, e, fits_digit hk4]; exact hb
    · rw [if_neg e]; exact formB_fits hf j hj
  rw [crS_form hf, crS_form hfy, sumM_ten, sumM_ten, hB 0, hB 1, hB 2, hB 3, hB 4, hB 5, hB 6, hB 7, hB 8, hB 9]
  have hd := (fits_digit hk4).1 (formB_fits hf k hk)
  have e1 := cvB_digit hd
  have e2 := cvB_digit hb
  obtain rfl | rfl | rfl | rfl | rfl | rfl : k = 4 ∨ k = 5 ∨ k = 6 ∨ k = 7 ∨ k = 8 ∨ k = 9 := by omega
  all_goals
    simp +decide only [if_false, if_true]
    rw [e1, e2]
    omega

/-- Two digits exchanged that differ: another rest. -/
theorem crS_swap {s : ByteArray} {k : Nat} (hf : formB s = true) (hk4 : 4 ≤ k) (hk : k < 9) (hne : byteAt s k ≠ byteAt s (k + 1)) : crS (swapAt s k) ≠ crS s := by
  have hs := formB_size hf
  have hk' : k + 1 < s.size := by omega
  have hB := byteAt_swap hk'
  have hd := (fits_digit hk4).1 (formB_fits hf k (by omega))
  have hd' := (fits_digit (show 4 ≤ k + 1 by omega)).1 (formB_fits hf (k + 1) (by omega))
  have hfy : formB (swapAt s k) = true := formB_true (by rw [swapAt_size hk']; exact hs) fun j hj => by
    rw [hB]
    by_cases e : j = k
    · rw [if_pos e, e, fits_digit hk4]; exact hd'
    · rw [if_neg e]
      by_cases e' : j = k + 1
      · rw [if_pos e', e', fits_digit (by omega)]; exact hd
      · rw [if_neg e']; exact formB_fits hf j hj
  rw [crS_form hf, crS_form hfy, sumM_ten, sumM_ten, hB 0, hB 1, hB 2, hB 3, hB 4, hB 5, hB 6, hB 7, hB 8, hB 9]
  have e1 := cvB_digit hd
  have e2 := cvB_digit hd'
  obtain rfl | rfl | rfl | rfl | rfl : k = 4 ∨ k = 5 ∨ k = 6 ∨ k = 7 ∨ k = 8 := by omega
  all_goals
    simp +decide only [Nat.reduceAdd, if_false, if_true] at e1 e2 hd' hne ⊢
    rw [e1, e2]
    omega
end Go.Proofs.YtkfpondpepegpaaDoor
