/-
  Plain mathematics: a million added and the first digit cut off leaves six digits with zeros ahead. Nothing of the program.
-/
import Derived.Test.YtkfpondpepegpaaDoorNvMath
namespace Go.Proofs.YtkfpondpepegpaaDoor
set_option linter.unusedVariables false

def digs : Nat → Nat → List UInt8
  | 0, _ => []
  | k + 1, m => digs k (m / 10) ++ [UInt8.ofNat (48 + m % 10)]
theorem digs_zero : ∀ k, digs k 0 = List.replicate k 48
  | 0 => rfl
  | k + 1 => by rw [digs, Nat.zero_div, digs_zero k, List.replicate_succ']; rfl
theorem dec_million : ∀ (k m : Nat), m < 10 ^ k → Lib.decDigits (10 ^ k + m) = 49 :: digs k m
  | 0, m, h => by
    obtain rfl : m = 0 := by omega
    rw [Lib.decDigits, dif_pos (by decide)]; rfl
  | k + 1, m, h => by
    have hp : 10 ^ (k + 1) = 10 ^ k * 10 := Nat.pow_succ _ _
    have h1 : 1 ≤ 10 ^ k := Nat.one_le_pow _ _ (by decide)
    rw [Lib.decDigits, dif_neg (by omega), show (10 ^ (k + 1) + m) / 10 = 10 ^ k + m / 10 by omega, dec_million k (m / 10) (by omega), digs, show (10 ^ (k + 1) + m) % 10 = m % 10 by omega]
    rfl
theorem pad_digs : ∀ (k m : Nat), m < 10 ^ (k + 1) → List.replicate (k + 1 - (Lib.decDigits m).length) 48 ++ Lib.decDigits m = digs (k + 1) m
  | 0, m, h => by
    have hm : m < 10 := by omega
    rw [Lib.decDigits, dif_pos hm, digs, Nat.mod_eq_of_lt hm]
    rfl
  | k + 1, m, h => by
    have hp : 10 ^ (k + 1 + 1) = 10 ^ (k + 1) * 10 := Nat.pow_succ _ _
    rw [digs]
    by_cases hm : m < 10
    · rw [Lib.decDigits, dif_pos hm, Nat.div_eq_of_lt hm, digs_zero, Nat.mod_eq_of_lt hm]
      rfl
    · rw [Lib.decDigits, dif_neg hm, ← pad_digs k (m / 10) (by omega), List.length_append, List.append_assoc, List.length_singleton]
      congr 2
      omega
/-- The text of a million and a serial, without its first digit. -/
theorem million_cut {m : Nat} (h : m ≤ 999999) : (⟨(Lib.decDigits (1000000 + m)).toArray⟩ : ByteArray).extract 1 (⟨(Lib.decDigits (1000000 + m)).toArray⟩ : ByteArray).size = pad6 m := by
  apply Go.WideShapes.bytes_inj
  have e := dec_million 6 m (by omega)
  rw [show (10 : Nat) ^ 6 = 1000000 by decide] at e
  rw [ByteArray.data_extract, Array.toList_extract, List.extract_eq_take_drop]
  show List.take _ (List.drop 1 (Lib.decDigits (1000000 + m))) = _
  rw [e, pad6_list, pad_digs 5 m (by omega), List.drop_one, List.tail_cons]
  apply List.take_of_length_le
  simp [ByteArray.size]
theorem million_size {m : Nat} (h : m ≤ 999999) : (⟨(Lib.decDigits (1000000 + m)).toArray⟩ : ByteArray).size ≤ 8 ∧ 1 ≤ (⟨(Lib.decDigits (1000000 + m)).toArray⟩ : ByteArray).size := by
  have hs : (⟨(Lib.decDigits (1000000 + m)).toArray⟩ : ByteArray).size = (Lib.decDigits (1000000 + m)).length := by simp [ByteArray.size]
  have := decDigits_len 6 (1000000 + m) (by omega)
  have e := dec_million 6 m (by omega)
  rw [show (10 : Nat) ^ 6 = 1000000 by decide] at e
  rw [hs]
  refine ⟨by omega, ?_⟩
  rw [e]; simp
theorem itoa_pos {n : Int} (h : 0 ≤ n) : Lib.itoa n = Lib.decDigits n.toNat := by unfold Lib.itoa; rw [if_neg (by omega)]

/-- With an owner of another length there is no number. -/
theorem numS_owner {o : ByteArray} {k m : Int} (h : o.size ≠ 3) : numS o k m = ⟨#[]⟩ := by
  by_cases hin : 0 ≤ k ∧ k ≤ 2 ∧ 0 ≤ m ∧ m ≤ 999999
  · apply numS_none
    have hz := numText_size (o := o) hin.1 hin.2.1 hin.2.2.1 hin.2.2.2
    rw [crS_not (formB_false_size (by omega))]
    decide
  · exact numS_out hin
theorem numS_digS {o : ByteArray} {k m : Int} (h : 0 ≤ k ∧ k ≤ 2 ∧ 0 ≤ m ∧ m ≤ 999999) (hc : 0 ≤ crS (numText o k m)) :
    numS o k m = numText o k m ++ digS (crS (numText o k m) % 10) := by
  rw [numS_yes h hc, digS_list (by omega) (by omega)]
end Go.Proofs.YtkfpondpepegpaaDoor
