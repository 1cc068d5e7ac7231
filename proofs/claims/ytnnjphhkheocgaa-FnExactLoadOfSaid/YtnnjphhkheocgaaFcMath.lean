/-
  Plain mathematics of the law on the values of letters and digits. Nothing of the program.
-/
import Derived.Test.YtnnjphhkheocgaaGCr
import Derived.WideShapes
namespace Go.Proofs.Ytnnjphhkheocgaa
set_option linter.unusedVariables false

theorem extract_one (s : ByteArray) (k : Nat) (h : k < s.size) : (s.extract k (k + 1)).data.toList = [s.data.toList.getD k 0] := by
  have h' : k < s.data.toList.length := by rw [Array.length_toList]; exact h
  rw [ByteArray.data_extract, Array.toList_extract, List.extract_eq_take_drop, List.drop_eq_getElem_cons h', List.getD_eq_getElem?_getD, List.getElem?_eq_getElem h']
  rw [show k + 1 - k = 1 by omega]
  rfl

/-- A text with a value has one byte, a digit or a capital. -/
theorem cvS_pos {l : List UInt8} (h : 0 ≤ cvS l) : ∃ c : UInt8, l = [c] ∧ ((48 ≤ (c.toNat : Int) ∧ (c.toNat : Int) ≤ 57) ∨ (65 ≤ (c.toNat : Int) ∧ (c.toNat : Int) ≤ 90)) := by
  match l, h with
  | [c], h =>
    refine ⟨c, rfl, ?_⟩
    by_cases h1 : 48 ≤ (c.toNat : Int) ∧ (c.toNat : Int) ≤ 57
    · exact .inl h1
    · by_cases h2 : 65 ≤ (c.toNat : Int) ∧ (c.toNat : Int) ≤ 90
      · exact .inr h2
      · have e : cvS [c] = -1 := cvB_other h1 h2
        omega
  | [], h => have e : cvS [] = -1 := rfl; omega
  | _ :: _ :: _, h => exact absurd h (by show ¬ (0 ≤ (-1 : Int)); omega)

theorem cvS_bd (l : List UInt8) : -1 ≤ cvS l ∧ cvS l ≤ 38 := by
  match l with
  | [c] => exact cvB_bd _
  | [] => exact ⟨by decide, by decide⟩
  | _ :: _ :: _ => exact ⟨by show -1 ≤ (-1 : Int); omega, by show (-1 : Int) ≤ 38; omega⟩

theorem cvB_inj {c d : Int} (hc : (48 ≤ c ∧ c ≤ 57) ∨ (65 ≤ c ∧ c ≤ 90)) (hd : (48 ≤ d ∧ d ≤ 57) ∨ (65 ≤ d ∧ d ≤ 90)) : cvB c = cvB d ↔ c = d := by
  rcases hc with hc | hc <;> rcases hd with hd | hd
  · rw [cvB_digit hc, cvB_digit hd]; omega
  · rw [cvB_digit hc, cvB_capital hd]; omega
  · rw [cvB_capital hc, cvB_digit hd]; omega
  · rw [cvB_capital hc, cvB_capital hd]; omega

theorem cvB_letter {c : Int} (hc : (48 ≤ c ∧ c ≤ 57) ∨ (65 ≤ c ∧ c ≤ 90)) (h : ¬ cvB c < 10) : cvB c % 11 ≠ 0 := by
  rcases hc with hc | hc
  · rw [cvB_digit hc] at h; omega
  · rw [cvB_capital hc] at h ⊢; omega

def allText : ByteArray := ⟨#[65, 66, 67, 68, 69, 70, 71, 72, 73, 74, 75, 76, 77, 78, 79, 80, 81, 82, 83, 84, 85, 86, 87, 88, 89, 90, 48, 49, 50, 51, 52, 53, 54, 55, 56, 57]⟩
theorem allText_at : ∀ k : Fin 36, (48 ≤ byteAt allText k.val ∧ byteAt allText k.val ≤ 57) ∨ (65 ≤ byteAt allText k.val ∧ byteAt allText k.val ≤ 90) := by decide +kernel

/-- Of a text with a value: at each place of the text of all letters and digits the value is the same just where the byte is. -/
theorem all_same (s : ByteArray) (h : 0 ≤ cvS s.data.toList) (k : Nat) (hk : k < 36) :
    (cvB (byteAt allText k) = cvS s.data.toList) ↔ (allText.extract k (k + 1) = s) := by
  obtain ⟨c, hc, hr⟩ := cvS_pos h
  have hs : k < allText.size := hk
  have ha := allText_at ⟨k, hk⟩
  simp only at ha
  have e1 : cvS s.data.toList = cvB (c.toNat : Int) := by rw [hc]; rfl
  rw [e1, cvB_inj ha hr]
  constructor
  · intro e
    apply Go.WideShapes.bytes_inj
    rw [extract_one _ _ hs, hc]
    congr 1
    apply UInt8.toNat_inj.1
    unfold byteAt at e
    omega
  · intro e
    have e2 := extract_one _ _ hs
    rw [e, hc] at e2
    unfold byteAt
    rw [List.cons.inj e2 |>.1]
end Go.Proofs.Ytnnjphhkheocgaa
