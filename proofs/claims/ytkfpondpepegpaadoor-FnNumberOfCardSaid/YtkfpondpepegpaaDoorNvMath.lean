/-
  Plain mathematics of whole numbers of containers: when a text is one, and its serial. Nothing of the program.
-/
import Derived.Test.YtkfpondpepegpaaDoorNoForm
namespace Go.Proofs.YtkfpondpepegpaaDoor
set_option linter.unusedVariables false

def numOk (s : ByteArray) : Bool := decide (s.size = 11 ∧ 0 ≤ crS (s.extract 0 10) ∧ byteAt s 10 = 48 + crS (s.extract 0 10) % 10)
theorem numOk_size {s : ByteArray} (h : s.size ≠ 11) : numOk s = false := by unfold numOk; exact decide_eq_false fun e => h e.1
theorem numOk_rest {s : ByteArray} (h : crS (s.extract 0 10) < 0) : numOk s = false := by unfold numOk; exact decide_eq_false fun e => by omega
theorem numOk_of {s : ByteArray} (h : s.size = 11) (hr : 0 ≤ crS (s.extract 0 10)) : numOk s = decide (byteAt s 10 = 48 + crS (s.extract 0 10) % 10) := by
  unfold numOk
  rw [decide_eq_decide]
  exact ⟨fun e => e.2.2, fun e => ⟨h, hr, e⟩⟩
theorem numOk_yes {s : ByteArray} (h : numOk s = true) : s.size = 11 ∧ 0 ≤ crS (s.extract 0 10) ∧ byteAt s 10 = 48 + crS (s.extract 0 10) % 10 := by
  unfold numOk at h; exact of_decide_eq_true h

theorem byteAt_head {s : ByteArray} {n k : Nat} (h : k < n) : byteAt (s.extract 0 n) k = byteAt s k := by
  unfold byteAt
  rw [ByteArray.data_extract, Array.toList_extract, List.extract_eq_take_drop, List.drop_zero, List.getD_eq_getElem?_getD, List.getElem?_take_of_lt (by omega), List.getD_eq_getElem?_getD]

theorem cvB_is {b d : Int} (h0 : 0 ≤ d) (h9 : d ≤ 9) : cvB b = d ↔ b = 48 + d := by
  constructor
  · intro h
    by_cases h1 : 48 ≤ b ∧ b ≤ 57
    · rw [cvB_digit h1] at h; omega
    · by_cases h2 : 65 ≤ b ∧ b ≤ 90
      · rw [cvB_capital h2] at h; omega
      · rw [cvB_other h1 h2] at h; omega
  · intro h
    rw [cvB_digit (by omega)]; omega

/-- One digit. -/
def digS (d : Int) : ByteArray := ⟨#[UInt8.ofNat (48 + d.toNat)]⟩
theorem digS_list {d : Int} (h0 : 0 ≤ d) (h9 : d ≤ 9) : (⟨(Lib.decDigits d.toNat).toArray⟩ : ByteArray) = digS d := by
  rw [decDigits_one (by omega)]; rfl
theorem last_eq {s : ByteArray} {d : Int} (hs : s.size = 11) (h0 : 0 ≤ d) (h9 : d ≤ 9) : s.extract 10 s.size = digS d ↔ byteAt s 10 = 48 + d := by
  rw [hs]
  have e := extract_one s 10 (by omega)
  constructor
  · intro h
    rw [h] at e
    have := (List.cons.inj e).1
    unfold byteAt
    rw [← this, UInt8.toNat_ofNat']
    omega
  · intro h
    apply Go.WideShapes.bytes_inj
    rw [e]
    show _ = [UInt8.ofNat (48 + d.toNat)]
    congr 1
    apply UInt8.toNat_inj.1
    unfold byteAt at h
    rw [UInt8.toNat_ofNat']
    omega
theorem last_cv {s : ByteArray} (hs : s.size = 11) : cvS (s.extract 10 s.size).data.toList = cvB (byteAt s 10) := by
  rw [hs]; exact cvS_extract s 10 (by omega)

/-- The serial that the six digits tell, after j of them. -/
def serN (s : ByteArray) : Nat → Int
  | 0 => 0
  | j + 1 => serN s j * 10 + (byteAt s (4 + j) - 48)
def serS (s : ByteArray) : Int := if numOk s = true then serN s 6 else -1
theorem serS_yes {s : ByteArray} (h : numOk s = true) : serS s = serN s 6 := by unfold serS; rw [if_pos h]
theorem serS_no {s : ByteArray} (h : numOk s = false) : serS s = -1 := by unfold serS; rw [h]; rfl
theorem crS_form_of {s : ByteArray} (h : 0 ≤ crS s) : formB s = true := by
  cases hf : formB s
  · rw [crS_not hf] at h; omega
  · rfl
theorem num_digit {s : ByteArray} (h : numOk s = true) (j : Nat) (hj : j < 6) : 48 ≤ byteAt s (4 + j) ∧ byteAt s (4 + j) ≤ 57 := by
  have hf := crS_form_of (numOk_yes h).2.1
  have := formB_fits hf (4 + j) (by omega)
  rw [byteAt_head (by omega)] at this
  unfold fitsB at this
  have := of_decide_eq_true this
  omega
theorem serN_bd {s : ByteArray} (h : numOk s = true) : ∀ j, j ≤ 6 → 0 ≤ serN s j ∧ serN s j < 10 ^ j
  | 0, _ => ⟨Int.le_refl 0, show (0 : Int) < 10 ^ 0 by decide⟩
  | j + 1, hj => by
    have h1 := serN_bd h j (by omega)
    have h2 := num_digit h j (by omega)
    have e : (10 : Int) ^ (j + 1) = 10 ^ j * 10 := Int.pow_succ 10 j
    unfold serN
    omega
theorem pow_le6 : ∀ j : Fin 7, (10 : Int) ^ j.val ≤ 1000000 := by decide
theorem serN_le {s : ByteArray} (h : numOk s = true) (j : Nat) (hj : j ≤ 6) : 0 ≤ serN s j ∧ serN s j < 1000000 := by
  have h1 := serN_bd h j hj
  have h2 := pow_le6 ⟨j, by omega⟩
  simp only at h2
  omega
end Go.Proofs.YtkfpondpepegpaaDoor
