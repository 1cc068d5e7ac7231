/-
  Plain mathematics of the numbers of containers: six digits with zeros ahead, the text ahead of the check digit, the number. Nothing of the program.
-/
import Derived.Test.YtnnjphhkheocgaaFcMath
import Derived.Lib.ItoaNum
namespace Go.Proofs.Ytnnjphhkheocgaa
set_option linter.unusedVariables false

def padJ (j : Nat) (l : List UInt8) : ByteArray := ⟨(List.replicate j 48 ++ l).toArray⟩
theorem padJ_size (j : Nat) (l : List UInt8) : (padJ j l).size = j + l.length := by simp [padJ, ByteArray.size]
theorem padJ_succ (j : Nat) (l : List UInt8) : (⟨#[48]⟩ : ByteArray) ++ padJ j l = padJ (j + 1) l := by
  apply ByteArray.ext
  simp [padJ, List.replicate_succ]

theorem decDigits_len : ∀ (k m : Nat), m < 10 ^ (k + 1) → (Lib.decDigits m).length ≤ k + 1
  | 0, m, h => by rw [Lib.decDigits, dif_pos (by omega)]; simp
  | k + 1, m, h => by
    rw [Lib.decDigits]
    split
    · simp
    · have h' : m < 10 ^ (k + 1) * 10 := by rw [← Nat.pow_succ]; exact h
      have := decDigits_len k (m / 10) (by omega)
      simp; omega

/-- Six digits. -/
def pad6 (m : Nat) : ByteArray := padJ (6 - (Lib.decDigits m).length) (Lib.decDigits m)
theorem pad6_size {m : Nat} (h : m ≤ 999999) : (pad6 m).size = 6 := by
  have := decDigits_len 5 m (by omega)
  rw [pad6, padJ_size]; omega

def kindText : ByteArray := ⟨#[85, 74, 90]⟩
/-- The text ahead of the check digit. -/
def numText (o : ByteArray) (k m : Int) : ByteArray := o ++ kindText.extract k.toNat (k + 1).toNat ++ pad6 m.toNat
theorem numText_size {o : ByteArray} {k m : Int} (h0 : 0 ≤ k) (h1 : k ≤ 2) (h2 : 0 ≤ m) (h3 : m ≤ 999999) : (numText o k m).size = o.size + 7 := by
  rw [numText, ByteArray.size_append, ByteArray.size_append, ByteArray.size_extract, pad6_size (by omega)]
  have : kindText.size = 3 := rfl
  omega
def inNum (k m : Int) : Bool := decide (0 ≤ k ∧ k ≤ 2 ∧ 0 ≤ m ∧ m ≤ 999999)
/-- The number: no text if there is none. -/
def numS (o : ByteArray) (k m : Int) : ByteArray :=
  if inNum k m = true ∧ 0 ≤ crS (numText o k m) then numText o k m ++ ⟨(Lib.decDigits (crS (numText o k m) % 10).toNat).toArray⟩ else ⟨#[]⟩
theorem numS_out {o : ByteArray} {k m : Int} (h : ¬ (0 ≤ k ∧ k ≤ 2 ∧ 0 ≤ m ∧ m ≤ 999999)) : numS o k m = ⟨#[]⟩ := by
  unfold numS; rw [if_neg (fun e => h (by unfold inNum at e; exact of_decide_eq_true e.1))]
theorem numS_none {o : ByteArray} {k m : Int} (h : crS (numText o k m) < 0) : numS o k m = ⟨#[]⟩ := by
  unfold numS; rw [if_neg (by omega)]
theorem numS_yes {o : ByteArray} {k m : Int} (h : 0 ≤ k ∧ k ≤ 2 ∧ 0 ≤ m ∧ m ≤ 999999) (hc : 0 ≤ crS (numText o k m)) :
    numS o k m = numText o k m ++ ⟨(Lib.decDigits (crS (numText o k m) % 10).toNat).toArray⟩ := by
  unfold numS; rw [if_pos ⟨by unfold inNum; exact decide_eq_true h, hc⟩]
end Go.Proofs.Ytnnjphhkheocgaa
