/-
  Plain mathematics of the values of letters and digits. Nothing of the program.
  Contracts of the program's functions that give the value of a text of one byte.
  Plain mathematics of the rest of a number: the form of its ten bytes, the two sums, and that they agree modulo 11. Nothing of the program.
  Contracts of the functions that give the rest of a number: the program's and the model's.
  The contract of the program's CheckRest, and of the fixed answer that the laws ask besides.
-/
import Derived.Test.YtggbgjadfmjaaabRows
import Derived.WalkKit
import Derived.BigQuiet
import Derived.Deep.QuietTactic
import Derived.Lib.Hide
import Derived.WalkSpells
import Derived.Laws.Externs
import Derived.Lib.Bytealg
namespace Go.Proofs.Ytggbgjadfmjaaab
set_option linter.unusedVariables false

/-- The value of one byte. -/
def cvB (c : Int) : Int := if 48 ≤ c ∧ c ≤ 57 then c - 48 else if 65 ≤ c ∧ c ≤ 90 then 10 + (c - 65) + (c - 65 + 9) / 10 else -1

theorem cvB_digit {c : Int} (h : 48 ≤ c ∧ c ≤ 57) : cvB c = c - 48 := by simp [cvB, h]
theorem cvB_capital {c : Int} (h : 65 ≤ c ∧ c ≤ 90) : cvB c = 10 + (c - 65) + (c - 65 + 9) / 10 := by
  unfold cvB; rw [if_neg (by omega), if_pos h]
theorem cvB_other {c : Int} (h : ¬ (48 ≤ c ∧ c ≤ 57)) (h' : ¬ (65 ≤ c ∧ c ≤ 90)) : cvB c = -1 := by
  unfold cvB; rw [if_neg h, if_neg h']
theorem cvB_bd (c : Int) : -1 ≤ cvB c ∧ cvB c ≤ 38 := by
  unfold cvB; split
  · omega
  · split <;> omega

/-- What capitalValue has behind j rounds. -/
def capV (j : Int) : Int := 10 + j + (j + 9) / 10

theorem capV_zero : capV 0 = 10 := by decide
theorem capV_bd (j : Int) (h : 0 ≤ j) (h' : j ≤ 25) : 10 ≤ capV j ∧ capV j ≤ 38 := by unfold capV; omega
theorem capV_skip (j : Int) (h : 0 ≤ j) (h' : j < 25) (hr : (capV j + 1) % 11 = 0) : capV j + 1 + 1 = capV (j + 1) := by unfold capV at *; omega
theorem capV_keep (j : Int) (h : 0 ≤ j) (h' : j < 25) (hr : ¬ (capV j + 1) % 11 = 0) : capV j + 1 = capV (j + 1) := by unfold capV at *; omega
theorem cvB_capV {c : Int} (h : 65 ≤ c ∧ c ≤ 90) : cvB c = capV (c - 65) := by rw [cvB_capital h]; rfl

/-- The value of a text. -/
def cvS (l : List UInt8) : Int := match l with
  | [c] => cvB c.toNat
  | _ => -1

theorem cvS_not {l : List UInt8} (h : l.length ≠ 1) : cvS l = -1 := by
  match l, h with
  | [], _ => rfl
  | [_], h => exact absurd rfl h
  | _ :: _ :: _, _ => rfl

theorem cvS_one (s : ByteArray) (hp : 0 < s.size) (hq : s.size ≤ 1) : cvS s.data.toList = cvB (s[0].toNat : Int) := by
  match s, hp, hq with
  | ⟨⟨[c]⟩⟩, _, _ => rfl
  | ⟨⟨[]⟩⟩, hp, _ => exact absurd hp (by simp [ByteArray.size])
  | ⟨⟨_ :: _ :: _⟩⟩, _, hq => exact absurd hq (by simp [ByteArray.size])

end Go.Proofs.Ytggbgjadfmjaaab
namespace Go.Proofs.Ytggbgjadfmjaaab
open Go.RowKit
set_option linter.unusedVariables false

end Go.Proofs.Ytggbgjadfmjaaab
namespace Go.Proofs.Ytggbgjadfmjaaab
set_option linter.unusedVariables false

def byteAt (s : ByteArray) (k : Nat) : Int := ((s.data.toList.getD k 0).toNat : Int)

theorem byteAt_get (s : ByteArray) (k : Nat) (h : k < s.size) : (s[k].toNat : Int) = byteAt s k := by
  have h' : k < s.data.toList.length := by rw [Array.length_toList]; exact h
  unfold byteAt
  rw [List.getD_eq_getElem?_getD, List.getElem?_eq_getElem h', Option.getD_some]
  rfl
theorem byteAt_bd (s : ByteArray) (k : Nat) : 0 ≤ byteAt s k ∧ byteAt s k ≤ 255 := by
  have := (s.data.toList.getD k 0).toNat_lt
  unfold byteAt; omega

def fitsB (c : Int) (k : Nat) : Bool := decide ((k < 3 ∧ 65 ≤ c ∧ c ≤ 90) ∨ (k = 3 ∧ (c = 85 ∨ c = 74 ∨ c = 90)) ∨ (3 < k ∧ 48 ≤ c ∧ c ≤ 57))
def formB (s : ByteArray) : Bool := decide (s.size = 10) && (List.range 10).all fun k => fitsB (byteAt s k) k

theorem formB_true {s : ByteArray} (hs : s.size = 10) (h : ∀ k, k < 10 → fitsB (byteAt s k) k = true) : formB s = true := by
  unfold formB
  rw [Bool.and_eq_true]
  exact ⟨decide_eq_true hs, List.all_eq_true.2 fun k hk => h k (List.mem_range.1 hk)⟩
theorem formB_size {s : ByteArray} (h : formB s = true) : s.size = 10 := by
  unfold formB at h
  rw [Bool.and_eq_true] at h
  exact of_decide_eq_true h.1
theorem formB_fits {s : ByteArray} (h : formB s = true) (k : Nat) (hk : k < 10) : fitsB (byteAt s k) k = true := by
  unfold formB at h
  rw [Bool.and_eq_true] at h
  exact List.all_eq_true.1 h.2 k (List.mem_range.2 hk)
theorem formB_false_size {s : ByteArray} (h : s.size ≠ 10) : formB s = false := by
  cases hf : formB s
  · rfl
  · exact absurd (formB_size hf) h
theorem formB_false_at {s : ByteArray} (k : Nat) (hk : k < 10) (h : fitsB (byteAt s k) k = false) : formB s = false := by
  cases hf : formB s
  · rfl
  · rw [formB_fits hf k hk] at h; cases h

/-- What the model's loop asks of the byte at a place. -/
def fitsM (c : Int) (k : Nat) : Bool := decide ((k < 4 ∧ 65 ≤ c ∧ c ≤ 90) ∨ (3 < k ∧ 48 ≤ c ∧ c ≤ 57))
theorem fitsM_of {c : Int} {k : Nat} (h : fitsB c k = true) : fitsM c k = true := by
  unfold fitsB at h; unfold fitsM
  have := of_decide_eq_true h
  exact decide_eq_true (by omega)
theorem fitsM_not {c : Int} {k : Nat} (h : fitsM c k = false) : fitsB c k = false := by
  cases hf : fitsB c k
  · rfl
  · rw [fitsM_of hf] at h; cases h
theorem fitsB_of_M {c : Int} {k : Nat} (h : fitsM c k = true) (h3 : k = 3 → c = 85 ∨ c = 74 ∨ c = 90) : fitsB c k = true := by
  unfold fitsM at h; unfold fitsB
  have := of_decide_eq_true h
  apply decide_eq_true
  by_cases hk : k = 3
  · exact .inr (.inl ⟨hk, h3 hk⟩)
  · omega
theorem fitsB_three {c : Int} (h : ¬ (c = 85 ∨ c = 74 ∨ c = 90)) : fitsB c 3 = false := by
  unfold fitsB
  apply decide_eq_false
  omega

theorem cvB_fits {c : Int} {k : Nat} (h : fitsB c k = true) : 0 ≤ cvB c ∧ cvB c ≤ 38 := by
  unfold fitsB at h
  have h := of_decide_eq_true h
  have := cvB_bd c
  refine ⟨?_, this.2⟩
  by_cases hd : 48 ≤ c ∧ c ≤ 57
  · rw [cvB_digit hd]; omega
  · rw [cvB_capital (by omega)]; omega

def p2 : Nat → Int
  | 0 => 1
  | k + 1 => 2 * p2 k
def pw : Nat → Int
  | 0 => 1
  | k + 1 => pw k * 2 % 11
def sumM (s : ByteArray) : Nat → Int
  | 0 => 0
  | k + 1 => sumM s k + p2 k * cvB (byteAt s k)
def sumI (s : ByteArray) : Nat → Int
  | 0 => 0
  | k + 1 => sumI s k + cvB (byteAt s k) * pw k

theorem p2_bd : ∀ k, k ≤ 10 → 1 ≤ p2 k ∧ p2 k ≤ 1024 := by decide
theorem pw_bd (k : Nat) : 0 ≤ pw k ∧ pw k ≤ 10 := by
  cases k with
  | zero => exact ⟨by decide, by decide⟩
  | succ k => unfold pw; omega
theorem pw_mod (k : Nat) : pw k = p2 k % 11 := by
  induction k with
  | zero => rfl
  | succ k ih => unfold pw p2; omega
theorem sums (s : ByteArray) (k : Nat) : sumI s k % 11 = sumM s k % 11 := by
  induction k with
  | zero => rfl
  | succ k ih =>
    unfold sumI sumM
    rw [Int.add_emod, ih, pw_mod, Int.mul_emod, Int.emod_emod_of_dvd _ (Int.dvd_refl 11), ← Int.mul_emod, ← Int.add_emod, Int.mul_comm]

theorem prodI_bd {c p : Int} (hc0 : 0 ≤ c) (hc1 : c ≤ 38) (hp0 : 0 ≤ p) (hp1 : p ≤ 10) : 0 ≤ c * p ∧ c * p ≤ 380 :=
  ⟨Int.mul_nonneg hc0 hp0, by have := Int.mul_le_mul hc1 hp1 hp0 (by decide); omega⟩
theorem prodM_bd {c p : Int} (hc0 : 0 ≤ c) (hc1 : c ≤ 38) (hp0 : 1 ≤ p) (hp1 : p ≤ 1024) : 0 ≤ p * c ∧ p * c ≤ 38912 :=
  ⟨Int.mul_nonneg (by omega) hc0, by have := Int.mul_le_mul hp1 hc1 hc0 (by decide); omega⟩
theorem sumI_bd (s : ByteArray) (h : ∀ k, k < 10 → fitsB (byteAt s k) k = true) : ∀ k, k ≤ 10 → 0 ≤ sumI s k ∧ sumI s k ≤ 380 * k := by
  intro k
  induction k with
  | zero => intro _; exact ⟨Int.le_refl 0, Int.le_refl 0⟩
  | succ k ih =>
    intro hk
    have h1 := ih (by omega)
    have h2 := cvB_fits (h k (by omega))
    have h3 := pw_bd k
    have h4 := prodI_bd h2.1 h2.2 h3.1 h3.2
    unfold sumI; omega
theorem sumM_bd (s : ByteArray) (h : ∀ k, k < 10 → fitsB (byteAt s k) k = true) : ∀ k, k ≤ 10 → 0 ≤ sumM s k ∧ sumM s k ≤ 38912 * k := by
  intro k
  induction k with
  | zero => intro _; exact ⟨Int.le_refl 0, Int.le_refl 0⟩
  | succ k ih =>
    intro hk
    have h1 := ih (by omega)
    have h2 := cvB_fits (h k (by omega))
    have h3 := p2_bd k (by omega)
    have h4 := prodM_bd h2.1 h2.2 h3.1 h3.2
    unfold sumM; omega

/-- The rest of a text. -/
def crS (s : ByteArray) : Int := if formB s = true then sumM s 10 % 11 else -1
theorem crS_form {s : ByteArray} (h : formB s = true) : crS s = sumM s 10 % 11 := by unfold crS; rw [if_pos h]
theorem crS_formI {s : ByteArray} (h : formB s = true) : crS s = sumI s 10 % 11 := by rw [crS_form h, sums]
theorem crS_not {s : ByteArray} (h : formB s = false) : crS s = -1 := by unfold crS; rw [h]; rfl
theorem crS_bd (s : ByteArray) : -1 ≤ crS s ∧ crS s ≤ 10 := by
  unfold crS; split <;> omega

theorem cvS_extract (s : ByteArray) (k : Nat) (h : k < s.size) : cvS (s.extract k (k + 1)).data.toList = cvB (byteAt s k) := by
  have hz : (s.extract k (k + 1)).size = 1 := by rw [ByteArray.size_extract]; omega
  rw [cvS_one _ (by omega) (by omega), byteAt_get]
  unfold byteAt
  congr 2
  have h' : k < s.data.toList.length := by rw [Array.length_toList]; exact h
  rw [List.getD_eq_getElem?_getD, List.getD_eq_getElem?_getD, ByteArray.data_extract, Array.toList_extract, List.extract_eq_take_drop]
  congr 1
  rw [List.getElem?_take_of_lt (by omega), List.getElem?_drop, Nat.add_zero]
end Go.Proofs.Ytggbgjadfmjaaab
namespace Go.Proofs.Ytggbgjadfmjaaab
open Go.RowKit
set_option linter.unusedVariables false

/-- The place of a byte among U, J and Z. -/
def ujz (c : Int) : Int := Lib.indexByte [85, 74, 90] c.toNat.toUInt8
theorem ujz_all : ∀ n : Fin 256, (0 ≤ ujz (n.val : Int)) = (n.val = 85 ∨ n.val = 74 ∨ n.val = 90) := by
  intro n
  apply propext
  revert n
  decide +kernel
theorem ujz_iff {c : Int} (h0 : 0 ≤ c) (h1 : c ≤ 255) : 0 ≤ ujz c ↔ (c = 85 ∨ c = 74 ∨ c = 90) := by
  obtain ⟨n, rfl⟩ := Int.eq_ofNat_of_zero_le h0
  have h := ujz_all ⟨n, by omega⟩
  simp only at h
  rw [h]; omega

end Go.Proofs.Ytggbgjadfmjaaab
namespace Go.Proofs.Ytggbgjadfmjaaab
open Go.RowKit
set_option linter.unusedVariables false

theorem crS_alive : crS ⟨#[67, 83, 81, 85, 51, 48, 53, 52, 51, 56]⟩ = 3 := by decide +kernel
theorem crS_empty : crS ⟨#[]⟩ = -1 := by decide +kernel
end Go.Proofs.Ytggbgjadfmjaaab
