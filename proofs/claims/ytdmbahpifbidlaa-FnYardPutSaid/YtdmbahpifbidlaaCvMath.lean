/-
  Plain mathematics of the values of letters and digits. Nothing of the program.
-/
namespace Go.Proofs.Ytdmbahpifbidlaa
set_option linter.unusedVariables false

/-- The value of one byte. -/
def cvB (c : Int) : Int := if 48 ≤ c ∧ c ≤ 57 then c - 48 else if 65 ≤ c ∧ c ≤ 90 then 10 + (c - 65) + (c - 65 + 9) / 10 else -1

theorem cvB_digit {c : Int} (h : 48 ≤ c ∧ c ≤ 57) : cvB c = c - 48 := by simp [cvB, h]
theorem cvB_capital {c : Int} (h : 65 ≤ c ∧ c ≤ 90) : cvB c = 10 + (c - 65) + (c - 65 + 9) / 10 := by
  unfold cvB; rw [if_neg (by omega), if_pos h]
theorem cvB_other {c : Int} (h : ¬ (48 ≤ c ∧ c ≤ 57)) (h' : ¬ (65 ≤ c ∧ c ≤ 90)) : cvB c = -1 := by
  unfold cvB; rw [if_neg h, if_neg h']
theorem cvB_bd (c : Int) : -1 ≤ cvB c ∧ cvB c ≤ 38 := by
  unfold cvB; split
  · omega
  · split <;> omega

/-- What capitalValue has behind j rounds. -/
def capV (j : Int) : Int := 10 + j + (j + 9) / 10

theorem capV_zero : capV 0 = 10 := by decide
theorem capV_bd (j : Int) (h : 0 ≤ j) (h' : j ≤ 25) : 10 ≤ capV j ∧ capV j ≤ 38 := by unfold capV; omega
theorem capV_skip (j : Int) (h : 0 ≤ j) (h' : j < 25) (hr : (capV j + 1) % 11 = 0) : capV j + 1 + 1 = capV (j + 1) := by unfold capV at *; omega
theorem capV_keep (j : Int) (h : 0 ≤ j) (h' : j < 25) (hr : ¬ (capV j + 1) % 11 = 0) : capV j + 1 = capV (j + 1) := by unfold capV at *; omega
theorem cvB_capV {c : Int} (h : 65 ≤ c ∧ c ≤ 90) : cvB c = capV (c - 65) := by rw [cvB_capital h]; rfl

/-- The value of a text. -/
def cvS (l : List UInt8) : Int := match l with
  | [c] => cvB c.toNat
  | _ => -1

theorem cvS_not {l : List UInt8} (h : l.length ≠ 1) : cvS l = -1 := by
  match l, h with
  | [], _ => rfl
  | [_], h => exact absurd rfl h
  | _ :: _ :: _, _ => rfl

theorem cvS_one (s : ByteArray) (hp : 0 < s.size) (hq : s.size ≤ 1) : cvS s.data.toList = cvB (s[0].toNat : Int) := by
  match s, hp, hq with
  | ⟨⟨[c]⟩⟩, _, _ => rfl
  | ⟨⟨[]⟩⟩, hp, _ => exact absurd hp (by simp [ByteArray.size])
  | ⟨⟨_ :: _ :: _⟩⟩, _, hq => exact absurd hq (by simp [ByteArray.size])

end Go.Proofs.Ytdmbahpifbidlaa
