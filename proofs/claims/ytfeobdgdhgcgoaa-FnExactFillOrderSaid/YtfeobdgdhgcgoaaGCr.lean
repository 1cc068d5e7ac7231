/-
  Plain mathematics of the values of letters and digits. Nothing of the program.
  Contracts of the program's functions that give the value of a text of one byte.
  Plain mathematics of the rest of a number: the form of its ten bytes, the two sums, and that they agree modulo 11. Nothing of the program.
  Contracts of the functions that give the rest of a number: the program's and the model's.
  The contract of the program's CheckRest, and of the fixed answer that the laws ask besides.
-/
import Derived.Test.YtfeobdgdhgcgoaaRows
import Derived.WalkKit
import Derived.BigQuiet
import Derived.Deep.QuietTactic
import Derived.Lib.Hide
import Derived.WalkSpells
import Derived.Laws.Externs
import Derived.Lib.Bytealg
namespace Go.Proofs.Ytfeobdgdhgcgoaa
set_option linter.unusedVariables false

/-- The value of one byte. -/
def cvB (c : Int) : Int := if 48 ≤ c ∧ c ≤ 57 then c - 48 else if 65 ≤ c ∧ c ≤ 90 then 10 + (c - 65) + (c - 65 + 9) / 10 else -1

theorem cvB_digit {c : Int} (h : 48 ≤ c ∧ c ≤ 57) : cvB c = c - 48 := by simp [cvB, h]
theorem cvB_capital {c : Int} (h : 65 ≤ c ∧ c ≤ 90) : cvB c = 10 + (c - 65) + (c - 65 + 9) / 10 := by
  unfold cvB; rw [if_neg (by omega), if_pos h]
theorem cvB_other {c : Int} (h : ¬ (48 ≤ c ∧ c ≤ 57)) (h' : ¬ (65 ≤ c ∧ c ≤ 90)) : cvB c = -1 := by
  unfold cvB; rw [if_neg h, if_neg h']
theorem cvB_bd (c : Int) : -1 ≤ cvB c ∧ cvB c ≤ 38 := by
  unfold cvB; split
  · omega
  · split <;> omega

/-- What capitalValue has behind j rounds. -/
def capV (j : Int) : Int := 10 + j + (j + 9) / 10

theorem capV_zero : capV 0 = 10 := by decide
theorem capV_bd (j : Int) (h : 0 ≤ j) (h' : j ≤ 25) : 10 ≤ capV j ∧ capV j ≤ 38 := by unfold capV; omega
theorem capV_skip (j : Int) (h : 0 ≤ j) (h' : j < 25) (hr : (capV j + 1) % 11 = 0) : capV j + 1 + 1 = capV (j + 1) := by unfold capV at *; omega
theorem capV_keep (j : Int) (h : 0 ≤ j) (h' : j < 25) (hr : ¬ (capV j + 1) % 11 = 0) : capV j + 1 = capV (j + 1) := by unfold capV at *; omega
theorem cvB_capV {c : Int} (h : 65 ≤ c ∧ c ≤ 90) : cvB c = capV (c - 65) := by rw [cvB_capital h]; rfl

/-- The value of a text. -/
def cvS (l : List UInt8) : Int := match l with
  | [c] => cvB c.toNat
  | _ => -1

theorem cvS_not {l : List UInt8} (h : l.length ≠ 1) : cvS l = -1 := by
  match l, h with
  | [], _ => rfl
  | [_], h => exact absurd rfl h
  | _ :: _ :: _, _ => rfl

theorem cvS_one (s : ByteArray) (hp : 0 < s.size) (hq : s.size ≤ 1) : cvS s.data.toList = cvB (s[0].toNat : Int) := by
  match s, hp, hq with
  | ⟨⟨[c]⟩⟩, _, _ => rfl
  | ⟨⟨[]⟩⟩, hp, _ => exact absurd hp (by simp [ByteArray.size])
  | ⟨⟨_ :: _ :: _⟩⟩, _, hq => exact absurd hq (by simp [ByteArray.size])

end Go.Proofs.Ytfeobdgdhgcgoaa
namespace Go.Proofs.Ytfeobdgdhgcgoaa
open Go.RowKit
set_option linter.unusedVariables false

theorem isDigit_yes (c : Int) (w : World) (h : 48 ≤ c ∧ c ≤ 57) :
    Calls Try.prog 107 #[.int .u8 c] w fun e w' => e = .returned (.bool true) ∧ w = w' := by
  obtain ⟨h1, h2⟩ := h
  go_enter Try.func107, Try.ntmps107
  go_wp2
  all_goals go_ret
  all_goals exact ⟨rfl, rfl⟩

theorem isDigit_no (c : Int) (w : World) (h0 : 0 ≤ c) (h1 : c ≤ 255) (h : ¬ (48 ≤ c ∧ c ≤ 57)) :
    Calls Try.prog 107 #[.int .u8 c] w fun e w' => e = .returned (.bool false) ∧ w = w' := by
  by_cases h2 : 48 ≤ c
  · have h3 : decide (c ≤ 57) = false := by simp; omega
    clear h
    go_enter Try.func107, Try.ntmps107
    go_wp2
    all_goals go_ret
    all_goals exact ⟨rfl, rfl⟩
  · clear h
    go_enter Try.func107, Try.ntmps107
    go_wp2
    all_goals go_ret
    all_goals exact ⟨rfl, rfl⟩

theorem isCapital_yes (c : Int) (w : World) (h : 65 ≤ c ∧ c ≤ 90) :
    Calls Try.prog 108 #[.int .u8 c] w fun e w' => e = .returned (.bool true) ∧ w = w' := by
  obtain ⟨h1, h2⟩ := h
  go_enter Try.func108, Try.ntmps108
  go_wp2
  all_goals go_ret
  all_goals exact ⟨rfl, rfl⟩

theorem isCapital_no (c : Int) (w : World) (h0 : 0 ≤ c) (h1 : c ≤ 255) (h : ¬ (65 ≤ c ∧ c ≤ 90)) :
    Calls Try.prog 108 #[.int .u8 c] w fun e w' => e = .returned (.bool false) ∧ w = w' := by
  by_cases h2 : 65 ≤ c
  · have h3 : decide (c ≤ 90) = false := by simp; omega
    clear h
    go_enter Try.func108, Try.ntmps108
    go_wp2
    all_goals go_ret
    all_goals exact ⟨rfl, rfl⟩
  · clear h
    go_enter Try.func108, Try.ntmps108
    go_wp2
    all_goals go_ret
    all_goals exact ⟨rfl, rfl⟩

set_option maxHeartbeats 400000 in
theorem capitalValue_any (c : Int) (w : World) (h : 65 ≤ c) (h' : c ≤ 90) :
    Calls Try.prog 109 #[.int .u8 c] w fun e w' => e = .returned (.int .i64 (capV (c - 65))) ∧ w = w' := by
  go_enter Try.func109, Try.ntmps109
  go_wp2
  go_loop [3, 4] (fun v i => ∃ j : Int, 0 ≤ j ∧ j ≤ c - 65 ∧ i = .int .u8 (65 + j) ∧ v = .int .i64 (capV j)) (fun _ i => (90 - intOf i).toNat)
  case atStart => exact ⟨0, by omega, by omega, rfl, by rw [capV_zero]⟩
  case round =>
    obtain ⟨j, hj0, hj1, rfl, rfl⟩ := hrel
    obtain ⟨hv0, hv1⟩ := capV_bd j hj0 (by omega)
    by_cases hlt : 65 + j < c
    · by_cases hr : (capV j + 1) % 11 = 0
      · have hs := Lib.hid (capV_skip j hj0 (by omega) hr)
        go_wp2
        go_round
        case rel => exact ⟨j + 1, by omega, by omega, by go_num, by rw [← hs.out]⟩
        case measure => simp [intOf]; omega
      · have hs := Lib.hid (capV_keep j hj0 (by omega) hr)
        go_wp2
        go_round
        case rel => exact ⟨j + 1, by omega, by omega, by go_num, by rw [← hs.out]⟩
        case measure => simp [intOf]; omega
    · have he : j = c - 65 := by omega
      have hs := Lib.hid he
      clear he
      go_wp2
      go_ret
      exact ⟨by rw [← hs.out]; rfl, rfl⟩

/-- The program's value of a text. -/
theorem implCharValue_any (s : ByteArray) (w : World) (hs : s.size ≤ maxLen) :
    Calls Try.prog 80 #[.string s] w fun e w' => e = .returned (.int .i64 (cvS s.data.toList)) ∧ w = w' := by
  unfold maxLen at hs
  by_cases h1 : s.size = 1
  · have hp : 0 < s.size := by omega
    have hq : s.size ≤ 1 := by omega
    clear h1 hs
    have hc : (s[0].toNat : Int) ≤ 255 := by have := s[0].toNat_lt; omega
    rw [cvS_one s hp hq]
    by_cases hd : 48 ≤ (s[0].toNat : Int) ∧ (s[0].toNat : Int) ≤ 57
    · rw [cvB_digit hd]
      go_enter Try.func80, Try.ntmps80
      go_wp2_with (first | (go_at_call 107; refine (isDigit_yes _ _ hd).mono ?_; rintro e w' ⟨rfl, rfl⟩))
      go_ret
      exact ⟨rfl, rfl⟩
    · by_cases hk : 65 ≤ (s[0].toNat : Int) ∧ (s[0].toNat : Int) ≤ 90
      · rw [cvB_capV hk]
        go_enter Try.func80, Try.ntmps80
        go_wp2_with (first | (go_at_call 107; refine (isDigit_no _ _ (by omega) hc hd).mono ?_; rintro e w' ⟨rfl, rfl⟩) | (go_at_call 108; refine (isCapital_yes _ _ hk).mono ?_; rintro e w' ⟨rfl, rfl⟩) | (go_at_call 109; refine (capitalValue_any _ _ hk.1 hk.2).mono ?_; rintro e w' ⟨rfl, rfl⟩))
        go_ret
        exact ⟨rfl, rfl⟩
      · rw [cvB_other hd hk]
        go_enter Try.func80, Try.ntmps80
        go_wp2_with (first | (go_at_call 107; refine (isDigit_no _ _ (by omega) hc hd).mono ?_; rintro e w' ⟨rfl, rfl⟩) | (go_at_call 108; refine (isCapital_no _ _ (by omega) hc hk).mono ?_; rintro e w' ⟨rfl, rfl⟩))
        go_ret
        exact ⟨rfl, rfl⟩
  · rw [cvS_not (by rw [Array.length_toList]; exact h1)]
    go_enter Try.func80, Try.ntmps80
    go_wp2
    go_ret
    exact ⟨rfl, rfl⟩

end Go.Proofs.Ytfeobdgdhgcgoaa
namespace Go.Proofs.Ytfeobdgdhgcgoaa
set_option linter.unusedVariables false

def byteAt (s : ByteArray) (k : Nat) : Int := ((s.data.toList.getD k 0).toNat : Int)

theorem byteAt_get (s : ByteArray) (k : Nat) (h : k < s.size) : (s[k].toNat : Int) = byteAt s k := by
  have h' : k < s.data.toList.length := by rw [Array.length_toList]; exact h
  unfold byteAt
  rw [List.getD_eq_getElem?_getD, List.getElem?_eq_getElem h', Option.getD_some]
  rfl
theorem byteAt_bd (s : ByteArray) (k : Nat) : 0 ≤ byteAt s k ∧ byteAt s k ≤ 255 := by
  have := (s.data.toList.getD k 0).toNat_lt
  unfold byteAt; omega

def fitsB (c : Int) (k : Nat) : Bool := decide ((k < 3 ∧ 65 ≤ c ∧ c ≤ 90) ∨ (k = 3 ∧ (c = 85 ∨ c = 74 ∨ c = 90)) ∨ (3 < k ∧ 48 ≤ c ∧ c ≤ 57))
def formB (s : ByteArray) : Bool := decide (s.size = 10) && (List.range 10).all fun k => fitsB (byteAt s k) k

theorem formB_true {s : ByteArray} (hs : s.size = 10) (h : ∀ k, k < 10 → fitsB (byteAt s k) k = true) : formB s = true := by
  unfold formB
  rw [Bool.and_eq_true]
  exact ⟨decide_eq_true hs, List.all_eq_true.2 fun k hk => h k (List.mem_range.1 hk)⟩
theorem formB_size {s : ByteArray} (h : formB s = true) : s.size = 10 := by
  unfold formB at h
  rw [Bool.and_eq_true] at h
  exact of_decide_eq_true h.1
theorem formB_fits {s : ByteArray} (h : formB s = true) (k : Nat) (hk : k < 10) : fitsB (byteAt s k) k = true := by
  unfold formB at h
  rw [Bool.and_eq_true] at h
  exact List.all_eq_true.1 h.2 k (List.mem_range.2 hk)
theorem formB_false_size {s : ByteArray} (h : s.size ≠ 10) : formB s = false := by
  cases hf : formB s
  · rfl
  · exact absurd (formB_size hf) h
theorem formB_false_at {s : ByteArray} (k : Nat) (hk : k < 10) (h : fitsB (byteAt s k) k = false) : formB s = false := by
  cases hf : formB s
  · rfl
  · rw [formB_fits hf k hk] at h; cases h

/-- What the model's loop asks of the byte at a place. -/
def fitsM (c : Int) (k : Nat) : Bool := decide ((k < 4 ∧ 65 ≤ c ∧ c ≤ 90) ∨ (3 < k ∧ 48 ≤ c ∧ c ≤ 57))
theorem fitsM_of {c : Int} {k : Nat} (h : fitsB c k = true) : fitsM c k = true := by
  unfold fitsB at h; unfold fitsM
  have := of_decide_eq_true h
  exact decide_eq_true (by omega)
theorem fitsM_not {c : Int} {k : Nat} (h : fitsM c k = false) : fitsB c k = false := by
  cases hf : fitsB c k
  · rfl
  · rw [fitsM_of hf] at h; cases h
theorem fitsB_of_M {c : Int} {k : Nat} (h : fitsM c k = true) (h3 : k = 3 → c = 85 ∨ c = 74 ∨ c = 90) : fitsB c k = true := by
  unfold fitsM at h; unfold fitsB
  have := of_decide_eq_true h
  apply decide_eq_true
  by_cases hk : k = 3
  · exact .inr (.inl ⟨hk, h3 hk⟩)
  · omega
theorem fitsB_three {c : Int} (h : ¬ (c = 85 ∨ c = 74 ∨ c = 90)) : fitsB c 3 = false := by
  unfold fitsB
  apply decide_eq_false
  omega

theorem cvB_fits {c : Int} {k : Nat} (h : fitsB c k = true) : 0 ≤ cvB c ∧ cvB c ≤ 38 := by
  unfold fitsB at h
  have h := of_decide_eq_true h
  have := cvB_bd c
  refine ⟨?_, this.2⟩
  by_cases hd : 48 ≤ c ∧ c ≤ 57
  · rw [cvB_digit hd]; omega
  · rw [cvB_capital (by omega)]; omega

def p2 : Nat → Int
  | 0 => 1
  | k + 1 => 2 * p2 k
def pw : Nat → Int
  | 0 => 1
  | k + 1 => pw k * 2 % 11
def sumM (s : ByteArray) : Nat → Int
  | 0 => 0
  | k + 1 => sumM s k + p2 k * cvB (byteAt s k)
def sumI (s : ByteArray) : Nat → Int
  | 0 => 0
  | k + 1 => sumI s k + cvB (byteAt s k) * pw k

theorem p2_bd : ∀ k, k ≤ 10 → 1 ≤ p2 k ∧ p2 k ≤ 1024 := by decide
theorem pw_bd (k : Nat) : 0 ≤ pw k ∧ pw k ≤ 10 := by
  cases k with
  | zero => exact ⟨by decide, by decide⟩
  | succ k => unfold pw; omega
theorem pw_mod (k : Nat) : pw k = p2 k % 11 := by
  induction k with
  | zero => rfl
  | succ k ih => unfold pw p2; omega
theorem sums (s : ByteArray) (k : Nat) : sumI s k % 11 = sumM s k % 11 := by
  induction k with
  | zero => rfl
  | succ k ih =>
    unfold sumI sumM
    rw [Int.add_emod, ih, pw_mod, Int.mul_emod, Int.emod_emod_of_dvd _ (Int.dvd_refl 11), ← Int.mul_emod, ← Int.add_emod, Int.mul_comm]

theorem prodI_bd {c p : Int} (hc0 : 0 ≤ c) (hc1 : c ≤ 38) (hp0 : 0 ≤ p) (hp1 : p ≤ 10) : 0 ≤ c * p ∧ c * p ≤ 380 :=
  ⟨Int.mul_nonneg hc0 hp0, by have := Int.mul_le_mul hc1 hp1 hp0 (by decide); omega⟩
theorem prodM_bd {c p : Int} (hc0 : 0 ≤ c) (hc1 : c ≤ 38) (hp0 : 1 ≤ p) (hp1 : p ≤ 1024) : 0 ≤ p * c ∧ p * c ≤ 38912 :=
  ⟨Int.mul_nonneg (by omega) hc0, by have := Int.mul_le_mul hp1 hc1 hc0 (by decide); omega⟩
theorem sumI_bd (s : ByteArray) (h : ∀ k, k < 10 → fitsB (byteAt s k) k = true) : ∀ k, k ≤ 10 → 0 ≤ sumI s k ∧ sumI s k ≤ 380 * k := by
  intro k
  induction k with
  | zero => intro _; exact ⟨Int.le_refl 0, Int.le_refl 0⟩
  | succ k ih =>
    intro hk
    have h1 := ih (by omega)
    have h2 := cvB_fits (h k (by omega))
    have h3 := pw_bd k
    have h4 := prodI_bd h2.1 h2.2 h3.1 h3.2
    unfold sumI; omega
theorem sumM_bd (s : ByteArray) (h : ∀ k, k < 10 → fitsB (byteAt s k) k = true) : ∀ k, k ≤ 10 → 0 ≤ sumM s k ∧ sumM s k ≤ 38912 * k := by
  intro k
  induction k with
  | zero => intro _; exact ⟨Int.le_refl 0, Int.le_refl 0⟩
  | succ k ih =>
    intro hk
    have h1 := ih (by omega)
    have h2 := cvB_fits (h k (by omega))
    have h3 := p2_bd k (by omega)
    have h4 := prodM_bd h2.1 h2.2 h3.1 h3.2
    unfold sumM; omega

/-- The rest of a text. -/
def crS (s : ByteArray) : Int := if formB s = true then sumM s 10 % 11 else -1
theorem crS_form {s : ByteArray} (h : formB s = true) : crS s = sumM s 10 % 11 := by unfold crS; rw [if_pos h]
theorem crS_formI {s : ByteArray} (h : formB s = true) : crS s = sumI s 10 % 11 := by rw [crS_form h, sums]
theorem crS_not {s : ByteArray} (h : formB s = false) : crS s = -1 := by unfold crS; rw [h]; rfl
theorem crS_bd (s : ByteArray) : -1 ≤ crS s ∧ crS s ≤ 10 := by
  unfold crS; split <;> omega

theorem cvS_extract (s : ByteArray) (k : Nat) (h : k < s.size) : cvS (s.extract k (k + 1)).data.toList = cvB (byteAt s k) := by
  have hz : (s.extract k (k + 1)).size = 1 := by rw [ByteArray.size_extract]; omega
  rw [cvS_one _ (by omega) (by omega), byteAt_get]
  unfold byteAt
  congr 2
  have h' : k < s.data.toList.length := by rw [Array.length_toList]; exact h
  rw [List.getD_eq_getElem?_getD, List.getD_eq_getElem?_getD, ByteArray.data_extract, Array.toList_extract, List.extract_eq_take_drop]
  congr 1
  rw [List.getElem?_take_of_lt (by omega), List.getElem?_drop, Nat.add_zero]
end Go.Proofs.Ytfeobdgdhgcgoaa
namespace Go.Proofs.Ytfeobdgdhgcgoaa
open Go.RowKit
set_option linter.unusedVariables false

set_option maxRecDepth 10000 in
set_option maxHeartbeats 1000000 in
theorem stringslite_IndexByte (s : ByteArray) (c : Int) (w : World) :
    Calls Try.prog 121 #[.string s, .int .u8 c] w fun e w' => e = .returned (.int .i64 (Lib.indexByte s.data.toList c.toNat.toUInt8)) ∧ w = w' := by
  go_enter Try.func121, Try.ntmps121
  go_wp2
  rw [run_callFunc_extern Try.func122 (by kernel_rfl) (by kernel_rfl) (by kernel_rfl) (e := Extern.BytealgIndexByte.indexByte) (by kernel_rfl), Lib.run_indexByteString]
  simp only [Result.andThen]
  rw [Oper.upon_value]
  go_wp2
  go_ret
  exact ⟨rfl, rfl⟩

set_option maxRecDepth 10000 in
theorem strings_IndexByte (s : ByteArray) (c : Int) (w : World) :
    Calls Try.prog 118 #[.string s, .int .u8 c] w fun e w' => e = .returned (.int .i64 (Lib.indexByte s.data.toList c.toNat.toUInt8)) ∧ w = w' := by
  go_enter Try.func118, Try.ntmps118
  go_wp2_with (go_at_call 121; refine (stringslite_IndexByte _ _ _).mono ?_; rintro e w' ⟨rfl, rfl⟩)
  go_ret
  exact ⟨rfl, rfl⟩

/-- The place of a byte among U, J and Z. -/
def ujz (c : Int) : Int := Lib.indexByte [85, 74, 90] c.toNat.toUInt8
theorem ujz_all : ∀ n : Fin 256, (0 ≤ ujz (n.val : Int)) = (n.val = 85 ∨ n.val = 74 ∨ n.val = 90) := by
  intro n
  apply propext
  revert n
  decide +kernel
theorem ujz_iff {c : Int} (h0 : 0 ≤ c) (h1 : c ≤ 255) : 0 ≤ ujz c ↔ (c = 85 ∨ c = 74 ∨ c = 90) := by
  obtain ⟨n, rfl⟩ := Int.eq_ofNat_of_zero_le h0
  have h := ujz_all ⟨n, by omega⟩
  simp only at h
  rw [h]; omega

theorem fitsPlace_any (c : Int) (k : Nat) (w : World) (h0 : 0 ≤ c) (h1 : c ≤ 255) (hk : k ≤ 9) :
    Calls Try.prog 106 #[.int .u8 c, .int .i64 k] w fun e w' => e = .returned (.bool (fitsB c k)) ∧ w = w' := by
  by_cases hk3 : k < 3
  · by_cases hc : 65 ≤ c ∧ c ≤ 90
    · have hb : fitsB c k = true := by unfold fitsB; exact decide_eq_true (.inl ⟨hk3, hc⟩)
      rw [hb]
      clear hb
      go_enter Try.func106, Try.ntmps106
      go_wp2_with (go_at_call 108; refine (isCapital_yes _ _ hc).mono ?_; rintro e w' ⟨rfl, rfl⟩)
      go_ret
      exact ⟨rfl, rfl⟩
    · have hb : fitsB c k = false := by unfold fitsB; exact decide_eq_false (by omega)
      rw [hb]
      clear hb
      go_enter Try.func106, Try.ntmps106
      go_wp2_with (go_at_call 108; refine (isCapital_no _ _ h0 h1 hc).mono ?_; rintro e w' ⟨rfl, rfl⟩)
      go_ret
      exact ⟨rfl, rfl⟩
  · by_cases hk4 : k < 4
    · obtain rfl : k = 3 := by omega
      have hu := ujz_iff h0 h1
      have hb : fitsB c 3 = decide (0 ≤ ujz c) := by
        unfold fitsB
        rw [decide_eq_decide, hu]; omega
      rw [hb]
      clear hu hb hk3 hk4 hk
      go_enter Try.func106, Try.ntmps106
      go_wp2_with (go_at_call 118; refine (strings_IndexByte _ _ _).mono ?_; rintro e w' ⟨rfl, rfl⟩)
      go_ret
      exact ⟨rfl, rfl⟩
    · by_cases hc : 48 ≤ c ∧ c ≤ 57
      · have hb : fitsB c k = true := by unfold fitsB; exact decide_eq_true (by omega)
        rw [hb]
        clear hb
        go_enter Try.func106, Try.ntmps106
        go_wp2_with (go_at_call 107; refine (isDigit_yes _ _ hc).mono ?_; rintro e w' ⟨rfl, rfl⟩)
        go_ret
        exact ⟨rfl, rfl⟩
      · have hb : fitsB c k = false := by unfold fitsB; exact decide_eq_false (by omega)
        rw [hb]
        clear hb
        go_enter Try.func106, Try.ntmps106
        go_wp2_with (go_at_call 107; refine (isDigit_no _ _ h0 h1 hc).mono ?_; rintro e w' ⟨rfl, rfl⟩)
        go_ret
        exact ⟨rfl, rfl⟩

set_option maxHeartbeats 400000 in
theorem canBeChecked_any (s : ByteArray) (w : World) (hm : s.size ≤ maxLen) :
    Calls Try.prog 79 #[.string s] w fun e w' => e = .returned (.bool (formB s)) ∧ w = w' := by
  unfold maxLen at hm
  by_cases hs : s.size = 10
  · have hs1 : s.size ≤ 10 := by omega
    have hs2 : 10 ≤ s.size := by omega
    have ht : ((s.size : Int) != 10) = false := by rw [bne_eq_false_iff_eq]; omega
    have HS := Lib.hid hs
    clear hs
    go_enter Try.func79, Try.ntmps79
    go_wp2
    go_loop [9] (fun i => ∃ k : Nat, k ≤ 10 ∧ i = .int .i64 k ∧ Hid (∀ j, j < k → fitsB (byteAt s j) j = true)) (fun i => 10 - (intOf i).toNat)
    case atStart => exact ⟨0, by omega, rfl, Lib.hid fun j hj => by omega⟩
    case round =>
      obtain ⟨k, hk, rfl, HF⟩ := hrel
      by_cases hlt : k < 10
      · have hks : k < s.size := by omega
        have hb := byteAt_bd s k
        have hg := Lib.hid (byteAt_get s k hks)
        have hk9 : k ≤ 9 := by omega
        have hc0 : 0 ≤ (s[k].toNat : Int) := by omega
        have hc1 : (s[k].toNat : Int) ≤ 255 := by have := s[k].toNat_lt; omega
        clear hb
        by_cases hf : fitsB (s[k].toNat : Int) k = true
        · go_wp2_with (go_at_call 106; refine (fitsPlace_any _ _ _ hc0 hc1 hk9).mono ?_; rintro e w' ⟨rfl, rfl⟩)
          go_round
          case rel => exact ⟨k + 1, by omega, by go_num, Lib.hid fun j hj => by
            by_cases e : j = k
            · rw [e, ← hg.out]; exact hf
            · exact HF.out j (by omega)⟩
          case measure => simp [intOf]; omega
        · have hf' : fitsB (s[k].toNat : Int) k = false := by simpa using hf
          clear hf
          go_wp2_with (go_at_call 106; refine (fitsPlace_any _ _ _ hc0 hc1 hk9).mono ?_; rintro e w' ⟨rfl, rfl⟩)
          go_ret
          exact ⟨by rw [formB_false_at k hlt (by rw [← hg.out]; exact hf')]; rfl, rfl⟩
      · have hk10 := Lib.hid (show k = 10 by omega)
        go_wp2
        go_ret
        exact ⟨by rw [formB_true HS.out (by rw [← hk10.out]; exact HF.out)]; rfl, rfl⟩
  · rw [formB_false_size hs]
    go_enter Try.func79, Try.ntmps79
    go_wp2
    go_ret
    exact ⟨rfl, rfl⟩
end Go.Proofs.Ytfeobdgdhgcgoaa
namespace Go.Proofs.Ytfeobdgdhgcgoaa
open Go.RowKit
set_option linter.unusedVariables false

theorem implCharAt (s : ByteArray) (k : Nat) (w : World) (hk : k < s.size) (hm : s.size ≤ maxLen) :
    Calls Try.prog 80 #[.string (s.extract k (k + 1))] w fun e w' => e = .returned (.int .i64 (cvB (byteAt s k))) ∧ w = w' := by
  have h := implCharValue_any (s.extract k (k + 1)) w (by rw [ByteArray.size_extract]; omega)
  rw [cvS_extract s k hk] at h
  exact h
set_option maxHeartbeats 1000000 in
/-- The program's rest. -/
theorem implCheckRest_any (s : ByteArray) (w : World) (hm0 : s.size ≤ maxLen) :
    Calls Try.prog 50 #[.string s] w fun e w' => e = .returned (.int .i64 (crS s)) ∧ w = w' := by
  have hm := hm0
  unfold maxLen at hm
  have HM := Lib.hid hm0
  clear hm0
  by_cases hf : formB s = true
  · rw [crS_formI hf]
    have hs := formB_size hf
    have hs1 : s.size ≤ 10 := by omega
    have hs2 : 10 ≤ s.size := by omega
    have HF := Lib.hid (formB_fits hf)
    clear hs
    go_enter Try.func50, Try.ntmps50
    go_wp2_with (go_at_call 79; refine (canBeChecked_any _ _ HM.out).mono ?_; rintro e w' ⟨rfl, rfl⟩)
    go_loop [3, 4, 11] (fun a p i => ∃ k : Nat, k ≤ 10 ∧ i = .int .i64 k ∧ a = .int .i64 (sumI s k) ∧ p = .int .i64 (pw k)) (fun _ _ i => 10 - (intOf i).toNat)
    case atStart => exact ⟨0, by omega, rfl, rfl, rfl⟩
    case round =>
      obtain ⟨k, hk, rfl, rfl, rfl⟩ := hrel
      have hsb := sumI_bd s HF.out k hk
      obtain ⟨hsb0, hsb1⟩ := hsb
      by_cases hlt : k < 10
      · have hks : k < s.size := by omega
        obtain ⟨hp0, hp1⟩ := pw_bd k
        have hc := cvB_fits (HF.out k hlt)
        obtain ⟨hq0, hq1⟩ := prodI_bd hc.1 hc.2 hp0 hp1
        clear hc
        go_wp2_with (go_at_call 80; refine (implCharAt s k _ hks HM.out).mono ?_; rintro e w' ⟨rfl, rfl⟩)
        go_round
        case rel => exact ⟨k + 1, by omega, by go_num, rfl, rfl⟩
        case measure => simp [intOf]; omega
      · have hk10 := Lib.hid (show k = 10 by omega)
        go_wp2
        go_ret
        exact ⟨by rw [← hk10.out]; rfl, rfl⟩
  · have hf' : formB s = false := by simpa using hf
    rw [crS_not hf']
    clear hf
    go_enter Try.func50, Try.ntmps50
    go_wp2_with (go_at_call 79; refine (canBeChecked_any _ _ HM.out).mono ?_; rintro e w' ⟨rfl, rfl⟩)
    go_ret
    exact ⟨rfl, rfl⟩

theorem crS_alive : crS ⟨#[67, 83, 81, 85, 51, 48, 53, 52, 51, 56]⟩ = 3 := by decide +kernel
theorem crS_empty : crS ⟨#[]⟩ = -1 := by decide +kernel
/-- The fixed answer that the laws ask besides. -/
theorem alive_yes (w : World) :
    Calls Try.prog 14 #[] w fun e w' => e = .returned (.bool true) ∧ w = w' := by
  have h1 := implCheckRest_any ⟨#[67, 83, 81, 85, 51, 48, 53, 52, 51, 56]⟩ w (by decide)
  have h2 := implCheckRest_any ⟨#[]⟩ w (by decide)
  rw [crS_alive] at h1
  rw [crS_empty] at h2
  go_enter Try.func14, Try.ntmps14
  go_wp2_with (go_at_call 50; (first | ((with_reducible refine h1.mono ?_); rintro e w' ⟨rfl, rfl⟩) | ((with_reducible refine h2.mono ?_); rintro e w' ⟨rfl, rfl⟩)))
  go_ret
  exact ⟨rfl, rfl⟩
end Go.Proofs.Ytfeobdgdhgcgoaa
