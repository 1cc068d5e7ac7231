/-
  Contracts of the program's functions that give the value of a text of one byte.
-/
import Derived.Test.YtdmbahpifbidlaaRows
import Derived.WalkKit
import Derived.BigQuiet
import Derived.Deep.QuietTactic
import Derived.Lib.Hide
import Derived.WalkSpells
import Derived.Test.YtdmbahpifbidlaaCvMath
namespace Go.Proofs.Ytdmbahpifbidlaa
open Go.RowKit
set_option linter.unusedVariables false

theorem isDigit_yes (c : Int) (w : World) (h : 48 ≤ c ∧ c ≤ 57) :
    Calls Try.prog 90 #[.int .u8 c] w fun e w' => e = .returned (.bool true) ∧ w = w' := by
  obtain ⟨h1, h2⟩ := h
  go_enter Try.func90, Try.ntmps90
  go_wp2
  all_goals go_ret
  all_goals exact ⟨rfl, rfl⟩

theorem isDigit_no (c : Int) (w : World) (h0 : 0 ≤ c) (h1 : c ≤ 255) (h : ¬ (48 ≤ c ∧ c ≤ 57)) :
    Calls Try.prog 90 #[.int .u8 c] w fun e w' => e = .returned (.bool false) ∧ w = w' := by
  by_cases h2 : 48 ≤ c
  · have h3 : decide (c ≤ 57) = false := by simp; omega
    clear h
    go_enter Try.func90, Try.ntmps90
    go_wp2
    all_goals go_ret
    all_goals exact ⟨rfl, rfl⟩
  · clear h
    go_enter Try.func90, Try.ntmps90
    go_wp2
    all_goals go_ret
    all_goals exact ⟨rfl, rfl⟩

theorem isCapital_yes (c : Int) (w : World) (h : 65 ≤ c ∧ c ≤ 90) :
    Calls Try.prog 91 #[.int .u8 c] w fun e w' => e = .returned (.bool true) ∧ w = w' := by
  obtain ⟨h1, h2⟩ := h
  go_enter Try.func91, Try.ntmps91
  go_wp2
  all_goals go_ret
  all_goals exact ⟨rfl, rfl⟩

theorem isCapital_no (c : Int) (w : World) (h0 : 0 ≤ c) (h1 : c ≤ 255) (h : ¬ (65 ≤ c ∧ c ≤ 90)) :
    Calls Try.prog 91 #[.int .u8 c] w fun e w' => e = .returned (.bool false) ∧ w = w' := by
  by_cases h2 : 65 ≤ c
  · have h3 : decide (c ≤ 90) = false := by simp; omega
    clear h
    go_enter Try.func91, Try.ntmps91
    go_wp2
    all_goals go_ret
    all_goals exact ⟨rfl, rfl⟩
  · clear h
    go_enter Try.func91, Try.ntmps91
    go_wp2
    all_goals go_ret
    all_goals exact ⟨rfl, rfl⟩

set_option maxHeartbeats 400000 in
theorem capitalValue_any (c : Int) (w : World) (h : 65 ≤ c) (h' : c ≤ 90) :
    Calls Try.prog 92 #[.int .u8 c] w fun e w' => e = .returned (.int .i64 (capV (c - 65))) ∧ w = w' := by
  go_enter Try.func92, Try.ntmps92
  go_wp2
  go_loop [3, 4] (fun v i => ∃ j : Int, 0 ≤ j ∧ j ≤ c - 65 ∧ i = .int .u8 (65 + j) ∧ v = .int .i64 (capV j)) (fun _ i => (90 - intOf i).toNat)
  case atStart => exact ⟨0, by omega, by omega, rfl, by rw [capV_zero]⟩
  case round =>
    obtain ⟨j, hj0, hj1, rfl, rfl⟩ := hrel
    obtain ⟨hv0, hv1⟩ := capV_bd j hj0 (by omega)
    by_cases hlt : 65 + j < c
    · by_cases hr : (capV j + 1) % 11 = 0
      · have hs := Lib.hid (capV_skip j hj0 (by omega) hr)
        go_wp2
        go_round
        case rel => exact ⟨j + 1, by omega, by omega, by go_num, by rw [← hs.out]⟩
        case measure => simp [intOf]; omega
      · have hs := Lib.hid (capV_keep j hj0 (by omega) hr)
        go_wp2
        go_round
        case rel => exact ⟨j + 1, by omega, by omega, by go_num, by rw [← hs.out]⟩
        case measure => simp [intOf]; omega
    · have he : j = c - 65 := by omega
      have hs := Lib.hid he
      clear he
      go_wp2
      go_ret
      exact ⟨by rw [← hs.out]; rfl, rfl⟩

/-- The program's value of a text. -/
theorem implCharValue_any (s : ByteArray) (w : World) (hs : s.size ≤ maxLen) :
    Calls Try.prog 78 #[.string s] w fun e w' => e = .returned (.int .i64 (cvS s.data.toList)) ∧ w = w' := by
  unfold maxLen at hs
  by_cases h1 : s.size = 1
  · have hp : 0 < s.size := by omega
    have hq : s.size ≤ 1 := by omega
    clear h1 hs
    have hc : (s[0].toNat : Int) ≤ 255 := by have := s[0].toNat_lt; omega
    rw [cvS_one s hp hq]
    by_cases hd : 48 ≤ (s[0].toNat : Int) ∧ (s[0].toNat : Int) ≤ 57
    · rw [cvB_digit hd]
      go_enter Try.func78, Try.ntmps78
      go_wp2_with (first | (go_at_call 90; refine (isDigit_yes _ _ hd).mono ?_; rintro e w' ⟨rfl, rfl⟩))
      go_ret
      exact ⟨rfl, rfl⟩
    · by_cases hk : 65 ≤ (s[0].toNat : Int) ∧ (s[0].toNat : Int) ≤ 90
      · rw [cvB_capV hk]
        go_enter Try.func78, Try.ntmps78
        go_wp2_with (first | (go_at_call 90; refine (isDigit_no _ _ (by omega) hc hd).mono ?_; rintro e w' ⟨rfl, rfl⟩) | (go_at_call 91; refine (isCapital_yes _ _ hk).mono ?_; rintro e w' ⟨rfl, rfl⟩) | (go_at_call 92; refine (capitalValue_any _ _ hk.1 hk.2).mono ?_; rintro e w' ⟨rfl, rfl⟩))
        go_ret
        exact ⟨rfl, rfl⟩
      · rw [cvB_other hd hk]
        go_enter Try.func78, Try.ntmps78
        go_wp2_with (first | (go_at_call 90; refine (isDigit_no _ _ (by omega) hc hd).mono ?_; rintro e w' ⟨rfl, rfl⟩) | (go_at_call 91; refine (isCapital_no _ _ (by omega) hc hk).mono ?_; rintro e w' ⟨rfl, rfl⟩))
        go_ret
        exact ⟨rfl, rfl⟩
  · rw [cvS_not (by rw [Array.length_toList]; exact h1)]
    go_enter Try.func78, Try.ntmps78
    go_wp2
    go_ret
    exact ⟨rfl, rfl⟩

end Go.Proofs.Ytdmbahpifbidlaa
