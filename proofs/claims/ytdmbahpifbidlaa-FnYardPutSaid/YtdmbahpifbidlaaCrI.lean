/-
  The contract of the program's CheckRest, and of the fixed answer that the laws ask besides.
-/
import Derived.Test.YtdmbahpifbidlaaCr
namespace Go.Proofs.Ytdmbahpifbidlaa
open Go.RowKit
set_option linter.unusedVariables false

theorem implCharAt (s : ByteArray) (k : Nat) (w : World) (hk : k < s.size) (hm : s.size ≤ maxLen) :
    Calls Try.prog 78 #[.string (s.extract k (k + 1))] w fun e w' => e = .returned (.int .i64 (cvB (byteAt s k))) ∧ w = w' := by
  have h := implCharValue_any (s.extract k (k + 1)) w (by rw [ByteArray.size_extract]; omega)
  rw [cvS_extract s k hk] at h
  exact h
set_option maxHeartbeats 1000000 in
/-- The program's rest. -/
theorem implCheckRest_any (s : ByteArray) (w : World) (hm0 : s.size ≤ maxLen) :
    Calls Try.prog 57 #[.string s] w fun e w' => e = .returned (.int .i64 (crS s)) ∧ w = w' := by
  have hm := hm0
  unfold maxLen at hm
  have HM := Lib.hid hm0
  clear hm0
  by_cases hf : formB s = true
  · rw [crS_formI hf]
    have hs := formB_size hf
    have hs1 : s.size ≤ 10 := by omega
    have hs2 : 10 ≤ s.size := by omega
    have HF := Lib.hid (formB_fits hf)
    clear hs
    go_enter Try.func57, Try.ntmps57
    go_wp2_with (go_at_call 77; refine (canBeChecked_any _ _ HM.out).mono ?_; rintro e w' ⟨rfl, rfl⟩)
    go_loop [3, 4, 11] (fun a p i => ∃ k : Nat, k ≤ 10 ∧ i = .int .i64 k ∧ a = .int .i64 (sumI s k) ∧ p = .int .i64 (pw k)) (fun _ _ i => 10 - (intOf i).toNat)
    case atStart => exact ⟨0, by omega, rfl, rfl, rfl⟩
    case round =>
      obtain ⟨k, hk, rfl, rfl, rfl⟩ := hrel
      have hsb := sumI_bd s HF.out k hk
      obtain ⟨hsb0, hsb1⟩ := hsb
      by_cases hlt : k < 10
      · have hks : k < s.size := by omega
        obtain ⟨hp0, hp1⟩ := pw_bd k
        have hc := cvB_fits (HF.out k hlt)
        obtain ⟨hq0, hq1⟩ := prodI_bd hc.1 hc.2 hp0 hp1
        clear hc
        go_wp2_with (go_at_call 78; refine (implCharAt s k _ hks HM.out).mono ?_; rintro e w' ⟨rfl, rfl⟩)
        go_round
        case rel => exact ⟨k + 1, by omega, by go_num, rfl, rfl⟩
        case measure => simp [intOf]; omega
      · have hk10 := Lib.hid (show k = 10 by omega)
        go_wp2
        go_ret
        exact ⟨by rw [← hk10.out]; rfl, rfl⟩
  · have hf' : formB s = false := by simpa using hf
    rw [crS_not hf']
    clear hf
    go_enter Try.func57, Try.ntmps57
    go_wp2_with (go_at_call 77; refine (canBeChecked_any _ _ HM.out).mono ?_; rintro e w' ⟨rfl, rfl⟩)
    go_ret
    exact ⟨rfl, rfl⟩

theorem crS_alive : crS ⟨#[67, 83, 81, 85, 51, 48, 53, 52, 51, 56]⟩ = 3 := by decide +kernel
theorem crS_empty : crS ⟨#[]⟩ = -1 := by decide +kernel
/-- The fixed answer that the laws ask besides. -/
theorem alive_yes (w : World) :
    Calls Try.prog 18 #[] w fun e w' => e = .returned (.bool true) ∧ w = w' := by
  have h1 := implCheckRest_any ⟨#[67, 83, 81, 85, 51, 48, 53, 52, 51, 56]⟩ w (by decide)
  have h2 := implCheckRest_any ⟨#[]⟩ w (by decide)
  rw [crS_alive] at h1
  rw [crS_empty] at h2
  go_enter Try.func18, Try.ntmps18
  go_wp2_with (go_at_call 57; (first | ((with_reducible refine h1.mono ?_); rintro e w' ⟨rfl, rfl⟩) | ((with_reducible refine h2.mono ?_); rintro e w' ⟨rfl, rfl⟩)))
  go_ret
  exact ⟨rfl, rfl⟩
end Go.Proofs.Ytdmbahpifbidlaa
