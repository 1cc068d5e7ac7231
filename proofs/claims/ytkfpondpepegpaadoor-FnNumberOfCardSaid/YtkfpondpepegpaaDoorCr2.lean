/-
  Contracts of CheckRest: the program's and the model's give the same number; and of the fixed answer that the laws ask besides.
-/
import Derived.Test.YtkfpondpepegpaaDoorCr
namespace Go.Proofs.YtkfpondpepegpaaDoor
open Go.RowKit
set_option linter.unusedVariables false

theorem implCharAt (s : ByteArray) (k : Nat) (w : World) (hk : k < s.size) (hm : s.size ≤ maxLen) :
    Calls Tryd.prog 33 #[.string (s.extract k (k + 1))] w fun e w' => e = .returned (.int .i64 (cvB (byteAt s k))) ∧ w = w' := by
  have h := implCharValue_any (s.extract k (k + 1)) w (by rw [ByteArray.size_extract]; omega)
  rw [cvS_extract s k hk] at h
  exact h
theorem specCharAt (s : ByteArray) (k : Nat) (w : World) (hk : k < s.size) (hm : s.size ≤ maxLen) :
    Calls Tryd.prog 27 #[.string (s.extract k (k + 1))] w fun e w' => e = .returned (.int .i64 (cvB (byteAt s k))) ∧ w = w' := by
  have h := specCharValue_any (s.extract k (k + 1)) w (by rw [ByteArray.size_extract]; omega)
  rw [cvS_extract s k hk] at h
  exact h

set_option maxHeartbeats 1000000 in
/-- The program's rest. -/
theorem implCheckRest_any (s : ByteArray) (w : World) (hm0 : s.size ≤ maxLen) :
    Calls Tryd.prog 24 #[.string s] w fun e w' => e = .returned (.int .i64 (crS s)) ∧ w = w' := by
  have hm := hm0
  unfold maxLen at hm
  have HM := Lib.hid hm0
  clear hm0
  by_cases hf : formB s = true
  · rw [crS_formI hf]
    have hs := formB_size hf
    have hs1 : s.size ≤ 10 := by omega
    have hs2 : 10 ≤ s.size := by omega
    have HF := Lib.hid (formB_fits hf)
    clear hs
    go_enter Tryd.func24, Tryd.ntmps24
    go_wp2_with (go_at_call 32; refine (canBeChecked_any _ _ HM.out).mono ?_; rintro e w' ⟨rfl, rfl⟩)
    go_loop [3, 4, 11] (fun a p i => ∃ k : Nat, k ≤ 10 ∧ i = .int .i64 k ∧ a = .int .i64 (sumI s k) ∧ p = .int .i64 (pw k)) (fun _ _ i => 10 - (intOf i).toNat)
    case atStart => exact ⟨0, by omega, rfl, rfl, rfl⟩
    case round =>
      obtain ⟨k, hk, rfl, rfl, rfl⟩ := hrel
      have hsb := sumI_bd s HF.out k hk
      obtain ⟨hsb0, hsb1⟩ := hsb
      by_cases hlt : k < 10
      · have hks : k < s.size := by omega
        obtain ⟨hp0, hp1⟩ := pw_bd k
        have hc := cvB_fits (HF.out k hlt)
        obtain ⟨hq0, hq1⟩ := prodI_bd hc.1 hc.2 hp0 hp1
        clear hc
        go_wp2_with (go_at_call 33; refine (implCharAt s k _ hks HM.out).mono ?_; rintro e w' ⟨rfl, rfl⟩)
        go_round
        case rel => exact ⟨k + 1, by omega, by go_num, rfl, rfl⟩
        case measure => simp [intOf]; omega
      · have hk10 := Lib.hid (show k = 10 by omega)
        go_wp2
        go_ret
        exact ⟨by rw [← hk10.out]; rfl, rfl⟩
  · have hf' : formB s = false := by simpa using hf
    rw [crS_not hf']
    clear hf
    go_enter Tryd.func24, Tryd.ntmps24
    go_wp2_with (go_at_call 32; refine (canBeChecked_any _ _ HM.out).mono ?_; rintro e w' ⟨rfl, rfl⟩)
    go_ret
    exact ⟨rfl, rfl⟩

set_option maxHeartbeats 1000000 in
/-- The model's form: its loop. -/
theorem l1Form_any (s : ByteArray) (w : World) (hm : s.size ≤ maxLen) :
    Calls Tryd.prog 35 #[.string s] w fun e w' => e = .returned (.bool (formB s)) ∧ w = w' := by
  unfold maxLen at hm
  by_cases hs : s.size = 10
  · have hs1 : s.size ≤ 10 := by omega
    have hs2 : 10 ≤ s.size := by omega
    have ht : ((s.size : Int) != 10) = false := by rw [bne_eq_false_iff_eq]; omega
    have HS := Lib.hid hs
    clear hs
    go_enter Tryd.func35, Tryd.ntmps35
    go_wp2
    go_loop [3] (fun i => ∃ k : Nat, k ≤ 10 ∧ i = .int .i64 k ∧ Hid (∀ j, j < k → fitsM (byteAt s j) j = true)) (fun i => 10 - (intOf i).toNat)
    case atStart => exact ⟨0, by omega, rfl, Lib.hid fun j hj => by omega⟩
    case round =>
      obtain ⟨k, hk, rfl, HF⟩ := hrel
      by_cases hlt : k < 10
      · have hks : k < s.size := by omega
        have hg := Lib.hid (byteAt_get s k hks)
        have hc1 : (s[k].toNat : Int) ≤ 255 := by have := s[k].toNat_lt; omega
        have step : fitsM (s[k].toNat : Int) k = true → Hid (∀ j, j < k + 1 → fitsM (byteAt s j) j = true) := fun hf => Lib.hid fun j hj => by
            by_cases e : j = k
            · rw [e, ← hg.out]; exact hf
            · exact HF.out j (by omega)
        have stop : fitsM (s[k].toNat : Int) k = false → formB s = false := fun hf => formB_false_at k hlt (fitsM_not (by rw [← hg.out]; exact hf))
        have STEP := Lib.hid step
        have STOP := Lib.hid stop
        clear step stop
        by_cases h4 : k < 4
        · by_cases ha : 65 ≤ (s[k].toNat : Int)
          · by_cases hb : (s[k].toNat : Int) ≤ 90
            · have hf := Lib.hid (STEP.out (by unfold fitsM; exact decide_eq_true (.inl ⟨h4, ha, hb⟩)))
              go_wp2
              go_round
              case rel => exact ⟨k + 1, by omega, by go_num, hf.out⟩
              case measure => simp [intOf]; omega
            · have hf := Lib.hid (STOP.out (by unfold fitsM; exact decide_eq_false (by omega)))
              have hb' : decide ((s[k].toNat : Int) ≤ 90) = false := decide_eq_false hb
              clear hb
              go_wp2
              go_ret
              exact ⟨by rw [hf.out]; rfl, rfl⟩
          · have hf := Lib.hid (STOP.out (by unfold fitsM; exact decide_eq_false (by omega)))
            by_cases hd0 : 48 ≤ (s[k].toNat : Int)
            · by_cases hd : (s[k].toNat : Int) ≤ 57
              all_goals
                go_wp2
                go_ret
                exact ⟨by rw [hf.out]; rfl, rfl⟩
            · go_wp2
              go_ret
              exact ⟨by rw [hf.out]; rfl, rfl⟩
        · have h3 : 3 < k := by omega
          by_cases hd0 : 48 ≤ (s[k].toNat : Int)
          · by_cases hd : (s[k].toNat : Int) ≤ 57
            · have hf := Lib.hid (STEP.out (by unfold fitsM; exact decide_eq_true (.inr ⟨h3, hd0, hd⟩)))
              go_wp2
              go_round
              case rel => exact ⟨k + 1, by omega, by go_num, hf.out⟩
              case measure => simp [intOf]; omega
            · have hf := Lib.hid (STOP.out (by unfold fitsM; exact decide_eq_false (by omega)))
              have hd' : decide ((s[k].toNat : Int) ≤ 57) = false := decide_eq_false hd
              clear hd
              by_cases ha : 65 ≤ (s[k].toNat : Int)
              · by_cases hb : (s[k].toNat : Int) ≤ 90
                · go_wp2
                  go_ret
                  exact ⟨by rw [hf.out]; rfl, rfl⟩
                · have hb' : decide ((s[k].toNat : Int) ≤ 90) = false := decide_eq_false hb
                  clear hb
                  go_wp2
                  go_ret
                  exact ⟨by rw [hf.out]; rfl, rfl⟩
              · go_wp2
                go_ret
                exact ⟨by rw [hf.out]; rfl, rfl⟩
          · have hf := Lib.hid (STOP.out (by unfold fitsM; exact decide_eq_false (by omega)))
            go_wp2
            go_ret
            exact ⟨by rw [hf.out]; rfl, rfl⟩
      · have hk10 := Lib.hid (show k = 10 by omega)
        have h3s : 3 < s.size := by omega
        have hg := Lib.hid (byteAt_get s 3 h3s)
        have hall : (∀ j, j < 10 → fitsM (byteAt s j) j = true) := by rw [← hk10.out]; exact HF.out
        have yes := Lib.hid fun (h : (s[3].toNat : Int) = 85 ∨ (s[3].toNat : Int) = 74 ∨ (s[3].toNat : Int) = 90) =>
          formB_true HS.out fun j hj => fitsB_of_M (hall j hj) fun e => by rw [e, ← hg.out]; exact h
        have no := Lib.hid fun (h : ¬ ((s[3].toNat : Int) = 85 ∨ (s[3].toNat : Int) = 74 ∨ (s[3].toNat : Int) = 90)) =>
          formB_false_at 3 (by decide) (by rw [← hg.out]; exact fitsB_three h)
        clear hall
        by_cases e1 : (s[3].toNat : Int) = 85
        · have hf := Lib.hid (yes.out (.inl e1))
          have b1 : ((s[3].toNat : Int) == 85) = true := by rw [beq_iff_eq]; exact e1
          clear e1
          go_wp2
          go_ret
          exact ⟨by rw [hf.out]; rfl, rfl⟩
        · have b1 : ((s[3].toNat : Int) == 85) = false := by rw [beq_eq_false_iff_ne]; exact e1
          by_cases e2 : (s[3].toNat : Int) = 74
          · have hf := Lib.hid (yes.out (.inr (.inl e2)))
            have b2 : ((s[3].toNat : Int) == 74) = true := by rw [beq_iff_eq]; exact e2
            clear e1 e2
            go_wp2
            go_ret
            exact ⟨by rw [hf.out]; rfl, rfl⟩
          · have b2 : ((s[3].toNat : Int) == 74) = false := by rw [beq_eq_false_iff_ne]; exact e2
            by_cases e3 : (s[3].toNat : Int) = 90
            · have hf := Lib.hid (yes.out (.inr (.inr e3)))
              have b3 : ((s[3].toNat : Int) == 90) = true := by rw [beq_iff_eq]; exact e3
              clear e1 e2 e3
              go_wp2
              go_ret
              exact ⟨by rw [hf.out]; rfl, rfl⟩
            · have hf := Lib.hid (no.out (by omega))
              have b3 : ((s[3].toNat : Int) == 90) = false := by rw [beq_eq_false_iff_ne]; exact e3
              clear e1 e2 e3
              go_wp2
              go_ret
              exact ⟨by rw [hf.out]; rfl, rfl⟩
  · rw [formB_false_size hs]
    go_enter Tryd.func35, Tryd.ntmps35
    go_wp2
    go_ret
    exact ⟨rfl, rfl⟩

set_option maxHeartbeats 1000000 in
/-- The model's rest. -/
theorem specCheckRest_any (s : ByteArray) (w : World) (hm0 : s.size ≤ maxLen) :
    Calls Tryd.prog 26 #[.string s] w fun e w' => e = .returned (.int .i64 (crS s)) ∧ w = w' := by
  have hm := hm0
  unfold maxLen at hm
  have HM := Lib.hid hm0
  clear hm0
  by_cases hf : formB s = true
  · rw [crS_form hf]
    have hs := formB_size hf
    have hs1 : s.size ≤ 10 := by omega
    have hs2 : 10 ≤ s.size := by omega
    have HF := Lib.hid (formB_fits hf)
    clear hs
    go_enter Tryd.func26, Tryd.ntmps26
    go_wp2_with (go_at_call 35; refine (l1Form_any _ _ HM.out).mono ?_; rintro e w' ⟨rfl, rfl⟩)
    go_loop [3, 4, 5] (fun a p i => ∃ k : Nat, k ≤ 10 ∧ i = .int .i64 k ∧ a = .int .i64 (sumM s k) ∧ p = .int .i64 (p2 k)) (fun _ _ i => 10 - (intOf i).toNat)
    case atStart => exact ⟨0, by omega, rfl, rfl, rfl⟩
    case round =>
      obtain ⟨k, hk, rfl, rfl, rfl⟩ := hrel
      have hsb := sumM_bd s HF.out k hk
      obtain ⟨hsb0, hsb1⟩ := hsb
      by_cases hlt : k < 10
      · have hks : k < s.size := by omega
        obtain ⟨hp0, hp1⟩ := p2_bd k hk
        have hc := cvB_fits (HF.out k hlt)
        obtain ⟨hq0, hq1⟩ := prodM_bd hc.1 hc.2 hp0 hp1
        clear hc
        go_wp2_with (go_at_call 27; refine (specCharAt s k _ hks HM.out).mono ?_; rintro e w' ⟨rfl, rfl⟩)
        go_round
        case rel => exact ⟨k + 1, by omega, by go_num, rfl, rfl⟩
        case measure => simp [intOf]; omega
      · have hk10 := Lib.hid (show k = 10 by omega)
        go_wp2
        go_ret
        exact ⟨by rw [← hk10.out]; rfl, rfl⟩
  · have hf' : formB s = false := by simpa using hf
    rw [crS_not hf']
    clear hf
    go_enter Tryd.func26, Tryd.ntmps26
    go_wp2_with (go_at_call 35; refine (l1Form_any _ _ HM.out).mono ?_; rintro e w' ⟨rfl, rfl⟩)
    go_ret
    exact ⟨rfl, rfl⟩

theorem crS_alive : crS ⟨#[67, 83, 81, 85, 51, 48, 53, 52, 51, 56]⟩ = 3 := by decide +kernel
theorem crS_empty : crS ⟨#[]⟩ = -1 := by decide +kernel
/-- The fixed answer that the laws ask besides. -/
theorem alive_yes (w : World) :
    Calls Tryd.prog 12 #[] w fun e w' => e = .returned (.bool true) ∧ w = w' := by
  have h1 := implCheckRest_any ⟨#[67, 83, 81, 85, 51, 48, 53, 52, 51, 56]⟩ w (by decide)
  have h2 := implCheckRest_any ⟨#[]⟩ w (by decide)
  rw [crS_alive] at h1
  rw [crS_empty] at h2
  go_enter Tryd.func12, Tryd.ntmps12
  go_wp2_with (go_at_call 24; (first | ((with_reducible refine h1.mono ?_); rintro e w' ⟨rfl, rfl⟩) | ((with_reducible refine h2.mono ?_); rintro e w' ⟨rfl, rfl⟩)))
  go_ret
  exact ⟨rfl, rfl⟩
end Go.Proofs.YtkfpondpepegpaaDoor
