/-
  Contracts of the functions that give the rest of a number: the program's and the model's.
-/
import Derived.Test.YtdmbahpifbidlaaCvI
import Derived.Test.YtdmbahpifbidlaaCrMath
import Derived.Laws.Externs
import Derived.Lib.Bytealg
namespace Go.Proofs.Ytdmbahpifbidlaa
open Go.RowKit
set_option linter.unusedVariables false

set_option maxRecDepth 10000 in
set_option maxHeartbeats 1000000 in
theorem stringslite_IndexByte (s : ByteArray) (c : Int) (w : World) :
    Calls Try.prog 111 #[.string s, .int .u8 c] w fun e w' => e = .returned (.int .i64 (Lib.indexByte s.data.toList c.toNat.toUInt8)) ∧ w = w' := by
  go_enter Try.func111, Try.ntmps111
  go_wp2
  rw [run_callFunc_extern Try.func113 (by kernel_rfl) (by kernel_rfl) (by kernel_rfl) (e := Extern.BytealgIndexByte.indexByte) (by kernel_rfl), Lib.run_indexByteString]
  simp only [Result.andThen]
  rw [Oper.upon_value]
  go_wp2
  go_ret
  exact ⟨rfl, rfl⟩

set_option maxRecDepth 10000 in
theorem strings_IndexByte (s : ByteArray) (c : Int) (w : World) :
    Calls Try.prog 104 #[.string s, .int .u8 c] w fun e w' => e = .returned (.int .i64 (Lib.indexByte s.data.toList c.toNat.toUInt8)) ∧ w = w' := by
  go_enter Try.func104, Try.ntmps104
  go_wp2_with (go_at_call 111; refine (stringslite_IndexByte _ _ _).mono ?_; rintro e w' ⟨rfl, rfl⟩)
  go_ret
  exact ⟨rfl, rfl⟩

/-- The place of a byte among U, J and Z. -/
def ujz (c : Int) : Int := Lib.indexByte [85, 74, 90] c.toNat.toUInt8
theorem ujz_all : ∀ n : Fin 256, (0 ≤ ujz (n.val : Int)) = (n.val = 85 ∨ n.val = 74 ∨ n.val = 90) := by
  intro n
  apply propext
  revert n
  decide +kernel
theorem ujz_iff {c : Int} (h0 : 0 ≤ c) (h1 : c ≤ 255) : 0 ≤ ujz c ↔ (c = 85 ∨ c = 74 ∨ c = 90) := by
  obtain ⟨n, rfl⟩ := Int.eq_ofNat_of_zero_le h0
  have h := ujz_all ⟨n, by omega⟩
  simp only at h
  rw [h]; omega

theorem fitsPlace_any (c : Int) (k : Nat) (w : World) (h0 : 0 ≤ c) (h1 : c ≤ 255) (hk : k ≤ 9) :
    Calls Try.prog 89 #[.int .u8 c, .int .i64 k] w fun e w' => e = .returned (.bool (fitsB c k)) ∧ w = w' := by
  by_cases hk3 : k < 3
  · by_cases hc : 65 ≤ c ∧ c ≤ 90
    · have hb : fitsB c k = true := by unfold fitsB; exact decide_eq_true (.inl ⟨hk3, hc⟩)
      rw [hb]
      clear hb
      go_enter Try.func89, Try.ntmps89
      go_wp2_with (go_at_call 91; refine (isCapital_yes _ _ hc).mono ?_; rintro e w' ⟨rfl, rfl⟩)
      go_ret
      exact ⟨rfl, rfl⟩
    · have hb : fitsB c k = false := by unfold fitsB; exact decide_eq_false (by omega)
      rw [hb]
      clear hb
      go_enter Try.func89, Try.ntmps89
      go_wp2_with (go_at_call 91; refine (isCapital_no _ _ h0 h1 hc).mono ?_; rintro e w' ⟨rfl, rfl⟩)
      go_ret
      exact ⟨rfl, rfl⟩
  · by_cases hk4 : k < 4
    · obtain rfl : k = 3 := by omega
      have hu := ujz_iff h0 h1
      have hb : fitsB c 3 = decide (0 ≤ ujz c) := by
        unfold fitsB
        rw [decide_eq_decide, hu]; omega
      rw [hb]
      clear hu hb hk3 hk4 hk
      go_enter Try.func89, Try.ntmps89
      go_wp2_with (go_at_call 104; refine (strings_IndexByte _ _ _).mono ?_; rintro e w' ⟨rfl, rfl⟩)
      go_ret
      exact ⟨rfl, rfl⟩
    · by_cases hc : 48 ≤ c ∧ c ≤ 57
      · have hb : fitsB c k = true := by unfold fitsB; exact decide_eq_true (by omega)
        rw [hb]
        clear hb
        go_enter Try.func89, Try.ntmps89
        go_wp2_with (go_at_call 90; refine (isDigit_yes _ _ hc).mono ?_; rintro e w' ⟨rfl, rfl⟩)
        go_ret
        exact ⟨rfl, rfl⟩
      · have hb : fitsB c k = false := by unfold fitsB; exact decide_eq_false (by omega)
        rw [hb]
        clear hb
        go_enter Try.func89, Try.ntmps89
        go_wp2_with (go_at_call 90; refine (isDigit_no _ _ h0 h1 hc).mono ?_; rintro e w' ⟨rfl, rfl⟩)
        go_ret
        exact ⟨rfl, rfl⟩

set_option maxHeartbeats 400000 in
theorem canBeChecked_any (s : ByteArray) (w : World) (hm : s.size ≤ maxLen) :
    Calls Try.prog 77 #[.string s] w fun e w' => e = .returned (.bool (formB s)) ∧ w = w' := by
  unfold maxLen at hm
  by_cases hs : s.size = 10
  · have hs1 : s.size ≤ 10 := by omega
    have hs2 : 10 ≤ s.size := by omega
    have ht : ((s.size : Int) != 10) = false := by rw [bne_eq_false_iff_eq]; omega
    have HS := Lib.hid hs
    clear hs
    go_enter Try.func77, Try.ntmps77
    go_wp2
    go_loop [9] (fun i => ∃ k : Nat, k ≤ 10 ∧ i = .int .i64 k ∧ Hid (∀ j, j < k → fitsB (byteAt s j) j = true)) (fun i => 10 - (intOf i).toNat)
    case atStart => exact ⟨0, by omega, rfl, Lib.hid fun j hj => by omega⟩
    case round =>
      obtain ⟨k, hk, rfl, HF⟩ := hrel
      by_cases hlt : k < 10
      · have hks : k < s.size := by omega
        have hb := byteAt_bd s k
        have hg := Lib.hid (byteAt_get s k hks)
        have hk9 : k ≤ 9 := by omega
        have hc0 : 0 ≤ (s[k].toNat : Int) := by omega
        have hc1 : (s[k].toNat : Int) ≤ 255 := by have := s[k].toNat_lt; omega
        clear hb
        by_cases hf : fitsB (s[k].toNat : Int) k = true
        · go_wp2_with (go_at_call 89; refine (fitsPlace_any _ _ _ hc0 hc1 hk9).mono ?_; rintro e w' ⟨rfl, rfl⟩)
          go_round
          case rel => exact ⟨k + 1, by omega, by go_num, Lib.hid fun j hj => by
            by_cases e : j = k
            · rw [e, ← hg.out]; exact hf
            · exact HF.out j (by omega)⟩
          case measure => simp [intOf]; omega
        · have hf' : fitsB (s[k].toNat : Int) k = false := by simpa using hf
          clear hf
          go_wp2_with (go_at_call 89; refine (fitsPlace_any _ _ _ hc0 hc1 hk9).mono ?_; rintro e w' ⟨rfl, rfl⟩)
          go_ret
          exact ⟨by rw [formB_false_at k hlt (by rw [← hg.out]; exact hf')]; rfl, rfl⟩
      · have hk10 := Lib.hid (show k = 10 by omega)
        go_wp2
        go_ret
        exact ⟨by rw [formB_true HS.out (by rw [← hk10.out]; exact HF.out)]; rfl, rfl⟩
  · rw [formB_false_size hs]
    go_enter Try.func77, Try.ntmps77
    go_wp2
    go_ret
    exact ⟨rfl, rfl⟩
end Go.Proofs.Ytdmbahpifbidlaa
