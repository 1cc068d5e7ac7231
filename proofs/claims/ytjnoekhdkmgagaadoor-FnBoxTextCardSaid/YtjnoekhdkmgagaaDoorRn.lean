/-
  The contract of the model's l1Read: the number that a short text of digits is.
-/
import Derived.Test.YtjnoekhdkmgagaaDoorGCr
import Derived.Test.YtjnoekhdkmgagaaDoorGBase
import Derived.Test.YtjnoekhdkmgagaaDoorGNo
import Derived.Lib.Hide
namespace Go.Proofs.YtjnoekhdkmgagaaDoor
open Go.RowKit
set_option linter.unusedVariables false

/-- The number that the first k digits of a text give. -/
def rdUp (s : ByteArray) : Nat → Int
  | 0 => 0
  | k + 1 => 10 * rdUp s k + (byteAt s k - 48)
def rdOk (s : ByteArray) : Prop := 1 ≤ s.size ∧ s.size ≤ 3 ∧ ¬ (1 < s.size ∧ byteAt s 0 = 48) ∧ ∀ j, j < s.size → 48 ≤ byteAt s j ∧ byteAt s j ≤ 57
def RdIs (s : ByteArray) (v : Int) : Prop := (rdOk s ∧ v = rdUp s s.size) ∨ (¬ rdOk s ∧ v = -1)
theorem rdUp_bd (s : ByteArray) (h : ∀ j, j < s.size → 48 ≤ byteAt s j ∧ byteAt s j ≤ 57) : ∀ k, k ≤ s.size → k ≤ 3 → 0 ≤ rdUp s k ∧ rdUp s k ≤ 999
  | 0, _, _ => by simp [rdUp]
  | 1, h1, _ => by have := h 0 (by omega); simp only [rdUp]; omega
  | 2, h1, _ => by have := h 0 (by omega); have := h 1 (by omega); simp only [rdUp]; omega
  | 3, h1, _ => by have := h 0 (by omega); have := h 1 (by omega); have := h 2 (by omega); simp only [rdUp]; omega
  | k + 4, _, h3 => by omega
theorem rdUp_lo (s : ByteArray) (k : Nat) (h3 : k ≤ 2) (h : ∀ j, j < k → 48 ≤ byteAt s j ∧ byteAt s j ≤ 57) : 0 ≤ rdUp s k ∧ rdUp s k ≤ 99 := by
  obtain rfl | rfl | rfl : k = 0 ∨ k = 1 ∨ k = 2 := by omega
  · simp [rdUp]
  · have := h 0 (by omega); simp only [rdUp]; omega
  · have := h 0 (by omega); have := h 1 (by omega); simp only [rdUp]; omega

set_option maxHeartbeats 1000000 in
theorem l1Read_any (s : ByteArray) (w : World) (hm : s.size ≤ maxLen) :
    Calls Tryd.prog 29 #[.string s] w fun e w' => ∃ v, e = .returned (.int .i64 v) ∧ RdIs s v ∧ w = w' := by
  unfold maxLen at hm
  by_cases hs : 1 ≤ s.size ∧ s.size ≤ 3
  · obtain ⟨hs1, hs3⟩ := hs
    have h0 := Lib.hid (byteAt_get s 0 (by omega))
    have hks0 : 0 < s.size := by omega
    have hc1 : (s[0].toNat : Int) ≤ 255 := by have := s[0].toNat_lt; omega
    by_cases hz : 1 < s.size ∧ byteAt s 0 = 48
    · have hno : ¬ rdOk s := fun h => h.2.2.1 hz
      obtain ⟨hz1, hz2⟩ := hz
      have hz3 : ((s[0].toNat : Int) == 48) = true := by rw [beq_iff_eq, h0.out]; exact hz2
      go_enter Tryd.func29, Tryd.ntmps29
      go_wp2_with fail
      refine (l1In_yes _ _ _ _ (by omega) (by omega)).mono ?_
      rintro e w' ⟨rfl, rfl⟩
      go_wp2
      go_ret
      exact ⟨-1, rfl, .inr ⟨hno, rfl⟩, rfl⟩
    · by_cases hz1 : 1 < s.size
      · have hz3 : ((s[0].toNat : Int) == 48) = false := by rw [beq_eq_false_iff_ne, h0.out]; exact fun e => hz ⟨hz1, e⟩
        have HZ := Lib.hid hz
        clear hz
        go_enter Tryd.func29, Tryd.ntmps29
        go_wp2_with fail
        refine (l1In_yes _ _ _ _ (by omega) (by omega)).mono ?_
        rintro e w' ⟨rfl, rfl⟩
        go_wp2
        go_loop [3, 4] (fun n i => ∃ k : Nat, k ≤ s.size ∧ i = .int .i64 k ∧ n = .int .i64 (rdUp s k) ∧ Hid (∀ j, j < k → 48 ≤ byteAt s j ∧ byteAt s j ≤ 57)) (fun _ i => s.size - (intOf i).toNat)
        case atStart => exact ⟨0, by omega, rfl, rfl, Lib.hid fun j hj => by omega⟩
        case round =>
          obtain ⟨k, hk, rfl, rfl, HF⟩ := hrel
          by_cases hlt : k < s.size
          · have hg := Lib.hid (byteAt_get s k hlt)
            have hc1 : (s[k].toNat : Int) ≤ 255 := by have := s[k].toNat_lt; omega
            obtain ⟨q0, q1⟩ := rdUp_lo s k (by omega) HF.out
            have hstop : ¬ (48 ≤ byteAt s k ∧ byteAt s k ≤ 57) → RdIs s (-1) := fun h => .inr ⟨fun o => h (o.2.2.2 k hlt), rfl⟩
            have HSTOP := Lib.hid hstop
            have hnext : rdUp s (k + 1) = 10 * rdUp s k + ((s[k].toNat : Int) - 48) := by rw [hg.out]; rfl
            generalize rdUp s k = q at q0 q1 hnext
            by_cases h48 : 48 ≤ (s[k].toNat : Int)
            · by_cases h57 : (s[k].toNat : Int) ≤ 57
              · have HN := Lib.hid (show ∀ j, j < k + 1 → 48 ≤ byteAt s j ∧ byteAt s j ≤ 57 from fun j hj => by
                  by_cases e : j = k
                  · rw [e, ← hg.out]; exact ⟨h48, h57⟩
                  · exact HF.out j (by omega))
                have HNX := Lib.hid hnext
                clear hnext hstop
                go_wp2
                go_round
                case rel => exact ⟨k + 1, by omega, by go_num, by rw [HNX.out], HN⟩
                case measure => simp [intOf]; omega
              · have hs' := HSTOP.out (by rw [← hg.out]; omega)
                clear hnext hstop
                go_wp2
                go_ret
                exact ⟨-1, rfl, hs', rfl⟩
            · have hs' := HSTOP.out (by rw [← hg.out]; omega)
              clear hnext hstop
              go_wp2
              go_ret
              exact ⟨-1, rfl, hs', rfl⟩
          · obtain rfl : k = s.size := by omega
            have hok : RdIs s (rdUp s s.size) := .inl ⟨⟨hs1, hs3, HZ.out, HF.out⟩, rfl⟩
            generalize rdUp s s.size = q at hok
            have HOK := Lib.hid hok
            clear hok
            go_wp2
            go_ret
            exact ⟨q, rfl, HOK.out, rfl⟩
      · have HZ := Lib.hid hz
        clear hz
        go_enter Tryd.func29, Tryd.ntmps29
        go_wp2_with fail
        refine (l1In_yes _ _ _ _ (by omega) (by omega)).mono ?_
        rintro e w' ⟨rfl, rfl⟩
        go_wp2
        go_loop [3, 4] (fun n i => ∃ k : Nat, k ≤ s.size ∧ i = .int .i64 k ∧ n = .int .i64 (rdUp s k) ∧ Hid (∀ j, j < k → 48 ≤ byteAt s j ∧ byteAt s j ≤ 57)) (fun _ i => s.size - (intOf i).toNat)
        case atStart => exact ⟨0, by omega, rfl, rfl, Lib.hid fun j hj => by omega⟩
        case round =>
          obtain ⟨k, hk, rfl, rfl, HF⟩ := hrel
          by_cases hlt : k < s.size
          · have hg := Lib.hid (byteAt_get s k hlt)
            have hc1 : (s[k].toNat : Int) ≤ 255 := by have := s[k].toNat_lt; omega
            obtain ⟨q0, q1⟩ := rdUp_lo s k (by omega) HF.out
            have hstop : ¬ (48 ≤ byteAt s k ∧ byteAt s k ≤ 57) → RdIs s (-1) := fun h => .inr ⟨fun o => h (o.2.2.2 k hlt), rfl⟩
            have HSTOP := Lib.hid hstop
            have hnext : rdUp s (k + 1) = 10 * rdUp s k + ((s[k].toNat : Int) - 48) := by rw [hg.out]; rfl
            generalize rdUp s k = q at q0 q1 hnext
            by_cases h48 : 48 ≤ (s[k].toNat : Int)
            · by_cases h57 : (s[k].toNat : Int) ≤ 57
              · have HN := Lib.hid (show ∀ j, j < k + 1 → 48 ≤ byteAt s j ∧ byteAt s j ≤ 57 from fun j hj => by
                  by_cases e : j = k
                  · rw [e, ← hg.out]; exact ⟨h48, h57⟩
                  · exact HF.out j (by omega))
                have HNX := Lib.hid hnext
                clear hnext hstop
                go_wp2
                go_round
                case rel => exact ⟨k + 1, by omega, by go_num, by rw [HNX.out], HN⟩
                case measure => simp [intOf]; omega
              · have hs' := HSTOP.out (by rw [← hg.out]; omega)
                clear hnext hstop
                go_wp2
                go_ret
                exact ⟨-1, rfl, hs', rfl⟩
            · have hs' := HSTOP.out (by rw [← hg.out]; omega)
              clear hnext hstop
              go_wp2
              go_ret
              exact ⟨-1, rfl, hs', rfl⟩
          · obtain rfl : k = s.size := by omega
            have hok : RdIs s (rdUp s s.size) := .inl ⟨⟨hs1, hs3, HZ.out, HF.out⟩, rfl⟩
            generalize rdUp s s.size = q at hok
            have HOK := Lib.hid hok
            clear hok
            go_wp2
            go_ret
            exact ⟨q, rfl, HOK.out, rfl⟩
  · have hno : ¬ rdOk s := fun h => hs ⟨h.1, h.2.1⟩
    go_enter Tryd.func29, Tryd.ntmps29
    go_wp2_with fail
    refine (l1In_no _ _ _ _ (by omega)).mono ?_
    rintro e w' ⟨rfl, rfl⟩
    go_wp2
    go_ret
    exact ⟨-1, rfl, .inr ⟨hno, rfl⟩, rfl⟩
theorem ofNat_back (n : Int) (h0 : 0 ≤ n) (h1 : n ≤ 255) : ((UInt8.ofNat n.toNat).toNat : Int) = n := by
  rw [UInt8.toNat_ofNat']; omega
theorem byteAt_list (l : List UInt8) (j : Nat) : byteAt ⟨l.toArray⟩ j = ((l.getD j 0).toNat : Int) := by simp [byteAt]
theorem decB_one {n : Int} (h0 : 0 ≤ n) (h1 : n < 10) : decB n = ⟨[UInt8.ofNat (48 + n).toNat].toArray⟩ := by
  unfold decB; rw [decDigits_small n h0 h1]
theorem decB_two {n : Int} (h0 : 10 ≤ n) (h1 : n < 100) : decB n = ⟨[UInt8.ofNat (48 + n / 10).toNat, UInt8.ofNat (48 + n % 10).toNat].toArray⟩ := by
  unfold decB; rw [decDigits_big n h0, decDigits_small (n / 10) (by omega) (by omega)]; rfl
theorem decB_three {n : Int} (h0 : 100 ≤ n) (h1 : n < 1000) : decB n = ⟨[UInt8.ofNat (48 + n / 10 / 10).toNat, UInt8.ofNat (48 + n / 10 % 10).toNat, UInt8.ofNat (48 + n % 10).toNat].toArray⟩ := by
  unfold decB; rw [decDigits_big n (by omega), decDigits_big (n / 10) (by omega), decDigits_small (n / 10 / 10) (by omega) (by omega)]; rfl
theorem rd_dec {n : Int} (h0 : 0 ≤ n) (h1 : n ≤ 999) : rdOk (decB n) ∧ rdUp (decB n) (decB n).size = n := by
  by_cases a : n < 10
  · have b0 : byteAt (decB n) 0 = 48 + n := by rw [decB_one h0 a, byteAt_list]; exact ofNat_back _ (by omega) (by omega)
    have hz : (decB n).size = 1 := by rw [decB_one h0 a]; rfl
    refine ⟨⟨by omega, by omega, by omega, fun j hj => ?_⟩, ?_⟩
    · obtain rfl : j = 0 := by omega
      omega
    · rw [hz]; simp only [rdUp]; omega
  · by_cases b : n < 100
    · have b0 : byteAt (decB n) 0 = 48 + n / 10 := by rw [decB_two (by omega) b, byteAt_list]; exact ofNat_back _ (by omega) (by omega)
      have b1 : byteAt (decB n) 1 = 48 + n % 10 := by rw [decB_two (by omega) b, byteAt_list]; exact ofNat_back _ (by omega) (by omega)
      have hz : (decB n).size = 2 := by rw [decB_two (by omega) b]; rfl
      refine ⟨⟨by omega, by omega, by omega, fun j hj => ?_⟩, ?_⟩
      · obtain rfl | rfl : j = 0 ∨ j = 1 := by omega
        all_goals omega
      · rw [hz]; simp only [rdUp]; omega
    · have b0 : byteAt (decB n) 0 = 48 + n / 10 / 10 := by rw [decB_three (by omega) (by omega), byteAt_list]; exact ofNat_back _ (by omega) (by omega)
      have b1 : byteAt (decB n) 1 = 48 + n / 10 % 10 := by rw [decB_three (by omega) (by omega), byteAt_list]; exact ofNat_back _ (by omega) (by omega)
      have b2 : byteAt (decB n) 2 = 48 + n % 10 := by rw [decB_three (by omega) (by omega), byteAt_list]; exact ofNat_back _ (by omega) (by omega)
      have hz : (decB n).size = 3 := by rw [decB_three (by omega) (by omega)]; rfl
      refine ⟨⟨by omega, by omega, by omega, fun j hj => ?_⟩, ?_⟩
      · obtain rfl | rfl | rfl : j = 0 ∨ j = 1 ∨ j = 2 := by omega
        all_goals omega
      · rw [hz]; simp only [rdUp]; omega
/-- The decimal text of a number reads as the number. -/
theorem rdIs_dec {n v : Int} (h0 : 0 ≤ n) (h1 : n ≤ 999) (h : RdIs (decB n) v) : v = n := by
  have key := rd_dec h0 h1
  rcases h with ⟨_, e⟩ | ⟨hn, _⟩
  · rw [e]; exact key.2
  · exact absurd key.1 hn
end Go.Proofs.YtjnoekhdkmgagaaDoor
