/-
  Contracts of NumberValid and SerialOf: the program's and the model's give the same.
-/
import Derived.Test.YtkfpondpepegpaaDoorCr2
import Derived.Test.YtkfpondpepegpaaDoorNvMath
import Derived.Test.YtkfpondpepegpaaDoorShelf
import Derived.Lib.SlicesS
import Derived.Lib.ConvBytes
namespace Go.Proofs.YtkfpondpepegpaaDoor
open Go.RowKit
set_option linter.unusedVariables false

theorem checkDigit_any (r : Int) (w : World) (h0 : 0 ≤ r) (h1 : r ≤ 10) :
    Calls Tryd.prog 25 #[.int .i64 r] w fun e w' => e = .returned (.string (digS (r % 10))) ∧ w = w' := by
  have hI := Tryd.strconv_Itoa_small (r % 10).toNat (by omega) w
  rw [show (((r % 10).toNat : Nat) : Int) = r % 10 by omega, digS_list (by omega) (by omega)] at hI
  go_enter Tryd.func25, Tryd.ntmps25
  go_wp2_with fail
  refine hI.mono ?_
  rintro e w' ⟨rfl, rfl⟩
  go_wp2_with fail
  go_ret
  exact ⟨rfl, rfl⟩

set_option maxHeartbeats 1000000 in
theorem implNumberValid_any (s : ByteArray) (w : World) (hm0 : s.size ≤ maxLen) :
    Calls Tryd.prog 10 #[.string s] w fun e w' => e = .returned (.bool (numOk s)) ∧ ∃ k, w' = w.drewN k := by
  have hm := hm0
  unfold maxLen at hm
  by_cases hs : s.size = 11
  · have hC := fun w => implCheckRest_any (s.extract 0 10) w (by rw [ByteArray.size_extract]; omega)
    have hbd := crS_bd (s.extract 0 10)
    have hno := Lib.hid (numOk_rest (s := s))
    have hyes := Lib.hid (numOk_of hs)
    have hlast := Lib.hid fun d => last_eq (s := s) (d := d) hs
    have s1 : s.size ≤ 11 := by omega
    have s2 : 11 ≤ s.size := by omega
    have ht : ((s.size : Int) != 11) = false := by rw [bne_eq_false_iff_eq]; omega
    generalize crS (s.extract 0 10) = r at hC hbd hno hyes
    have HC := Lib.hid hC
    obtain ⟨hb0, hb1⟩ := hbd
    clear hs hC hm0
    by_cases hr : 0 ≤ r
    · have hr' : decide (0 ≤ r) = true := decide_eq_true hr
      have hD := Lib.hid fun w => checkDigit_any r w hr hb1
      by_cases hq : byteAt s 10 = 48 + r % 10
      · have e : numOk s = true := by rw [hyes.out hr]; exact decide_eq_true hq
        have b1 : ((s.extract 10 s.size).toList == (digS (r % 10)).toList) = true := (Lib.bytes_beq_iff _ _).2 ((hlast.out _ (by omega) (by omega)).2 hq)
        rw [e]
        clear e hq
        go_enter Tryd.func10, Tryd.ntmps10
        go_wp2_with (go_at_call 24; refine (HC.out _).mono ?_; rintro e w' ⟨rfl, rfl⟩)
        go_quiet ((go_at_call 25; exact Calls.quiet_of_same ((hD.out _).mono fun _ _ h => ⟨h.1, h.2.symm⟩)))
        go_wp2
        go_ret
        exact ⟨rfl, _, rfl⟩
      · have e : numOk s = false := by rw [hyes.out hr]; exact decide_eq_false hq
        have b1 : ((s.extract 10 s.size).toList == (digS (r % 10)).toList) = false := (Lib.bytes_beq_false_iff _ _).2 fun e => hq ((hlast.out _ (by omega) (by omega)).1 e)
        rw [e]
        clear e hq
        go_enter Tryd.func10, Tryd.ntmps10
        go_wp2_with (go_at_call 24; refine (HC.out _).mono ?_; rintro e w' ⟨rfl, rfl⟩)
        go_quiet ((go_at_call 25; exact Calls.quiet_of_same ((hD.out _).mono fun _ _ h => ⟨h.1, h.2.symm⟩)))
        go_wp2
        go_ret
        exact ⟨rfl, _, rfl⟩
    · have hr' : decide (0 ≤ r) = false := decide_eq_false hr
      rw [hno.out (by omega)]
      go_enter Tryd.func10, Tryd.ntmps10
      go_wp2_with (go_at_call 24; refine (HC.out _).mono ?_; rintro e w' ⟨rfl, rfl⟩)
      go_quiet (fail)
      go_wp2
      go_ret
      exact ⟨rfl, _, rfl⟩
  · rw [numOk_size hs]
    go_enter Tryd.func10, Tryd.ntmps10
    go_wp2
    go_ret
    exact ⟨rfl, 0, rfl⟩

set_option maxHeartbeats 1000000 in
theorem specNumberValid_any (s : ByteArray) (w : World) (hm0 : s.size ≤ maxLen) :
    Calls Tryd.prog 11 #[.string s] w fun e w' => e = .returned (.bool (numOk s)) ∧ ∃ k, w' = w.drewN k := by
  have hm := hm0
  unfold maxLen at hm
  by_cases hs : s.size = 11
  · have hC := fun w => specCheckRest_any (s.extract 0 10) w (by rw [ByteArray.size_extract]; omega)
    have hV := fun w => specCharValue_any (s.extract 10 s.size) w (by rw [ByteArray.size_extract]; omega)
    rw [last_cv hs] at hV
    have hbd := crS_bd (s.extract 0 10)
    have hno := Lib.hid (numOk_rest (s := s))
    have hyes := Lib.hid (numOk_of hs)
    have s1 : s.size ≤ 11 := by omega
    have s2 : 11 ≤ s.size := by omega
    have ht : ((s.size : Int) != 11) = false := by rw [bne_eq_false_iff_eq]; omega
    generalize crS (s.extract 0 10) = r at hC hbd hno hyes
    have HC := Lib.hid hC
    have HV := Lib.hid hV
    obtain ⟨hb0, hb1⟩ := hbd
    clear hs hC hV hm0
    by_cases hr : 0 ≤ r
    · have hr' : decide (r < 0) = false := decide_eq_false (by omega)
      have hrm : r.tmod 10 = r % 10 := Int.tmod_eq_emod_of_nonneg hr
      have hiff := cvB_is (b := byteAt s 10) (d := r % 10) (by omega) (by omega)
      have e : numOk s = (cvB (byteAt s 10) == r % 10) := by
        rw [hyes.out hr, Bool.eq_iff_iff, decide_eq_true_iff, beq_iff_eq]
        exact hiff.symm
      rw [e]
      clear e hiff
      go_enter Tryd.func11, Tryd.ntmps11
      go_wp2_with (go_at_call 26; refine (HC.out _).mono ?_; rintro e w' ⟨rfl, rfl⟩)
      go_quiet ((first | (go_at_call 26; exact Calls.quiet_of_same ((HC.out _).mono fun _ _ h => ⟨h.1, h.2.symm⟩)) | (go_at_call 27; exact Calls.quiet_of_same ((HV.out _).mono fun _ _ h => ⟨h.1, h.2.symm⟩))))
      go_wp2
      go_ret
      exact ⟨rfl, _, rfl⟩
    · have hr' : decide (r < 0) = true := decide_eq_true (by omega)
      rw [hno.out (by omega)]
      go_enter Tryd.func11, Tryd.ntmps11
      go_wp2_with (go_at_call 26; refine (HC.out _).mono ?_; rintro e w' ⟨rfl, rfl⟩)
      go_ret
      exact ⟨rfl, 0, rfl⟩
  · rw [numOk_size hs]
    go_enter Tryd.func11, Tryd.ntmps11
    go_wp2
    go_ret
    exact ⟨rfl, 0, rfl⟩

theorem serDigit {s : ByteArray} (h : numOk s = true) (j : Nat) (hj : j < 6) (hk : 4 + j < s.size) : 48 ≤ (s[4 + j].toNat : Int) ∧ (s[4 + j].toNat : Int) ≤ 57 := by
  rw [byteAt_get s (4 + j) hk]; exact num_digit h j hj

set_option maxHeartbeats 1000000 in
theorem specSerialOf_any (s : ByteArray) (w : World) (hm0 : s.size ≤ maxLen) :
    Calls Tryd.prog 18 #[.string s] w fun e w' => e = .returned (.int .i64 (serS s)) ∧ Below w.heap.size w w' := by
  have hN := specNumberValid_any s w hm0
  cases hok : numOk s
  · rw [serS_no hok]
    rw [hok] at hN
    go_enter Tryd.func18, Tryd.ntmps18
    go_wp2_with fail
    refine hN.mono ?_
    rintro e w' ⟨rfl, n, rfl⟩
    go_wp2_with fail
    go_ret
    exact ⟨rfl, rfl, rfl, rfl, Nat.le_refl _, fun _ _ => rfl⟩
  · rw [serS_yes hok]
    have hs := (numOk_yes hok).1
    have s2 : 11 ≤ s.size := by omega
    have HOK := Lib.hid hok
    rw [hok] at hN
    clear hs hok hm0
    go_enter Tryd.func18, Tryd.ntmps18
    go_wp2_with fail
    refine hN.mono ?_
    rintro e w' ⟨rfl, n, rfl⟩
    have hb : Below w.heap.size w (w.drewN n) := ⟨rfl, rfl, rfl, Nat.le_refl _, fun _ _ => rfl⟩
    generalize w.drewN n = w1 at hb
    go_wp2_with fail
    go_loop [3, 4] (fun v i => ∃ j : Nat, j ≤ 6 ∧ i = .int .i64 ((4 + j : Nat) : Int) ∧ v = .int .i64 (serN s j)) (fun _ i => 10 - (intOf i).toNat)
    case atStart => exact ⟨0, by omega, rfl, rfl⟩
    case round =>
      obtain ⟨j, hj, rfl, rfl⟩ := hrel
      obtain ⟨hv0, hv1⟩ := serN_le HOK.out j hj
      by_cases hlt : j < 6
      · have hks : 4 + j < s.size := by omega
        obtain ⟨hd0, hd1⟩ := serDigit HOK.out j hlt hks
        have hsucc := Lib.hid (show serN s (j + 1) = serN s j * 10 + ((s[4 + j].toNat : Int) - 48) by rw [byteAt_get s (4 + j) hks]; rfl)
        go_wp2
        go_round
        case rel => exact ⟨j + 1, by omega, by go_num, by rw [hsucc.out]; go_num⟩
        case measure => simp [intOf]; omega
      · have hj6 := Lib.hid (show j = 6 by omega)
        go_wp2
        go_ret
        exact ⟨by rw [← hj6.out]; rfl, hb⟩

set_option maxHeartbeats 1000000 in
theorem implSerialOf_any (s : ByteArray) (w : World) (hm0 : s.size ≤ maxLen) :
    Calls Tryd.prog 16 #[.string s] w fun e w' => e = .returned (.int .i64 (serS s)) ∧ Below w.heap.size w w' := by
  have hN := implNumberValid_any s w hm0
  cases hok : numOk s
  · rw [serS_no hok]
    rw [hok] at hN
    go_enter Tryd.func16, Tryd.ntmps16
    go_wp2_with fail
    refine hN.mono ?_
    rintro e w' ⟨rfl, n, rfl⟩
    go_wp2_with fail
    go_ret
    exact ⟨rfl, rfl, rfl, rfl, Nat.le_refl _, fun _ _ => rfl⟩
  · rw [serS_yes hok]
    have hs := (numOk_yes hok).1
    have s2 : 11 ≤ s.size := by omega
    have HOK := Lib.hid hok
    rw [hok] at hN
    have hx : (s.extract 4 10).size = 6 := by rw [ByteArray.size_extract]; omega
    have hxl : ∀ j, j < 6 → (s.extract 4 10).data.toList.getD j 0 = s.data.toList.getD (4 + j) 0 := fun j hj => by
      rw [ByteArray.data_extract, Array.toList_extract, List.extract_eq_take_drop, List.getD_eq_getElem?_getD, List.getElem?_take_of_lt (by omega), List.getElem?_drop, List.getD_eq_getElem?_getD]
    have HXL := Lib.hid hxl
    clear hs hok hm0 hxl
    go_enter Tryd.func16, Tryd.ntmps16
    go_wp2_with fail
    refine hN.mono ?_
    rintro e w' ⟨rfl, n, rfl⟩
    have hb : Below w.heap.size w (w.drewN n) := ⟨rfl, rfl, rfl, Nat.le_refl _, fun _ _ => rfl⟩
    generalize w.drewN n = w1 at hb
    have hcv := Lib.run_convert_string_bytes (P := Tryd.prog) w1 9 22 5 (s.extract 4 10) Tryd.underlying9 Tryd.underlying22 Tryd.underlying5
    rw [hx] at hcv
    have hcell := Lib.hid (Lib.bytesWorld_cell w1 5 (s.extract 4 10))
    have hb2 : Below w.heap.size w (Lib.bytesWorld w1 5 (s.extract 4 10)) := hb.trans ⟨rfl, rfl, rfl, by rw [Lib.bytesWorld_size]; omega, fun k hk => Lib.bytesWorld_at_old w1 5 (s.extract 4 10) k (by have := hb.size; omega)⟩
    have HX := Lib.hid hx
    clear hx
    generalize grownCap w1 6 0 5 = cap at hcv
    go_wp2
    generalize Lib.bytesWorld w1 5 (s.extract 4 10) = w2 at hb2 hcell
    go_loop [3, 13] (fun v i => ∃ j : Nat, j ≤ 6 ∧ i = .int .i64 j ∧ v = .int .i64 (serN s j)) (fun _ i => 6 - (intOf i).toNat)
    case atStart => exact ⟨0, by omega, rfl, rfl⟩
    case round =>
      obtain ⟨j, hj, rfl, rfl⟩ := hrel
      obtain ⟨hv0, hv1⟩ := serN_le HOK.out j hj
      by_cases hlt : j < 6
      · obtain ⟨hd0, hd1⟩ := num_digit HOK.out j hlt
        have hc : w2.cell? ⟨w1.heap.size, j, none⟩ = some (.int .u8 (byteAt s (4 + j))) := by
          rw [hcell.out j (by rw [HX.out]; exact hlt), HXL.out j hlt]; rfl
        have hsucc := Lib.hid (show serN s (j + 1) = serN s j * 10 + (byteAt s (4 + j) - 48) from rfl)
        go_wp2
        go_round
        case rel => exact ⟨j + 1, by omega, by go_num, by rw [hsucc.out]⟩
        case measure => simp [intOf]; omega
      · have hj6 := Lib.hid (show j = 6 by omega)
        go_wp2
        go_ret
        exact ⟨by rw [← hj6.out]; rfl, hb2⟩
end Go.Proofs.YtkfpondpepegpaaDoor
