/-
  The contract of the model's NumberOf.
-/
import Derived.Test.YtkfpondpepegpaaDoorNo
namespace Go.Proofs.YtkfpondpepegpaaDoor
open Go.RowKit
set_option linter.unusedVariables false

theorem l1In_yes (n lo hi : Int) (w : World) (h1 : lo ≤ n) (h2 : n ≤ hi) :
    Calls Tryd.prog 29 #[.int .i64 n, .int .i64 lo, .int .i64 hi] w fun e w' => e = .returned (.bool true) ∧ w = w' := by
  go_enter Tryd.func29, Tryd.ntmps29
  go_wp2
  go_ret
  exact ⟨rfl, rfl⟩
theorem l1In_no (n lo hi : Int) (w : World) (h : n < lo ∨ hi < n) :
    Calls Tryd.prog 29 #[.int .i64 n, .int .i64 lo, .int .i64 hi] w fun e w' => e = .returned (.bool false) ∧ w = w' := by
  by_cases h1 : lo ≤ n
  · have h2 : decide (n ≤ hi) = false := decide_eq_false (by omega)
    clear h
    go_enter Tryd.func29, Tryd.ntmps29
    go_wp2
    go_ret
    exact ⟨rfl, rfl⟩
  · have h2 : decide (lo ≤ n) = false := decide_eq_false h1
    clear h h1
    go_enter Tryd.func29, Tryd.ntmps29
    go_wp2
    go_ret
    exact ⟨rfl, rfl⟩

def lenOf : Value → Nat | .string s => s.size | _ => 0

/-- What NumberOf gives. -/
def Numbered (o : ByteArray) (k m : Int) (w : World) (e : Ending) (w' : World) : Prop :=
  e = .returned (.string (numS o k m)) ∧ Below w.heap.size w w'

theorem specNumberOf_out (o : ByteArray) (k m : Int) (w : World) (h : ¬ (0 ≤ k ∧ k ≤ 2 ∧ 0 ≤ m ∧ m ≤ 999999)) :
    Calls Tryd.prog 15 #[.string o, .int .i64 k, .int .i64 m] w (Numbered o k m w) := by
  unfold Numbered
  rw [numS_out h]
  by_cases hk : 0 ≤ k ∧ k ≤ 2
  · have hm : m < 0 ∨ 999999 < m := by omega
    clear h
    go_enter Tryd.func15, Tryd.ntmps15
    go_wp2_with fail
    refine (l1In_yes k 0 2 w hk.1 hk.2).mono ?_
    rintro e w' ⟨rfl, rfl⟩
    go_wp2_with fail
    refine (l1In_no m 0 999999 w hm).mono ?_
    rintro e w' ⟨rfl, rfl⟩
    go_wp2
    go_ret
    exact ⟨rfl, Below.refl _ _⟩
  · have hk' : k < 0 ∨ 2 < k := by omega
    clear h hk
    go_enter Tryd.func15, Tryd.ntmps15
    go_wp2_with fail
    refine (l1In_no k 0 2 w hk').mono ?_
    rintro e w' ⟨rfl, rfl⟩
    go_wp2
    go_ret
    exact ⟨rfl, Below.refl _ _⟩

set_option maxHeartbeats 1000000 in
theorem specNumberOf_in (o : ByteArray) (k m : Int) (w : World) (ho : o.size ≤ 1048576) (hk0 : 0 ≤ k) (hk2 : k ≤ 2) (hm0 : 0 ≤ m) (hm9 : m ≤ 999999) :
    Calls Tryd.prog 15 #[.string o, .int .i64 k, .int .i64 m] w (Numbered o k m w) := by
  have hlen := decDigits_len 5 m.toNat (by omega)
  have htz := numText_size (o := o) hk0 hk2 hm0 hm9
  have htm : (numText o k m).size ≤ maxLen := by unfold maxLen; omega
  have hC := Lib.hid fun w => specCheckRest_any (numText o k m) w htm
  have HT := Lib.hid (show numText o k m = o ++ kindText.extract k.toNat (k + 1).toNat ++ pad6 m.toNat from rfl)
  have hno := Lib.hid (numS_none (o := o) (k := k) (m := m))
  have hyes := Lib.hid (numS_yes (o := o) (k := k) (m := m) ⟨hk0, hk2, hm0, hm9⟩)
  have hp6 : (pad6 m.toNat) = padJ (6 - (Lib.decDigits m.toNat).length) (Lib.decDigits m.toNat) := rfl
  have HP := Lib.hid hp6
  have hL := l1Number_six m w hm0 hm9
  clear hp6 htm
  generalize hD : Lib.decDigits m.toNat = D at hlen HP hL
  clear hD
  go_enter Tryd.func15, Tryd.ntmps15
  go_wp2_with fail
  refine (l1In_yes k 0 2 w hk0 hk2).mono ?_
  rintro e w' ⟨rfl, rfl⟩
  go_wp2_with fail
  refine (l1In_yes m 0 999999 w hm0 hm9).mono ?_
  rintro e w' ⟨rfl, rfl⟩
  go_wp2_with fail
  refine hL.mono ?_
  rintro e w1 ⟨rfl, hb⟩
  clear hL
  go_wp2_with fail
  go_loop [7] (fun d => ∃ j : Nat, j + D.length ≤ 6 ∧ d = .string (padJ j D)) (fun d => 6 - lenOf d)
  case atStart => exact ⟨0, by omega, rfl⟩
  case round =>
    obtain ⟨j, hj, rfl⟩ := hrel
    have hz := padJ_size j D
    by_cases h6 : j + D.length < 6
    · have h6' : (padJ j D).size < 6 := by omega
      have hz1 := padJ_size (j + 1) D
      have HZ := Lib.hid hz
      have HZ1 := Lib.hid hz1
      have hadd := fun w => run_string_add (P := Tryd.prog) w ⟨#[48]⟩ (padJ j D) (by decide) (by omega)
      rw [padJ_succ] at hadd
      clear hz hz1
      go_wp2
      go_round
      case rel => exact ⟨j + 1, by omega, rfl⟩
      case measure => have h1 := HZ.out; have h2 := HZ1.out; simp only [lenOf]; simp; omega
    · have h6' : 6 ≤ (padJ j D).size := by omega
      have hj6 : 6 - D.length = j := by omega
      have HT2 := HT.out
      rw [HP.out, hj6] at HT2
      have hsz : (o ++ kindText.extract k.toNat (k + 1).toNat).size ≤ 1048580 := by
        rw [ByteArray.size_append, ByteArray.size_extract]
        have : kindText.size = 3 := rfl
        omega
      have hadd2 : ∀ w, (Op.stringOp .add (o ++ (⟨#[85, 74, 90]⟩ : ByteArray).extract k.toNat (k + 1).toNat) (padJ j D)).run Tryd.prog w = .ok (.string (numText o k m)) w := fun w => by
        rw [HT2]
        exact run_string_add w _ _ (show ((o ++ kindText.extract k.toNat (k + 1).toNat).size : Int) ≤ 8388608 by omega) (by omega)
      have hbd := crS_bd (numText o k m)
      clear hz HT2 hj6 HT HP h6 hj hlen hsz
      generalize hcr : crS (numText o k m) = c at hC hno hyes hbd
      have htz' : (numText o k m).size ≤ 1048590 := by omega
      clear htz hcr
      generalize numText o k m = t at hC hno hyes hadd2 htz'
      by_cases hc : c < 0
      · have hr := Lib.hid (hno.out hc)
        go_wp2_with (go_at_call 26; refine (hC.out _).mono ?_; rintro e w' ⟨rfl, rfl⟩)
        go_ret
        exact ⟨by rw [hr.out]; rfl, hb⟩
      · have hc0 : 0 ≤ c := by omega
        have hr := Lib.hid (hyes.out hc0)
        have hd1 := decDigits_len 0 (c % 10).toNat (by omega)
        have hN := l1Number_six (c % 10) w1 (by omega) (by omega)
        generalize hE : Lib.decDigits (c % 10).toNat = E at hr hd1 hN
        have hadd3 := fun w => run_string_add (P := Tryd.prog) w t ⟨E.toArray⟩ (by omega) (by simp [ByteArray.size]; omega)
        have HN := Lib.hid hN
        clear hE hd1 hN hc
        go_wp2_with (first | (go_at_call 26; refine (hC.out _).mono ?_; rintro e w' ⟨rfl, rfl⟩) | (go_at_call 30; refine HN.out.mono ?_; rintro e w2 ⟨rfl, hb2⟩))
        go_ret
        exact ⟨by rw [hr.out]; rfl, hb.trans (hb2.mono hb.size)⟩

theorem specNumberOf_any (o : ByteArray) (k m : Int) (w : World) (ho : o.size ≤ 1048576) :
    Calls Tryd.prog 15 #[.string o, .int .i64 k, .int .i64 m] w (Numbered o k m w) := by
  by_cases h : 0 ≤ k ∧ k ≤ 2 ∧ 0 ≤ m ∧ m ≤ 999999
  · exact specNumberOf_in o k m w ho h.1 h.2.1 h.2.2.1 h.2.2.2
  · exact specNumberOf_out o k m w h
end Go.Proofs.YtkfpondpepegpaaDoor
