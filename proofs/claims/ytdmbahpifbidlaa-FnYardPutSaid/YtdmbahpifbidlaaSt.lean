/-
  Contracts of the model's l1Has and StackValid.
-/
import Derived.Test.YtdmbahpifbidlaaStMath
import Derived.Test.YtdmbahpifbidlaaInCut
import Derived.Test.YtdmbahpifbidlaaIn
import Derived.BigQuiet
import Derived.Deep.QuietTactic
namespace Go.Proofs.Ytdmbahpifbidlaa
open Go.RowKit
set_option linter.unusedVariables false

set_option maxHeartbeats 400000 in
theorem l1Has_any (v : Value) (l : List Int) (n : Int) (w : World) (h : HoldsI w v l) :
    Calls Try.prog 55 #[v, .int .i64 n] w fun e w' => e = .returned (.bool (hasI l n)) ∧ w = w' := by
  obtain ⟨a, cap, rfl, h2, h3, h4⟩ := h
  have hm : l.length ≤ 9223372036854775807 := by unfold maxLen at h3; omega
  obtain ⟨m, hn⟩ : ∃ m, m = l.length := ⟨_, rfl⟩
  have HN := Lib.hid hn.symm
  rw [← hn]
  have hm' : m ≤ 9223372036854775807 := by omega
  have H4 := Lib.hid h4
  clear hn h2 h3 h4 hm
  go_enter Try.func55, Try.ntmps55
  go_wp2_with fail
  go_loop [5] (fun i => ∃ k : Nat, k ≤ m ∧ i = .int .i64 k ∧ Hid (∀ j (hj : j < l.length), j < k → l[j] ≠ n)) (fun i => m - (intOf i).toNat)
  case atStart => exact ⟨0, by omega, rfl, Lib.hid fun j _ hj => by omega⟩
  case round =>
    obtain ⟨k, hk, rfl, HF⟩ := hrel
    by_cases hlt : k < m
    · rcases H4.out with h4 | ⟨b, off, rfl, h6, h7⟩
      · have := HN.out; omega
      · have hkl : k < l.length := by rw [HN.out]; exact hlt
        have s0 : w.cell? ⟨b, off + k, none⟩ = some (.int .i64 l[k]) := h7 k hkl
        have H7 := Lib.hid h7
        clear h7
        by_cases he : l[k] = n
        · have b1 : (l[k] == n) = true := by rw [beq_iff_eq]; exact he
          have hr := Lib.hid (hasI_yes hkl he)
          clear he
          go_wp2_with fail
          go_ret
          exact ⟨by rw [hr.out]; rfl, rfl⟩
        · have b1 : (l[k] == n) = false := by rw [beq_eq_false_iff_ne]; exact he
          have HE := Lib.hid he
          clear he
          go_wp2_with fail
          go_round
          case rel => exact ⟨k + 1, by omega, by go_num, Lib.hid fun j hj hjk => by
            by_cases e : j = k
            · subst e; exact HE.out
            · exact HF.out j hj (by omega)⟩
          case measure => simp [intOf]; omega
    · have hr := Lib.hid (hasI_no fun j hj => HF.out j hj (by rw [HN.out] at hj; omega))
      go_wp2_with fail
      go_ret
      exact ⟨by rw [hr.out]; rfl, rfl⟩

theorem Below.drewN_ {B : Nat} {a w : World} (h : Below B a w) (n : Nat) : Below B a (w.drewN n) := ⟨h.os, h.tape, h.output, h.size, h.block⟩

set_option maxHeartbeats 1000000 in
theorem specStackValid_any (v : Value) (l : List Int) (high : Int) (w : World) (h : HoldsI w v l) :
    Calls Try.prog 54 #[v, .int .i64 high] w fun e w' => e = .returned (.bool (stOk l high)) ∧ Below w.heap.size w w' := by
  have HH := Lib.hid h
  obtain ⟨a, cap, rfl, h2, h3, h4⟩ := h
  have hm : l.length ≤ 9223372036854775807 := by unfold maxLen at h3; omega
  have hcap : l.length ≤ cap := h2
  have hcap2 : cap ≤ 9223372036854775807 := by unfold maxLen at h3; omega
  have HT := Lib.hid fun (k : Nat) (hk : k ≤ l.length) n w' (hb : Below w.heap.size w w') => l1Has_any (.slice a k cap) (l.take k) n w' ((HoldsI.take k hk HH.out).keep hb)
  obtain ⟨n, hn⟩ : ∃ n, n = l.length := ⟨_, rfl⟩
  have HN := Lib.hid hn.symm
  rw [← hn] at HH hcap HT ⊢
  have hm' : n ≤ 9223372036854775807 := by omega
  have H4 := Lib.hid h4
  clear hn h2 h3 h4 hm HH
  go_enter Try.func54, Try.ntmps54
  go_wp2_with fail
  go_loopw [5] (fun i wr => ∃ k : Nat, k ≤ n ∧ i = .int .i64 k ∧ Hid (∀ j, j < k → stAt l j = true) ∧ Below w.heap.size w wr) (fun i _ => n - (intOf i).toNat)
  case atStart => exact ⟨0, by omega, rfl, Lib.hid fun j hj => by omega, Below.refl _ _⟩
  case round =>
    obtain ⟨k, hk, rfl, HA, hbr⟩ := hrel
    have HBR := Lib.hid hbr
    by_cases hlt : k < n
    · have hkl : k < l.length := by rw [HN.out]; exact hlt
      rcases H4.out with h4 | ⟨b, off, rfl, h6, h7⟩
      · have := HN.out; omega
      · have s0 : wr.cell? ⟨b, off + k, none⟩ = some (.int .i64 l[k]) := (hbr.cell (p := ⟨b, off + k, none⟩) h6).trans (h7 k hkl)
        have hat : stAt l k = (decide (1 ≤ l[k] ∧ l[k] ≤ 999) && !hasI (l.take k) l[k]) := by unfold stAt; rw [getD_i hkl]
        have HTk := Lib.hid fun w' h => HT.out k (by omega) l[k] w' h
        have HBAD := Lib.hid (fun h => stOk_at (high := high) hkl h)
        have H7 := Lib.hid h7
        have ik : (0 : Int) ≤ (k : Int) := by omega
        have ikn : (k : Int) ≤ (cap : Int) := by omega
        have ikm : (k : Int) < (n : Int) := by omega
        clear h7 hbr
        generalize l[k] = x at s0 hat HTk
        by_cases hin : 1 ≤ x ∧ x ≤ 999
        · rw [decide_eq_true hin] at hat
          have HY := Lib.hid fun w => l1In_yes x 1 999 w hin.1 hin.2
          clear hin
          generalize hasI (l.take k) x = has at hat HTk
          cases has
          · have hr := Lib.hid (show stAt l k = true from hat)
            clear hat
            go_wp2_with fail
            go_quiet ((first | (go_at_call 56; exact Calls.quiet_of_same ((HY.out _).mono fun _ _ h => ⟨h.1, h.2.symm⟩)) | (go_at_call 55; exact Calls.quiet_of_same ((HTk.out _ (Below.drewN_ HBR.out _)).mono fun _ _ h => ⟨h.1, h.2.symm⟩))))
            go_wp2_with fail
            go_roundw
            case rel => exact ⟨k + 1, by omega, by go_num, Lib.hid fun j hj => by
              by_cases e : j = k
              · subst e; exact hr.out
              · exact HA.out j (by omega), Below.drewN_ HBR.out _⟩
            case measure => simp [intOf]; omega
          · have hr := Lib.hid (HBAD.out hat)
            clear hat
            go_wp2_with fail
            go_quiet ((first | (go_at_call 56; exact Calls.quiet_of_same ((HY.out _).mono fun _ _ h => ⟨h.1, h.2.symm⟩)) | (go_at_call 55; exact Calls.quiet_of_same ((HTk.out _ (Below.drewN_ HBR.out _)).mono fun _ _ h => ⟨h.1, h.2.symm⟩))))
            go_wp2_with fail
            go_ret
            exact ⟨by rw [hr.out]; rfl, Below.drewN_ HBR.out _⟩
        · rw [decide_eq_false hin, Bool.false_and] at hat
          have hr := Lib.hid (HBAD.out hat)
          have HY := Lib.hid fun w => l1In_no x 1 999 w (by omega)
          clear hat hin
          go_wp2_with fail
          go_quiet ((first | (go_at_call 56; exact Calls.quiet_of_same ((HY.out _).mono fun _ _ h => ⟨h.1, h.2.symm⟩))))
          go_wp2_with fail
          go_ret
          exact ⟨by rw [hr.out]; rfl, Below.drewN_ HBR.out _⟩
    · have hr := Lib.hid (stOk_end (high := high) fun j hj => HA.out j (by rw [HN.out] at hj; omega))
      have hN2 := HN.out
      rw [hN2] at hr
      clear hN2
      by_cases hin : 1 ≤ high ∧ high ≤ 5
      · go_wp2_with fail
        refine (l1In_yes high 1 5 _ hin.1 hin.2).mono ?_
        rintro e w2 ⟨rfl, rfl⟩
        go_wp2_with fail
        go_ret
        refine ⟨?_, hbr⟩
        rw [hr.out]
        simp [hin.1, hin.2]
      · have hr2 := Lib.hid (show stOk l high = false by rw [hr.out]; exact decide_eq_false (by omega))
        go_wp2_with fail
        refine (l1In_no high 1 5 _ (by omega)).mono ?_
        rintro e w2 ⟨rfl, rfl⟩
        go_wp2_with fail
        go_ret
        exact ⟨by rw [hr2.out]; rfl, hbr⟩
end Go.Proofs.Ytdmbahpifbidlaa
