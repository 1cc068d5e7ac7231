/-
  The contract of the program's StackValid.
-/
import Derived.Test.YtdmbahpifbidlaaSxI
import Derived.Test.YtdmbahpifbidlaaIdI
namespace Go.Proofs.Ytdmbahpifbidlaa
open Go.RowKit
set_option linter.unusedVariables false

set_option maxHeartbeats 1000000 in
theorem implStackValid_any (v : Value) (l : List Int) (high : Int) (w : World) (h : HoldsI w v l) :
    Calls Try.prog 51 #[v, .int .i64 high] w fun e w' => e = .returned (.bool (stOk l high)) ∧ Below w.heap.size w w' := by
  have HH := Lib.hid h
  obtain ⟨a, cap, rfl, h2, h3, h4⟩ := h
  have hm : l.length ≤ 9223372036854775807 := by unfold maxLen at h3; omega
  have hcap : l.length ≤ cap := h2
  have hcap2 : cap ≤ 9223372036854775807 := by unfold maxLen at h3; omega
  have HT := Lib.hid fun (k : Nat) (hk : k ≤ l.length) n w' (hb : Below w.heap.size w w') => slContains_any (.slice a k cap) (l.take k) n w' ((HoldsI.take k hk HH.out).keep hb)
  obtain ⟨n, hn⟩ : ∃ n, n = l.length := ⟨_, rfl⟩
  have HN := Lib.hid hn.symm
  rw [← hn] at HH hcap HT ⊢
  have hm' : n ≤ 9223372036854775807 := by omega
  have H4 := Lib.hid h4
  have HNO := Lib.hid fun (h : ¬ (1 ≤ high ∧ high ≤ 5 ∧ (n : Int) ≤ high)) => (show stOk l high = false by
    cases hc : stOk l high
    · rfl
    · exact absurd (stOk_iff.1 hc).2.2 (by rw [HN.out]; exact h))
  clear hn h2 h3 h4 hm HH
  by_cases hh : 1 ≤ high ∧ high ≤ 5 ∧ (n : Int) ≤ high
  · obtain ⟨hh1, hh2, hh3⟩ := hh
    have c1 : ¬ high < 1 := by omega
    have c2 : ¬ 5 < high := by omega
    have c3 : ¬ high < (n : Int) := by omega
    have HHI := Lib.hid (And.intro hh1 (And.intro hh2 hh3))
    clear hh1 hh2 hh3
    go_enter Try.func51, Try.ntmps51
    go_wp2_with fail
    go_loopw [21] (fun i wr => ∃ k : Nat, k ≤ n ∧ i = .int .i64 k ∧ Hid (∀ j, j < k → stAt l j = true) ∧ Below w.heap.size w wr) (fun i _ => n - (intOf i).toNat)
    case atStart => exact ⟨0, by omega, rfl, Lib.hid fun j hj => by omega, Below.refl _ _⟩
    case round =>
      obtain ⟨k, hk, rfl, HA, hbr⟩ := hrel
      have HBR := Lib.hid hbr
      by_cases hlt : k < n
      · have hkl : k < l.length := by rw [HN.out]; exact hlt
        rcases H4.out with h4 | ⟨b, off, rfl, h6, h7⟩
        · have := HN.out; omega
        · have s0 : wr.cell? ⟨b, off + k, none⟩ = some (.int .i64 l[k]) := (hbr.cell (p := ⟨b, off + k, none⟩) h6).trans (h7 k hkl)
          have hat : stAt l k = (decide (1 ≤ l[k] ∧ l[k] ≤ 999) && !hasI (l.take k) l[k]) := by unfold stAt; rw [getD_i hkl]
          have HTk := Lib.hid fun w' h => HT.out k (by omega) l[k] w' h
          have HBAD := Lib.hid (fun h => stOk_at (high := high) hkl h)
          have H7 := Lib.hid h7
          have ik : (0 : Int) ≤ (k : Int) := by omega
          have ikn : (k : Int) ≤ (cap : Int) := by omega
          have ikm : (k : Int) < (n : Int) := by omega
          clear h7 hbr
          generalize l[k] = x at s0 hat HTk
          by_cases hin : 1 ≤ x ∧ x ≤ 999
          · rw [decide_eq_true hin] at hat
            have HY := Lib.hid fun w => implIdValid_yes x w hin
            clear hin
            generalize hasI (l.take k) x = has at hat HTk
            cases has
            · have hr := Lib.hid (show stAt l k = true from hat)
              clear hat
              go_wp2_with fail
              refine (HY.out _).mono ?_
              rintro e w' ⟨rfl, rfl⟩
              go_wp2_with fail
              refine (HTk.out _ HBR.out).mono ?_
              rintro e w' ⟨rfl, rfl⟩
              go_wp2_with fail
              go_roundw
              case rel => exact ⟨k + 1, by omega, by go_num, Lib.hid fun j hj => by
                by_cases e : j = k
                · subst e; exact hr.out
                · exact HA.out j (by omega), HBR.out⟩
              case measure => simp [intOf]; omega
            · have hr := Lib.hid (HBAD.out hat)
              clear hat
              go_wp2_with fail
              refine (HY.out _).mono ?_
              rintro e w' ⟨rfl, rfl⟩
              go_wp2_with fail
              refine (HTk.out _ HBR.out).mono ?_
              rintro e w' ⟨rfl, rfl⟩
              go_wp2_with fail
              go_ret
              exact ⟨by rw [hr.out]; rfl, HBR.out⟩
          · rw [decide_eq_false hin, Bool.false_and] at hat
            have hr := Lib.hid (HBAD.out hat)
            have HY := Lib.hid fun w => implIdValid_no x w hin
            clear hat hin
            go_wp2_with fail
            refine (HY.out _).mono ?_
            rintro e w' ⟨rfl, rfl⟩
            go_wp2_with fail
            go_ret
            exact ⟨by rw [hr.out]; rfl, HBR.out⟩
      · have hr := Lib.hid ((stOk_end (high := high) fun j hj => HA.out j (by rw [HN.out] at hj; omega)).trans (decide_eq_true (by rw [HN.out]; exact HHI.out)))
        go_wp2_with fail
        go_ret
        exact ⟨by rw [hr.out]; rfl, hbr⟩
  · have hr := Lib.hid (HNO.out hh)
    by_cases c1 : high < 1
    · clear hh
      go_enter Try.func51, Try.ntmps51
      go_wp2_with fail
      go_ret
      exact ⟨by rw [hr.out]; rfl, Below.refl _ _⟩
    · by_cases c2 : 5 < high
      · clear hh
        go_enter Try.func51, Try.ntmps51
        go_wp2_with fail
        go_ret
        exact ⟨by rw [hr.out]; rfl, Below.refl _ _⟩
      · have c3 : high < (n : Int) := by omega
        clear hh
        go_enter Try.func51, Try.ntmps51
        go_wp2_with fail
        go_ret
        exact ⟨by rw [hr.out]; rfl, Below.refl _ _⟩
end Go.Proofs.Ytdmbahpifbidlaa
