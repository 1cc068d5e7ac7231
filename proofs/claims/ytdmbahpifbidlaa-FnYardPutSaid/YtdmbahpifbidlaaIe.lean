/-
  Contracts of the laws' own helpers on slices of numbers: sameInts, hasInt, and the marks that the exact laws lay and look for.
-/
import Derived.Test.YtdmbahpifbidlaaSt
import Derived.Test.YtdmbahpifbidlaaOwI
namespace Go.Proofs.Ytdmbahpifbidlaa
open Go.RowKit
set_option linter.unusedVariables false

set_option maxHeartbeats 1000000 in
theorem sameInts_any (u v : Value) (l m : List Int) (w : World) (hu : HoldsI w u l) (hv : HoldsI w v m) :
    Calls Try.prog 25 #[u, v] w fun e w' => e = .returned (.bool (decide (l = m))) ∧ Below w.heap.size w w' := by
  obtain ⟨a, cap, rfl, h2, h3, h4⟩ := hu
  obtain ⟨a', cap', rfl, g2, g3, g4⟩ := hv
  have hm : l.length ≤ 9223372036854775807 := by unfold maxLen at h3; omega
  have hm2 : m.length ≤ 9223372036854775807 := by unfold maxLen at g3; omega
  have H4 := Lib.hid h4
  have G4 := Lib.hid g4
  clear h2 h3 h4 g2 g3 g4
  by_cases hl : l.length = m.length
  · obtain ⟨n, hn⟩ : ∃ n, n = m.length := ⟨_, rfl⟩
    have HN := Lib.hid hn.symm
    have HL := Lib.hid (hl.trans hn.symm)
    rw [hl, ← hn]
    rw [← hn] at hm2
    clear hl hn hm
    go_enter Try.func25, Try.ntmps25
    go_wp2_with fail
    go_loopw [5] (fun i wr => ∃ k : Nat, k ≤ n ∧ i = .int .i64 k ∧ Hid (∀ j (hj : j < l.length) (hj' : j < m.length), j < k → l[j] = m[j]) ∧ Below w.heap.size w wr) (fun i _ => n - (intOf i).toNat)
    case atStart => exact ⟨0, by omega, rfl, Lib.hid fun j _ _ hj => by omega, Below.refl _ _⟩
    case round =>
      obtain ⟨k, hk, rfl, HF, hbr⟩ := hrel
      by_cases hlt : k < n
      · have hkl : k < l.length := by rw [HL.out]; exact hlt
        have hkm : k < m.length := by rw [HN.out]; exact hlt
        rcases H4.out with h4 | ⟨b, off, rfl, h6, h7⟩
        · omega
        rcases G4.out with g4 | ⟨b', off', rfl, g6, g7⟩
        · omega
        have s0 : wr.cell? ⟨b, off + k, none⟩ = some (.int .i64 l[k]) := (hbr.cell (p := ⟨b, off + k, none⟩) h6).trans (h7 k hkl)
        have t0 : wr.cell? ⟨b', off' + k, none⟩ = some (.int .i64 m[k]) := (hbr.cell (p := ⟨b', off' + k, none⟩) g6).trans (g7 k hkm)
        have H7 := Lib.hid h7
        have G7 := Lib.hid g7
        have ik : (0 : Int) ≤ (k : Int) := by omega
        have ikn : (k : Int) < (n : Int) := by omega
        have HBR := Lib.hid hbr
        clear h7 g7 hbr
        by_cases he : l[k] = m[k]
        · have b1 : (l[k] != m[k]) = false := by rw [bne_eq_false_iff_eq]; exact he
          have hnext : Hid (∀ j (hj : j < l.length) (hj' : j < m.length), j < k + 1 → l[j] = m[j]) := Lib.hid fun j hj hj' hjk => by
            by_cases e : j = k
            · subst e; exact he
            · exact HF.out j hj hj' (by omega)
          clear he
          generalize l[k] = x at s0 b1
          generalize m[k] = y at t0 b1
          go_wp2_with fail
          go_quiet (fail)
          go_wp2_with fail
          go_roundw
          case rel => exact ⟨k + 1, by omega, by go_num, hnext, Below.drewN_ HBR.out _⟩
          case measure => simp [intOf]; omega
        · have b1 : (l[k] != m[k]) = true := by rw [bne_iff_ne]; exact he
          have hr := Lib.hid (show decide (l = m) = false from decide_eq_false fun e => he (by subst e; rfl))
          clear he
          generalize l[k] = x at s0 b1
          generalize m[k] = y at t0 b1
          go_wp2_with fail
          go_quiet (fail)
          go_wp2_with fail
          go_ret
          exact ⟨by rw [hr.out]; rfl, Below.drewN_ HBR.out _⟩
      · have hr := Lib.hid (show decide (l = m) = true from decide_eq_true (List.ext_getElem (by rw [HL.out, HN.out]) fun j h1 h2 => HF.out j h1 h2 (by rw [HN.out] at h2; omega)))
        go_wp2_with fail
        go_ret
        exact ⟨by rw [hr.out]; rfl, hbr⟩
  · have hr := Lib.hid (show decide (l = m) = false from decide_eq_false fun e => hl (by rw [e]))
    have b1 : ((l.length : Int) != (m.length : Int)) = true := by rw [bne_iff_ne]; omega
    clear hl
    go_enter Try.func25, Try.ntmps25
    go_wp2
    go_ret
    exact ⟨by rw [hr.out]; rfl, Below.refl _ _⟩
end Go.Proofs.Ytdmbahpifbidlaa
