/-
  The laws' comparison of lists of moves.
-/
import Derived.Test.YtlcfldmiibjboaaYlM
import Derived.BigQuiet
import Derived.Deep.QuietTactic
namespace Go.Proofs.Ytlcfldmiibjboaa
open Go.RowKit
set_option linter.unusedVariables false

set_option maxHeartbeats 1000000 in
theorem sameMoves_same (u v : Value) (l : List (Int × Int)) (w : World) (hu : HoldsM w u l) (hv : HoldsM w v l) :
    Calls Try.prog 51 #[u, v] w fun e w' => e = .returned (.bool true) ∧ Below w.heap.size w w' := by
  have HU := Lib.hid fun w' (hb : Below w.heap.size w w') => hu.keep hb
  have HV := Lib.hid fun w' (hb : Below w.heap.size w w') => hv.keep hb
  obtain ⟨a, cap, rfl, h2, h3, h4⟩ := hu
  obtain ⟨a', cap', rfl, h2', h3', h4'⟩ := hv
  have hm : l.length ≤ 9223372036854775807 := by unfold maxLen at h3; omega
  obtain ⟨n, hn⟩ : ∃ n, n = l.length := ⟨_, rfl⟩
  rw [← hn] at HU HV hm ⊢
  have hne : ((n : Int) != (n : Int)) = false := by simp
  clear hn h2 h3 h4 h2' h3' h4'
  go_enter Try.func51, Try.ntmps51
  go_wp2_with fail
  go_loopw [5] (fun i wr => ∃ k : Nat, k ≤ n ∧ i = .int .i64 k ∧ Below w.heap.size w wr) (fun i _ => n - (intOf i).toNat)
  case atStart => exact ⟨0, by omega, rfl, Below.refl _ _⟩
  case round =>
    obtain ⟨k, hk, rfl, hbr⟩ := hrel
    by_cases hlt : k < n
    · obtain ⟨b, off, hkl, rfl, h6, s0, s1⟩ := (HU.out wr hbr).at_ hlt
      obtain ⟨b', off', hkl', rfl, h6', t0, t1⟩ := (HV.out wr hbr).at_ hlt
      generalize l[k].1 = f at s0 t0
      generalize l[k].2 = t at s1 t1
      have ik : (k : Int) < (n : Int) := by omega
      have i0k : (0 : Int) ≤ (k : Int) := by omega
      have HB := Lib.hid hbr
      clear hbr
      go_wp2_with fail
      go_quiet (fail)
      go_wp2_with fail
      go_roundw
      case rel => exact ⟨k + 1, by omega, by go_num, Below.drewN_ HB.out _⟩
      case measure => simp [intOf]; omega
    · go_wp2_with fail
      go_ret
      exact ⟨rfl, hbr⟩
end Go.Proofs.Ytlcfldmiibjboaa
