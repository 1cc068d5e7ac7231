/-
  The contract of the laws' ascend, for lists that ascend.
-/
import Derived.Test.YtggbgjadfmjaaaaGYh
import Derived.Test.YtggbgjadfmjaaaaGBase
import Derived.Deep.QuietTactic
import Derived.BigQuiet
namespace Go.Proofs.Ytggbgjadfmjaaaa
open Go.RowKit
set_option linter.unusedVariables false

theorem belowP_drewN {B : Nat} {a w : World} (h : Below B a w) (n : Nat) : Below B a (w.drewN n) := ⟨h.os, h.tape, h.output, h.size, h.block⟩

set_option maxRecDepth 10000 in
set_option maxHeartbeats 2000000 in
theorem ascendP_yes (v : Value) (l : List Int) (w : World) (hh : HoldsI w v l) (hs : ∀ k, k + 1 < l.length → l.getD k 0 < l.getD (k + 1) 0) :
    Calls Try.prog 45 #[v] w fun e w' => e = .returned (.bool true) ∧ Below w.heap.size w w' := by
  obtain ⟨a, c, rfl⟩ := hh.form
  have hc : l.length ≤ 9223372036854775807 := by obtain ⟨_, _, _, h2, h3, _⟩ := hh; unfold maxLen at h3; omega
  have HH := Lib.hid hh
  have HS := Lib.hid hs
  obtain ⟨n, hn⟩ : ∃ n, n = l.length := ⟨_, rfl⟩
  rw [← hn] at HH HS hc ⊢
  clear hh hs hn
  go_enter Try.func45, Try.ntmps45
  go_wp2_with fail
  go_loopw [3] (fun k wr => ∃ m : Nat, 1 ≤ m ∧ k = .int .i64 m ∧ Below w.heap.size w wr) (fun k _ => n - (intOf k).toNat)
  case atStart => exact ⟨1, Nat.le_refl _, rfl, Below.refl _ _⟩
  case round =>
    obtain ⟨m, hm1, rfl, hbr⟩ := hrel
    by_cases hlt : m < n
    · have hhr := HH.out.keep hbr
      obtain ⟨b, off, rfl, _, c1⟩ := hhr.at_ hlt
      obtain ⟨b', off', e, _, c0⟩ := hhr.at_ (show m - 1 < n by omega)
      simp only [Option.some.injEq, Addr.mk.injEq, and_true] at e
      obtain ⟨rfl, rfl⟩ := e
      have hxy := HS.out (m - 1) (by omega)
      rw [show m - 1 + 1 = m by omega] at hxy
      generalize l.getD m 0 = y at c1 hxy
      generalize l.getD (m - 1) 0 = x at c0 hxy
      have hyx : decide (y ≤ x) = false := decide_eq_false (by omega)
      have hyx2 : ¬ y ≤ x := by omega
      have i0 : (0 : Int) ≤ (m : Int) := by omega
      have i1 : (m : Int) < (n : Int) := by omega
      have i2 : (0 : Int) ≤ (m : Int) - 1 := by omega
      have i3 : (m : Int) - 1 < (n : Int) := by omega
      have i5 : ((m : Int) - 1).toNat = m - 1 := by omega
      have jw : IntKind.i64.wrap ((m : Int) - 1) = (m : Int) - 1 := IntWalk.i64_in _ (by omega)
      clear hhr
      go_wp2_with fail
      go_quiet (fail)
      clear i5 jw
      go_wp2_with fail
      go_roundw
      case rel => exact ⟨m + 1, by omega, by go_num, belowP_drewN hbr _⟩
      case measure => simp [intOf]; omega
    · go_wp2_with fail
      go_ret
      exact ⟨rfl, hbr⟩
end Go.Proofs.Ytggbgjadfmjaaaa
