/-
  The laws' ascend: of a list that ascends.
-/
import Derived.Test.YtdmbahpifbidlaaYh
import Derived.Test.YtdmbahpifbidlaaYqMath
import Derived.Deep.QuietTactic
import Derived.BigQuiet
namespace Go.Proofs.Ytdmbahpifbidlaa
open Go.RowKit
set_option linter.unusedVariables false

theorem idsY_asc {h : Int} {ss : List (List Int)} (hk : ydOk h ss = true) : ∀ k, k + 1 < (idsY h ss).length → (idsY h ss).getD k 0 < (idsY h ss).getD (k + 1) 0 := by
  intro k hl
  rw [← sortI_idsY hk] at hl ⊢
  have h1 := List.pairwise_iff_getElem.1 (sortI_le ss.flatten) k (k + 1) (by omega) hl (by omega)
  have hn : (sortI ss.flatten).Nodup := (sortI_perm ss.flatten).nodup_iff.2 (ydOk_iff.1 hk).2.1
  have h2 := List.pairwise_iff_getElem.1 hn k (k + 1) (by omega) hl (by omega)
  rw [List.getD_eq_getElem?_getD, List.getD_eq_getElem?_getD, List.getElem?_eq_getElem hl, List.getElem?_eq_getElem (by omega), Option.getD_some, Option.getD_some]
  omega
theorem below_drewN' {B : Nat} {a w : World} (h : Below B a w) (n : Nat) : Below B a (w.drewN n) := ⟨h.os, h.tape, h.output, h.size, h.block⟩
theorem idsY_len_ok {h : Int} {ss : List (List Int)} (hk : ydOk h ss = true) : (idsY h ss).length = ss.flatten.length := by
  rw [← sortI_idsY hk, sortI_len]

set_option maxRecDepth 10000 in
set_option maxHeartbeats 2000000 in
theorem ascend_yes (v : Value) (l : List Int) (w : World) (hh : HoldsI w v l) (hs : ∀ k, k + 1 < l.length → l.getD k 0 < l.getD (k + 1) 0) :
    Calls Try.prog 27 #[v] w fun e w' => e = .returned (.bool true) ∧ Below w.heap.size w w' := by
  obtain ⟨a, c, rfl⟩ := hh.form
  have hc : l.length ≤ 9223372036854775807 := by obtain ⟨_, _, _, h2, h3, _⟩ := hh; unfold maxLen at h3; omega
  have HH := Lib.hid hh
  have HS := Lib.hid hs
  obtain ⟨n, hn⟩ : ∃ n, n = l.length := ⟨_, rfl⟩
  rw [← hn] at HH HS hc ⊢
  clear hh hs hn
  go_enter Try.func27, Try.ntmps27
  go_wp2_with fail
  go_loopw [3] (fun k wr => ∃ m : Nat, 1 ≤ m ∧ k = .int .i64 m ∧ Below w.heap.size w wr) (fun k _ => n - (intOf k).toNat)
  case atStart => exact ⟨1, Nat.le_refl _, rfl, Below.refl _ _⟩
  case round =>
    obtain ⟨m, hm1, rfl, hbr⟩ := hrel
    by_cases hlt : m < n
    · have hhr := HH.out.keep hbr
      obtain ⟨b, off, rfl, _, c1⟩ := hhr.at_ hlt
      obtain ⟨b', off', e, _, c0⟩ := hhr.at_ (show m - 1 < n by omega)
      simp only [Option.some.injEq, Addr.mk.injEq, and_true] at e
      obtain ⟨rfl, rfl⟩ := e
      have hxy := HS.out (m - 1) (by omega)
      rw [show m - 1 + 1 = m by omega] at hxy
      generalize l.getD m 0 = y at c1 hxy
      generalize l.getD (m - 1) 0 = x at c0 hxy
      have hyx : decide (y ≤ x) = false := decide_eq_false (by omega)
      have hyx2 : ¬ y ≤ x := by omega
      have i0 : (0 : Int) ≤ (m : Int) := by omega
      have i1 : (m : Int) < (n : Int) := by omega
      have i2 : (0 : Int) ≤ (m : Int) - 1 := by omega
      have i3 : (m : Int) - 1 < (n : Int) := by omega
      have i5 : ((m : Int) - 1).toNat = m - 1 := by omega
      have jw : IntKind.i64.wrap ((m : Int) - 1) = (m : Int) - 1 := IntWalk.i64_in _ (by omega)
      clear hhr
      go_wp2_with fail
      go_quiet (fail)
      clear i5 jw
      go_wp2_with fail
      go_roundw
      case rel => exact ⟨m + 1, by omega, by go_num, below_drewN' hbr _⟩
      case measure => simp [intOf]; omega
    · go_wp2_with fail
      go_ret
      exact ⟨rfl, hbr⟩
end Go.Proofs.Ytdmbahpifbidlaa
