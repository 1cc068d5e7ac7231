/-
  For every code of bytes the law on CheckRest (another digit, and two digits exchanged, change the rest) returns true and leaves its argument as it was. Conditions: none beyond the form's own reach.
-/
import Derived.Test.YtkfpondpepegpaaRows
import Derived.WalkKit
import Derived.ProofKit
import Derived.OpenShut
import Derived.ShutString
import Derived.ChangeOld
import Derived.Below
import Derived.Test.YtkfpondpepegpaaCr2
import Derived.Test.YtkfpondpepegpaaDr4
import Derived.Test.YtkfpondpepegpaaMisMath2
import Derived.Lib.SlicesS
import Derived.BigQuiet
import Derived.Deep.QuietTactic
import Derived.IntWalk
namespace Go.Proofs.Ytkfpondpepegpaa.fnCheckRest
open Go.ChangeShapes Go.WideShapes Go.ChangeAt Go.RowKit
open Go.ChangeMaps (open_string shut_string)
set_option linter.unusedVariables false

theorem own : ownKnob Try.prog.godebug = none := by kernel_rfl
theorem laidOut : laidOutB Try.prog = true := by kernel_rfl

/-- WHAT THE WALK IS TOLD OF A SLICE OF INTEGERS THAT CAME IN: it is nil; or it leads to a row of 'cap' cells, the numbers 'zs' (the first 'len' are its elements, the rest its spare room), each fitting its kind. -/
def IsRow (k : IntKind) (w : World) (a : Option Addr) (len cap : Nat) (zs : List Int) : Prop :=
  (a = none ∧ len = 0 ∧ cap = 0 ∧ zs = []) ∨
  ∃ x, a = some x ∧ len ≤ cap ∧ cap ≤ maxLen ∧ zs.length = cap ∧ (∀ i, i < zs.length → w.cell? (x.add i) = some (.int k (zs.getD i 0))) ∧ ∀ n ∈ zs, (Lit.int k n).wf = true

set_option maxHeartbeats 4000000 in
set_option maxRecDepth 100000 in
theorem walk (a0 : Option Addr) (len0 cap0 : Nat) (z0 : List Int) (w : World) (w0 : IsRow .u8 w a0 len0 cap0 z0) :
    Calls Try.prog 4 #[.slice a0 len0 cap0] w fun e w' => e = .returned (.bool true) ∧ Below w.heap.size w w' := by
  have h8 : IsRow8 w a0 len0 cap0 := row8_of w0
  have hm := row8_len h8
  unfold maxLen at hm
  clear w0
  by_cases hl : len0 ≤ 1048576
  · have hld : decide (1048576 < (len0 : Int)) = false := decide_eq_false (by omega)
    go_enter Try.func4, Try.ntmps4
    go_wp2_with fail
    refine (drawCheckRest_any a0 len0 cap0 w h8).mono ?_
    rintro e w1 ⟨s, hs, rfl, hb⟩
    clear h8
    have hsm : s.size ≤ maxLen := by unfold maxLen; omega
    have hI := fun w => implCheckRest_any s w hsm
    have hS := fun w => specCheckRest_any s w hsm
    have hbd := crS_bd s
    have hform : 0 ≤ crS s → formB s = true := by
      intro h
      cases hf : formB s
      · rw [crS_not hf] at h; omega
      · rfl
    have HPUT := Lib.hid fun k d h4 hk hd hf => put_facts Try.prog s k d hf h4 hk hd
    have HSWAP := Lib.hid fun k h4 hk hne hf => swap_facts Try.prog s k hf h4 hk hne
    generalize crS s = x at hI hS hbd hform HPUT HSWAP
    obtain ⟨hx0, hx1⟩ := hbd
    have HFORM := Lib.hid hform
    have HI := Lib.hid hI
    have HS := Lib.hid hS
    clear hform hI hS
    by_cases hx : 0 ≤ x
    · have hF := HFORM.out hx
      have hsz := formB_size hF
      have hs10 : 10 ≤ s.size := by omega
      have HF := Lib.hid hF
      have hxd : decide (x < 0) = false := decide_eq_false (by omega)
      clear hF hsz
      go_wp2_with (first | (go_at_call 12; refine (HI.out _).mono ?_; rintro e w' ⟨rfl, rfl⟩) | (go_at_call 13; refine (HS.out _).mono ?_; rintro e w' ⟨rfl, rfl⟩))
      go_loopw [5] (fun i wr => ∃ k : Nat, 4 ≤ k ∧ k ≤ 10 ∧ i = .int .i64 k ∧ Below w.heap.size w wr) (fun i _ => 10 - (intOf i).toNat)
      case atStart => exact ⟨4, by omega, by omega, rfl, hb⟩
      case round =>
        obtain ⟨k, hk4, hk, rfl, hbr⟩ := hrel
        by_cases hlt : k < 10
        · have hkd : decide ((k : Int) < 10) = true := decide_eq_true (by omega)
          obtain ⟨wo, rfl⟩ : ∃ wo : World, wo = wr := ⟨_, rfl⟩
          go_wp2_with fail
          go_loopw [6] (fun i wr => ∃ d : Nat, d ≤ 10 ∧ i = .int .i64 d ∧ Below w.heap.size w wr) (fun i _ => 10 - (intOf i).toNat)
          case atStart => exact ⟨0, by omega, rfl, hbr⟩
          case round =>
            obtain ⟨d, hd, rfl, hbi⟩ := hrel
            by_cases hdd : d < 10
            · obtain ⟨Y, hY, y1, y2, hiff⟩ := HPUT.out k d hk4 hlt hdd HF.out
              have hYm : Y.size ≤ maxLen := by unfold maxLen; omega
              have hC := Lib.hid fun w => implCheckRest_any Y w hYm
              have e1 : IntKind.i64.wrap ((d : Int) + 1) = (d : Int) + 1 := IntWalk.i64_in _ (by omega)
              have e2 : IntKind.i64.wrap ((k : Int) + 1) = (k : Int) + 1 := IntWalk.i64_in _ (by omega)
              have f1 : (d : Int) + 1 ≤ 10 := by omega
              have f2 : (k : Int) + 1 ≤ s.size := by omega
              have f3 : (k : Int) ≤ s.size := by omega
              clear hYm
              by_cases he : crS Y = x
              · have b1 : (crS Y == x) = true := by rw [beq_iff_eq]; exact he
                have b2 : (Y.toList == s.toList) = true := (Lib.bytes_beq_iff _ _).2 (hiff.1 he)
                clear he hiff
                go_wp2
                go_quiet (fail)
                go_wp2_with (go_at_call 12; refine (hC.out _).mono ?_; rintro e w' ⟨rfl, rfl⟩)
                go_roundw
                case rel => exact ⟨d + 1, by omega, by go_num, ⟨hbi.os, hbi.tape, hbi.output, hbi.size, hbi.block⟩⟩
                case measure => simp [intOf]; omega
              · have b1 : (crS Y == x) = false := by rw [beq_eq_false_iff_ne]; exact he
                have b2 : (Y.toList == s.toList) = false := (Lib.bytes_beq_false_iff _ _).2 (fun e => he (hiff.2 e))
                clear he hiff
                go_wp2
                go_quiet (fail)
                go_wp2_with (go_at_call 12; refine (hC.out _).mono ?_; rintro e w' ⟨rfl, rfl⟩)
                go_roundw
                case rel => exact ⟨d + 1, by omega, by go_num, ⟨hbi.os, hbi.tape, hbi.output, hbi.size, hbi.block⟩⟩
                case measure => simp [intOf]; omega
            · have e2 : IntKind.i64.wrap ((k : Int) + 1) = (k : Int) + 1 := IntWalk.i64_in _ (by omega)
              have e3 : IntKind.i64.wrap ((k : Int) + 2) = (k : Int) + 2 := IntWalk.i64_in _ (by omega)
              by_cases h9 : k < 9
              · have hg : decide ((k : Int) < 9) = true := decide_eq_true (by omega)
                have hks : k < s.size := by omega
                have hks1 : k + 1 < s.size := by omega
                have f2 : (k : Int) + 1 ≤ s.size := by omega
                have f2' : (k : Int) + 1 < s.size := by omega
                have f3 : (k : Int) ≤ s.size := by omega
                have f3' : (k : Int) < s.size := by omega
                have f4 : (k : Int) + 2 ≤ s.size := by omega
                have hix := fun w => index_next Try.prog 9 s k hks1 Try.underlying9 w
                by_cases hne : (s[k].toNat : Int) = (s[k + 1].toNat : Int)
                · have b3 : ((s[k].toNat : Int) != (s[k + 1].toNat : Int)) = false := by rw [bne_eq_false_iff_eq]; exact hne
                  clear hne
                  go_wp2_with fail
                  go_quiet (fail)
                  go_wp2_with fail
                  go_roundw
                  case rel => exact ⟨k + 1, by omega, by omega, by go_num, ⟨hbi.os, hbi.tape, hbi.output, hbi.size, hbi.block⟩⟩
                  case measure => simp [intOf]; omega
                · have b3 : ((s[k].toNat : Int) != (s[k + 1].toNat : Int)) = true := by rw [bne_iff_ne]; exact hne
                  have hne' : byteAt s k ≠ byteAt s (k + 1) := by rw [← byteAt_get s k hks, ← byteAt_get s (k + 1) hks1]; exact hne
                  obtain ⟨Y, hY, y1, y2, y3, hiff⟩ := HSWAP.out k hk4 h9 hne' HF.out
                  have hYm : Y.size ≤ maxLen := by unfold maxLen; omega
                  have hC := Lib.hid fun w => implCheckRest_any Y w hYm
                  have b1 : (crS Y == x) = false := by rw [beq_eq_false_iff_ne]; exact hiff
                  clear hne hne' hiff hYm
                  go_wp2_with fail
                  go_quiet ((go_at_call 12; exact Calls.quiet_of_same ((hC.out _).mono fun _ _ h => ⟨h.1, h.2.symm⟩)))
                  go_wp2_with fail
                  go_roundw
                  case rel => exact ⟨k + 1, by omega, by omega, by go_num, ⟨hbi.os, hbi.tape, hbi.output, hbi.size, hbi.block⟩⟩
                  case measure => simp [intOf]; omega
              · have hg : decide ((k : Int) < 9) = false := decide_eq_false (by omega)
                go_wp2_with fail
                go_quiet (fail)
                go_wp2_with fail
                go_roundw
                case rel => exact ⟨k + 1, by omega, by omega, by go_num, ⟨hbi.os, hbi.tape, hbi.output, hbi.size, hbi.block⟩⟩
                case measure => simp [intOf]; omega
        · go_wp2
          go_ret
          exact ⟨rfl, hbr⟩
    · obtain rfl : x = -1 := by omega
      go_wp2_with (first | (go_at_call 12; refine (HI.out _).mono ?_; rintro e w' ⟨rfl, rfl⟩) | (go_at_call 13; refine (HS.out _).mono ?_; rintro e w' ⟨rfl, rfl⟩) | (go_at_call 10; refine (alive_yes _).mono ?_; rintro e w' ⟨rfl, rfl⟩))
      go_ret
      exact ⟨rfl, hb⟩
  · go_enter Try.func4, Try.ntmps4
    go_wp2
    go_ret
    exact ⟨rfl, Below.refl _ _⟩

/-! ### THE ROW's STEP: WRITTEN OUT: LEAVE IT -/
set_option maxRecDepth 100000 in
theorem lifted (os : Os) (started : os.Started) (H : Type) (enc : TypeId × Value → H) :
    ReturnsInHanded {} Try.checked os 4 .any (Rows.fnCheckRestSpec.pre6 enc Try.prog Try.f4 Rows.fnCheckRestRow.domain false) (Rows.fnCheckRestSpec.post enc Try.prog Try.f4 false true false false) := by
  refine returnsInHanded_of_change (C := Try.checked) own started (by kernel_rfl) Try.func4
    (ChangeSpec.witness6 (enc := enc) (C := Try.checked) false ⟨#[], #[.slice none 0 0], []⟩ 8 (by kernel_rfl) (by kernel_rfl) (by kernel_rfl) (by kernel_rfl)) ?_
  intro W base args ds gs before hval0 hW hcnd _
  have hval : ∀ (j : Nat) t v, Try.f4.params[j]? = some t → args[j]? = some v → Value.okWide Try.prog W .any base t v := hval0
  have hW' := hW
  obtain ⟨p, q, hA0, hV, rfl, hfz, hnd⟩ := hW
  have hA : DataW.TrodAll enc Try.prog W 0 (fun _ => true) true Try.f4.params.toList args.toList ds p := hA0
  rw [Try.params4] at hA hval
  obtain ⟨v0, vs0, d0, ds0, p0, q0, hargs, rfl, rfl, h0, r0⟩ := trodAll_cons hA
  obtain ⟨rfl, rfl, rfl⟩ := trodAll_nil r0
  obtain rfl : args = #[v0] := by cases args; simp_all
  obtain ⟨rfl, rfl⟩ := trodVars_none hV
  obtain ⟨a0, len0, cap0, rfl⟩ := okWide_slice Try.underlying22 (hval 0 22 v0 rfl rfl)
  have k0 := h0
  have lt0 : ∀ x ∈ p0, x.block < W.heap.size := by obtain ⟨m, hm⟩ := k0; exact DataW.trod_lt m _ _ _ hm
  obtain ⟨z0, w0⟩ : ∃ zs, IsRow .u8 W a0 len0 cap0 zs := by
    obtain ⟨fuel, hf⟩ := h0
    rcases open_ints Try.underlying22 Try.underlying5 (by kernel_rfl) hf with ⟨hcs, _⟩ | ⟨x, l, c, zs, hcs, _, hl, hm, hz, _, hcell, hwz⟩
    · simp [Value.cells] at hcs
      obtain ⟨rfl, rfl, rfl⟩ := hcs
      exact ⟨[], .inl ⟨rfl, rfl, rfl, rfl⟩⟩
    · simp [Value.cells] at hcs
      obtain ⟨rfl, rfl, rfl⟩ := hcs
      exact ⟨zs, .inr ⟨_, rfl, hl, hm, by simpa using hz, hcell, hwz⟩⟩
  clear hA0 hval0
  refine (walk a0 len0 cap0 z0 W w0).mono fun e W' ⟨he, bel⟩ => ?_
  subst he
  exact ⟨_, rfl, _, _, _, [], _, [], hW', trodAll_mk1 (shut_bool Try.underlying4 _), (trodAll_cons_mk (Below.trod laidOut (by kernel_rfl) (of_decide_eq_true (by kernel_rfl)) k0 bel lt0) trodAll_mk0), rfl, bel.frame _, fun h => by cases h⟩

theorem over : Rows.fnCheckRestRow.holds Try.pinned (OpenSpec.ofChange Rows.fnCheckRestSpec) :=
  OpenClaim.holds_of_wide 4 Try.f4 rfl rfl rfl rfl rfl rfl rfl ⟨rfl, rfl, rfl, rfl, rfl⟩ rfl rfl rfl rfl rfl (by kernel_rfl) Try.func4 (by kernel_rfl)
    (of_decide_eq_true (by kernel_rfl)) (by unfold Func.isWrapper; first | (rw [if_pos (by decide +kernel)]; kernel_rfl) | (rw [if_neg (by decide +kernel)]; exact ⟨rfl, rfl⟩))
    (fun os started H enc _ => lifted os started H enc)

theorem proved : Rows.FnCheckRestSaid := over
#print axioms proved
end Go.Proofs.Ytkfpondpepegpaa.fnCheckRest
