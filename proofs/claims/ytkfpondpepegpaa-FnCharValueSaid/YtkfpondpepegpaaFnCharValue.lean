/-
  For every code of bytes the law on CharValue (values differ, none of a letter is a multiple of 11, all are at most 38) returns true and leaves its argument as it was. Conditions: none beyond the form's own reach.
-/
import Derived.Test.YtkfpondpepegpaaRows
import Derived.WalkKit
import Derived.ProofKit
import Derived.OpenShut
import Derived.ShutString
import Derived.ChangeOld
import Derived.Below
import Derived.Test.YtkfpondpepegpaaCr2
import Derived.Test.YtkfpondpepegpaaDr1
import Derived.Test.YtkfpondpepegpaaFcMath
import Derived.Lib.SlicesS
import Derived.BigQuiet
import Derived.Deep.QuietTactic
namespace Go.Proofs.Ytkfpondpepegpaa.fnCharValue
open Go.ChangeShapes Go.WideShapes Go.ChangeAt Go.RowKit
open Go.ChangeMaps (open_string shut_string)
set_option linter.unusedVariables false

theorem own : ownKnob Try.prog.godebug = none := by kernel_rfl
theorem laidOut : laidOutB Try.prog = true := by kernel_rfl

/-- WHAT THE WALK IS TOLD OF A SLICE OF INTEGERS THAT CAME IN: it is nil; or it leads to a row of 'cap' cells, the numbers 'zs' (the first 'len' are its elements, the rest its spare room), each fitting its kind. -/
def IsRow (k : IntKind) (w : World) (a : Option Addr) (len cap : Nat) (zs : List Int) : Prop :=
  (a = none ∧ len = 0 ∧ cap = 0 ∧ zs = []) ∨
  ∃ x, a = some x ∧ len ≤ cap ∧ cap ≤ maxLen ∧ zs.length = cap ∧ (∀ i, i < zs.length → w.cell? (x.add i) = some (.int k (zs.getD i 0))) ∧ ∀ n ∈ zs, (Lit.int k n).wf = true

set_option maxHeartbeats 1000000 in
set_option maxRecDepth 100000 in
theorem walk (a0 : Option Addr) (len0 cap0 : Nat) (z0 : List Int) (w : World) (w0 : IsRow .u8 w a0 len0 cap0 z0) :
    Calls Try.prog 3 #[.slice a0 len0 cap0] w fun e w' => e = .returned (.bool true) ∧ Below w.heap.size w w' := by
  have h8 : IsRow8 w a0 len0 cap0 := row8_of w0
  have hm := row8_len h8
  unfold maxLen at hm
  clear w0
  by_cases hl : len0 ≤ 1048576
  · go_enter Try.func3, Try.ntmps3
    go_wp2_with fail
    refine (drawCharValue_any a0 len0 cap0 w h8).mono ?_
    rintro e w1 ⟨s, hs, rfl, hb⟩
    clear h8
    have hsm : s.size ≤ maxLen := by unfold maxLen; omega
    have hall := all_same s
    have hlet : ∀ c : UInt8, s.data.toList = [c] → cvS s.data.toList = cvB (c.toNat : Int) := fun c e => by rw [e]; rfl
    have hI := fun w => implCharValue_any s w hsm
    have hS := fun w => specCharValue_any s w hsm
    have hbd := cvS_bd s.data.toList
    have hmod : 0 ≤ cvS s.data.toList → 10 ≤ cvS s.data.toList → cvS s.data.toList % 11 ≠ 0 := by
      intro h h10
      obtain ⟨c, hc, hr⟩ := cvS_pos h
      rw [hlet c hc] at h10 ⊢
      exact cvB_letter hr (by omega)
    clear hlet
    generalize cvS s.data.toList = x at hall hI hS hbd hmod
    obtain ⟨hx0, hx1⟩ := hbd
    have HALL := Lib.hid hall
    have HMOD := Lib.hid hmod
    have HI := Lib.hid hI
    have HS := Lib.hid hS
    clear hall hmod hI hS
    by_cases hx : 0 ≤ x
    · go_wp2_with (first | (go_at_call 8; refine (HI.out _).mono ?_; rintro e w' ⟨rfl, rfl⟩) | (go_at_call 9; refine (HS.out _).mono ?_; rintro e w' ⟨rfl, rfl⟩))
      generalize hA : (⟨#[65, 66, 67, 68, 69, 70, 71, 72, 73, 74, 75, 76, 77, 78, 79, 80, 81, 82, 83, 84, 85, 86, 87, 88, 89, 90, 48, 49, 50, 51, 52, 53, 54, 55, 56, 57]⟩ : ByteArray) = A
      have hA1 : A.size ≤ 36 := by rw [← hA]; decide
      have hA2 : 36 ≤ A.size := by rw [← hA]; decide
      have HA : Hid (A = allText) := Lib.hid hA.symm
      clear hA
      go_loopw [6] (fun i wr => ∃ k : Nat, k ≤ 36 ∧ i = .int .i64 k ∧ Below w.heap.size w wr) (fun i _ => 36 - (intOf i).toNat)
      case atStart => exact ⟨0, by omega, rfl, hb⟩
      case round =>
        obtain ⟨k, hk, rfl, hbr⟩ := hrel
        by_cases hlt : k < 36
        · have hks : k < A.size := by omega
          have hsame := HALL.out hx k hlt
          rw [← HA.out] at hsame
          have hAm : A.size ≤ maxLen := by unfold maxLen; omega
          have hC := Lib.hid fun w => implCharAt A k w hks hAm
          clear hAm
          by_cases he : cvB (byteAt A k) = x
          · have b1 : (cvB (byteAt A k) == x) = true := by rw [beq_iff_eq]; exact he
            have b2 : ((A.extract k (k + 1)).toList == s.toList) = true := (Lib.bytes_beq_iff _ _).2 (hsame.1 he)
            clear he hsame
            go_wp2
            go_quiet ((go_at_call 8; exact Calls.quiet_of_same ((hC.out _).mono fun _ _ h => ⟨h.1, h.2.symm⟩)))
            go_wp2
            go_roundw
            case rel => exact ⟨k + 1, by omega, by go_num, ⟨hbr.os, hbr.tape, hbr.output, hbr.size, hbr.block⟩⟩
            case measure => simp [intOf]; omega
          · have b1 : (cvB (byteAt A k) == x) = false := by rw [beq_eq_false_iff_ne]; exact he
            have b2 : ((A.extract k (k + 1)).toList == s.toList) = false := (Lib.bytes_beq_false_iff _ _).2 (fun e => he (hsame.2 e))
            clear he hsame
            go_wp2
            go_quiet ((go_at_call 8; exact Calls.quiet_of_same ((hC.out _).mono fun _ _ h => ⟨h.1, h.2.symm⟩)))
            go_wp2
            go_roundw
            case rel => exact ⟨k + 1, by omega, by go_num, ⟨hbr.os, hbr.tape, hbr.output, hbr.size, hbr.block⟩⟩
            case measure => simp [intOf]; omega
        · by_cases h10 : x < 10
          · go_wp2
            go_ret
            exact ⟨rfl, hbr⟩
          · have h11 : (x % 11 != 0) = true := by rw [bne_iff_ne]; exact HMOD.out hx (by omega)
            go_wp2
            go_ret
            exact ⟨rfl, hbr⟩
    · obtain rfl : x = -1 := by omega
      go_wp2_with (first | (go_at_call 8; refine (HI.out _).mono ?_; rintro e w' ⟨rfl, rfl⟩) | (go_at_call 9; refine (HS.out _).mono ?_; rintro e w' ⟨rfl, rfl⟩) | (go_at_call 10; refine (alive_yes _).mono ?_; rintro e w' ⟨rfl, rfl⟩))
      go_ret
      exact ⟨rfl, hb⟩
  · go_enter Try.func3, Try.ntmps3
    go_wp2
    go_ret
    exact ⟨rfl, Below.refl _ _⟩

/-! ### THE ROW's STEP: WRITTEN OUT: LEAVE IT -/
set_option maxRecDepth 100000 in
theorem lifted (os : Os) (started : os.Started) (H : Type) (enc : TypeId × Value → H) :
    ReturnsInHanded {} Try.checked os 3 .any (Rows.fnCharValueSpec.pre6 enc Try.prog Try.f3 Rows.fnCharValueRow.domain false) (Rows.fnCharValueSpec.post enc Try.prog Try.f3 false true false false) := by
  refine returnsInHanded_of_change (C := Try.checked) own started (by kernel_rfl) Try.func3
    (ChangeSpec.witness6 (enc := enc) (C := Try.checked) false ⟨#[], #[.slice none 0 0], []⟩ 8 (by kernel_rfl) (by kernel_rfl) (by kernel_rfl) (by kernel_rfl)) ?_
  intro W base args ds gs before hval0 hW hcnd _
  have hval : ∀ (j : Nat) t v, Try.f3.params[j]? = some t → args[j]? = some v → Value.okWide Try.prog W .any base t v := hval0
  have hW' := hW
  obtain ⟨p, q, hA0, hV, rfl, hfz, hnd⟩ := hW
  have hA : DataW.TrodAll enc Try.prog W 0 (fun _ => true) true Try.f3.params.toList args.toList ds p := hA0
  rw [Try.params3] at hA hval
  obtain ⟨v0, vs0, d0, ds0, p0, q0, hargs, rfl, rfl, h0, r0⟩ := trodAll_cons hA
  obtain ⟨rfl, rfl, rfl⟩ := trodAll_nil r0
  obtain rfl : args = #[v0] := by cases args; simp_all
  obtain ⟨rfl, rfl⟩ := trodVars_none hV
  obtain ⟨a0, len0, cap0, rfl⟩ := okWide_slice Try.underlying22 (hval 0 22 v0 rfl rfl)
  have k0 := h0
  have lt0 : ∀ x ∈ p0, x.block < W.heap.size := by obtain ⟨m, hm⟩ := k0; exact DataW.trod_lt m _ _ _ hm
  obtain ⟨z0, w0⟩ : ∃ zs, IsRow .u8 W a0 len0 cap0 zs := by
    obtain ⟨fuel, hf⟩ := h0
    rcases open_ints Try.underlying22 Try.underlying5 (by kernel_rfl) hf with ⟨hcs, _⟩ | ⟨x, l, c, zs, hcs, _, hl, hm, hz, _, hcell, hwz⟩
    · simp [Value.cells] at hcs
      obtain ⟨rfl, rfl, rfl⟩ := hcs
      exact ⟨[], .inl ⟨rfl, rfl, rfl, rfl⟩⟩
    · simp [Value.cells] at hcs
      obtain ⟨rfl, rfl, rfl⟩ := hcs
      exact ⟨zs, .inr ⟨_, rfl, hl, hm, by simpa using hz, hcell, hwz⟩⟩
  clear hA0 hval0
  refine (walk a0 len0 cap0 z0 W w0).mono fun e W' ⟨he, bel⟩ => ?_
  subst he
  exact ⟨_, rfl, _, _, _, [], _, [], hW', trodAll_mk1 (shut_bool Try.underlying4 _), (trodAll_cons_mk (Below.trod laidOut (by kernel_rfl) (of_decide_eq_true (by kernel_rfl)) k0 bel lt0) trodAll_mk0), rfl, bel.frame _, fun h => by cases h⟩

theorem over : Rows.fnCharValueRow.holds Try.pinned (OpenSpec.ofChange Rows.fnCharValueSpec) :=
  OpenClaim.holds_of_wide 3 Try.f3 rfl rfl rfl rfl rfl rfl rfl ⟨rfl, rfl, rfl, rfl, rfl⟩ rfl rfl rfl rfl rfl (by kernel_rfl) Try.func3 (by kernel_rfl)
    (of_decide_eq_true (by kernel_rfl)) (by unfold Func.isWrapper; first | (rw [if_pos (by decide +kernel)]; kernel_rfl) | (rw [if_neg (by decide +kernel)]; exact ⟨rfl, rfl⟩))
    (fun os started H enc _ => lifted os started H enc)

theorem proved : Rows.FnCharValueSaid := over
#print axioms proved
end Go.Proofs.Ytkfpondpepegpaa.fnCharValue
