/-
  For every list of boxes the law on BoxesValid's exact answer returns true and leaves its argument as it was: the program's BoxesValid and the model's give the same, and the program's writes nothing. Conditions: none beyond the form's own reach.
-/
import Derived.Test.YtjnoekhdkmgagaaRows
import Derived.Test.YtjnoekhdkmgagaaGBase
import Derived.WalkKit
import Derived.ProofKit
import Derived.OpenShut
import Derived.ShutString
import Derived.ChangeOld
import Derived.Below
import Derived.Test.YtjnoekhdkmgagaaGBx
import Derived.Test.YtjnoekhdkmgagaaGBl
namespace Go.Proofs.Ytjnoekhdkmgagaa.fnExactBoxesValid
open Go.ChangeShapes Go.WideShapes Go.ChangeAt Go.RowKit
open Go.ChangeMaps (open_string shut_string)
set_option linter.unusedVariables false


set_option maxHeartbeats 1000000 in
theorem walk (a0 : Option Addr) (len0 cap0 : Nat) (l0 : List Bx) (w : World) (w0 : IsBoxes w a0 len0 cap0 l0) :
    Calls Try.prog 9 #[.slice a0 len0 cap0] w fun e w' => e = .returned (.bool true) ∧ Below w.heap.size w w' := by
  obtain ⟨hh, hl⟩ := HoldsBx.of_came w0
  have hm : len0 ≤ maxLen := by obtain ⟨_, cap, h1, h2, h3, _⟩ := hh; omega
  have HZ := Lib.hid fun w => szBoxS_any a0 len0 cap0 1048576 w (by omega) (by omega) hm
  have HH := Lib.hid hh
  clear w0 hh hm
  by_cases hn : len0 ≤ 1048576
  · rw [if_neg (by omega)] at HZ
    have HT := Lib.hid fun w1 (b1 : Below w.heap.size w w1) => toBoxS_any (.slice a0 len0 cap0) l0 w1 (HH.out.keep b1) (by omega)
    generalize Value.slice a0 len0 cap0 = v0 at HZ HT HH ⊢
    have d0 : decide ((1048576 : Int) - len0 < 0) = false := decide_eq_false (by omega)
    have HS := Lib.hid fun u w1 (h : HoldsBx w1 u l0) => specBoxesValid_any u l0 w1 h
    have HI := Lib.hid fun u w1 (h : HoldsBx w1 u l0) => implBoxesValid_any u l0 w1 h
    generalize bxsOk l0 = r at HS HI
    have hr : (r != r) = false := by cases r <;> rfl
    go_enter Try.func9, Try.ntmps9
    go_wp2_with fail
    refine (HZ.out w).mono ?_
    rintro e w' ⟨rfl, rfl⟩
    go_wp2_with fail
    refine (HT.out w (Below.refl _ _)).mono ?_
    rintro e w1 ⟨u1, rfl, h1, b1⟩
    go_wp2_with fail
    refine (HS.out u1 w1 h1).mono ?_
    rintro e w2 ⟨rfl, b2⟩
    have c2 := b1.trans (b2.mono b1.size)
    go_wp2_with fail
    refine (HT.out w2 c2).mono ?_
    rintro e w3 ⟨u2, rfl, h2, b3⟩
    have c3 := c2.trans (b3.mono c2.size)
    go_wp2_with fail
    refine (HI.out u2 w3 h2).mono ?_
    rintro e w4 ⟨rfl, b4⟩
    have c4 := c3.trans (b4.mono c3.size)
    go_wp2_with fail
    refine (HT.out w4 c4).mono ?_
    rintro e w5 ⟨u3, rfl, h3, b5⟩
    have c5 := c4.trans (b5.mono c4.size)
    go_wp2_with fail
    refine (eqBoxS_same u2 u3 l0 w5 ((h2.keep b4).keep b5) h3).mono ?_
    rintro e w6 ⟨rfl, b6⟩
    have c6 := c5.trans (b6.mono c5.size)
    go_wp2_with fail
    go_ret
    exact ⟨rfl, c6⟩
  · rw [if_pos (by omega)] at HZ
    go_enter Try.func9, Try.ntmps9
    go_wp2_with fail
    refine (HZ.out w).mono ?_
    rintro e w' ⟨rfl, rfl⟩
    go_wp2_with fail
    go_ret
    exact ⟨rfl, Below.refl _ _⟩

set_option maxRecDepth 100000 in
set_option maxHeartbeats 2000000 in
/-- What the walk gives, for every argument. -/
theorem contract (H : Type) (enc : TypeId × Value → H) (W : World) (base : Nat) (args : Array Value) (ds gs : List (DataW H)) (before : List MemPlace)
    (hval : ∀ (j : Nat) t v, Try.f9.params[j]? = some t → args[j]? = some v → Value.okWide Try.prog W .any base t v)
    (hW : DataW.Whole enc Try.prog Try.f9.params.toList Rows.fnExactBoxesValidSpec.vars false W args.toList ds gs before) :
    Calls Try.prog 9 args W fun e W' => ∃ v, e = .returned v ∧ Rows.fnExactBoxesValidSpec.post enc Try.prog Try.f9 false true false false W args v W' := by
  have hW' := hW
  obtain ⟨p, q, hA0, hV, rfl, hfz, hnd⟩ := hW
  have hA : DataW.TrodAll enc Try.prog W 0 (fun _ => true) true Try.f9.params.toList args.toList ds p := hA0
  rw [Try.params9] at hA hval
  obtain ⟨v0, vs0, d0, ds0, p0, q0, hargs, rfl, rfl, h0, r0⟩ := trodAll_cons hA
  obtain ⟨rfl, rfl, rfl⟩ := trodAll_nil r0
  obtain rfl : args = #[v0] := by cases args; simp_all
  obtain ⟨rfl, rfl⟩ := trodVars_none hV
  have k0 := h0
  have lt0 : ∀ x ∈ p0, x.block < W.heap.size := by obtain ⟨m, hm⟩ := k0; exact DataW.trod_lt m _ _ _ hm
  obtain ⟨a0, len0, cap0, rfl⟩ := okWide_slice Try.underlying46 (hval 0 46 v0 rfl rfl)
  obtain ⟨l0, x0⟩ : ∃ l, IsBoxes W a0 len0 cap0 l := by
    obtain ⟨fuel, hf⟩ := h0
    exact boxes_slice Try.underlying46 Try.underlying39 (by kernel_rfl) (by kernel_rfl) (by simp) (by simpa [Value.cells] using hf)
  clear hA0
  refine (walk a0 len0 cap0 l0 W x0).mono fun e W' ⟨he, bel⟩ => ?_
  subst he
  exact ⟨_, rfl, _, _, _, [], _, [], hW', trodAll_mk1 (shut_bool Try.underlying4 _), (trodAll_cons_mk (Below.trod laidOut (by kernel_rfl) (of_decide_eq_true (by kernel_rfl)) k0 bel lt0) trodAll_mk0), rfl, bel.frame _, fun h => by cases h⟩

set_option maxRecDepth 100000 in
theorem lifted (os : Os) (started : os.Started) (H : Type) (enc : TypeId × Value → H) :
    ReturnsInHanded {} Try.checked os 9 .any (Rows.fnExactBoxesValidSpec.pre6 enc Try.prog Try.f9 Rows.fnExactBoxesValidRow.domain false) (Rows.fnExactBoxesValidSpec.post enc Try.prog Try.f9 false true false false) := by
  refine returnsInHanded_of_change (C := Try.checked) own started (by kernel_rfl) Try.func9
    (ChangeSpec.witness6 (enc := enc) (C := Try.checked) false ⟨#[], #[.slice none 0 0], []⟩ 8 (by kernel_rfl) (by kernel_rfl) (by kernel_rfl) (by kernel_rfl)) ?_
  intro W base args ds gs before hval hW _ _
  exact contract H enc W base args ds gs before hval hW

theorem proved : Rows.FnExactBoxesValidSaid :=
  OpenClaim.holds_of_wide 9 Try.f9 rfl rfl rfl rfl rfl rfl rfl ⟨rfl, rfl, rfl, rfl, rfl⟩ rfl rfl rfl rfl rfl (by kernel_rfl) Try.func9 (by kernel_rfl)
    (of_decide_eq_true (by kernel_rfl)) (by unfold Func.isWrapper; first | (rw [if_pos (by decide +kernel)]; kernel_rfl) | (rw [if_neg (by decide +kernel)]; exact ⟨rfl, rfl⟩))
    (fun os started H enc _ => lifted os started H enc)
#print axioms proved
end Go.Proofs.Ytjnoekhdkmgagaa.fnExactBoxesValid
