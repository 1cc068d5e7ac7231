/-
  For every ship the law on HullValid's exact answer returns true and leaves its argument as it was: the program's HullValid and the model's give the same. Conditions: none beyond the form's own reach.
-/
import Derived.Test.YtmfdibjobgfgbaaRows
import Derived.Test.YtmfdibjobgfgbaaGBase
import Derived.WalkKit
import Derived.ProofKit
import Derived.OpenShut
import Derived.ShutString
import Derived.ChangeOld
import Derived.Below
import Derived.Test.YtmfdibjobgfgbaaHlOpen
import Derived.Test.YtmfdibjobgfgbaaGCr
import Derived.Test.YtmfdibjobgfgbaaSlE
import Derived.Test.YtmfdibjobgfgbaaSlI
namespace Go.Proofs.Ytmfdibjobgfgbaa.fnExactHullValid
open Go.ChangeShapes Go.WideShapes Go.ChangeAt Go.RowKit
open Go.ChangeMaps (open_string shut_string)
set_option linter.unusedVariables false


set_option maxRecDepth 10000 in
set_option maxHeartbeats 2000000 in
theorem walk (h : Hl)  (w : World) (w0 : HlFits h)  :
    Calls Try.prog 7 #[.agg #[.int .i64 h.b, .int .i64 h.r, .int .i64 h.t]] w fun e w' => e = .returned (.bool true) ∧ Below w.heap.size w w' := by
  clear w0
  have HS := Lib.hid fun w => specHullValid_any h  w
  have HI := Lib.hid fun w => implHullValid_any h  w
  generalize hlOk h = r at HS HI
  have b1 : Below w.heap.size w (w.alloc (.cells #[.int .i64 h.b, .int .i64 h.r, .int .i64 h.t] 37)) := (Below.refl _ _).alloc (Nat.le_refl _) _
  have y1 := BoxG.new w h
  obtain ⟨W1, hW1⟩ : ∃ W1, W1 = w.alloc (.cells #[.int .i64 h.b, .int .i64 h.r, .int .i64 h.t] 37) := ⟨_, rfl⟩
  rw [← hW1] at b1 y1
  have HW := Lib.hid hW1
  clear hW1
  have c0 := y1.c0
  have c1 := y1.c1
  have c2 := y1.c2
  go_enter Try.func7, Try.ntmps7
  go_wp2_with fail
  rw [← HW.out]
  go_wp2_with fail
  refine (toHull_any h W1).mono ?_
  rintro e w2 ⟨rfl, d2⟩
  have b2 := b1.trans (d2.mono b1.size)
  have y2 := y1.keep d2
  clear c0 c1 c2 y1 b1 d2
  go_wp2_with fail
  refine (HS.out w2).mono ?_
  rintro e w3 ⟨rfl, d3⟩
  have b3 := b2.trans (d3.mono b2.size)
  have y3 := y2.keep d3
  clear y2 b2 d3
  have c0 := y3.c0
  have c1 := y3.c1
  have c2 := y3.c2
  go_wp2_with fail
  refine (toHull_any h w3).mono ?_
  rintro e w4 ⟨rfl, d4⟩
  have b4 := b3.trans (d4.mono b3.size)
  clear c0 c1 c2 y3 b3 d4
  go_wp2_with fail
  refine (HI.out w4).mono ?_
  rintro e w5 ⟨rfl, d5⟩
  have b5 := b4.trans (d5.mono b4.size)
  have e1 : (r != r) = false := by simp
  go_wp2_with fail
  go_ret
  exact ⟨rfl, b5⟩

set_option maxRecDepth 100000 in
set_option maxHeartbeats 2000000 in
/-- What the walk gives, for every argument. -/
theorem contract (H : Type) (enc : TypeId × Value → H) (W : World) (base : Nat) (args : Array Value) (ds gs : List (DataW H)) (before : List MemPlace)
    (hval : ∀ (j : Nat) t v, Try.f7.params[j]? = some t → args[j]? = some v → Value.okWide Try.prog W .any base t v)
    (hW : DataW.Whole enc Try.prog Try.f7.params.toList Rows.fnExactHullValidSpec.vars false W args.toList ds gs before) :
    Calls Try.prog 7 args W fun e W' => ∃ v, e = .returned v ∧ Rows.fnExactHullValidSpec.post enc Try.prog Try.f7 false true false false W args v W' := by
  have hW' := hW
  obtain ⟨p, q, hA0, hV, rfl, hfz, hnd⟩ := hW
  have hA : DataW.TrodAll enc Try.prog W 0 (fun _ => true) true Try.f7.params.toList args.toList ds p := hA0
  rw [Try.params7] at hA hval
  obtain ⟨v0, vs0, d0, ds0, p0, q0, hargs, rfl, rfl, h0, r0⟩ := trodAll_cons hA
  obtain ⟨rfl, rfl, rfl⟩ := trodAll_nil r0
  obtain rfl : args = #[v0] := by cases args; simp_all
  obtain ⟨rfl, rfl⟩ := trodVars_none hV
  have k0 := h0
  have lt0 : ∀ x ∈ p0, x.block < W.heap.size := by obtain ⟨m, hm⟩ := k0; exact DataW.trod_lt m _ _ _ hm
  obtain ⟨hl0, rfl, w0⟩ := hull_value Try.underlying37 (by kernel_rfl) (by kernel_rfl) (by simp) (hval 0 37 v0 rfl rfl) h0
  clear hA0
  refine (walk hl0 W w0).mono fun e W' ⟨he, bel⟩ => ?_
  subst he
  exact ⟨_, rfl, _, _, _, [], _, [], hW', trodAll_mk1 (shut_bool Try.underlying4 _), (trodAll_cons_mk (Below.trod laidOut (by kernel_rfl) (of_decide_eq_true (by kernel_rfl)) k0 bel lt0) trodAll_mk0), rfl, bel.frame _, fun h => by cases h⟩

set_option maxRecDepth 100000 in
theorem lifted (os : Os) (started : os.Started) (H : Type) (enc : TypeId × Value → H) :
    ReturnsInHanded {} Try.checked os 7 .any (Rows.fnExactHullValidSpec.pre6 enc Try.prog Try.f7 Rows.fnExactHullValidRow.domain false) (Rows.fnExactHullValidSpec.post enc Try.prog Try.f7 false true false false) := by
  refine returnsInHanded_of_change (C := Try.checked) own started (by kernel_rfl) Try.func7
    (ChangeSpec.witness6 (enc := enc) (C := Try.checked) false ⟨#[], #[.agg #[.int .i64 0, .int .i64 0, .int .i64 0]], []⟩ 8 (by kernel_rfl) (by kernel_rfl) (by kernel_rfl) (by kernel_rfl)) ?_
  intro W base args ds gs before hval hW _ _
  exact contract H enc W base args ds gs before hval hW

theorem proved : Rows.FnExactHullValidSaid :=
  OpenClaim.holds_of_wide 7 Try.f7 rfl rfl rfl rfl rfl rfl rfl ⟨rfl, rfl, rfl, rfl, rfl⟩ rfl rfl rfl rfl rfl (by kernel_rfl) Try.func7 (by kernel_rfl)
    (of_decide_eq_true (by kernel_rfl)) (by unfold Func.isWrapper; first | (rw [if_pos (by decide +kernel)]; kernel_rfl) | (rw [if_neg (by decide +kernel)]; exact ⟨rfl, rfl⟩))
    (fun os started H enc _ => lifted os started H enc)
#print axioms proved
end Go.Proofs.Ytmfdibjobgfgbaa.fnExactHullValid
