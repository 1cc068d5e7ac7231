/-
  For every ship the law on PlanEmpty's exact answer returns true and leaves its argument as it was: the program's PlanEmpty and the model's give the same, and what the program's gives is shared with nothing. Conditions: none beyond the form's own reach.
-/
import Derived.Test.YtggbgjadfmjaaaaRows
import Derived.Test.YtggbgjadfmjaaaaGBase
import Derived.WalkKit
import Derived.ProofKit
import Derived.OpenShut
import Derived.ShutString
import Derived.ChangeOld
import Derived.Below
import Derived.Test.YtggbgjadfmjaaaaHlOpen
import Derived.Test.YtggbgjadfmjaaaaGCr
import Derived.Test.YtggbgjadfmjaaaaSlE
import Derived.Test.YtggbgjadfmjaaaaPlO
import Derived.Test.YtggbgjadfmjaaaaPlI
namespace Go.Proofs.Ytggbgjadfmjaaaa.fnExactPlanEmpty
open Go.ChangeShapes Go.WideShapes Go.ChangeAt Go.RowKit
open Go.ChangeMaps (open_string shut_string)
set_option linter.unusedVariables false


set_option maxRecDepth 10000 in
set_option maxHeartbeats 4000000 in
theorem walk (h : Hl) (w : World) (w0 : HlFits h) :
    Calls Try.prog 12 #[.agg #[.int .i64 h.b, .int .i64 h.r, .int .i64 h.t]] w fun e w' => e = .returned (.bool true) ∧ Below w.heap.size w w' := by
  clear w0
  have b1 : Below w.heap.size w (w.alloc (.cells #[.int .i64 h.b, .int .i64 h.r, .int .i64 h.t] 53)) := (Below.refl _ _).alloc (Nat.le_refl _) _
  have y1 := BoxG.new w h
  obtain ⟨W0, hW0⟩ : ∃ W0, W0 = w.alloc (.cells #[.int .i64 h.b, .int .i64 h.r, .int .i64 h.t] 53) := ⟨_, rfl⟩
  rw [← hW0] at b1 y1
  have HW := Lib.hid hW0
  have c0 := b1
  clear hW0 b1
  have HS := Lib.hid fun w => specPlanEmpty_any h w
  have HI := Lib.hid fun w => implPlanEmpty_any h w
  have hlen : (emptyP h).length ≤ 36 := by
    unfold emptyP
    by_cases hk : hlOk h = true
    · rw [if_pos hk, List.length_replicate]; have := (slMany_bd hk).2.1; omega
    · rw [if_neg hk]; simp
  generalize emptyP h = r at HS HI hlen
  have ME := Lib.hid fun v K w (h : FreeE K w v r) => markIntS_e v K r w h (by omega)
  have HE := Lib.hid fun v w (h : HoldsI w v (marksI 1 r.length)) => heldIntS_1 v r.length w h (by omega)
  have yy0 : (0 : Int) ≤ ((1 + r.length : Nat) : Int) := by omega
  generalize ((1 + r.length : Nat) : Int) = Y at ME HE yy0
  have hY : (Y != Y) = false := by simp
  have k0 := y1.c0
  have k1 := y1.c1
  have k2 := y1.c2
  go_enter Try.func12, Try.ntmps12
  go_wp2_with fail
  rw [← HW.out]
  clear k0 k1 k2
  have k0 := y1.c0
  have k1 := y1.c1
  have k2 := y1.c2
  go_wp2_with fail
  refine (toHull_any h W0).mono ?_
  rintro e W1 ⟨rfl, d⟩
  clear k0 k1 k2
  have c1 := c0.trans (d.mono c0.size)
  have y1 := y1.keep d
  clear d c0
  go_wp2_with fail
  refine (HS.out W1).mono ?_
  rintro e W2 ⟨vs, rfl, g, d⟩
  have c2 := c1.trans (d.mono c1.size)
  have y1 := y1.keep d
  have HV := Lib.hid fun w' (hs : Below W2.heap.size W2 w') => g.holds.keep hs
  have YV := Lib.hid fun w' (hs : Below W2.heap.size W2 w') => y1.keep hs
  have e2 : Below W2.heap.size W2 W2 := Below.refl _ _
  clear d c1 g y1 HS
  have k0 := (YV.out _ e2).c0
  have k1 := (YV.out _ e2).c1
  have k2 := (YV.out _ e2).c2
  go_wp2_with fail
  refine (toHull_any h W2).mono ?_
  rintro e W3 ⟨rfl, d⟩
  clear k0 k1 k2
  have c3 := c2.trans (d.mono c2.size)
  have e3 := e2.trans (d.mono e2.size)
  clear d c2
  clear e2
  have hc3 := c3.size
  have he3 := e3.size
  go_wp2_with fail
  refine (HI.out W3).mono ?_
  rintro e W4 ⟨vi, rfl, g9, d⟩
  have c4 := c3.trans (d.mono c3.size)
  have e4 := e3.trans (d.mono e3.size)
  clear d c3 e3
  go_wp2_with fail
  refine (eqIntS_same vi vs r W4 g9.holds (HV.out _ e4)).mono ?_
  rintro e W5 ⟨rfl, d⟩
  have c5 := c4.trans (d.mono c4.size)
  have e5 := e4.trans (d.mono e4.size)
  have g9 := g9.keep d
  clear d c4 e4
  go_wp2_with fail
  refine (ME.out vi _ W5 g9).mono ?_
  rintro e W6 ⟨rfl, m9, d⟩
  have c6 := c5.trans (d.mono hc3)
  have e6 := e5.trans (d.mono he3)
  clear d c5 e5 g9
  go_wp2_with fail
  refine (HE.out vi W6 m9).mono ?_
  rintro e w' ⟨rfl, rfl⟩
  have k0 := (YV.out _ e6).c0
  have k1 := (YV.out _ e6).c1
  have k2 := (YV.out _ e6).c2
  go_wp2_with fail
  refine (toHull_any h W6).mono ?_
  rintro e W7 ⟨rfl, d⟩
  clear k0 k1 k2
  have c7 := c6.trans (d.mono c6.size)
  have e7 := e6.trans (d.mono e6.size)
  have m9 := m9.keep d
  clear d c6
  clear e6
  go_wp2_with fail
  refine (HI.out W7).mono ?_
  rintro e W8 ⟨vj, rfl, gj, d⟩
  have c8 := c7.trans (d.mono c7.size)
  have e8 := e7.trans (d.mono e7.size)
  have m9 := m9.keep d
  clear d c7 e7
  go_wp2_with fail
  refine (eqIntS_same vj vs r W8 gj.holds (HV.out _ e8)).mono ?_
  rintro e W9 ⟨rfl, d⟩
  have c9 := c8.trans (d.mono c8.size)
  have m9 := m9.keep d
  clear d c8 e8 gj
  go_wp2_with fail
  refine (HE.out vi W9 m9).mono ?_
  rintro e w' ⟨rfl, rfl⟩
  go_wp2_with fail
  go_ret
  exact ⟨rfl, c9⟩

set_option maxRecDepth 100000 in
set_option maxHeartbeats 2000000 in
/-- What the walk gives, for every argument. -/
theorem contract (H : Type) (enc : TypeId × Value → H) (W : World) (base : Nat) (args : Array Value) (ds gs : List (DataW H)) (before : List MemPlace)
    (hval : ∀ (j : Nat) t v, Try.f12.params[j]? = some t → args[j]? = some v → Value.okWide Try.prog W .any base t v)
    (hW : DataW.Whole enc Try.prog Try.f12.params.toList Rows.fnExactPlanEmptySpec.vars false W args.toList ds gs before) :
    Calls Try.prog 12 args W fun e W' => ∃ v, e = .returned v ∧ Rows.fnExactPlanEmptySpec.post enc Try.prog Try.f12 false true false false W args v W' := by
  have hW' := hW
  obtain ⟨p, q, hA0, hV, rfl, hfz, hnd⟩ := hW
  have hA : DataW.TrodAll enc Try.prog W 0 (fun _ => true) true Try.f12.params.toList args.toList ds p := hA0
  rw [Try.params12] at hA hval
  obtain ⟨v0, vs0, d0, ds0, p0, q0, hargs, rfl, rfl, h0, r0⟩ := trodAll_cons hA
  obtain ⟨rfl, rfl, rfl⟩ := trodAll_nil r0
  obtain rfl : args = #[v0] := by cases args; simp_all
  obtain ⟨rfl, rfl⟩ := trodVars_none hV
  have k0 := h0
  have lt0 : ∀ x ∈ p0, x.block < W.heap.size := by obtain ⟨m, hm⟩ := k0; exact DataW.trod_lt m _ _ _ hm
  obtain ⟨hl0, rfl, w0⟩ := hull_value Try.underlying53 (by kernel_rfl) (by kernel_rfl) (by simp) (hval 0 53 v0 rfl rfl) h0
  clear hA0
  refine (walk hl0 W w0).mono fun e W' ⟨he, bel⟩ => ?_
  subst he
  exact ⟨_, rfl, _, _, _, [], _, [], hW', trodAll_mk1 (shut_bool Try.underlying4 _), (trodAll_cons_mk (Below.trod laidOut (by kernel_rfl) (of_decide_eq_true (by kernel_rfl)) k0 bel lt0) trodAll_mk0), rfl, bel.frame _, fun h => by cases h⟩

set_option maxRecDepth 100000 in
theorem lifted (os : Os) (started : os.Started) (H : Type) (enc : TypeId × Value → H) :
    ReturnsInHanded {} Try.checked os 12 .any (Rows.fnExactPlanEmptySpec.pre6 enc Try.prog Try.f12 Rows.fnExactPlanEmptyRow.domain false) (Rows.fnExactPlanEmptySpec.post enc Try.prog Try.f12 false true false false) := by
  refine returnsInHanded_of_change (C := Try.checked) own started (by kernel_rfl) Try.func12
    (ChangeSpec.witness6 (enc := enc) (C := Try.checked) false ⟨#[], #[.agg #[.int .i64 0, .int .i64 0, .int .i64 0]], []⟩ 8 (by kernel_rfl) (by kernel_rfl) (by kernel_rfl) (by kernel_rfl)) ?_
  intro W base args ds gs before hval hW _ _
  exact contract H enc W base args ds gs before hval hW

theorem proved : Rows.FnExactPlanEmptySaid :=
  OpenClaim.holds_of_wide 12 Try.f12 rfl rfl rfl rfl rfl rfl rfl ⟨rfl, rfl, rfl, rfl, rfl⟩ rfl rfl rfl rfl rfl (by kernel_rfl) Try.func12 (by kernel_rfl)
    (of_decide_eq_true (by kernel_rfl)) (by unfold Func.isWrapper; first | (rw [if_pos (by decide +kernel)]; kernel_rfl) | (rw [if_neg (by decide +kernel)]; exact ⟨rfl, rfl⟩))
    (fun os started H enc _ => lifted os started H enc)
#print axioms proved
end Go.Proofs.Ytggbgjadfmjaaaa.fnExactPlanEmpty
