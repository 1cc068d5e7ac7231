/-
  For all lists the law on PlugMany's exact answer returns true and leaves its arguments as they were: the program's PlugMany and the model's give the same, and the program's writes nothing. Conditions: none beyond the form's own reach.
-/
import Derived.Test.YthlcjojhmhoadaaRows
import Derived.Test.YthlcjojhmhoadaaGBase
import Derived.WalkKit
import Derived.ProofKit
import Derived.OpenShut
import Derived.ShutString
import Derived.ChangeOld
import Derived.Below
import Derived.Test.YthlcjojhmhoadaaYbOpen
import Derived.Test.YthlcjojhmhoadaaYlA
import Derived.Test.YthlcjojhmhoadaaGYh
import Derived.Test.YthlcjojhmhoadaaGYl
import Derived.Test.YthlcjojhmhoadaaPgC
import Derived.Test.YthlcjojhmhoadaaPgT
import Derived.Test.YthlcjojhmhoadaaPgS
import Derived.Test.YthlcjojhmhoadaaPgI
namespace Go.Proofs.Ythlcjojhmhoadaa.fnExactPlugMany
open Go.ChangeShapes Go.WideShapes Go.ChangeAt Go.RowKit
open Go.ChangeMaps (open_string shut_string)
set_option linter.unusedVariables false


set_option maxRecDepth 10000 in
set_option maxHeartbeats 4000000 in
theorem walk (u0 : Value) (ss : List (List Int)) (w : World) (w0 : HoldsY w u0 ss) :
    Calls Try.prog 11 #[u0] w fun e w' => e = .returned (.bool true) ∧ Below w.heap.size w w' := by
  have SZ := Lib.hid (szIntSS_any u0 ss 1048576 w w0 (by omega) (by omega))
  have GG := Lib.hid w0
  have hsz : szY 1048576 ss < 0 ∨ 0 ≤ szY 1048576 ss ∧ ss.length + ss.flatten.length ≤ 1048576 := by unfold szY; split <;> omega
  obtain ⟨a0, c0, rfl⟩ : ∃ a c, u0 = .slice a ss.length c := by obtain ⟨a, c, e, _⟩ := w0; exact ⟨a, c, e⟩
  clear w0
  generalize szY 1048576 ss = z at SZ hsz
  rcases hsz with hz | ⟨hz, gn⟩
  · go_enter Try.func11, Try.ntmps11
    go_wp2_with fail
    refine SZ.out.mono ?_
    rintro e w' ⟨rfl, rfl⟩
    go_wp2_with fail
    go_ret
    exact ⟨rfl, Below.refl _ _⟩
  · have GT := Lib.hid fun w1 (b1 : Below w.heap.size w w1) => toIntSS_free (.slice a0 ss.length c0) ss w1 (GG.out.keep b1) gn
    have HS := Lib.hid fun v w1 (g : HoldsY w1 v ss) => specPlugMany_any v ss w1 g
    have HI := Lib.hid fun v w1 (g : HoldsY w1 v ss) => implPlugMany_any v ss w1 g
    generalize plugM ss = r at HS HI
    have hr : (r != r) = false := by simp
    clear gn
    go_enter Try.func11, Try.ntmps11
    go_wp2_with fail
    refine SZ.out.mono ?_
    rintro e w' ⟨rfl, rfl⟩
    have C0 := Below.refl w.heap.size w
    go_wp2_with fail
    refine (GT.out w C0).mono ?_
    rintro e X1 ⟨v1, rfl, g1, d⟩
    have C1 := C0.trans (d.mono C0.size)
    clear d C0
    obtain ⟨p1, q1_, rfl⟩ := g1.form
    have k1 := g1.holdsY
    clear g1
    go_wp2_with fail
    refine (HS.out _ X1 k1).mono ?_
    rintro e X2 ⟨rfl, d⟩
    have C2 := C1.trans (d.mono C1.size)
    have k1 := k1.keep d
    clear d C1
    clear k1
    go_wp2_with fail
    refine (GT.out X2 C2).mono ?_
    rintro e X3 ⟨v3, rfl, g3, d⟩
    have C3 := C2.trans (d.mono C2.size)
    clear d C2
    obtain ⟨p3, q3, rfl⟩ := g3.form
    go_wp2_with fail
    refine (HI.out _ X3 g3.holdsY).mono ?_
    rintro e X4 ⟨rfl, d⟩
    have C4 := C3.trans (d.mono C3.size)
    have g3 := g3.keep d
    clear d C3
    go_wp2_with fail
    refine (GT.out X4 C4).mono ?_
    rintro e X5 ⟨v7, rfl, g7, d⟩
    have C5 := C4.trans (d.mono C4.size)
    have g3 := g3.keep d
    clear d C4
    obtain ⟨p7, q7, rfl⟩ := g7.form
    have k7 := g7.holdsY
    clear g7
    go_wp2_with fail
    refine (eqIntSS_same _ _ ss X5 g3.holdsY k7).mono ?_
    rintro e X6 ⟨rfl, d⟩
    have C6 := C5.trans (d.mono C5.size)
    have g3 := g3.keep d
    clear d C5
    clear k7
    go_wp2_with fail
    go_ret
    exact ⟨rfl, C6⟩

set_option maxRecDepth 100000 in
set_option maxHeartbeats 2000000 in
/-- What the walk gives, for every argument. -/
theorem contract (H : Type) (enc : TypeId × Value → H) (W : World) (base : Nat) (args : Array Value) (ds gs : List (DataW H)) (before : List MemPlace)
    (hval : ∀ (j : Nat) t v, Try.f11.params[j]? = some t → args[j]? = some v → Value.okWide Try.prog W .any base t v)
    (hW : DataW.Whole enc Try.prog Try.f11.params.toList Rows.fnExactPlugManySpec.vars false W args.toList ds gs before) :
    Calls Try.prog 11 args W fun e W' => ∃ v, e = .returned v ∧ Rows.fnExactPlugManySpec.post enc Try.prog Try.f11 false true false false W args v W' := by
  have hW' := hW
  obtain ⟨p, q, hA0, hV, rfl, hfz, hnd⟩ := hW
  have hA : DataW.TrodAll enc Try.prog W 0 (fun _ => true) true Try.f11.params.toList args.toList ds p := hA0
  rw [Try.params11] at hA hval
  obtain ⟨v0, vs0, d0, ds0, p0, q0, hargs, rfl, rfl, h0, r0⟩ := trodAll_cons hA
  obtain ⟨rfl, rfl, rfl⟩ := trodAll_nil r0
  obtain rfl : args = #[v0] := by cases args; simp_all
  obtain ⟨rfl, rfl⟩ := trodVars_none hV
  have k0 := h0
  have lt0 : ∀ x ∈ p0, x.block < W.heap.size := by obtain ⟨m, hm⟩ := k0; exact DataW.trod_lt m _ _ _ hm
  obtain ⟨a0, len0, cap0, rfl⟩ := okWide_slice Try.underlying23 (hval 0 23 v0 rfl rfl)
  obtain ⟨y0, w0⟩ : ∃ ss, HoldsY W (.slice a0 len0 cap0) ss := by
    obtain ⟨fuel, hf⟩ := h0
    obtain ⟨v9, ss9, e9, hh9⟩ := yard_rows rfl hf
    simp [Value.cells] at e9
    subst e9
    exact ⟨ss9, hh9⟩
  clear hA0
  refine (walk (.slice a0 len0 cap0) y0 W w0).mono fun e W' ⟨he, bel⟩ => ?_
  subst he
  exact ⟨_, rfl, _, _, _, [], _, [], hW', trodAll_mk1 (shut_bool Try.underlying4 _), (trodAll_cons_mk (Below.trod laidOut (by kernel_rfl) (of_decide_eq_true (by kernel_rfl)) k0 bel lt0) trodAll_mk0), rfl, bel.frame _, fun h => by cases h⟩

set_option maxRecDepth 100000 in
theorem lifted (os : Os) (started : os.Started) (H : Type) (enc : TypeId × Value → H) :
    ReturnsInHanded {} Try.checked os 11 .any (Rows.fnExactPlugManySpec.pre6 enc Try.prog Try.f11 Rows.fnExactPlugManyRow.domain false) (Rows.fnExactPlugManySpec.post enc Try.prog Try.f11 false true false false) := by
  refine returnsInHanded_of_change (C := Try.checked) own started (by kernel_rfl) Try.func11
    (ChangeSpec.witness6 (enc := enc) (C := Try.checked) false ⟨#[], #[.slice none 0 0], []⟩ 8 (by kernel_rfl) (by kernel_rfl) (by kernel_rfl) (by kernel_rfl)) ?_
  intro W base args ds gs before hval hW _ _
  exact contract H enc W base args ds gs before hval hW

theorem proved : Rows.FnExactPlugManySaid :=
  OpenClaim.holds_of_wide 11 Try.f11 rfl rfl rfl rfl rfl rfl rfl ⟨rfl, rfl, rfl, rfl, rfl⟩ rfl rfl rfl rfl rfl (by kernel_rfl) Try.func11 (by kernel_rfl)
    (of_decide_eq_true (by kernel_rfl)) (by unfold Func.isWrapper; first | (rw [if_pos (by decide +kernel)]; kernel_rfl) | (rw [if_neg (by decide +kernel)]; exact ⟨rfl, rfl⟩))
    (fun os started H enc _ => lifted os started H enc)
#print axioms proved
end Go.Proofs.Ythlcjojhmhoadaa.fnExactPlugMany
