/-
  For all lists the law on PlugsValid's exact answer returns true and leaves its arguments as they were: the program's PlugsValid and the model's give the same, and the program's writes nothing. Conditions: none beyond the form's own reach.
-/
import Derived.Test.YthlcjojhmhoadaaRows
import Derived.Test.YthlcjojhmhoadaaGBase
import Derived.WalkKit
import Derived.ProofKit
import Derived.OpenShut
import Derived.ShutString
import Derived.ChangeOld
import Derived.Below
import Derived.Test.YthlcjojhmhoadaaYbOpen
import Derived.Test.YthlcjojhmhoadaaYlA
import Derived.Test.YthlcjojhmhoadaaGYh
import Derived.Test.YthlcjojhmhoadaaGYl
import Derived.Test.YthlcjojhmhoadaaPgC
import Derived.Test.YthlcjojhmhoadaaPgT
import Derived.Test.YthlcjojhmhoadaaPgS
import Derived.Test.YthlcjojhmhoadaaPgI
namespace Go.Proofs.Ythlcjojhmhoadaa.fnExactPlugsValid
open Go.ChangeShapes Go.WideShapes Go.ChangeAt Go.RowKit
open Go.ChangeMaps (open_string shut_string)
set_option linter.unusedVariables false


/-- What the walk is told of a slice of integers that came in. -/
def IsRow (k : IntKind) (w : World) (a : Option Addr) (len cap : Nat) (zs : List Int) : Prop :=
  (a = none ∧ len = 0 ∧ cap = 0 ∧ zs = []) ∨
  ∃ x, a = some x ∧ len ≤ cap ∧ cap ≤ maxLen ∧ zs.length = cap ∧ (∀ i, i < zs.length → w.cell? (x.add i) = some (.int k (zs.getD i 0))) ∧ ∀ n ∈ zs, (Lit.int k n).wf = true

set_option maxRecDepth 10000 in
set_option maxHeartbeats 4000000 in
theorem walk (u0 : Value) (ss : List (List Int)) (a1 : Option Addr) (len1 cap1 : Nat) (z1 : List Int) (w : World) (w0 : HoldsY w u0 ss) (w1 : IsRowI w a1 len1 cap1 z1) :
    Calls Try.prog 9 #[u0, .slice a1 len1 cap1] w fun e w' => e = .returned (.bool true) ∧ Below w.heap.size w w' := by
  obtain ⟨gg, gl⟩ := HoldsI.of_came w1
  generalize z1.take len1 = l at gg gl
  have gm : len1 ≤ maxLen := by obtain ⟨_, cap, h1, h2, h3, _⟩ := gg; omega
  unfold maxLen at gm
  subst gl
  have GI := Lib.hid gg
  have SZ := Lib.hid (szIntSS_any u0 ss 1048576 w w0 (by omega) (by omega))
  have GG := Lib.hid w0
  have hsz : szY 1048576 ss < 0 ∨ 0 ≤ szY 1048576 ss ∧ ss.length + ss.flatten.length ≤ 1048576 := by unfold szY; split <;> omega
  obtain ⟨a0, c0, rfl⟩ : ∃ a c, u0 = .slice a ss.length c := by obtain ⟨a, c, e, _⟩ := w0; exact ⟨a, c, e⟩
  clear w0 gg w1
  generalize szY 1048576 ss = z at SZ hsz
  by_cases glen : 1048576 < l.length
  · have glen2 : (1048576 : Int) < (l.length : Int) := by omega
    go_enter Try.func9, Try.ntmps9
    go_wp2_with fail
    go_ret
    exact ⟨rfl, Below.refl _ _⟩
  have glen2 : ¬ (1048576 : Int) < (l.length : Int) := by omega
  rcases hsz with hz | ⟨hz, gn⟩
  · go_enter Try.func9, Try.ntmps9
    go_wp2_with fail
    refine SZ.out.mono ?_
    rintro e w' ⟨rfl, rfl⟩
    go_wp2_with fail
    go_ret
    exact ⟨rfl, Below.refl _ _⟩
  · have GT := Lib.hid fun w1 (b1 : Below w.heap.size w w1) => toIntSS_free (.slice a0 ss.length c0) ss w1 (GG.out.keep b1) gn
    have GL := Lib.hid fun w1 (b1 : Below w.heap.size w w1) => toIntS_free (.slice a1 l.length cap1) l w1 (GI.out.keep b1) (by omega)
    have HS := Lib.hid fun v vp w1 (g : HoldsY w1 v ss) (gi : HoldsI w1 vp l) => specPlugsValid_any v vp ss l w1 g gi
    have HI := Lib.hid fun v vp w1 (g : HoldsY w1 v ss) (gi : HoldsI w1 vp l) => implPlugsValid_any v vp ss l w1 g gi
    generalize plugsOk ss l = r at HS HI
    have hr : (r != r) = false := by simp
    clear gn
    go_enter Try.func9, Try.ntmps9
    go_wp2_with fail
    refine SZ.out.mono ?_
    rintro e w' ⟨rfl, rfl⟩
    have C0 := Below.refl w.heap.size w
    go_wp2_with fail
    refine (GT.out w C0).mono ?_
    rintro e X1 ⟨v1, rfl, g1, d⟩
    have C1 := C0.trans (d.mono C0.size)
    clear d C0
    obtain ⟨p1, q1_, rfl⟩ := g1.form
    have k1 := g1.holdsY
    clear g1
    go_wp2_with fail
    refine (GL.out X1 C1).mono ?_
    rintro e X2 ⟨y1, rfl, i1, d⟩
    have C2 := C1.trans (d.mono C1.size)
    have k1 := k1.keep d
    clear d C1
    have i1 := i1.holds
    obtain ⟨s1, t1, rfl⟩ := i1.form
    go_wp2_with fail
    refine (HS.out _ _ X2 k1 i1).mono ?_
    rintro e X3 ⟨rfl, d⟩
    have C3 := C2.trans (d.mono C2.size)
    have k1 := k1.keep d
    have i1 := i1.keep d
    clear d C2
    clear k1 i1
    go_wp2_with fail
    refine (GT.out X3 C3).mono ?_
    rintro e X4 ⟨v3, rfl, g3, d⟩
    have C4 := C3.trans (d.mono C3.size)
    clear d C3
    obtain ⟨p3, q3, rfl⟩ := g3.form
    go_wp2_with fail
    refine (GL.out X4 C4).mono ?_
    rintro e X5 ⟨y3, rfl, i3, d⟩
    have C5 := C4.trans (d.mono C4.size)
    have g3 := g3.keep d
    clear d C4
    obtain ⟨s3, t3, rfl⟩ := i3.holds.form
    go_wp2_with fail
    refine (HI.out _ _ X5 g3.holdsY i3.holds).mono ?_
    rintro e X6 ⟨rfl, d⟩
    have C6 := C5.trans (d.mono C5.size)
    have g3 := g3.keep d
    have i3 := i3.keep d
    clear d C5
    go_wp2_with fail
    refine (GT.out X6 C6).mono ?_
    rintro e X7 ⟨v7, rfl, g7, d⟩
    have C7 := C6.trans (d.mono C6.size)
    have g3 := g3.keep d
    have i3 := i3.keep d
    clear d C6
    obtain ⟨p7, q7, rfl⟩ := g7.form
    have k7 := g7.holdsY
    clear g7
    go_wp2_with fail
    refine (eqIntSS_same _ _ ss X7 g3.holdsY k7).mono ?_
    rintro e X8 ⟨rfl, d⟩
    have C8 := C7.trans (d.mono C7.size)
    have g3 := g3.keep d
    have i3 := i3.keep d
    clear d C7
    clear k7
    go_wp2_with fail
    refine (GL.out X8 C8).mono ?_
    rintro e X9 ⟨y7, rfl, i7, d⟩
    have C9 := C8.trans (d.mono C8.size)
    have g3 := g3.keep d
    have i3 := i3.keep d
    clear d C8
    have j7 := i7.holds
    obtain ⟨s7, t7, rfl⟩ := j7.form
    clear i7
    go_wp2_with fail
    refine (eqIntS_same _ _ l X9 i3.holds j7).mono ?_
    rintro e X10 ⟨rfl, d⟩
    have C10 := C9.trans (d.mono C9.size)
    have g3 := g3.keep d
    have i3 := i3.keep d
    clear d C9
    clear j7
    go_wp2_with fail
    go_ret
    exact ⟨rfl, C10⟩

set_option maxRecDepth 100000 in
set_option maxHeartbeats 2000000 in
/-- What the walk gives, for every argument. -/
theorem contract (H : Type) (enc : TypeId × Value → H) (W : World) (base : Nat) (args : Array Value) (ds gs : List (DataW H)) (before : List MemPlace)
    (hval : ∀ (j : Nat) t v, Try.f9.params[j]? = some t → args[j]? = some v → Value.okWide Try.prog W .any base t v)
    (hW : DataW.Whole enc Try.prog Try.f9.params.toList Rows.fnExactPlugsValidSpec.vars false W args.toList ds gs before) :
    Calls Try.prog 9 args W fun e W' => ∃ v, e = .returned v ∧ Rows.fnExactPlugsValidSpec.post enc Try.prog Try.f9 false true false false W args v W' := by
  have hW' := hW
  obtain ⟨p, q, hA0, hV, rfl, hfz, hnd⟩ := hW
  have hA : DataW.TrodAll enc Try.prog W 0 (fun _ => true) true Try.f9.params.toList args.toList ds p := hA0
  rw [Try.params9] at hA hval
  obtain ⟨v0, vs0, d0, ds0, p0, q0, hargs, rfl, rfl, h0, r0⟩ := trodAll_cons hA
  obtain ⟨v1, vs1, d1, ds1, p1, q1, rfl, rfl, rfl, h1, r1⟩ := trodAll_cons r0
  obtain ⟨rfl, rfl, rfl⟩ := trodAll_nil r1
  obtain rfl : args = #[v0, v1] := by cases args; simp_all
  obtain ⟨rfl, rfl⟩ := trodVars_none hV
  have k0 := h0
  have lt0 : ∀ x ∈ p0, x.block < W.heap.size := by obtain ⟨m, hm⟩ := k0; exact DataW.trod_lt m _ _ _ hm
  obtain ⟨a0, len0, cap0, rfl⟩ := okWide_slice Try.underlying23 (hval 0 23 v0 rfl rfl)
  obtain ⟨y0, w0⟩ : ∃ ss, HoldsY W (.slice a0 len0 cap0) ss := by
    obtain ⟨fuel, hf⟩ := h0
    obtain ⟨v9, ss9, e9, hh9⟩ := yard_rows rfl hf
    simp [Value.cells] at e9
    subst e9
    exact ⟨ss9, hh9⟩
  have k1 := h1
  have lt1 : ∀ x ∈ p1, x.block < W.heap.size := by obtain ⟨m, hm⟩ := k1; exact DataW.trod_lt m _ _ _ hm
  obtain ⟨a1, len1, cap1, rfl⟩ := okWide_slice Try.underlying27 (hval 1 27 v1 rfl rfl)
  obtain ⟨z1, x1⟩ : ∃ zs, IsRow .i64 W a1 len1 cap1 zs := by
    obtain ⟨fuel, hf⟩ := h1
    rcases open_ints Try.underlying27 Try.underlying3 (by kernel_rfl) hf with ⟨hcs, _⟩ | ⟨x, l, c, zs, hcs, _, hl, hm, hz, _, hcell, hwz⟩
    · simp [Value.cells] at hcs
      obtain ⟨rfl, rfl, rfl⟩ := hcs
      exact ⟨[], .inl ⟨rfl, rfl, rfl, rfl⟩⟩
    · simp [Value.cells] at hcs
      obtain ⟨rfl, rfl, rfl⟩ := hcs
      exact ⟨zs, .inr ⟨_, rfl, hl, hm, by simpa using hz, hcell, hwz⟩⟩
  clear hA0
  refine (walk (.slice a0 len0 cap0) y0 a1 len1 cap1 z1 W w0 x1).mono fun e W' ⟨he, bel⟩ => ?_
  subst he
  exact ⟨_, rfl, _, _, _, [], _, [], hW', trodAll_mk1 (shut_bool Try.underlying4 _), (trodAll_cons_mk (Below.trod laidOut (by kernel_rfl) (of_decide_eq_true (by kernel_rfl)) k0 bel lt0) (trodAll_cons_mk (Below.trod laidOut (by kernel_rfl) (of_decide_eq_true (by kernel_rfl)) k1 bel lt1) trodAll_mk0)), rfl, bel.frame _, fun h => by cases h⟩

set_option maxRecDepth 100000 in
theorem lifted (os : Os) (started : os.Started) (H : Type) (enc : TypeId × Value → H) :
    ReturnsInHanded {} Try.checked os 9 .any (Rows.fnExactPlugsValidSpec.pre6 enc Try.prog Try.f9 Rows.fnExactPlugsValidRow.domain false) (Rows.fnExactPlugsValidSpec.post enc Try.prog Try.f9 false true false false) := by
  refine returnsInHanded_of_change (C := Try.checked) own started (by kernel_rfl) Try.func9
    (ChangeSpec.witness6 (enc := enc) (C := Try.checked) false ⟨#[], #[.slice none 0 0, .slice none 0 0], []⟩ 8 (by kernel_rfl) (by kernel_rfl) (by kernel_rfl) (by kernel_rfl)) ?_
  intro W base args ds gs before hval hW _ _
  exact contract H enc W base args ds gs before hval hW

theorem proved : Rows.FnExactPlugsValidSaid :=
  OpenClaim.holds_of_wide 9 Try.f9 rfl rfl rfl rfl rfl rfl rfl ⟨rfl, rfl, rfl, rfl, rfl⟩ rfl rfl rfl rfl rfl (by kernel_rfl) Try.func9 (by kernel_rfl)
    (of_decide_eq_true (by kernel_rfl)) (by unfold Func.isWrapper; first | (rw [if_pos (by decide +kernel)]; kernel_rfl) | (rw [if_neg (by decide +kernel)]; exact ⟨rfl, rfl⟩))
    (fun os started H enc _ => lifted os started H enc)
#print axioms proved
end Go.Proofs.Ythlcjojhmhoadaa.fnExactPlugsValid
