/-
  For every ship, all boxes, every plan and every number the law on RowsBear's exact answer returns true and leaves its arguments as they were: the program's RowsBear and the model's give the same, the program's writes nothing of its arguments. Conditions: none beyond the form's own reach.
-/
import Derived.Test.YtmgnbkiphdlooabRows
import Derived.Test.YtmgnbkiphdlooabGBase
import Derived.WalkKit
import Derived.ProofKit
import Derived.OpenShut
import Derived.ShutString
import Derived.ChangeOld
import Derived.Below
import Derived.Test.YtmgnbkiphdlooabGBx
import Derived.Test.YtmgnbkiphdlooabGSl
import Derived.Test.YtmgnbkiphdlooabGCr
import Derived.Test.YtmgnbkiphdlooabGPs
import Derived.Test.YtmgnbkiphdlooabRwS
import Derived.Test.YtmgnbkiphdlooabRwI
namespace Go.Proofs.Ytmgnbkiphdlooab.fnExactRowsBear
open Go.ChangeShapes Go.WideShapes Go.ChangeAt Go.RowKit
open Go.ChangeMaps (open_string shut_string)
set_option linter.unusedVariables false


/-- What the walk is told of a slice of integers that came in. -/
def IsRow (k : IntKind) (w : World) (a : Option Addr) (len cap : Nat) (zs : List Int) : Prop :=
  (a = none ∧ len = 0 ∧ cap = 0 ∧ zs = []) ∨
  ∃ x, a = some x ∧ len ≤ cap ∧ cap ≤ maxLen ∧ zs.length = cap ∧ (∀ i, i < zs.length → w.cell? (x.add i) = some (.int k (zs.getD i 0))) ∧ ∀ n ∈ zs, (Lit.int k n).wf = true

set_option maxRecDepth 10000 in
set_option maxHeartbeats 4000000 in
theorem walk (h : Hl) (a1 : Option Addr) (len1 cap1 : Nat) (l : List Bx) (a2 : Option Addr) (len2 cap2 : Nat) (z2 : List Int) (a3 : Int) (w : World) (w0 : HlFits h) (w1 : IsBoxes w a1 len1 cap1 l) (w2 : IsRowI w a2 len2 cap2 z2) (w3 : (Lit.int .i64 a3).wf = true) :
    Calls Try.prog 8 #[.agg #[.int .i64 h.b, .int .i64 h.r, .int .i64 h.t], .slice a1 len1 cap1, .slice a2 len2 cap2, .int .i64 a3] w fun e w' => e = .returned (.bool true) ∧ Below w.heap.size w w' := by
  obtain ⟨hu, hlu⟩ := HoldsBx.of_came w1
  obtain ⟨gg, gl⟩ := HoldsI.of_came w2
  generalize z2.take len2 = p at gg gl
  have gm : len2 ≤ maxLen := by obtain ⟨_, cap, h1, h2, h3, _⟩ := gg; omega
  have bm : len1 ≤ maxLen := by obtain ⟨_, cap, h1, h2, h3, _⟩ := hu; omega
  have HZ := Lib.hid fun w => szBoxS_any a1 len1 cap1 1048576 w (by omega) (by omega) bm
  unfold maxLen at gm bm
  clear w0 w1 w2 w3
  have b1 : Below w.heap.size w (w.alloc (.cells #[.int .i64 h.b, .int .i64 h.r, .int .i64 h.t] 46)) := (Below.refl _ _).alloc (Nat.le_refl _) _
  have y1 := BoxG.new w h
  obtain ⟨W0, hW0⟩ : ∃ W0, W0 = w.alloc (.cells #[.int .i64 h.b, .int .i64 h.r, .int .i64 h.t] 46) := ⟨_, rfl⟩
  rw [← hW0] at b1 y1
  have HW := Lib.hid hW0
  have c0 := b1
  clear hW0 b1
  by_cases gn : len2 ≤ 1048576
  · by_cases bn : len1 ≤ 1048576
    · rw [if_neg (by omega)] at HZ
      have d0 : decide ((1048576 : Int) - len1 < 0) = false := decide_eq_false (by omega)
      have TB := Lib.hid fun (w1 : World) (b1 : Below w.heap.size w w1) => toBoxS_free (.slice a1 len1 cap1) l w1 (hu.keep b1) (by omega)
      have TP := Lib.hid fun (w1 : World) (b1 : Below w.heap.size w w1) => toIntS_free (.slice a2 len2 cap2) p w1 (gg.keep b1) (by omega)
      have HS := Lib.hid fun u v w (hb : HoldsBx w u l) (hp : HoldsI w v p) => specRowsBear_any h u v l p a3 w hb hp
      have HI := Lib.hid fun u v w (hb : HoldsBx w u l) (hp : HoldsI w v p) => implRowsBear_any h u v l p a3 w hb hp
      generalize bearO h l p a3 = r at HS HI
      have hr : (r != r) = false := by cases r <;> rfl
      clear hu gg gm bm
      have y0 := y1.c0
      have y01 := y1.c1
      have y02 := y1.c2
      go_enter Try.func8, Try.ntmps8
      go_wp2_with fail
      rw [← HW.out]
      refine (HZ.out W0).mono ?_
      rintro e w' ⟨rfl, rfl⟩
      clear HZ
      clear y0 y01 y02
      have k0 := y1.c0
      have k1 := y1.c1
      have k2 := y1.c2
      go_wp2_with fail
      refine (toHull_any h W0).mono ?_
      rintro e W1 ⟨rfl, d⟩
      clear k0 k1 k2
      have c1 := c0.trans (d.mono c0.size)
      have y1 := y1.keep d
      clear d c0
      go_wp2_with fail
      refine (TB.out W1 c1).mono ?_
      rintro e W2 ⟨u, rfl, fu, d⟩
      have c2 := c1.trans (d.mono c1.size)
      have y1 := y1.keep d
      clear d c1
      go_wp2_with fail
      refine (TP.out W2 c2).mono ?_
      rintro e W3 ⟨v, rfl, fv, d⟩
      have c3 := c2.trans (d.mono c2.size)
      have y1 := y1.keep d
      have fu := fu.keep d
      clear d c2
      go_wp2_with fail
      refine (HS.out u v W3 fu.holds fv.holds).mono ?_
      rintro e W4 ⟨rfl, d⟩
      clear fu fv HS
      have c4 := c3.trans (d.mono c3.size)
      have y1 := y1.keep d
      clear d c3
      go_wp2_with fail
      refine (TB.out W4 c4).mono ?_
      rintro e W5 ⟨x1, rfl, f1, d⟩
      have c5 := c4.trans (d.mono c4.size)
      have y1 := y1.keep d
      clear d c4
      go_wp2_with fail
      refine (TP.out W5 c5).mono ?_
      rintro e W6 ⟨x2, rfl, f2, d⟩
      have c6 := c5.trans (d.mono c5.size)
      have y1 := y1.keep d
      have f1 := f1.keep d
      clear d c5
      have k0 := y1.c0
      have k1 := y1.c1
      have k2 := y1.c2
      go_wp2_with fail
      refine (toHull_any h W6).mono ?_
      rintro e W7 ⟨rfl, d⟩
      clear k0 k1 k2
      have c7 := c6.trans (d.mono c6.size)
      have y1 := y1.keep d
      have f1 := f1.keep d
      have f2 := f2.keep d
      clear d c6
      go_wp2_with fail
      refine (HI.out x1 x2 W7 f1.holds f2.holds).mono ?_
      rintro e W8 ⟨rfl, d⟩
      have c8 := c7.trans (d.mono c7.size)
      have y1 := y1.keep d
      have f1 := f1.keep d
      have f2 := f2.keep d
      clear d c7
      go_wp2_with fail
      refine (TB.out W8 c8).mono ?_
      rintro e W9 ⟨u, rfl, fu, d⟩
      have c9 := c8.trans (d.mono c8.size)
      have y1 := y1.keep d
      have f1 := f1.keep d
      have f2 := f2.keep d
      clear d c8
      go_wp2_with fail
      refine (eqBoxS_same x1 u l W9 f1.holds fu.holds).mono ?_
      rintro e W10 ⟨rfl, d⟩
      clear fu
      have c10 := c9.trans (d.mono c9.size)
      have y1 := y1.keep d
      have f1 := f1.keep d
      have f2 := f2.keep d
      clear d c9
      go_wp2_with fail
      refine (TP.out W10 c10).mono ?_
      rintro e W11 ⟨v, rfl, fv, d⟩
      have c11 := c10.trans (d.mono c10.size)
      have y1 := y1.keep d
      have f1 := f1.keep d
      have f2 := f2.keep d
      clear d c10
      go_wp2_with fail
      refine (eqIntS_same x2 v p W11 f2.holds fv.holds).mono ?_
      rintro e W12 ⟨rfl, d⟩
      clear fv
      have c12 := c11.trans (d.mono c11.size)
      have y1 := y1.keep d
      have f1 := f1.keep d
      have f2 := f2.keep d
      clear d c11
      go_wp2_with fail
      go_ret
      exact ⟨rfl, c12⟩
    · rw [if_pos (by omega)] at HZ
      have y0 := y1.c0
      have y01 := y1.c1
      have y02 := y1.c2
      go_enter Try.func8, Try.ntmps8
      go_wp2_with fail
      rw [← HW.out]
      refine (HZ.out W0).mono ?_
      rintro e w' ⟨rfl, rfl⟩
      go_wp2_with fail
      go_ret
      exact ⟨rfl, c0⟩
  · have y0 := y1.c0
    have y01 := y1.c1
    have y02 := y1.c2
    go_enter Try.func8, Try.ntmps8
    go_wp2_with fail
    rw [← HW.out]
    go_wp2_with fail
    go_ret
    exact ⟨rfl, c0⟩

set_option maxRecDepth 100000 in
set_option maxHeartbeats 2000000 in
/-- What the walk gives, for every argument. -/
theorem contract (H : Type) (enc : TypeId × Value → H) (W : World) (base : Nat) (args : Array Value) (ds gs : List (DataW H)) (before : List MemPlace)
    (hval : ∀ (j : Nat) t v, Try.f8.params[j]? = some t → args[j]? = some v → Value.okWide Try.prog W .any base t v)
    (hW : DataW.Whole enc Try.prog Try.f8.params.toList Rows.fnExactRowsBearSpec.vars false W args.toList ds gs before) :
    Calls Try.prog 8 args W fun e W' => ∃ v, e = .returned v ∧ Rows.fnExactRowsBearSpec.post enc Try.prog Try.f8 false true false false W args v W' := by
  have hW' := hW
  obtain ⟨p, q, hA0, hV, rfl, hfz, hnd⟩ := hW
  have hA : DataW.TrodAll enc Try.prog W 0 (fun _ => true) true Try.f8.params.toList args.toList ds p := hA0
  rw [Try.params8] at hA hval
  obtain ⟨v0, vs0, d0, ds0, p0, q0, hargs, rfl, rfl, h0, r0⟩ := trodAll_cons hA
  obtain ⟨v1, vs1, d1, ds1, p1, q1, rfl, rfl, rfl, h1, r1⟩ := trodAll_cons r0
  obtain ⟨v2, vs2, d2, ds2, p2, q2, rfl, rfl, rfl, h2, r2⟩ := trodAll_cons r1
  obtain ⟨v3, vs3, d3, ds3, p3, q3, rfl, rfl, rfl, h3, r3⟩ := trodAll_cons r2
  obtain ⟨rfl, rfl, rfl⟩ := trodAll_nil r3
  obtain rfl : args = #[v0, v1, v2, v3] := by cases args; simp_all
  obtain ⟨rfl, rfl⟩ := trodVars_none hV
  have k0 := h0
  have lt0 : ∀ x ∈ p0, x.block < W.heap.size := by obtain ⟨m, hm⟩ := k0; exact DataW.trod_lt m _ _ _ hm
  obtain ⟨hl0, rfl, w0⟩ := hull_value Try.underlying46 (by kernel_rfl) (by kernel_rfl) (by simp) (hval 0 46 v0 rfl rfl) h0
  have k1 := h1
  have lt1 : ∀ x ∈ p1, x.block < W.heap.size := by obtain ⟨m, hm⟩ := k1; exact DataW.trod_lt m _ _ _ hm
  obtain ⟨a1, len1, cap1, rfl⟩ := okWide_slice Try.underlying47 (hval 1 47 v1 rfl rfl)
  obtain ⟨l1, x1⟩ : ∃ l, IsBoxes W a1 len1 cap1 l := by
    obtain ⟨fuel, hf⟩ := h1
    exact boxes_slice Try.underlying47 Try.underlying79 (by kernel_rfl) (by kernel_rfl) (by simp) (by simpa [Value.cells] using hf)
  have k2 := h2
  have lt2 : ∀ x ∈ p2, x.block < W.heap.size := by obtain ⟨m, hm⟩ := k2; exact DataW.trod_lt m _ _ _ hm
  obtain ⟨a2, len2, cap2, rfl⟩ := okWide_slice Try.underlying26 (hval 2 26 v2 rfl rfl)
  obtain ⟨z2, x2⟩ : ∃ zs, IsRow .i64 W a2 len2 cap2 zs := by
    obtain ⟨fuel, hf⟩ := h2
    rcases open_ints Try.underlying26 Try.underlying3 (by kernel_rfl) hf with ⟨hcs, _⟩ | ⟨x, l, c, zs, hcs, _, hl, hm, hz, _, hcell, hwz⟩
    · simp [Value.cells] at hcs
      obtain ⟨rfl, rfl, rfl⟩ := hcs
      exact ⟨[], .inl ⟨rfl, rfl, rfl, rfl⟩⟩
    · simp [Value.cells] at hcs
      obtain ⟨rfl, rfl, rfl⟩ := hcs
      exact ⟨zs, .inr ⟨_, rfl, hl, hm, by simpa using hz, hcell, hwz⟩⟩
  have k3 := h3
  have lt3 : ∀ x ∈ p3, x.block < W.heap.size := by obtain ⟨m, hm⟩ := k3; exact DataW.trod_lt m _ _ _ hm
  obtain ⟨a3, rfl, -, -, w3⟩ := open_int Try.underlying3 (hval 3 3 v3 rfl rfl) h3
  clear hA0
  refine (walk hl0 a1 len1 cap1 l1 a2 len2 cap2 z2 a3 W w0 x1 x2 w3).mono fun e W' ⟨he, bel⟩ => ?_
  subst he
  exact ⟨_, rfl, _, _, _, [], _, [], hW', trodAll_mk1 (shut_bool Try.underlying4 _), (trodAll_cons_mk (Below.trod laidOut (by kernel_rfl) (of_decide_eq_true (by kernel_rfl)) k0 bel lt0) (trodAll_cons_mk (Below.trod laidOut (by kernel_rfl) (of_decide_eq_true (by kernel_rfl)) k1 bel lt1) (trodAll_cons_mk (Below.trod laidOut (by kernel_rfl) (of_decide_eq_true (by kernel_rfl)) k2 bel lt2) (trodAll_cons_mk (Below.trod laidOut (by kernel_rfl) (of_decide_eq_true (by kernel_rfl)) k3 bel lt3) trodAll_mk0)))), rfl, bel.frame _, fun h => by cases h⟩

set_option maxRecDepth 100000 in
theorem lifted (os : Os) (started : os.Started) (H : Type) (enc : TypeId × Value → H) :
    ReturnsInHanded {} Try.checked os 8 .any (Rows.fnExactRowsBearSpec.pre6 enc Try.prog Try.f8 Rows.fnExactRowsBearRow.domain false) (Rows.fnExactRowsBearSpec.post enc Try.prog Try.f8 false true false false) := by
  refine returnsInHanded_of_change (C := Try.checked) own started (by kernel_rfl) Try.func8
    (ChangeSpec.witness6 (enc := enc) (C := Try.checked) false ⟨#[], #[.agg #[.int .i64 0, .int .i64 0, .int .i64 0], .slice none 0 0, .slice none 0 0, .int .i64 0], []⟩ 8 (by kernel_rfl) (by kernel_rfl) (by kernel_rfl) (by kernel_rfl)) ?_
  intro W base args ds gs before hval hW _ _
  exact contract H enc W base args ds gs before hval hW

theorem proved : Rows.FnExactRowsBearSaid :=
  OpenClaim.holds_of_wide 8 Try.f8 rfl rfl rfl rfl rfl rfl rfl ⟨rfl, rfl, rfl, rfl, rfl⟩ rfl rfl rfl rfl rfl (by kernel_rfl) Try.func8 (by kernel_rfl)
    (of_decide_eq_true (by kernel_rfl)) (by unfold Func.isWrapper; first | (rw [if_pos (by decide +kernel)]; kernel_rfl) | (rw [if_neg (by decide +kernel)]; exact ⟨rfl, rfl⟩))
    (fun os started H enc _ => lifted os started H enc)
#print axioms proved
end Go.Proofs.Ytmgnbkiphdlooab.fnExactRowsBear
