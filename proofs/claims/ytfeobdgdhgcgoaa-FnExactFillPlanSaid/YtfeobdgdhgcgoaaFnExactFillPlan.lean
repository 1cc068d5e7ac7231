/-
  For every ship and all boxes the law on FillPlan's exact answer returns true and leaves its arguments as they were: the program's FillPlan and the model's give the same, the program's writes nothing of its arguments, and what it gives is shared with nothing. Conditions: none beyond the form's own reach.
-/
import Derived.Test.YtfeobdgdhgcgoaaRows
import Derived.Test.YtfeobdgdhgcgoaaGBase
import Derived.WalkKit
import Derived.ProofKit
import Derived.OpenShut
import Derived.ShutString
import Derived.ChangeOld
import Derived.Below
import Derived.Test.YtfeobdgdhgcgoaaGBx
import Derived.Test.YtfeobdgdhgcgoaaGSl
import Derived.Test.YtfeobdgdhgcgoaaGCr
import Derived.Test.YtfeobdgdhgcgoaaGPs
import Derived.Test.YtfeobdgdhgcgoaaFlMath2
import Derived.Test.YtfeobdgdhgcgoaaFlP
import Derived.Test.YtfeobdgdhgcgoaaFlI
namespace Go.Proofs.Ytfeobdgdhgcgoaa.fnExactFillPlan
open Go.ChangeShapes Go.WideShapes Go.ChangeAt Go.RowKit
open Go.ChangeMaps (open_string shut_string)
set_option linter.unusedVariables false


set_option maxRecDepth 10000 in
set_option maxHeartbeats 4000000 in
theorem walk (h : Hl) (a1 : Option Addr) (len1 cap1 : Nat) (l : List Bx) (w : World) (w0 : HlFits h) (w1 : IsBoxes w a1 len1 cap1 l) :
    Calls Try.prog 7 #[.agg #[.int .i64 h.b, .int .i64 h.r, .int .i64 h.t], .slice a1 len1 cap1] w fun e w' => e = .returned (.bool true) ∧ Below w.heap.size w w' := by
  obtain ⟨hu, hlu⟩ := HoldsBx.of_came w1
  have bm : len1 ≤ maxLen := by obtain ⟨_, cap, h1, h2, h3, _⟩ := hu; omega
  have HZ := Lib.hid fun w => szBoxS_any a1 len1 cap1 1048576 w (by omega) (by omega) bm
  unfold maxLen at bm
  clear w1 w0
  have b1 : Below w.heap.size w (w.alloc (.cells #[.int .i64 h.b, .int .i64 h.r, .int .i64 h.t] 52)) := (Below.refl _ _).alloc (Nat.le_refl _) _
  have y1 := BoxG.new w h
  obtain ⟨W0, hW0⟩ : ∃ W0, W0 = w.alloc (.cells #[.int .i64 h.b, .int .i64 h.r, .int .i64 h.t] 52) := ⟨_, rfl⟩
  rw [← hW0] at b1 y1
  have HW := Lib.hid hW0
  have c0 := b1
  clear hW0 b1
  by_cases bn : len1 ≤ 1048576
  · rw [if_neg (by omega)] at HZ
    have d0 : decide ((1048576 : Int) - len1 < 0) = false := decide_eq_false (by omega)
    have TB := Lib.hid fun (w1 : World) (b1 : Below w.heap.size w w1) => toBoxS_free (.slice a1 len1 cap1) l w1 (hu.keep b1) (by omega)
    have HS := Lib.hid fun u w (hb : HoldsBx w u l) => specFillPlan_any h u l w hb
    have HI := Lib.hid fun u w (hb : HoldsBx w u l) => implFillPlan_any h u l w hb
    have hlen : (fillP h l).length ≤ 1048576 := by
      by_cases hok : hlOk h = true ∧ bxsOk l = true
      · have q1 := (fillP_law hok.1 hok.2).2.2.2
        have q2 := slMany_bd hok.1
        omega
      · rw [fillP_bad hok]; exact Nat.zero_le _
    generalize fillP h l = r at HS HI hlen
    have ME := Lib.hid fun v K w (h : FreeE K w v r) => markIntS_e v K r w h (by omega)
    have HE := Lib.hid fun v w (h : HoldsI w v (marksI 1 r.length)) => heldIntS_1 v r.length w h (by omega)
    have yy0 : (0 : Int) ≤ ((1 + r.length : Nat) : Int) := by omega
    generalize ((1 + r.length : Nat) : Int) = Y at ME HE yy0
    have hY : (Y != Y) = false := by simp
    have MB := Lib.hid fun v K w (h : FreeBx K w v l) => markBoxS_any K v l w h (by omega)
    have zk : (0 : Int) ≤ ((1 + l.length * 5 : Nat) : Int) := by omega
    generalize ((1 + l.length * 5 : Nat) : Int) = X1 at MB zk
    clear hu bm
    have y0 := y1.c0
    have y01 := y1.c1
    have y02 := y1.c2
    go_enter Try.func7, Try.ntmps7
    go_wp2_with fail
    rw [← HW.out]
    refine (HZ.out _).mono ?_
    rintro e w' ⟨rfl, rfl⟩
    clear HZ
    clear y0 y01 y02
    have k0 := y1.c0
    have k1 := y1.c1
    have k2 := y1.c2
    go_wp2_with fail
    refine (toHull_any h W0).mono ?_
    rintro e W1 ⟨rfl, d⟩
    clear k0 k1 k2
    have c1 := c0.trans (d.mono c0.size)
    have y1 := y1.keep d
    clear d c0
    go_wp2_with fail
    refine (TB.out W1 c1).mono ?_
    rintro e W2 ⟨u, rfl, fu, d⟩
    have c2 := c1.trans (d.mono c1.size)
    have y1 := y1.keep d
    clear d c1
    go_wp2_with fail
    refine (HS.out u W2 fu.holds).mono ?_
    rintro e W3 ⟨vs, rfl, gs, d⟩
    clear fu HS
    have c3 := c2.trans (d.mono c2.size)
    have y1 := y1.keep d
    clear d c2
    have HV := Lib.hid fun w' (hs : Below W3.heap.size W3 w') => gs.holds.keep hs
    have YV := Lib.hid fun w' (hs : Below W3.heap.size W3 w') => y1.keep hs
    have e3 : Below W3.heap.size W3 W3 := Below.refl _ _
    have hcs : w.heap.size ≤ W3.heap.size := c3.size
    clear gs y1
    go_wp2_with fail
    refine (TB.out W3 c3).mono ?_
    rintro e W4 ⟨x1, rfl, f1, d⟩
    have c4 := c3.trans (d.mono c3.size)
    have e4 := e3.trans (d.mono e3.size)
    clear d c3 e3
    have B1 := Lib.hid f1.blk
    have hs6 : W3.heap.size ≤ W4.heap.size := e4.size
    have k0 := (YV.out _ e4).c0
    have k1 := (YV.out _ e4).c1
    have k2 := (YV.out _ e4).c2
    go_wp2_with fail
    refine (toHull_any h W4).mono ?_
    rintro e W5 ⟨rfl, d⟩
    clear k0 k1 k2
    have hs78 := d.size
    have c5 := c4.trans (d.mono c4.size)
    have e5 := e4.trans (d.mono e4.size)
    have f1 := f1.keep d
    clear d c4 e4
    have hc8 := c5.size
    have he8 := e5.size
    go_wp2_with fail
    refine (HI.out x1 W5 f1.holds).mono ?_
    rintro e W6 ⟨vi, rfl, g9, d⟩
    have c6 := c5.trans (d.mono c5.size)
    have e6 := e5.trans (d.mono e5.size)
    have f1 := f1.keep d
    clear d c5 e5
    go_wp2_with fail
    refine (eqIntS_same vi vs r W6 g9.holds (HV.out _ e6)).mono ?_
    rintro e W7 ⟨rfl, d⟩
    have c7 := c6.trans (d.mono c6.size)
    have e7 := e6.trans (d.mono e6.size)
    have f1 := f1.keep d
    have g9 := g9.keep d
    clear d c6 e6
    go_wp2_with fail
    refine (TB.out W7 c7).mono ?_
    rintro e W8 ⟨u, rfl, fu, d⟩
    have c8 := c7.trans (d.mono c7.size)
    have e8 := e7.trans (d.mono e7.size)
    have f1 := f1.keep d
    have g9 := g9.keep d
    clear d c7 e7
    go_wp2_with fail
    refine (eqBoxS_same x1 u l W8 f1.holds fu.holds).mono ?_
    rintro e W9 ⟨rfl, d⟩
    clear fu
    have c9 := c8.trans (d.mono c8.size)
    have e9 := e8.trans (d.mono e8.size)
    have f1 := f1.keep d
    have g9 := g9.keep d
    clear d c8 e8
    go_wp2_with fail
    refine (MB.out x1 _ W9 f1).mono ?_
    rintro e W10 ⟨rfl, gx, gx1, gxo, gx2, mm⟩
    obtain ⟨q1, q2⟩ := B1.out gx gxo
    have c10 := c9.trans (mm.under (by omega) c9.size)
    have e10 := e9.trans (mm.under (by omega) e9.size)
    have g9 := g9.most mm (by omega)
    clear f1 mm gx1 gxo gx2 q1 q2 gx c9 e9 B1
    go_wp2_with fail
    refine (eqIntS_same vi vs r W10 g9.holds (HV.out _ e10)).mono ?_
    rintro e W11 ⟨rfl, d⟩
    have c11 := c10.trans (d.mono c10.size)
    have e11 := e10.trans (d.mono e10.size)
    have g9 := g9.keep d
    clear d c10 e10
    go_wp2_with fail
    refine (ME.out vi _ W11 g9).mono ?_
    rintro e W12 ⟨rfl, m9, d⟩
    clear g9
    have c12 := c11.trans (d.mono (by omega))
    have e12 := e11.trans (d.mono (by omega))
    clear d c11 e11
    go_wp2_with fail
    refine (HE.out vi W12 m9).mono ?_
    rintro e W13 ⟨rfl, rfl⟩
    have k0 := (YV.out _ e12).c0
    have k1 := (YV.out _ e12).c1
    have k2 := (YV.out _ e12).c2
    go_wp2_with fail
    refine (toHull_any h W12).mono ?_
    rintro e W13 ⟨rfl, d⟩
    clear k0 k1 k2
    have c13 := c12.trans (d.mono c12.size)
    have e13 := e12.trans (d.mono e12.size)
    have m9 := m9.keep d
    clear d c12 e12
    go_wp2_with fail
    refine (TB.out W13 c13).mono ?_
    rintro e W14 ⟨u, rfl, fu, d⟩
    have c14 := c13.trans (d.mono c13.size)
    have e14 := e13.trans (d.mono e13.size)
    have m9 := m9.keep d
    clear d c13 e13
    go_wp2_with fail
    refine (HI.out u W14 fu.holds).mono ?_
    rintro e W15 ⟨vj, rfl, gj, d⟩
    clear fu
    have c15 := c14.trans (d.mono c14.size)
    have e15 := e14.trans (d.mono e14.size)
    have m9 := m9.keep d
    clear d c14 e14
    go_wp2_with fail
    refine (eqIntS_same vj vs r W15 gj.holds (HV.out _ e15)).mono ?_
    rintro e W16 ⟨rfl, d⟩
    clear gj
    have c16 := c15.trans (d.mono c15.size)
    have e16 := e15.trans (d.mono e15.size)
    have m9 := m9.keep d
    clear d c15 e15
    go_wp2_with fail
    refine (HE.out vi W16 m9).mono ?_
    rintro e W17 ⟨rfl, rfl⟩
    go_wp2_with fail
    go_ret
    exact ⟨rfl, c16⟩
  · rw [if_pos (by omega)] at HZ
    have y0 := y1.c0
    have y01 := y1.c1
    have y02 := y1.c2
    go_enter Try.func7, Try.ntmps7
    go_wp2_with fail
    rw [← HW.out]
    refine (HZ.out _).mono ?_
    rintro e w' ⟨rfl, rfl⟩
    go_wp2_with fail
    go_ret
    exact ⟨rfl, c0⟩

set_option maxRecDepth 100000 in
set_option maxHeartbeats 2000000 in
/-- What the walk gives, for every argument. -/
theorem contract (H : Type) (enc : TypeId × Value → H) (W : World) (base : Nat) (args : Array Value) (ds gs : List (DataW H)) (before : List MemPlace)
    (hval : ∀ (j : Nat) t v, Try.f7.params[j]? = some t → args[j]? = some v → Value.okWide Try.prog W .any base t v)
    (hW : DataW.Whole enc Try.prog Try.f7.params.toList Rows.fnExactFillPlanSpec.vars false W args.toList ds gs before) :
    Calls Try.prog 7 args W fun e W' => ∃ v, e = .returned v ∧ Rows.fnExactFillPlanSpec.post enc Try.prog Try.f7 false true false false W args v W' := by
  have hW' := hW
  obtain ⟨p, q, hA0, hV, rfl, hfz, hnd⟩ := hW
  have hA : DataW.TrodAll enc Try.prog W 0 (fun _ => true) true Try.f7.params.toList args.toList ds p := hA0
  rw [Try.params7] at hA hval
  obtain ⟨v0, vs0, d0, ds0, p0, q0, hargs, rfl, rfl, h0, r0⟩ := trodAll_cons hA
  obtain ⟨v1, vs1, d1, ds1, p1, q1, rfl, rfl, rfl, h1, r1⟩ := trodAll_cons r0
  obtain ⟨rfl, rfl, rfl⟩ := trodAll_nil r1
  obtain rfl : args = #[v0, v1] := by cases args; simp_all
  obtain ⟨rfl, rfl⟩ := trodVars_none hV
  have k0 := h0
  have lt0 : ∀ x ∈ p0, x.block < W.heap.size := by obtain ⟨m, hm⟩ := k0; exact DataW.trod_lt m _ _ _ hm
  obtain ⟨hl0, rfl, w0⟩ := hull_value Try.underlying52 (by kernel_rfl) (by kernel_rfl) (by simp) (hval 0 52 v0 rfl rfl) h0
  have k1 := h1
  have lt1 : ∀ x ∈ p1, x.block < W.heap.size := by obtain ⟨m, hm⟩ := k1; exact DataW.trod_lt m _ _ _ hm
  obtain ⟨a1, len1, cap1, rfl⟩ := okWide_slice Try.underlying46 (hval 1 46 v1 rfl rfl)
  obtain ⟨l1, x1⟩ : ∃ l, IsBoxes W a1 len1 cap1 l := by
    obtain ⟨fuel, hf⟩ := h1
    exact boxes_slice Try.underlying46 Try.underlying80 (by kernel_rfl) (by kernel_rfl) (by simp) (by simpa [Value.cells] using hf)
  clear hA0
  refine (walk hl0 a1 len1 cap1 l1 W w0 x1).mono fun e W' ⟨he, bel⟩ => ?_
  subst he
  exact ⟨_, rfl, _, _, _, [], _, [], hW', trodAll_mk1 (shut_bool Try.underlying4 _), (trodAll_cons_mk (Below.trod laidOut (by kernel_rfl) (of_decide_eq_true (by kernel_rfl)) k0 bel lt0) (trodAll_cons_mk (Below.trod laidOut (by kernel_rfl) (of_decide_eq_true (by kernel_rfl)) k1 bel lt1) trodAll_mk0)), rfl, bel.frame _, fun h => by cases h⟩

set_option maxRecDepth 100000 in
theorem lifted (os : Os) (started : os.Started) (H : Type) (enc : TypeId × Value → H) :
    ReturnsInHanded {} Try.checked os 7 .any (Rows.fnExactFillPlanSpec.pre6 enc Try.prog Try.f7 Rows.fnExactFillPlanRow.domain false) (Rows.fnExactFillPlanSpec.post enc Try.prog Try.f7 false true false false) := by
  refine returnsInHanded_of_change (C := Try.checked) own started (by kernel_rfl) Try.func7
    (ChangeSpec.witness6 (enc := enc) (C := Try.checked) false ⟨#[], #[.agg #[.int .i64 0, .int .i64 0, .int .i64 0], .slice none 0 0], []⟩ 8 (by kernel_rfl) (by kernel_rfl) (by kernel_rfl) (by kernel_rfl)) ?_
  intro W base args ds gs before hval hW _ _
  exact contract H enc W base args ds gs before hval hW

theorem proved : Rows.FnExactFillPlanSaid :=
  OpenClaim.holds_of_wide 7 Try.f7 rfl rfl rfl rfl rfl rfl rfl ⟨rfl, rfl, rfl, rfl, rfl⟩ rfl rfl rfl rfl rfl (by kernel_rfl) Try.func7 (by kernel_rfl)
    (of_decide_eq_true (by kernel_rfl)) (by unfold Func.isWrapper; first | (rw [if_pos (by decide +kernel)]; kernel_rfl) | (rw [if_neg (by decide +kernel)]; exact ⟨rfl, rfl⟩))
    (fun os started H enc _ => lifted os started H enc)
#print axioms proved
end Go.Proofs.Ytfeobdgdhgcgoaa.fnExactFillPlan
