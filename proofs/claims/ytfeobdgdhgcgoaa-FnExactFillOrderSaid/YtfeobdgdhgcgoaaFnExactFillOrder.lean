/-
  For all boxes the law on FillOrder's exact answer returns true and leaves its argument as it was: the program's FillOrder and the model's give the same, the program's writes nothing of its argument, and what it gives is shared with nothing. Conditions: none beyond the form's own reach.
-/
import Derived.Test.YtfeobdgdhgcgoaaRows
import Derived.Test.YtfeobdgdhgcgoaaGBase
import Derived.WalkKit
import Derived.ProofKit
import Derived.OpenShut
import Derived.ShutString
import Derived.ChangeOld
import Derived.Below
import Derived.Test.YtfeobdgdhgcgoaaGBx
import Derived.Test.YtfeobdgdhgcgoaaGCr
import Derived.Test.YtfeobdgdhgcgoaaGPs
import Derived.Test.YtfeobdgdhgcgoaaFlMath2
import Derived.Test.YtfeobdgdhgcgoaaFlS
import Derived.Test.YtfeobdgdhgcgoaaFlI
namespace Go.Proofs.Ytfeobdgdhgcgoaa.fnExactFillOrder
open Go.ChangeShapes Go.WideShapes Go.ChangeAt Go.RowKit
open Go.ChangeMaps (open_string shut_string)
set_option linter.unusedVariables false


set_option maxRecDepth 10000 in
set_option maxHeartbeats 4000000 in
theorem walk (a0 : Option Addr) (len0 cap0 : Nat) (l : List Bx) (w : World) (w0 : IsBoxes w a0 len0 cap0 l) :
    Calls Try.prog 6 #[.slice a0 len0 cap0] w fun e w' => e = .returned (.bool true) ∧ Below w.heap.size w w' := by
  obtain ⟨hu, hlu⟩ := HoldsBx.of_came w0
  have bm : len0 ≤ maxLen := by obtain ⟨_, cap, h1, h2, h3, _⟩ := hu; omega
  have HZ := Lib.hid fun w => szBoxS_any a0 len0 cap0 1048576 w (by omega) (by omega) bm
  unfold maxLen at bm
  clear w0
  have c0 := Below.refl w.heap.size w
  by_cases bn : len0 ≤ 1048576
  · rw [if_neg (by omega)] at HZ
    have d0 : decide ((1048576 : Int) - len0 < 0) = false := decide_eq_false (by omega)
    have TB := Lib.hid fun (w1 : World) (b1 : Below w.heap.size w w1) => toBoxS_free (.slice a0 len0 cap0) l w1 (hu.keep b1) (by omega)
    have HS := Lib.hid fun u w (hb : HoldsBx w u l) => specFillOrder_any u l w hb
    have HI := Lib.hid fun u w (hb : HoldsBx w u l) => implFillOrder_any u l w hb
    have hlen : (fillO l).length ≤ 1048576 := by
      cases hok : bxsOk l
      · rw [fillO_bad hok]; exact Nat.zero_le _
      · rw [(fillO_law hok).1]; omega
    generalize fillO l = r at HS HI hlen
    have ME := Lib.hid fun v K w (h : FreeE K w v r) => markIntS_e v K r w h (by omega)
    have HE := Lib.hid fun v w (h : HoldsI w v (marksI 1 r.length)) => heldIntS_1 v r.length w h (by omega)
    have yy0 : (0 : Int) ≤ ((1 + r.length : Nat) : Int) := by omega
    generalize ((1 + r.length : Nat) : Int) = Y at ME HE yy0
    have hY : (Y != Y) = false := by simp
    have MB := Lib.hid fun v K w (h : FreeBx K w v l) => markBoxS_any K v l w h (by omega)
    have zk : (0 : Int) ≤ ((1 + l.length * 5 : Nat) : Int) := by omega
    generalize ((1 + l.length * 5 : Nat) : Int) = X1 at MB zk
    clear hu bm
    go_enter Try.func6, Try.ntmps6
    go_wp2_with fail
    refine (HZ.out _).mono ?_
    rintro e w' ⟨rfl, rfl⟩
    clear HZ
    go_wp2_with fail
    refine (TB.out w c0).mono ?_
    rintro e W1 ⟨u, rfl, fu, d⟩
    have c1 := c0.trans (d.mono c0.size)
    clear d c0
    go_wp2_with fail
    refine (HS.out u W1 fu.holds).mono ?_
    rintro e W2 ⟨vs, rfl, gs, d⟩
    clear fu HS
    have c2 := c1.trans (d.mono c1.size)
    clear d c1
    have HV := Lib.hid fun w' (hs : Below W2.heap.size W2 w') => gs.holds.keep hs
    have e2 : Below W2.heap.size W2 W2 := Below.refl _ _
    have hcs : w.heap.size ≤ W2.heap.size := c2.size
    clear gs
    go_wp2_with fail
    refine (TB.out W2 c2).mono ?_
    rintro e W3 ⟨x1, rfl, f1, d⟩
    have c3 := c2.trans (d.mono c2.size)
    have e3 := e2.trans (d.mono e2.size)
    clear d c2 e2
    have B1 := Lib.hid f1.blk
    have hs6 : W2.heap.size ≤ W3.heap.size := e3.size
    have hc8 := c3.size
    have he8 := e3.size
    go_wp2_with fail
    refine (HI.out x1 W3 f1.holds).mono ?_
    rintro e W4 ⟨vi, rfl, g9, d⟩
    have c4 := c3.trans (d.mono c3.size)
    have e4 := e3.trans (d.mono e3.size)
    have f1 := f1.keep d
    clear d c3 e3
    go_wp2_with fail
    refine (eqIntS_same vi vs r W4 g9.holds (HV.out _ e4)).mono ?_
    rintro e W5 ⟨rfl, d⟩
    have c5 := c4.trans (d.mono c4.size)
    have e5 := e4.trans (d.mono e4.size)
    have f1 := f1.keep d
    have g9 := g9.keep d
    clear d c4 e4
    go_wp2_with fail
    refine (TB.out W5 c5).mono ?_
    rintro e W6 ⟨u, rfl, fu, d⟩
    have c6 := c5.trans (d.mono c5.size)
    have e6 := e5.trans (d.mono e5.size)
    have f1 := f1.keep d
    have g9 := g9.keep d
    clear d c5 e5
    go_wp2_with fail
    refine (eqBoxS_same x1 u l W6 f1.holds fu.holds).mono ?_
    rintro e W7 ⟨rfl, d⟩
    clear fu
    have c7 := c6.trans (d.mono c6.size)
    have e7 := e6.trans (d.mono e6.size)
    have f1 := f1.keep d
    have g9 := g9.keep d
    clear d c6 e6
    go_wp2_with fail
    refine (MB.out x1 _ W7 f1).mono ?_
    rintro e W8 ⟨rfl, gx, gx1, gxo, gx2, mm⟩
    obtain ⟨q1, q2⟩ := B1.out gx gxo
    have c8 := c7.trans (mm.under (by omega) c7.size)
    have e8 := e7.trans (mm.under (by omega) e7.size)
    have g9 := g9.most mm (by omega)
    clear f1 mm gx1 gxo gx2 q1 q2 gx c7 e7 B1
    go_wp2_with fail
    refine (eqIntS_same vi vs r W8 g9.holds (HV.out _ e8)).mono ?_
    rintro e W9 ⟨rfl, d⟩
    have c9 := c8.trans (d.mono c8.size)
    have e9 := e8.trans (d.mono e8.size)
    have g9 := g9.keep d
    clear d c8 e8
    go_wp2_with fail
    refine (ME.out vi _ W9 g9).mono ?_
    rintro e W10 ⟨rfl, m9, d⟩
    clear g9
    have c10 := c9.trans (d.mono (by omega))
    have e10 := e9.trans (d.mono (by omega))
    clear d c9 e9
    go_wp2_with fail
    refine (HE.out vi W10 m9).mono ?_
    rintro e W11 ⟨rfl, rfl⟩
    go_wp2_with fail
    refine (TB.out W10 c10).mono ?_
    rintro e W11 ⟨u, rfl, fu, d⟩
    have c11 := c10.trans (d.mono c10.size)
    have e11 := e10.trans (d.mono e10.size)
    have m9 := m9.keep d
    clear d c10 e10
    go_wp2_with fail
    refine (HI.out u W11 fu.holds).mono ?_
    rintro e W12 ⟨vj, rfl, gj, d⟩
    clear fu
    have c12 := c11.trans (d.mono c11.size)
    have e12 := e11.trans (d.mono e11.size)
    have m9 := m9.keep d
    clear d c11 e11
    go_wp2_with fail
    refine (eqIntS_same vj vs r W12 gj.holds (HV.out _ e12)).mono ?_
    rintro e W13 ⟨rfl, d⟩
    clear gj
    have c13 := c12.trans (d.mono c12.size)
    have e13 := e12.trans (d.mono e12.size)
    have m9 := m9.keep d
    clear d c12 e12
    go_wp2_with fail
    refine (HE.out vi W13 m9).mono ?_
    rintro e W14 ⟨rfl, rfl⟩
    go_wp2_with fail
    go_ret
    exact ⟨rfl, c13⟩
  · rw [if_pos (by omega)] at HZ
    go_enter Try.func6, Try.ntmps6
    go_wp2_with fail
    refine (HZ.out _).mono ?_
    rintro e w' ⟨rfl, rfl⟩
    go_wp2_with fail
    go_ret
    exact ⟨rfl, c0⟩

set_option maxRecDepth 100000 in
set_option maxHeartbeats 2000000 in
/-- What the walk gives, for every argument. -/
theorem contract (H : Type) (enc : TypeId × Value → H) (W : World) (base : Nat) (args : Array Value) (ds gs : List (DataW H)) (before : List MemPlace)
    (hval : ∀ (j : Nat) t v, Try.f6.params[j]? = some t → args[j]? = some v → Value.okWide Try.prog W .any base t v)
    (hW : DataW.Whole enc Try.prog Try.f6.params.toList Rows.fnExactFillOrderSpec.vars false W args.toList ds gs before) :
    Calls Try.prog 6 args W fun e W' => ∃ v, e = .returned v ∧ Rows.fnExactFillOrderSpec.post enc Try.prog Try.f6 false true false false W args v W' := by
  have hW' := hW
  obtain ⟨p, q, hA0, hV, rfl, hfz, hnd⟩ := hW
  have hA : DataW.TrodAll enc Try.prog W 0 (fun _ => true) true Try.f6.params.toList args.toList ds p := hA0
  rw [Try.params6] at hA hval
  obtain ⟨v0, vs0, d0, ds0, p0, q0, hargs, rfl, rfl, h0, r0⟩ := trodAll_cons hA
  obtain ⟨rfl, rfl, rfl⟩ := trodAll_nil r0
  obtain rfl : args = #[v0] := by cases args; simp_all
  obtain ⟨rfl, rfl⟩ := trodVars_none hV
  have k0 := h0
  have lt0 : ∀ x ∈ p0, x.block < W.heap.size := by obtain ⟨m, hm⟩ := k0; exact DataW.trod_lt m _ _ _ hm
  obtain ⟨a0, len0, cap0, rfl⟩ := okWide_slice Try.underlying46 (hval 0 46 v0 rfl rfl)
  obtain ⟨l0, x0⟩ : ∃ l, IsBoxes W a0 len0 cap0 l := by
    obtain ⟨fuel, hf⟩ := h0
    exact boxes_slice Try.underlying46 Try.underlying80 (by kernel_rfl) (by kernel_rfl) (by simp) (by simpa [Value.cells] using hf)
  clear hA0
  refine (walk a0 len0 cap0 l0 W x0).mono fun e W' ⟨he, bel⟩ => ?_
  subst he
  exact ⟨_, rfl, _, _, _, [], _, [], hW', trodAll_mk1 (shut_bool Try.underlying4 _), (trodAll_cons_mk (Below.trod laidOut (by kernel_rfl) (of_decide_eq_true (by kernel_rfl)) k0 bel lt0) trodAll_mk0), rfl, bel.frame _, fun h => by cases h⟩

set_option maxRecDepth 100000 in
theorem lifted (os : Os) (started : os.Started) (H : Type) (enc : TypeId × Value → H) :
    ReturnsInHanded {} Try.checked os 6 .any (Rows.fnExactFillOrderSpec.pre6 enc Try.prog Try.f6 Rows.fnExactFillOrderRow.domain false) (Rows.fnExactFillOrderSpec.post enc Try.prog Try.f6 false true false false) := by
  refine returnsInHanded_of_change (C := Try.checked) own started (by kernel_rfl) Try.func6
    (ChangeSpec.witness6 (enc := enc) (C := Try.checked) false ⟨#[], #[.slice none 0 0], []⟩ 8 (by kernel_rfl) (by kernel_rfl) (by kernel_rfl) (by kernel_rfl)) ?_
  intro W base args ds gs before hval hW _ _
  exact contract H enc W base args ds gs before hval hW

theorem proved : Rows.FnExactFillOrderSaid :=
  OpenClaim.holds_of_wide 6 Try.f6 rfl rfl rfl rfl rfl rfl rfl ⟨rfl, rfl, rfl, rfl, rfl⟩ rfl rfl rfl rfl rfl (by kernel_rfl) Try.func6 (by kernel_rfl)
    (of_decide_eq_true (by kernel_rfl)) (by unfold Func.isWrapper; first | (rw [if_pos (by decide +kernel)]; kernel_rfl) | (rw [if_neg (by decide +kernel)]; exact ⟨rfl, rfl⟩))
    (fun os started H enc _ => lifted os started H enc)
#print axioms proved
end Go.Proofs.Ytfeobdgdhgcgoaa.fnExactFillOrder
