/-
  For every ship, all boxes, every plan the law on SortRows's exact answer returns true and leaves its arguments as they were: the program's SortRows and the model's give the same, the program's writes nothing of its arguments, and what it gives is shared with nothing. Conditions: none beyond the form's own reach.
-/
import Derived.Test.YtmgnbkiphdlooabRows
import Derived.Test.YtmgnbkiphdlooabGBase
import Derived.WalkKit
import Derived.ProofKit
import Derived.OpenShut
import Derived.ShutString
import Derived.ChangeOld
import Derived.Below
import Derived.Test.YtmgnbkiphdlooabGBx
import Derived.Test.YtmgnbkiphdlooabGSl
import Derived.Test.YtmgnbkiphdlooabGCr
import Derived.Test.YtmgnbkiphdlooabGPs
import Derived.Test.YtmgnbkiphdlooabRwT
import Derived.Test.YtmgnbkiphdlooabRwI
namespace Go.Proofs.Ytmgnbkiphdlooab.fnExactSortRows
open Go.ChangeShapes Go.WideShapes Go.ChangeAt Go.RowKit
open Go.ChangeMaps (open_string shut_string)
set_option linter.unusedVariables false


/-- What the walk is told of a slice of integers that came in. -/
def IsRow (k : IntKind) (w : World) (a : Option Addr) (len cap : Nat) (zs : List Int) : Prop :=
  (a = none ∧ len = 0 ∧ cap = 0 ∧ zs = []) ∨
  ∃ x, a = some x ∧ len ≤ cap ∧ cap ≤ maxLen ∧ zs.length = cap ∧ (∀ i, i < zs.length → w.cell? (x.add i) = some (.int k (zs.getD i 0))) ∧ ∀ n ∈ zs, (Lit.int k n).wf = true

theorem sortO_le (h : Hl) (l : List Bx) (p : List Int) : (sortO h l p).length ≤ p.length := by
  cases hok : plOk h (bxsOk l) (bxIds l) p
  · rw [sortO_bad hok]; exact Nat.zero_le _
  · exact Nat.le_of_eq (sortO_law hok).1
set_option maxRecDepth 10000 in
set_option maxHeartbeats 4000000 in
theorem walk (h : Hl) (a1 : Option Addr) (len1 cap1 : Nat) (l : List Bx) (a2 : Option Addr) (len2 cap2 : Nat) (z2 : List Int)  (w : World) (w0 : HlFits h) (w1 : IsBoxes w a1 len1 cap1 l) (w2 : IsRowI w a2 len2 cap2 z2)  :
    Calls Try.prog 10 #[.agg #[.int .i64 h.b, .int .i64 h.r, .int .i64 h.t], .slice a1 len1 cap1, .slice a2 len2 cap2] w fun e w' => e = .returned (.bool true) ∧ Below w.heap.size w w' := by
  obtain ⟨hu, hlu⟩ := HoldsBx.of_came w1
  obtain ⟨gg, gl⟩ := HoldsI.of_came w2
  generalize z2.take len2 = p at gg gl
  have gm : len2 ≤ maxLen := by obtain ⟨_, cap, h1, h2, h3, _⟩ := gg; omega
  have bm : len1 ≤ maxLen := by obtain ⟨_, cap, h1, h2, h3, _⟩ := hu; omega
  have HZ := Lib.hid fun w => szBoxS_any a1 len1 cap1 1048576 w (by omega) (by omega) bm
  unfold maxLen at gm bm
  clear w0 w1 w2
  have b1 : Below w.heap.size w (w.alloc (.cells #[.int .i64 h.b, .int .i64 h.r, .int .i64 h.t] 46)) := (Below.refl _ _).alloc (Nat.le_refl _) _
  have y1 := BoxG.new w h
  obtain ⟨W0, hW0⟩ : ∃ W0, W0 = w.alloc (.cells #[.int .i64 h.b, .int .i64 h.r, .int .i64 h.t] 46) := ⟨_, rfl⟩
  rw [← hW0] at b1 y1
  have HW := Lib.hid hW0
  have c0 := b1
  clear hW0 b1
  by_cases gn : len2 ≤ 1048576
  · by_cases bn : len1 ≤ 1048576
    · rw [if_neg (by omega)] at HZ
      have d0 : decide ((1048576 : Int) - len1 < 0) = false := decide_eq_false (by omega)
      have TB := Lib.hid fun (w1 : World) (b1 : Below w.heap.size w w1) => toBoxS_free (.slice a1 len1 cap1) l w1 (hu.keep b1) (by omega)
      have TP := Lib.hid fun (w1 : World) (b1 : Below w.heap.size w w1) => toIntS_free (.slice a2 len2 cap2) p w1 (gg.keep b1) (by omega)
      have HS := Lib.hid fun u v w (hb : HoldsBx w u l) (hp : HoldsI w v p) => specSortRows_any h u v l p  w hb hp
      have HI := Lib.hid fun u v w (hb : HoldsBx w u l) (hp : HoldsI w v p) => implSortRows_any h u v l p  w hb hp
      have hlen : (sortO h l p).length ≤ 1048576 := by have := sortO_le h l p; omega
      generalize sortO h l p = r at HS HI hlen
      have ME := Lib.hid fun v K w (h : FreeE K w v r) => markIntS_e v K r w h (by omega)
      have HE := Lib.hid fun v w (h : HoldsI w v (marksI 1 r.length)) => heldIntS_1 v r.length w h (by omega)
      have yy0 : (0 : Int) ≤ ((1 + r.length : Nat) : Int) := by omega
      generalize ((1 + r.length : Nat) : Int) = Y at ME HE yy0
      have hY : (Y != Y) = false := by simp
      have MB := Lib.hid fun v K w (h : FreeBx K w v l) => markBoxS_any K v l w h (by omega)
      have MI := Lib.hid fun v K w (h : FreeI K w v p) => markIntS_from K v p (1 + l.length * 5) w h (by omega) (by omega)
      have zk : (0 : Int) ≤ ((1 + l.length * 5 + p.length : Nat) : Int) := by omega
      generalize ((1 + l.length * 5 + p.length : Nat) : Int) = X2 at MI zk
      generalize ((1 + l.length * 5 : Nat) : Int) = X1 at MB MI
      clear hu gg gm bm
      have y0 := y1.c0
      have y01 := y1.c1
      have y02 := y1.c2
      go_enter Try.func10, Try.ntmps10
      go_wp2_with fail
      rw [← HW.out]
      refine (HZ.out W0).mono ?_
      rintro e w' ⟨rfl, rfl⟩
      clear HZ
      clear y0 y01 y02
      have k0 := y1.c0
      have k1 := y1.c1
      have k2 := y1.c2
      go_wp2_with fail
      refine (toHull_any h W0).mono ?_
      rintro e W1 ⟨rfl, d⟩
      clear k0 k1 k2
      have c1 := c0.trans (d.mono c0.size)
      have y1 := y1.keep d
      clear d c0
      go_wp2_with fail
      refine (TB.out W1 c1).mono ?_
      rintro e W2 ⟨u, rfl, fu, d⟩
      have c2 := c1.trans (d.mono c1.size)
      have y1 := y1.keep d
      clear d c1
      go_wp2_with fail
      refine (TP.out W2 c2).mono ?_
      rintro e W3 ⟨v, rfl, fv, d⟩
      have c3 := c2.trans (d.mono c2.size)
      have y1 := y1.keep d
      have fu := fu.keep d
      clear d c2
      go_wp2_with fail
      refine (HS.out u v W3 fu.holds fv.holds).mono ?_
      rintro e W4 ⟨vs, rfl, gs, d⟩
      clear fu fv HS
      have c4 := c3.trans (d.mono c3.size)
      have y1 := y1.keep d
      clear d c3
      have HV := Lib.hid fun w' (hs : Below W4.heap.size W4 w') => gs.holds.keep hs
      have YV := Lib.hid fun w' (hs : Below W4.heap.size W4 w') => y1.keep hs
      have e4 : Below W4.heap.size W4 W4 := Below.refl _ _
      have hcs : w.heap.size ≤ W4.heap.size := c4.size
      clear gs y1
      go_wp2_with fail
      refine (TB.out W4 c4).mono ?_
      rintro e W5 ⟨x1, rfl, f1, d⟩
      have c5 := c4.trans (d.mono c4.size)
      have e5 := e4.trans (d.mono e4.size)
      clear d c4 e4
      have B1 := Lib.hid f1.blk
      have hs6 : W4.heap.size ≤ W5.heap.size := e5.size
      go_wp2_with fail
      refine (TP.out W5 c5).mono ?_
      rintro e W6 ⟨x2, rfl, f2, d⟩
      have hs67 := d.size
      have c6 := c5.trans (d.mono c5.size)
      have e6 := e5.trans (d.mono e5.size)
      have f1 := f1.keep d
      clear d c5 e5
      have B2 := Lib.hid f2.blk
      have k0 := (YV.out _ e6).c0
      have k1 := (YV.out _ e6).c1
      have k2 := (YV.out _ e6).c2
      go_wp2_with fail
      refine (toHull_any h W6).mono ?_
      rintro e W7 ⟨rfl, d⟩
      clear k0 k1 k2
      have hs78 := d.size
      have c7 := c6.trans (d.mono c6.size)
      have e7 := e6.trans (d.mono e6.size)
      have f1 := f1.keep d
      have f2 := f2.keep d
      clear d c6 e6
      have hc8 := c7.size
      have he8 := e7.size
      go_wp2_with fail
      refine (HI.out x1 x2 W7 f1.holds f2.holds).mono ?_
      rintro e W8 ⟨vi, rfl, g9, d⟩
      have c8 := c7.trans (d.mono c7.size)
      have e8 := e7.trans (d.mono e7.size)
      have f1 := f1.keep d
      have f2 := f2.keep d
      clear d c7 e7
      go_wp2_with fail
      refine (eqIntS_same vi vs r W8 g9.holds (HV.out _ e8)).mono ?_
      rintro e W9 ⟨rfl, d⟩
      have c9 := c8.trans (d.mono c8.size)
      have e9 := e8.trans (d.mono e8.size)
      have f1 := f1.keep d
      have f2 := f2.keep d
      have g9 := g9.keep d
      clear d c8 e8
      go_wp2_with fail
      refine (TB.out W9 c9).mono ?_
      rintro e W10 ⟨u, rfl, fu, d⟩
      have c10 := c9.trans (d.mono c9.size)
      have e10 := e9.trans (d.mono e9.size)
      have f1 := f1.keep d
      have f2 := f2.keep d
      have g9 := g9.keep d
      clear d c9 e9
      go_wp2_with fail
      refine (eqBoxS_same x1 u l W10 f1.holds fu.holds).mono ?_
      rintro e W11 ⟨rfl, d⟩
      clear fu
      have c11 := c10.trans (d.mono c10.size)
      have e11 := e10.trans (d.mono e10.size)
      have f1 := f1.keep d
      have f2 := f2.keep d
      have g9 := g9.keep d
      clear d c10 e10
      go_wp2_with fail
      refine (TP.out W11 c11).mono ?_
      rintro e W12 ⟨v, rfl, fv, d⟩
      have c12 := c11.trans (d.mono c11.size)
      have e12 := e11.trans (d.mono e11.size)
      have f1 := f1.keep d
      have f2 := f2.keep d
      have g9 := g9.keep d
      clear d c11 e11
      go_wp2_with fail
      refine (eqIntS_same x2 v p W12 f2.holds fv.holds).mono ?_
      rintro e W13 ⟨rfl, d⟩
      clear fv
      have c13 := c12.trans (d.mono c12.size)
      have e13 := e12.trans (d.mono e12.size)
      have f1 := f1.keep d
      have f2 := f2.keep d
      have g9 := g9.keep d
      clear d c12 e12
      go_wp2_with fail
      refine (MB.out x1 _ W13 f1).mono ?_
      rintro e W14 ⟨rfl, gx, gx1, gxo, gx2, mm⟩
      obtain ⟨q1, q2⟩ := B1.out gx gxo
      have c14 := c13.trans (mm.under (by omega) c13.size)
      have e14 := e13.trans (mm.under (by omega) e13.size)
      have f2 := f2.most mm q2
      have g9 := g9.most mm (by omega)
      clear f1 mm gx1 gxo gx2 q1 q2 gx c13 e13 B1
      go_wp2_with fail
      refine (MI.out x2 _ W14 f2).mono ?_
      rintro e W15 ⟨rfl, gx, gx1, gxo, gx2, mm⟩
      obtain ⟨q1, q2⟩ := B2.out gx gxo
      have c15 := c14.trans (mm.under (by omega) c14.size)
      have e15 := e14.trans (mm.under (by omega) e14.size)
      have g9 := g9.most mm (by omega)
      clear f2 mm gx1 gxo gx2 q1 q2 gx c14 e14 B2
      go_wp2_with fail
      refine (eqIntS_same vi vs r W15 g9.holds (HV.out _ e15)).mono ?_
      rintro e W16 ⟨rfl, d⟩
      have c16 := c15.trans (d.mono c15.size)
      have e16 := e15.trans (d.mono e15.size)
      have g9 := g9.keep d
      clear d c15 e15
      go_wp2_with fail
      refine (ME.out vi _ W16 g9).mono ?_
      rintro e W17 ⟨rfl, m9, d⟩
      clear g9
      have c17 := c16.trans (d.mono (by omega))
      have e17 := e16.trans (d.mono (by omega))
      clear d c16 e16
      go_wp2_with fail
      refine (HE.out vi W17 m9).mono ?_
      rintro e W18 ⟨rfl, rfl⟩
      have k0 := (YV.out _ e17).c0
      have k1 := (YV.out _ e17).c1
      have k2 := (YV.out _ e17).c2
      go_wp2_with fail
      refine (toHull_any h W17).mono ?_
      rintro e W18 ⟨rfl, d⟩
      clear k0 k1 k2
      have c18 := c17.trans (d.mono c17.size)
      have e18 := e17.trans (d.mono e17.size)
      have m9 := m9.keep d
      clear d c17 e17
      go_wp2_with fail
      refine (TB.out W18 c18).mono ?_
      rintro e W19 ⟨u, rfl, fu, d⟩
      have c19 := c18.trans (d.mono c18.size)
      have e19 := e18.trans (d.mono e18.size)
      have m9 := m9.keep d
      clear d c18 e18
      go_wp2_with fail
      refine (TP.out W19 c19).mono ?_
      rintro e W20 ⟨v, rfl, fv, d⟩
      have c20 := c19.trans (d.mono c19.size)
      have e20 := e19.trans (d.mono e19.size)
      have m9 := m9.keep d
      have fu := fu.keep d
      clear d c19 e19
      go_wp2_with fail
      refine (HI.out u v W20 fu.holds fv.holds).mono ?_
      rintro e W21 ⟨vj, rfl, gj, d⟩
      clear fu fv
      have c21 := c20.trans (d.mono c20.size)
      have e21 := e20.trans (d.mono e20.size)
      have m9 := m9.keep d
      clear d c20 e20
      go_wp2_with fail
      refine (eqIntS_same vj vs r W21 gj.holds (HV.out _ e21)).mono ?_
      rintro e W22 ⟨rfl, d⟩
      clear gj
      have c22 := c21.trans (d.mono c21.size)
      have e22 := e21.trans (d.mono e21.size)
      have m9 := m9.keep d
      clear d c21 e21
      go_wp2_with fail
      refine (HE.out vi W22 m9).mono ?_
      rintro e W23 ⟨rfl, rfl⟩
      go_wp2_with fail
      go_ret
      exact ⟨rfl, c22⟩
    · rw [if_pos (by omega)] at HZ
      have y0 := y1.c0
      have y01 := y1.c1
      have y02 := y1.c2
      go_enter Try.func10, Try.ntmps10
      go_wp2_with fail
      rw [← HW.out]
      refine (HZ.out W0).mono ?_
      rintro e w' ⟨rfl, rfl⟩
      go_wp2_with fail
      go_ret
      exact ⟨rfl, c0⟩
  · have y0 := y1.c0
    have y01 := y1.c1
    have y02 := y1.c2
    go_enter Try.func10, Try.ntmps10
    go_wp2_with fail
    rw [← HW.out]
    go_wp2_with fail
    go_ret
    exact ⟨rfl, c0⟩

set_option maxRecDepth 100000 in
set_option maxHeartbeats 2000000 in
/-- What the walk gives, for every argument. -/
theorem contract (H : Type) (enc : TypeId × Value → H) (W : World) (base : Nat) (args : Array Value) (ds gs : List (DataW H)) (before : List MemPlace)
    (hval : ∀ (j : Nat) t v, Try.f10.params[j]? = some t → args[j]? = some v → Value.okWide Try.prog W .any base t v)
    (hW : DataW.Whole enc Try.prog Try.f10.params.toList Rows.fnExactSortRowsSpec.vars false W args.toList ds gs before) :
    Calls Try.prog 10 args W fun e W' => ∃ v, e = .returned v ∧ Rows.fnExactSortRowsSpec.post enc Try.prog Try.f10 false true false false W args v W' := by
  have hW' := hW
  obtain ⟨p, q, hA0, hV, rfl, hfz, hnd⟩ := hW
  have hA : DataW.TrodAll enc Try.prog W 0 (fun _ => true) true Try.f10.params.toList args.toList ds p := hA0
  rw [Try.params10] at hA hval
  obtain ⟨v0, vs0, d0, ds0, p0, q0, hargs, rfl, rfl, h0, r0⟩ := trodAll_cons hA
  obtain ⟨v1, vs1, d1, ds1, p1, q1, rfl, rfl, rfl, h1, r1⟩ := trodAll_cons r0
  obtain ⟨v2, vs2, d2, ds2, p2, q2, rfl, rfl, rfl, h2, r2⟩ := trodAll_cons r1
  obtain ⟨rfl, rfl, rfl⟩ := trodAll_nil r2
  obtain rfl : args = #[v0, v1, v2] := by cases args; simp_all
  obtain ⟨rfl, rfl⟩ := trodVars_none hV
  have k0 := h0
  have lt0 : ∀ x ∈ p0, x.block < W.heap.size := by obtain ⟨m, hm⟩ := k0; exact DataW.trod_lt m _ _ _ hm
  obtain ⟨hl0, rfl, w0⟩ := hull_value Try.underlying46 (by kernel_rfl) (by kernel_rfl) (by simp) (hval 0 46 v0 rfl rfl) h0
  have k1 := h1
  have lt1 : ∀ x ∈ p1, x.block < W.heap.size := by obtain ⟨m, hm⟩ := k1; exact DataW.trod_lt m _ _ _ hm
  obtain ⟨a1, len1, cap1, rfl⟩ := okWide_slice Try.underlying47 (hval 1 47 v1 rfl rfl)
  obtain ⟨l1, x1⟩ : ∃ l, IsBoxes W a1 len1 cap1 l := by
    obtain ⟨fuel, hf⟩ := h1
    exact boxes_slice Try.underlying47 Try.underlying79 (by kernel_rfl) (by kernel_rfl) (by simp) (by simpa [Value.cells] using hf)
  have k2 := h2
  have lt2 : ∀ x ∈ p2, x.block < W.heap.size := by obtain ⟨m, hm⟩ := k2; exact DataW.trod_lt m _ _ _ hm
  obtain ⟨a2, len2, cap2, rfl⟩ := okWide_slice Try.underlying26 (hval 2 26 v2 rfl rfl)
  obtain ⟨z2, x2⟩ : ∃ zs, IsRow .i64 W a2 len2 cap2 zs := by
    obtain ⟨fuel, hf⟩ := h2
    rcases open_ints Try.underlying26 Try.underlying3 (by kernel_rfl) hf with ⟨hcs, _⟩ | ⟨x, l, c, zs, hcs, _, hl, hm, hz, _, hcell, hwz⟩
    · simp [Value.cells] at hcs
      obtain ⟨rfl, rfl, rfl⟩ := hcs
      exact ⟨[], .inl ⟨rfl, rfl, rfl, rfl⟩⟩
    · simp [Value.cells] at hcs
      obtain ⟨rfl, rfl, rfl⟩ := hcs
      exact ⟨zs, .inr ⟨_, rfl, hl, hm, by simpa using hz, hcell, hwz⟩⟩
  clear hA0
  refine (walk hl0 a1 len1 cap1 l1 a2 len2 cap2 z2 W w0 x1 x2).mono fun e W' ⟨he, bel⟩ => ?_
  subst he
  exact ⟨_, rfl, _, _, _, [], _, [], hW', trodAll_mk1 (shut_bool Try.underlying4 _), (trodAll_cons_mk (Below.trod laidOut (by kernel_rfl) (of_decide_eq_true (by kernel_rfl)) k0 bel lt0) (trodAll_cons_mk (Below.trod laidOut (by kernel_rfl) (of_decide_eq_true (by kernel_rfl)) k1 bel lt1) (trodAll_cons_mk (Below.trod laidOut (by kernel_rfl) (of_decide_eq_true (by kernel_rfl)) k2 bel lt2) trodAll_mk0))), rfl, bel.frame _, fun h => by cases h⟩

set_option maxRecDepth 100000 in
theorem lifted (os : Os) (started : os.Started) (H : Type) (enc : TypeId × Value → H) :
    ReturnsInHanded {} Try.checked os 10 .any (Rows.fnExactSortRowsSpec.pre6 enc Try.prog Try.f10 Rows.fnExactSortRowsRow.domain false) (Rows.fnExactSortRowsSpec.post enc Try.prog Try.f10 false true false false) := by
  refine returnsInHanded_of_change (C := Try.checked) own started (by kernel_rfl) Try.func10
    (ChangeSpec.witness6 (enc := enc) (C := Try.checked) false ⟨#[], #[.agg #[.int .i64 0, .int .i64 0, .int .i64 0], .slice none 0 0, .slice none 0 0], []⟩ 8 (by kernel_rfl) (by kernel_rfl) (by kernel_rfl) (by kernel_rfl)) ?_
  intro W base args ds gs before hval hW _ _
  exact contract H enc W base args ds gs before hval hW

theorem proved : Rows.FnExactSortRowsSaid :=
  OpenClaim.holds_of_wide 10 Try.f10 rfl rfl rfl rfl rfl rfl rfl ⟨rfl, rfl, rfl, rfl, rfl⟩ rfl rfl rfl rfl rfl (by kernel_rfl) Try.func10 (by kernel_rfl)
    (of_decide_eq_true (by kernel_rfl)) (by unfold Func.isWrapper; first | (rw [if_pos (by decide +kernel)]; kernel_rfl) | (rw [if_neg (by decide +kernel)]; exact ⟨rfl, rfl⟩))
    (fun os started H enc _ => lifted os started H enc)
#print axioms proved
end Go.Proofs.Ytmgnbkiphdlooab.fnExactSortRows
