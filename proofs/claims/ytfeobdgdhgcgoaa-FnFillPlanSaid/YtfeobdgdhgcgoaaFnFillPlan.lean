/-
  For every code of bytes the law on FillPlan (the model's answer; the plan is valid, nothing is overstowed, every box has its move only, and boxes are left over only if the ship is full) returns true and leaves its argument as it was. Conditions: none beyond the form's own reach.
-/
import Derived.Test.YtfeobdgdhgcgoaaRows
import Derived.Test.YtfeobdgdhgcgoaaGBase
import Derived.WalkKit
import Derived.ProofKit
import Derived.OpenShut
import Derived.ShutString
import Derived.ChangeOld
import Derived.Below
import Derived.Test.YtfeobdgdhgcgoaaGCr
import Derived.Test.YtfeobdgdhgcgoaaFlW
import Derived.Test.YtfeobdgdhgcgoaaFlMath2
import Derived.Test.YtfeobdgdhgcgoaaFlP
import Derived.Test.YtfeobdgdhgcgoaaFlI
import Derived.Test.YtfeobdgdhgcgoaaGPn
import Derived.Test.YtfeobdgdhgcgoaaGPl
import Derived.Test.YtfeobdgdhgcgoaaGPs
import Derived.Test.YtfeobdgdhgcgoaaSkMath
import Derived.Test.YtfeobdgdhgcgoaaPlI
import Derived.Test.YtfeobdgdhgcgoaaGSl
import Derived.Test.YtfeobdgdhgcgoaaOvI
import Derived.Test.YtfeobdgdhgcgoaaDaS
namespace Go.Proofs.Ytfeobdgdhgcgoaa.fnFillPlan
open Go.ChangeShapes Go.WideShapes Go.ChangeAt Go.RowKit
open Go.ChangeMaps (open_string shut_string)
set_option linter.unusedVariables false


/-- What the walk is told of a slice of integers that came in. -/
def IsRow (k : IntKind) (w : World) (a : Option Addr) (len cap : Nat) (zs : List Int) : Prop :=
  (a = none ∧ len = 0 ∧ cap = 0 ∧ zs = []) ∨
  ∃ x, a = some x ∧ len ≤ cap ∧ cap ≤ maxLen ∧ zs.length = cap ∧ (∀ i, i < zs.length → w.cell? (x.add i) = some (.int k (zs.getD i 0))) ∧ ∀ n ∈ zs, (Lit.int k n).wf = true

set_option maxRecDepth 10000 in
set_option maxHeartbeats 8000000 in
theorem walk (a0 : Option Addr) (len0 cap0 : Nat) (w : World) (w0 : IsRow8 w a0 len0 cap0) :
    Calls Try.prog 4 #[.slice a0 len0 cap0] w fun e w' => e = .returned (.bool true) ∧ Below w.heap.size w w' := by
  have hm := row8_len w0
  unfold maxLen at hm
  by_cases hl : ¬ len0 ≤ 1048576
  · go_enter Try.func4, Try.ntmps4
    go_wp2
    go_ret
    exact ⟨rfl, Below.refl _ _⟩
  · have hl := Nat.not_lt.1 (fun h => hl (Nat.not_le.2 h))
    go_enter Try.func4, Try.ntmps4
    go_wp2_with fail
    refine (drawFillPlan_any a0 len0 cap0 w w0).mono ?_
    rintro e w1 ⟨h, l, u, hl40, rfl, NB, hb⟩
    clear w0
    have hu := NB.holds
    clear NB
    obtain ⟨ua, uc, rfl⟩ : ∃ a c, u = .slice a l.length c := by obtain ⟨a, c, e, _⟩ := hu; exact ⟨a, c, e⟩
    have b2 : Below w1.heap.size w1 (w1.alloc (.cells #[.int .i64 h.b, .int .i64 h.r, .int .i64 h.t] 36)) := (Below.refl _ _).alloc (Nat.le_refl _) _
    have y2 := BoxH.new w1 h
    have C2 := hb.trans (b2.mono hb.size)
    have hu := hu.keep b2
    generalize hW2 : w1.alloc (.cells #[.int .i64 h.b, .int .i64 h.r, .int .i64 h.t] 36) = W2 at b2 y2 C2 hu
    have HW2 := Lib.hid hW2
    clear hW2 b2 hb
    have BK := Lib.hid fun (w' : World) (hs : Below W2.heap.size W2 w') => hu.keep hs
    have CK := Lib.hid fun (w' : World) (hs : Below W2.heap.size W2 w') => C2.trans (hs.mono C2.size)
    have e2 : Below W2.heap.size W2 W2 := Below.refl _ _
    have k0 := y2.c0
    have k1 := y2.c1
    have k2 := y2.c2
    clear hu C2
    have HI := Lib.hid fun (w' : World) (hb : HoldsBx w' (.slice ua l.length uc) l) => implFillPlan_any h _ l w' hb
    have HS := Lib.hid fun (w' : World) (hb : HoldsBx w' (.slice ua l.length uc) l) => specFillPlan_any h _ l w' hb
    by_cases hok : hlOk h = true ∧ bxsOk l = true
    · obtain ⟨hh, hb⟩ := hok
      obtain ⟨z1, z2, z3, z4⟩ := fillP_law hh hb
      obtain ⟨m1, m2, m3⟩ := slMany_bd hh
      obtain ⟨y1, y2', y3, y4⟩ := vyO_law z1
      obtain ⟨q1, q2⟩ := leftO_law z1
      have hyv := y2' z2
      have HNX := Lib.hid fun (v' : Value) (w' : World) (hb : HoldsBx w' (.slice ua l.length uc) l) (hp : HoldsI w' v' (fillP h l)) => (show Calls Try.prog 20 #[.agg #[.int .i64 h.b, .int .i64 h.r, .int .i64 h.t], .slice ua l.length uc, v'] w' fun e w2 => ∃ v2, e = .returned v2 ∧ FreeE w'.heap.size w2 v2 (idsP h (bxsOk l) (bxIds l) (fillP h l)) ∧ Below w'.heap.size w' w2 from by
        have := implPlanIds_any h _ v' l (fillP h l) w' hb hp
        exact this)
      have HVX := Lib.hid fun (v' : Value) (w' : World) (hb : HoldsBx w' (.slice ua l.length uc) l) (hp : HoldsI w' v' (fillP h l)) => (show Calls Try.prog 21 #[.agg #[.int .i64 h.b, .int .i64 h.r, .int .i64 h.t], .slice ua l.length uc, v'] w' fun e w2 => e = .returned (.bool true) ∧ Below w'.heap.size w' w2 from by
        have := implPlanValid_any h _ v' l (fillP h l) w' hb hp
        rw [z1] at this
        exact this)
      have HOX := Lib.hid fun (v' : Value) (w' : World) (hb : HoldsBx w' (.slice ua l.length uc) l) (hp : HoldsI w' v' (fillP h l)) => (show Calls Try.prog 22 #[.agg #[.int .i64 h.b, .int .i64 h.r, .int .i64 h.t], .slice ua l.length uc, v'] w' fun e w2 => e = .returned (.int .i64 0) ∧ Below w'.heap.size w' w2 from by
        have := implOverstows_any h _ v' l (fillP h l) w' hb hp
        rw [z2] at this
        exact this)
      have HYX := Lib.hid fun (v' : Value) (w' : World) (hb : HoldsBx w' (.slice ua l.length uc) l) (hp : HoldsI w' v' (fillP h l)) => (show Calls Try.prog 23 #[.agg #[.int .i64 h.b, .int .i64 h.r, .int .i64 h.t], .slice ua l.length uc, v'] w' fun e w2 => e = .returned (.int .i64 ((idsP h (bxsOk l) (bxIds l) (fillP h l)).length : Int)) ∧ Below w'.heap.size w' w2 from by
        have := implVoyageMoves_any h _ v' l (fillP h l) w' hb hp
        rw [hyv] at this
        exact this)
      have HLX := Lib.hid fun (v' : Value) (w' : World) (hb : HoldsBx w' (.slice ua l.length uc) l) (hp : HoldsI w' v' (fillP h l)) => (show Calls Try.prog 25 #[.agg #[.int .i64 h.b, .int .i64 h.r, .int .i64 h.t], .slice ua l.length uc, v'] w' fun e w2 => ∃ v2, e = .returned v2 ∧ FreeE w'.heap.size w2 v2 (leftO h l (fillP h l)) ∧ Below w'.heap.size w' w2 from by
        have := implLeftOver_any h _ v' l (fillP h l) w' hb hp
        exact this)
      have HM := Lib.hid fun w' => implSlotMany_any h w'
      generalize leftO h l (fillP h l) = F at HLX q1
      generalize idsP h (bxsOk l) (bxIds l) (fillP h l) = N at HNX HYX q1 z3
      generalize fillP h l = X at HI HS HNX HVX HOX HYX HLX z4
      generalize slMany h = sm at HM z3 z4 m1 m2
      have hX0 : 0 < X.length := by omega
      have hX40 : X.length ≤ 40 := by omega
      have hmin := run_min (l.length : Int) sm (N.length : Int) z3
      have hx0 : ((X.length : Int) == 0) = false := beq_eq_false_iff_ne.2 (by omega)
      have zs : IntKind.i64.wrap ((l.length : Int) - (N.length : Int)) = (F.length : Int) := by rw [IntWalk.i64_in _ (by omega)]; omega
      have hnn : ((N.length : Int) == (N.length : Int)) = true := by simp
      have hff : ((F.length : Int) == (F.length : Int)) = true := by simp
      clear hh hb z1 z2 z3 z4 m1 m2 m3 y1 y2' y3 y4 q1 q2 hyv
      go_wp2_with fail
      rw [HW2.out]
      generalize w1.heap.size = Y at y2 k0 k1 k2
      have YK := Lib.hid fun (w' : World) (hs : Below W2.heap.size W2 w') => y2.keep hs
      clear HW2 y2
      go_wp2_with fail
      refine (HI.out W2 (BK.out _ e2)).mono ?_
      rintro e W3 ⟨vi, rfl, g, d⟩
      have e3 := e2.trans (d.mono e2.size)
      clear k0 k1 k2
      have k0 := (YK.out _ e3).c0
      have k1 := (YK.out _ e3).c1
      have k2 := (YK.out _ e3).c2
      clear d e2
      have gi := g.holds
      obtain ⟨ia, ic, rfl⟩ := gi.form
      clear g
      go_wp2_with fail
      refine (HS.out W3 (BK.out _ e3)).mono ?_
      rintro e W4 ⟨vs, rfl, gs, d⟩
      have e4 := e3.trans (d.mono e3.size)
      have gi := gi.keep d
      clear k0 k1 k2
      have k0 := (YK.out _ e4).c0
      have k1 := (YK.out _ e4).c1
      have k2 := (YK.out _ e4).c2
      clear d e3
      have gs := gs.holds
      go_wp2_with fail
      refine (sameInts_yes _ vs X W4 gi gs).mono ?_
      rintro e W5 ⟨rfl, d⟩
      have e5 := e4.trans (d.mono e4.size)
      have gi := gi.keep d
      clear k0 k1 k2
      have k0 := (YK.out _ e5).c0
      have k1 := (YK.out _ e5).c1
      have k2 := (YK.out _ e5).c2
      clear d e4
      clear gs
      go_wp2_with fail
      refine (HNX.out _ W5 (BK.out _ e5) gi).mono ?_
      rintro e W6 ⟨vn, rfl, gn, d⟩
      have e6 := e5.trans (d.mono e5.size)
      have gi := gi.keep d
      clear k0 k1 k2
      have k0 := (YK.out _ e6).c0
      have k1 := (YK.out _ e6).c1
      have k2 := (YK.out _ e6).c2
      clear d e5
      obtain ⟨na, nc, rfl⟩ := gn.holds.form
      clear gn
      go_wp2_with fail
      refine (HVX.out _ W6 (BK.out _ e6) gi).mono ?_
      rintro e W7 ⟨rfl, d⟩
      have e7 := e6.trans (d.mono e6.size)
      have gi := gi.keep d
      clear k0 k1 k2
      have k0 := (YK.out _ e7).c0
      have k1 := (YK.out _ e7).c1
      have k2 := (YK.out _ e7).c2
      clear d e6
      go_wp2_with fail
      refine (HOX.out _ W7 (BK.out _ e7) gi).mono ?_
      rintro e W8 ⟨rfl, d⟩
      have e8 := e7.trans (d.mono e7.size)
      have gi := gi.keep d
      clear k0 k1 k2
      have k0 := (YK.out _ e8).c0
      have k1 := (YK.out _ e8).c1
      have k2 := (YK.out _ e8).c2
      clear d e7
      go_wp2_with fail
      refine (HYX.out _ W8 (BK.out _ e8) gi).mono ?_
      rintro e W9 ⟨rfl, d⟩
      have e9 := e8.trans (d.mono e8.size)
      have gi := gi.keep d
      clear k0 k1 k2
      have k0 := (YK.out _ e9).c0
      have k1 := (YK.out _ e9).c1
      have k2 := (YK.out _ e9).c2
      clear d e8
      go_wp2_with fail
      refine (HM.out W9).mono ?_
      rintro e W10 ⟨rfl, d⟩
      have e10 := e9.trans (d.mono e9.size)
      have gi := gi.keep d
      clear k0 k1 k2
      have k0 := (YK.out _ e10).c0
      have k1 := (YK.out _ e10).c1
      have k2 := (YK.out _ e10).c2
      clear d e9
      go_wp2_with fail
      refine (HLX.out _ W10 (BK.out _ e10) gi).mono ?_
      rintro e W11 ⟨v5, rfl, g5, d⟩
      have e11 := e10.trans (d.mono e10.size)
      have gi := gi.keep d
      clear k0 k1 k2
      have k0 := (YK.out _ e11).c0
      have k1 := (YK.out _ e11).c1
      have k2 := (YK.out _ e11).c2
      clear d e10
      obtain ⟨a5, c5, rfl⟩ := g5.holds.form
      clear g5
      go_wp2_with fail
      go_ret
      exact ⟨rfl, CK.out _ e11⟩
    · have e0 : fillP h l = [] := fillP_bad hok
      rw [e0] at HI HS
      clear hok e0
      go_wp2_with fail
      rw [HW2.out]
      generalize w1.heap.size = Y at y2 k0 k1 k2
      have YK := Lib.hid fun (w' : World) (hs : Below W2.heap.size W2 w') => y2.keep hs
      clear HW2 y2
      go_wp2_with fail
      refine (HI.out W2 (BK.out _ e2)).mono ?_
      rintro e W3 ⟨vi, rfl, g, d⟩
      have e3 := e2.trans (d.mono e2.size)
      clear k0 k1 k2
      have k0 := (YK.out _ e3).c0
      have k1 := (YK.out _ e3).c1
      have k2 := (YK.out _ e3).c2
      clear d e2
      have gi := g.holds
      obtain ⟨ia, ic, rfl⟩ := gi.form
      clear g
      go_wp2_with fail
      refine (HS.out W3 (BK.out _ e3)).mono ?_
      rintro e W4 ⟨vs, rfl, gs, d⟩
      have e4 := e3.trans (d.mono e3.size)
      have gi := gi.keep d
      clear k0 k1 k2
      have k0 := (YK.out _ e4).c0
      have k1 := (YK.out _ e4).c1
      have k2 := (YK.out _ e4).c2
      clear d e3
      have gs := gs.holds
      go_wp2_with fail
      refine (sameInts_yes _ vs [] W4 gi gs).mono ?_
      rintro e W5 ⟨rfl, d⟩
      have e5 := e4.trans (d.mono e4.size)
      have gi := gi.keep d
      clear k0 k1 k2
      have k0 := (YK.out _ e5).c0
      have k1 := (YK.out _ e5).c1
      have k2 := (YK.out _ e5).c2
      clear d e4
      clear gs
      go_wp2_with fail
      refine (alive_yes _).mono ?_
      rintro e w' ⟨rfl, rfl⟩
      go_wp2_with fail
      go_ret
      exact ⟨rfl, CK.out _ e5⟩

set_option maxRecDepth 100000 in
set_option maxHeartbeats 2000000 in
/-- What the walk gives, for every argument. -/
theorem contract (H : Type) (enc : TypeId × Value → H) (W : World) (base : Nat) (args : Array Value) (ds gs : List (DataW H)) (before : List MemPlace)
    (hval : ∀ (j : Nat) t v, Try.f4.params[j]? = some t → args[j]? = some v → Value.okWide Try.prog W .any base t v)
    (hW : DataW.Whole enc Try.prog Try.f4.params.toList Rows.fnFillPlanSpec.vars false W args.toList ds gs before) :
    Calls Try.prog 4 args W fun e W' => ∃ v, e = .returned v ∧ Rows.fnFillPlanSpec.post enc Try.prog Try.f4 false true false false W args v W' := by
  have hW' := hW
  obtain ⟨p, q, hA0, hV, rfl, hfz, hnd⟩ := hW
  have hA : DataW.TrodAll enc Try.prog W 0 (fun _ => true) true Try.f4.params.toList args.toList ds p := hA0
  rw [Try.params4] at hA hval
  obtain ⟨v0, vs0, d0, ds0, p0, q0, hargs, rfl, rfl, h0, r0⟩ := trodAll_cons hA
  obtain ⟨rfl, rfl, rfl⟩ := trodAll_nil r0
  obtain rfl : args = #[v0] := by cases args; simp_all
  obtain ⟨rfl, rfl⟩ := trodVars_none hV
  have k0 := h0
  have lt0 : ∀ x ∈ p0, x.block < W.heap.size := by obtain ⟨m, hm⟩ := k0; exact DataW.trod_lt m _ _ _ hm
  obtain ⟨a0, len0, cap0, rfl⟩ := okWide_slice Try.underlying22 (hval 0 22 v0 rfl rfl)
  obtain ⟨z0, x0⟩ : ∃ zs, IsRow .u8 W a0 len0 cap0 zs := by
    obtain ⟨fuel, hf⟩ := h0
    rcases open_ints Try.underlying22 Try.underlying5 (by kernel_rfl) hf with ⟨hcs, _⟩ | ⟨x, l, c, zs, hcs, _, hl, hm, hz, _, hcell, hwz⟩
    · simp [Value.cells] at hcs
      obtain ⟨rfl, rfl, rfl⟩ := hcs
      exact ⟨[], .inl ⟨rfl, rfl, rfl, rfl⟩⟩
    · simp [Value.cells] at hcs
      obtain ⟨rfl, rfl, rfl⟩ := hcs
      exact ⟨zs, .inr ⟨_, rfl, hl, hm, by simpa using hz, hcell, hwz⟩⟩
  clear hA0
  refine (walk a0 len0 cap0 W (row8_of x0)).mono fun e W' ⟨he, bel⟩ => ?_
  subst he
  exact ⟨_, rfl, _, _, _, [], _, [], hW', trodAll_mk1 (shut_bool Try.underlying4 _), (trodAll_cons_mk (Below.trod laidOut (by kernel_rfl) (of_decide_eq_true (by kernel_rfl)) k0 bel lt0) trodAll_mk0), rfl, bel.frame _, fun h => by cases h⟩

set_option maxRecDepth 100000 in
theorem lifted (os : Os) (started : os.Started) (H : Type) (enc : TypeId × Value → H) :
    ReturnsInHanded {} Try.checked os 4 .any (Rows.fnFillPlanSpec.pre6 enc Try.prog Try.f4 Rows.fnFillPlanRow.domain false) (Rows.fnFillPlanSpec.post enc Try.prog Try.f4 false true false false) := by
  refine returnsInHanded_of_change (C := Try.checked) own started (by kernel_rfl) Try.func4
    (ChangeSpec.witness6 (enc := enc) (C := Try.checked) false ⟨#[], #[.slice none 0 0], []⟩ 8 (by kernel_rfl) (by kernel_rfl) (by kernel_rfl) (by kernel_rfl)) ?_
  intro W base args ds gs before hval hW _ _
  exact contract H enc W base args ds gs before hval hW

theorem proved : Rows.FnFillPlanSaid :=
  OpenClaim.holds_of_wide 4 Try.f4 rfl rfl rfl rfl rfl rfl rfl ⟨rfl, rfl, rfl, rfl, rfl⟩ rfl rfl rfl rfl rfl (by kernel_rfl) Try.func4 (by kernel_rfl)
    (of_decide_eq_true (by kernel_rfl)) (by unfold Func.isWrapper; first | (rw [if_pos (by decide +kernel)]; kernel_rfl) | (rw [if_neg (by decide +kernel)]; exact ⟨rfl, rfl⟩))
    (fun os started H enc _ => lifted os started H enc)
#print axioms proved
end Go.Proofs.Ytfeobdgdhgcgoaa.fnFillPlan
