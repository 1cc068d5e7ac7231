/-
  For every code of bytes the law on WorstHeel (the model's answer; the worst heel is at least that of BestOrder, if there are not too many boxes, and at least the heel of what is loaded first) returns true and leaves its argument as it was. Conditions: none beyond the form's own reach.
-/
import Derived.Test.YtbaebamiiigmlabRows
import Derived.Test.YtbaebamiiigmlabGBase
import Derived.WalkKit
import Derived.ProofKit
import Derived.OpenShut
import Derived.ShutString
import Derived.ChangeOld
import Derived.Below
import Derived.Test.YtbaebamiiigmlabGCr
import Derived.Test.YtbaebamiiigmlabLdP
import Derived.Test.YtbaebamiiigmlabLdK
import Derived.Test.YtbaebamiiigmlabGLm
import Derived.Test.YtbaebamiiigmlabLdS
import Derived.Test.YtbaebamiiigmlabLdI
import Derived.Test.YtbaebamiiigmlabGPn
import Derived.Test.YtbaebamiiigmlabGPl
import Derived.Test.YtbaebamiiigmlabGPs
import Derived.Test.YtbaebamiiigmlabLdW
import Derived.Test.YtbaebamiiigmlabLdB
import Derived.Test.YtbaebamiiigmlabWtI
namespace Go.Proofs.Ytbaebamiiigmlab.fnWorstHeel
open Go.ChangeShapes Go.WideShapes Go.ChangeAt Go.RowKit
open Go.ChangeMaps (open_string shut_string)
set_option linter.unusedVariables false


/-- What the walk is told of a slice of integers that came in. -/
def IsRow (k : IntKind) (w : World) (a : Option Addr) (len cap : Nat) (zs : List Int) : Prop :=
  (a = none ∧ len = 0 ∧ cap = 0 ∧ zs = []) ∨
  ∃ x, a = some x ∧ len ≤ cap ∧ cap ≤ maxLen ∧ zs.length = cap ∧ (∀ i, i < zs.length → w.cell? (x.add i) = some (.int k (zs.getD i 0))) ∧ ∀ n ∈ zs, (Lit.int k n).wf = true

set_option maxRecDepth 10000 in
set_option maxHeartbeats 4000000 in
theorem walk (a0 : Option Addr) (len0 cap0 : Nat) (w : World) (w0 : IsRow8 w a0 len0 cap0) :
    Calls Try.prog 13 #[.slice a0 len0 cap0] w fun e w' => e = .returned (.bool true) ∧ Below w.heap.size w w' := by
  have hm := row8_len w0
  unfold maxLen at hm
  by_cases hl : ¬ len0 ≤ 1048576
  · go_enter Try.func13, Try.ntmps13
    go_wp2
    go_ret
    exact ⟨rfl, Below.refl _ _⟩
  · have hl := Nat.not_lt.1 (fun h => hl (Nat.not_le.2 h))
    go_enter Try.func13, Try.ntmps13
    go_wp2_with fail
    refine (drawWorstHeel_any a0 len0 cap0 w w0).mono ?_
    rintro e w1 ⟨h, l, p, os, u, v, vo, hl40, hp40, ho40, he, NB, OW, OO, hb⟩
    have he' : e = .returned (.tuple #[.agg #[.int .i64 h.b, .int .i64 h.r, .int .i64 h.t], u, v, vo]) := he
    subst he'
    clear he w0
    have hu := NB.holds
    have hv := OW.holds
    have ho := OO.holds
    clear NB OW OO
    obtain ⟨ua, uc, rfl⟩ : ∃ a c, u = .slice a l.length c := by obtain ⟨a, c, e, _⟩ := hu; exact ⟨a, c, e⟩
    obtain ⟨va, vc, rfl⟩ := hv.form
    obtain ⟨oa, oc, rfl⟩ := ho.form
    have b2 : Below w1.heap.size w1 (w1.alloc (.cells #[.int .i64 h.b, .int .i64 h.r, .int .i64 h.t] 24)) := (Below.refl _ _).alloc (Nat.le_refl _) _
    have y2 := BoxH.new w1 h
    have C2 := hb.trans (b2.mono hb.size)
    have hu := hu.keep b2
    have hv := hv.keep b2
    have ho := ho.keep b2
    generalize hW2 : w1.alloc (.cells #[.int .i64 h.b, .int .i64 h.r, .int .i64 h.t] 24) = W2 at b2 y2 C2 hu hv ho
    have HW2 := Lib.hid hW2
    clear hW2 b2 hb
    have BK := Lib.hid fun (w' : World) (hs : Below W2.heap.size W2 w') => hu.keep hs
    have PK := Lib.hid fun (w' : World) (hs : Below W2.heap.size W2 w') => hv.keep hs
    have CK := Lib.hid fun (w' : World) (hs : Below W2.heap.size W2 w') => C2.trans (hs.mono C2.size)
    have e2 : Below W2.heap.size W2 W2 := Below.refl _ _
    have k0 := y2.c0
    have k1 := y2.c1
    have k2 := y2.c2
    have OK := Lib.hid fun (w' : World) (hs : Below W2.heap.size W2 w') => ho.keep hs
    have hoc : os.length ≤ oc ∧ oc ≤ 9223372036854775807 := by
      obtain ⟨a', c', e, q1, q2, _⟩ := ho
      simp only [Value.slice.injEq] at e
      obtain ⟨-, -, rfl⟩ := e
      unfold maxLen at q2
      omega
    have hvc : p.length ≤ vc ∧ vc ≤ 9223372036854775807 := by
      obtain ⟨a', c', e, q1, q2, _⟩ := hv
      simp only [Value.slice.injEq] at e
      obtain ⟨-, -, rfl⟩ := e
      unfold maxLen at q2
      omega
    clear hu hv ho C2
    have HI := Lib.hid fun (w' : World) (hb : HoldsBx w' (.slice ua l.length uc) l) (hp : HoldsI w' (.slice va p.length vc) p) (ho : HoldsI w' (.slice oa os.length oc) os) => implWorstHeel_any h _ _ _ l p os w' hb hp ho
    have HS := Lib.hid fun (w' : World) (hb : HoldsBx w' (.slice ua l.length uc) l) (hp : HoldsI w' (.slice va p.length vc) p) (ho : HoldsI w' (.slice oa os.length oc) os) => specWorstHeel_any h _ _ _ l p os w' hb hp ho
    cases hld : ldOk h (bxsOk l) (bxIds l) p os
    · have e0 : worstH h l p os = -1 := by unfold worstH; rw [hld]; rfl
      rw [e0] at HI HS
      clear hld e0
      go_wp2_with fail
      rw [HW2.out]
      generalize w1.heap.size = Y at y2 k0 k1 k2
      have YK := Lib.hid fun (w' : World) (hs : Below W2.heap.size W2 w') => y2.keep hs
      clear HW2 y2
      go_wp2_with fail
      refine (HI.out W2 (BK.out _ e2) (PK.out _ e2) (OK.out _ e2)).mono ?_
      rintro e W3 ⟨rfl, d⟩
      have e3 := e2.trans (d.mono e2.size)
      clear k0 k1 k2
      have k0 := (YK.out _ e3).c0
      have k1 := (YK.out _ e3).c1
      have k2 := (YK.out _ e3).c2
      clear d e2
      go_wp2_with fail
      refine (HS.out W3 (BK.out _ e3) (PK.out _ e3) (OK.out _ e3)).mono ?_
      rintro e W4 ⟨rfl, d⟩
      have e4 := e3.trans (d.mono e3.size)
      clear k0 k1 k2
      have k0 := (YK.out _ e4).c0
      have k1 := (YK.out _ e4).c1
      have k2 := (YK.out _ e4).c2
      clear d e3
      go_wp2_with fail
      refine (alive_yes _).mono ?_
      rintro e w' ⟨rfl, rfl⟩
      go_wp2_with fail
      go_ret
      exact ⟨rfl, CK.out _ e4⟩
    · have hok := (ldOk_iff.1 hld).1
      have hwe : worstH h l p os = worstN h l p os os.length := by unfold worstH; rw [if_pos hld]
      have hwb := worstN_bd hld os.length (Nat.le_refl _)
      have HNB := Lib.hid fun k (hk : k ≤ os.length) => (show hN h l p os k ≤ worstH h l p os ∧ -(hN h l p os k) ≤ worstH h l p os ∧ -2400 ≤ hN h l p os k ∧ hN h l p os k ≤ 2400 from by
        have q1 := worstN_ge h l p os os.length k hk
        have q2 := hN_bd hld k hk
        rw [hwe]
        omega)
      have HHE := Lib.hid fun k (hk : k ≤ os.length) v' (w' : World) (hb : HoldsBx w' (.slice ua l.length uc) l) (hq : HoldsI w' v' (restr p (slotsN os k))) => (show Calls Try.prog 24 #[.agg #[.int .i64 h.b, .int .i64 h.r, .int .i64 h.t], .slice ua l.length uc, v'] w' fun e w2 => e = .returned (.tuple #[.int .i64 (hN h l p os k), .bool true]) ∧ Below w'.heap.size w' w2 from by
        have := implHeelOf_any h (.slice ua l.length uc) v' l (restr p (slotsN os k)) w' hb hq
        rw [hN_heel hld hk] at this
        exact this)
      have HLD := Lib.hid fun k (hk : k ≤ os.length) (w' : World) (hb : HoldsBx w' (.slice ua l.length uc) l) (hp : HoldsI w' (.slice va p.length vc) p) (ho : HoldsI w' (.slice oa os.length oc) os) => loaded_any h (.slice ua l.length uc) (.slice va p.length vc) (.slice oa k oc) l p os k w' hb hp (HoldsI.take k hk ho) hld hk
      have HBO := Lib.hid fun (w' : World) (hb : HoldsBx w' (.slice ua l.length uc) l) (hp : HoldsI w' (.slice va p.length vc) p) => implBestOrder_any h _ _ l p w' hb hp (by omega)
      have HCASE := Lib.hid (show (bestO h l p).2 = false ∨ ((bestO h l p).2 = true ∧ ∀ (v' : Value) (w' : World) (hb : HoldsBx w' (.slice ua l.length uc) l) (hp : HoldsI w' (.slice va p.length vc) p) (ho : HoldsI w' v' (bestO h l p).1), Calls Try.prog 51 #[.agg #[.int .i64 h.b, .int .i64 h.r, .int .i64 h.t], .slice ua l.length uc, .slice va p.length vc, v'] w' fun e w2 => e = .returned (.int .i64 (worstH h l p (bestO h l p).1)) ∧ Below w'.heap.size w' w2) from by
        cases hbt : (bestO h l p).2
        · exact .inl rfl
        · exact .inr ⟨rfl, fun v' w' hb hp ho => implWorstHeel_any h _ _ v' l p (bestO h l p).1 w' hb hp ho⟩)
      have HXY := Lib.hid fun (hbt : (bestO h l p).2 = true) => (bestO_law hbt).2.2.2 _ hld
      have hx0 : 0 ≤ worstH h l p os := by rw [hwe]; exact hwb.1
      generalize worstH h l p os = x at HI HS HNB hx0 HXY
      have hxx : (x != x) = false := by simp
      have hxd : decide (x < 0) = false := decide_eq_false (by omega)
      clear hld hok hwe hwb
      go_wp2_with fail
      rw [HW2.out]
      generalize w1.heap.size = Y at y2 k0 k1 k2
      have YK := Lib.hid fun (w' : World) (hs : Below W2.heap.size W2 w') => y2.keep hs
      clear HW2 y2
      go_wp2_with fail
      refine (HI.out W2 (BK.out _ e2) (PK.out _ e2) (OK.out _ e2)).mono ?_
      rintro e W3 ⟨rfl, d⟩
      have e3 := e2.trans (d.mono e2.size)
      clear k0 k1 k2
      have k0 := (YK.out _ e3).c0
      have k1 := (YK.out _ e3).c1
      have k2 := (YK.out _ e3).c2
      clear d e2
      go_wp2_with fail
      refine (HS.out W3 (BK.out _ e3) (PK.out _ e3) (OK.out _ e3)).mono ?_
      rintro e W4 ⟨rfl, d⟩
      have e4 := e3.trans (d.mono e3.size)
      clear k0 k1 k2
      have k0 := (YK.out _ e4).c0
      have k1 := (YK.out _ e4).c1
      have k2 := (YK.out _ e4).c2
      clear d e3
      have EK := Lib.hid e4
      obtain ⟨N, hN⟩ : ∃ N, N = os.length := ⟨_, rfl⟩
      have hN40 : N ≤ 40 := by omega
      rw [← hN] at HLD HHE HNB OK hoc ⊢
      clear k0 k1 k2 hN e4 HI HS
      go_wp2_with fail
      go_loopw [8] (fun i wr => ∃ k : Nat, k ≤ N + 1 ∧ i = .int .i64 k ∧ Hid (Below W4.heap.size W4 wr)) (fun i _ => N + 1 - (intOf i).toNat)
      case atStart => exact ⟨0, by omega, rfl, Lib.hid (Below.refl _ _)⟩
      case round =>
        obtain ⟨k, hkN, rfl, BR⟩ := hrel
        have ER := Lib.hid (EK.out.trans (BR.out.mono EK.out.size))
        have y := YK.out wr ER.out
        by_cases hle : k ≤ N
        · have ik : (k : Int) ≤ (N : Int) := by omega
          have ikd : decide ((k : Int) ≤ (N : Int)) = true := decide_eq_true ik
          have i0k : (0 : Int) ≤ (k : Int) := by omega
          have ikc : (k : Int) ≤ (oc : Int) := by omega
          have HLk := Lib.hid fun (w' : World) (hs : Since wr w') => HLD.out k hle w' (BK.out _ (ER.out.trans (Below.mono hs ER.out.size))) (PK.out _ (ER.out.trans (Below.mono hs ER.out.size))) (OK.out _ (ER.out.trans (Below.mono hs ER.out.size)))
          have HEk := Lib.hid (HHE.out k hle)
          obtain ⟨b1, b2, b3, b4⟩ := HNB.out k hle
          generalize hN h l p os k = hk at HEk b1 b2 b3 b4
          have zh : IntKind.i64.wrap (-hk) = -hk := IntWalk.i64_in _ (by omega)
          have d1 : decide (hk > x) = false := decide_eq_false (by omega)
          have d1' : decide (x < hk) = false := d1
          have d2 : decide (-hk > x) = false := decide_eq_false (by omega)
          have d2' : decide (x < -hk) = false := d2
          have HK := Lib.hid fun (w' : World) (hs : Since wr w') => (show w'.cell? ⟨Y, 0, none⟩ = some (.int .i64 h.b) ∧ w'.cell? ⟨Y, 1, none⟩ = some (.int .i64 h.r) ∧ w'.cell? ⟨Y, 2, none⟩ = some (.int .i64 h.t) ∧ Since wr w' from ⟨(y.keep hs).c0, (y.keep hs).c1, (y.keep hs).c2, hs⟩)
          have hstart := HK.out _ (show Since wr wr.drew from (Below.refl _ _).drew)
          clear y b1 b2 b3 b4
          go_wp2_with fail
          go_region_held3 (fun w' => w'.cell? ⟨Y, 0, none⟩ = some (.int .i64 h.b) ∧ w'.cell? ⟨Y, 1, none⟩ = some (.int .i64 h.r) ∧ w'.cell? ⟨Y, 2, none⟩ = some (.int .i64 h.t) ∧ Since wr w')
            (first | exact hstart | exact HK.out _ s5 | exact HK.out _ (by exact (‹_ ∧ _› : _ ∧ _ ∧ _ ∧ Since wr _).2.2.2) | fail)
            (first
              | (go_at_call 44; ((with_reducible refine (HLk.out _ (by exact (‹_ ∧ _› : _ ∧ _ ∧ _ ∧ Since wr _).2.2.2)).mono ?_); rintro e w5 ⟨v5, rfl, g5, d5⟩; have s5 : Since wr w5 := Since.call (by exact (‹_ ∧ _› : _ ∧ _ ∧ _ ∧ Since wr _).2.2.2) d5; have G5 := Lib.hid g5; clear d5 g5))
              | fail)
          rename_i hheld
          have X5 := Lib.hid (BR.out.trans (Below.mono hheld.2.2.2 BR.out.size))
          have E5 := ER.out.trans (Below.mono hheld.2.2.2 ER.out.size)
          have HE5 := Lib.hid (HEk.out v5 _ (BK.out _ E5) G5.out.holds)
          have y5 := YK.out _ E5
          have k0 := y5.c0
          have k1 := y5.c1
          have k2 := y5.c2
          clear hheld hstart G5 y5 E5
          go_wp2_with fail
          refine HE5.out.mono ?_
          rintro e w6 ⟨rfl, d6⟩
          have hx9 := Lib.hid (X5.out.trans (d6.mono X5.out.size))
          clear d6 k0 k1 k2
          go_wp2_with fail
          go_roundw
          case rel => exact ⟨k + 1, by omega, by go_num, hx9⟩
          case measure => simp [intOf]; omega
        · have ikd : decide ((k : Int) ≤ (N : Int)) = false := decide_eq_false (by omega)
          have k0 := y.c0
          have k1 := y.c1
          have k2 := y.c2
          have HBB := Lib.hid (HBO.out wr (BK.out _ ER.out) (PK.out _ ER.out))
          clear y
          go_wp2_with fail
          refine HBB.out.mono ?_
          rintro e w8 ⟨v8, rfl, g8, d8⟩
          have E8 := ER.out.trans (d8.mono ER.out.size)
          have k0 := (YK.out w8 E8).c0
          have k1 := (YK.out w8 E8).c1
          have k2 := (YK.out w8 E8).c2
          rcases HCASE.out with hbt | ⟨hbt, HWB⟩
          · have C9 := CK.out _ E8
            rw [hbt]
            clear d8 g8 E8
            go_wp2_with fail
            go_ret
            exact ⟨rfl, C9⟩
          · have HWk := Lib.hid (HWB v8 w8 (BK.out _ E8) (PK.out _ E8) g8.holds)
            rw [hbt]
            have CE := Lib.hid fun (w' : World) (hs : Below w8.heap.size w8 w') => CK.out _ (E8.trans (hs.mono E8.size))
            have hxy := HXY.out hbt
            have dxy : decide (worstH h l p (bestO h l p).1 ≤ x) = true := decide_eq_true hxy
            clear d8 g8 E8 hbt HWB hxy
            generalize worstH h l p (bestO h l p).1 = z at HWk dxy
            go_wp2_with fail
            refine HWk.out.mono ?_
            rintro e w9 ⟨rfl, d9⟩
            have C9 := CE.out _ d9
            go_wp2_with fail
            go_ret
            exact ⟨rfl, C9⟩

set_option maxRecDepth 100000 in
set_option maxHeartbeats 2000000 in
/-- What the walk gives, for every argument. -/
theorem contract (H : Type) (enc : TypeId × Value → H) (W : World) (base : Nat) (args : Array Value) (ds gs : List (DataW H)) (before : List MemPlace)
    (hval : ∀ (j : Nat) t v, Try.f13.params[j]? = some t → args[j]? = some v → Value.okWide Try.prog W .any base t v)
    (hW : DataW.Whole enc Try.prog Try.f13.params.toList Rows.fnWorstHeelSpec.vars false W args.toList ds gs before) :
    Calls Try.prog 13 args W fun e W' => ∃ v, e = .returned v ∧ Rows.fnWorstHeelSpec.post enc Try.prog Try.f13 false true false false W args v W' := by
  have hW' := hW
  obtain ⟨p, q, hA0, hV, rfl, hfz, hnd⟩ := hW
  have hA : DataW.TrodAll enc Try.prog W 0 (fun _ => true) true Try.f13.params.toList args.toList ds p := hA0
  rw [Try.params13] at hA hval
  obtain ⟨v0, vs0, d0, ds0, p0, q0, hargs, rfl, rfl, h0, r0⟩ := trodAll_cons hA
  obtain ⟨rfl, rfl, rfl⟩ := trodAll_nil r0
  obtain rfl : args = #[v0] := by cases args; simp_all
  obtain ⟨rfl, rfl⟩ := trodVars_none hV
  have k0 := h0
  have lt0 : ∀ x ∈ p0, x.block < W.heap.size := by obtain ⟨m, hm⟩ := k0; exact DataW.trod_lt m _ _ _ hm
  obtain ⟨a0, len0, cap0, rfl⟩ := okWide_slice Try.underlying22 (hval 0 22 v0 rfl rfl)
  obtain ⟨z0, x0⟩ : ∃ zs, IsRow .u8 W a0 len0 cap0 zs := by
    obtain ⟨fuel, hf⟩ := h0
    rcases open_ints Try.underlying22 Try.underlying5 (by kernel_rfl) hf with ⟨hcs, _⟩ | ⟨x, l, c, zs, hcs, _, hl, hm, hz, _, hcell, hwz⟩
    · simp [Value.cells] at hcs
      obtain ⟨rfl, rfl, rfl⟩ := hcs
      exact ⟨[], .inl ⟨rfl, rfl, rfl, rfl⟩⟩
    · simp [Value.cells] at hcs
      obtain ⟨rfl, rfl, rfl⟩ := hcs
      exact ⟨zs, .inr ⟨_, rfl, hl, hm, by simpa using hz, hcell, hwz⟩⟩
  clear hA0
  refine (walk a0 len0 cap0 W (row8_of x0)).mono fun e W' ⟨he, bel⟩ => ?_
  subst he
  exact ⟨_, rfl, _, _, _, [], _, [], hW', trodAll_mk1 (shut_bool Try.underlying4 _), (trodAll_cons_mk (Below.trod laidOut (by kernel_rfl) (of_decide_eq_true (by kernel_rfl)) k0 bel lt0) trodAll_mk0), rfl, bel.frame _, fun h => by cases h⟩

set_option maxRecDepth 100000 in
theorem lifted (os : Os) (started : os.Started) (H : Type) (enc : TypeId × Value → H) :
    ReturnsInHanded {} Try.checked os 13 .any (Rows.fnWorstHeelSpec.pre6 enc Try.prog Try.f13 Rows.fnWorstHeelRow.domain false) (Rows.fnWorstHeelSpec.post enc Try.prog Try.f13 false true false false) := by
  refine returnsInHanded_of_change (C := Try.checked) own started (by kernel_rfl) Try.func13
    (ChangeSpec.witness6 (enc := enc) (C := Try.checked) false ⟨#[], #[.slice none 0 0], []⟩ 8 (by kernel_rfl) (by kernel_rfl) (by kernel_rfl) (by kernel_rfl)) ?_
  intro W base args ds gs before hval hW _ _
  exact contract H enc W base args ds gs before hval hW

theorem proved : Rows.FnWorstHeelSaid :=
  OpenClaim.holds_of_wide 13 Try.f13 rfl rfl rfl rfl rfl rfl rfl ⟨rfl, rfl, rfl, rfl, rfl⟩ rfl rfl rfl rfl rfl (by kernel_rfl) Try.func13 (by kernel_rfl)
    (of_decide_eq_true (by kernel_rfl)) (by unfold Func.isWrapper; first | (rw [if_pos (by decide +kernel)]; kernel_rfl) | (rw [if_neg (by decide +kernel)]; exact ⟨rfl, rfl⟩))
    (fun os started H enc _ => lifted os started H enc)
#print axioms proved
end Go.Proofs.Ytbaebamiiigmlab.fnWorstHeel
