/-
  For every code of bytes the law on LoadOk (the model's answer; from the empty ship all boxes can be put, one after the other, and lead to the plan; in the other direction, all can be taken) returns true and leaves its argument as it was. Conditions: none beyond the form's own reach.
-/
import Derived.Test.YtbaebamiiigmlabRows
import Derived.Test.YtbaebamiiigmlabGBase
import Derived.WalkKit
import Derived.ProofKit
import Derived.OpenShut
import Derived.ShutString
import Derived.ChangeOld
import Derived.Below
import Derived.Test.YtbaebamiiigmlabGCr
import Derived.Test.YtbaebamiiigmlabLdP
import Derived.Test.YtbaebamiiigmlabLdK
import Derived.Test.YtbaebamiiigmlabGLm
import Derived.Test.YtbaebamiiigmlabLdS
import Derived.Test.YtbaebamiiigmlabLdI
import Derived.Test.YtbaebamiiigmlabGPn
import Derived.Test.YtbaebamiiigmlabGPl
import Derived.Test.YtbaebamiiigmlabGPs
import Derived.Test.YtbaebamiiigmlabLdV
namespace Go.Proofs.Ytbaebamiiigmlab.fnLoadOk
open Go.ChangeShapes Go.WideShapes Go.ChangeAt Go.RowKit
open Go.ChangeMaps (open_string shut_string)
set_option linter.unusedVariables false


/-- What the walk is told of a slice of integers that came in. -/
def IsRow (k : IntKind) (w : World) (a : Option Addr) (len cap : Nat) (zs : List Int) : Prop :=
  (a = none ∧ len = 0 ∧ cap = 0 ∧ zs = []) ∨
  ∃ x, a = some x ∧ len ≤ cap ∧ cap ≤ maxLen ∧ zs.length = cap ∧ (∀ i, i < zs.length → w.cell? (x.add i) = some (.int k (zs.getD i 0))) ∧ ∀ n ∈ zs, (Lit.int k n).wf = true

set_option maxRecDepth 10000 in
set_option maxHeartbeats 4000000 in
theorem walk (a0 : Option Addr) (len0 cap0 : Nat) (w : World) (w0 : IsRow8 w a0 len0 cap0) :
    Calls Try.prog 11 #[.slice a0 len0 cap0] w fun e w' => e = .returned (.bool true) ∧ Below w.heap.size w w' := by
  have hm := row8_len w0
  unfold maxLen at hm
  by_cases hl : ¬ len0 ≤ 1048576
  · go_enter Try.func11, Try.ntmps11
    go_wp2
    go_ret
    exact ⟨rfl, Below.refl _ _⟩
  · have hl := Nat.not_lt.1 (fun h => hl (Nat.not_le.2 h))
    go_enter Try.func11, Try.ntmps11
    go_wp2_with fail
    refine (drawLoadOk_any a0 len0 cap0 w w0).mono ?_
    rintro e w1 ⟨h, l, p, os, u, v, vo, hl40, hp40, ho40, he, NB, OW, OO, hb⟩
    have he' : e = .returned (.tuple #[.agg #[.int .i64 h.b, .int .i64 h.r, .int .i64 h.t], u, v, vo]) := he
    subst he'
    clear he w0
    have hu := NB.holds
    have hv := OW.holds
    have ho := OO.holds
    clear NB OW OO
    obtain ⟨ua, uc, rfl⟩ : ∃ a c, u = .slice a l.length c := by obtain ⟨a, c, e, _⟩ := hu; exact ⟨a, c, e⟩
    obtain ⟨va, vc, rfl⟩ := hv.form
    obtain ⟨oa, oc, rfl⟩ := ho.form
    have b2 : Below w1.heap.size w1 (w1.alloc (.cells #[.int .i64 h.b, .int .i64 h.r, .int .i64 h.t] 24)) := (Below.refl _ _).alloc (Nat.le_refl _) _
    have y2 := BoxH.new w1 h
    have C2 := hb.trans (b2.mono hb.size)
    have hu := hu.keep b2
    have hv := hv.keep b2
    have ho := ho.keep b2
    generalize hW2 : w1.alloc (.cells #[.int .i64 h.b, .int .i64 h.r, .int .i64 h.t] 24) = W2 at b2 y2 C2 hu hv ho
    have HW2 := Lib.hid hW2
    clear hW2 b2 hb
    have BK := Lib.hid fun (w' : World) (hs : Below W2.heap.size W2 w') => hu.keep hs
    have PK := Lib.hid fun (w' : World) (hs : Below W2.heap.size W2 w') => hv.keep hs
    have CK := Lib.hid fun (w' : World) (hs : Below W2.heap.size W2 w') => C2.trans (hs.mono C2.size)
    have e2 : Below W2.heap.size W2 W2 := Below.refl _ _
    have k0 := y2.c0
    have k1 := y2.c1
    have k2 := y2.c2
    have OK := Lib.hid fun (w' : World) (hs : Below W2.heap.size W2 w') => ho.keep hs
    have hoc : os.length ≤ oc ∧ oc ≤ 9223372036854775807 := by
      obtain ⟨a', c', e, q1, q2, _⟩ := ho
      simp only [Value.slice.injEq] at e
      obtain ⟨-, -, rfl⟩ := e
      unfold maxLen at q2
      omega
    have hvc : p.length ≤ vc ∧ vc ≤ 9223372036854775807 := by
      obtain ⟨a', c', e, q1, q2, _⟩ := hv
      simp only [Value.slice.injEq] at e
      obtain ⟨-, -, rfl⟩ := e
      unfold maxLen at q2
      omega
    clear hu hv ho C2
    have HI := Lib.hid fun (w' : World) (hb : HoldsBx w' (.slice ua l.length uc) l) (hp : HoldsI w' (.slice va p.length vc) p) (ho : HoldsI w' (.slice oa os.length oc) os) => implLoadOk_any h _ _ _ l p os w' hb hp ho
    have HS := Lib.hid fun (w' : World) (hb : HoldsBx w' (.slice ua l.length uc) l) (hp : HoldsI w' (.slice va p.length vc) p) (ho : HoldsI w' (.slice oa os.length oc) os) => specLoadOk_any h _ _ _ l p os w' hb hp ho
    cases hld : ldOk h (bxsOk l) (bxIds l) p os
    · rw [hld] at HI HS
      clear hld
      go_wp2_with fail
      rw [HW2.out]
      generalize w1.heap.size = Y at y2 k0 k1 k2
      have YK := Lib.hid fun (w' : World) (hs : Below W2.heap.size W2 w') => y2.keep hs
      clear HW2 y2
      go_wp2_with fail
      refine (HI.out W2 (BK.out _ e2) (PK.out _ e2) (OK.out _ e2)).mono ?_
      rintro e W3 ⟨rfl, d⟩
      have e3 := e2.trans (d.mono e2.size)
      clear k0 k1 k2
      have k0 := (YK.out _ e3).c0
      have k1 := (YK.out _ e3).c1
      have k2 := (YK.out _ e3).c2
      clear d e2
      go_wp2_with fail
      refine (HS.out W3 (BK.out _ e3) (PK.out _ e3) (OK.out _ e3)).mono ?_
      rintro e W4 ⟨rfl, d⟩
      have e4 := e3.trans (d.mono e3.size)
      clear k0 k1 k2
      have k0 := (YK.out _ e4).c0
      have k1 := (YK.out _ e4).c1
      have k2 := (YK.out _ e4).c2
      clear d e3
      go_wp2_with fail
      refine (alive_yes _).mono ?_
      rintro e w' ⟨rfl, rfl⟩
      go_wp2_with fail
      go_ret
      exact ⟨rfl, CK.out _ e4⟩
    · have hok := (ldOk_iff.1 hld).1
      have hlen := pl_len hok
      have HG := Lib.hid fun j (hj : j < os.length) => (show ∃ t : Nat, os.getD j 0 = (t : Int) ∧ t < p.length ∧ pAt p t ≠ 0 from by
        obtain ⟨q1, q2, _⟩ := (ldOk_iff.1 hld).2.2 j hj
        exact ⟨(os.getD j 0).toNat, by omega, by omega, q2⟩)
      have HPT := Lib.hid fun v' j (hj : j < os.length) (w' : World) (hb : HoldsBx w' (.slice ua l.length uc) l) (hq : HoldsI w' v' (restr p (slotsN os (j + 1)))) => (show Calls Try.prog 20 #[.agg #[.int .i64 h.b, .int .i64 h.r, .int .i64 h.t], .slice ua l.length uc, v', .int .i64 (os.getD j 0)] w' fun e w2 => ∃ v'', e = .returned (.tuple #[v'', .int .i64 (pAt p (os.getD j 0).toNat)]) ∧ FreeE w'.heap.size w2 v'' (restr p (slotsN os j)) ∧ Below w'.heap.size w' w2 from by
        have := implPlanTake_any h (.slice ua l.length uc) v' l (restr p (slotsN os (j + 1))) (os.getD j 0) w' hb hq
        rw [(ld_step hld hj).2] at this
        exact this)
      have HALL := Lib.hid (ld_all hld)
      have HLD := Lib.hid fun (w' : World) (hb : HoldsBx w' (.slice ua l.length uc) l) (hp : HoldsI w' (.slice va p.length vc) p) (ho : HoldsI w' (.slice oa os.length oc) os) => (show Calls Try.prog 44 #[.agg #[.int .i64 h.b, .int .i64 h.r, .int .i64 h.t], .slice ua l.length uc, .slice va p.length vc, .slice oa os.length oc] w' fun e w2 => ∃ v', e = .returned (.tuple #[v', .bool true]) ∧ FreeE w'.heap.size w2 v' p ∧ Below w'.heap.size w' w2 from by
        have := loaded_any h (.slice ua l.length uc) (.slice va p.length vc) (.slice oa os.length oc) l p os os.length w' hb hp (by rw [List.take_length]; exact ho) hld (Nat.le_refl _)
        rw [ld_all hld] at this
        exact this)
      have HID := Lib.hid fun (v' : Value) (w' : World) (hb : HoldsBx w' (.slice ua l.length uc) l) (hq : HoldsI w' v' (restr p (slotsN os 0))) => (show Calls Try.prog 22 #[.agg #[.int .i64 h.b, .int .i64 h.r, .int .i64 h.t], .slice ua l.length uc, v'] w' fun e w2 => ∃ v'', e = .returned v'' ∧ FreeE w'.heap.size w2 v'' [] ∧ Below w'.heap.size w' w2 from by
        have := implPlanIds_any h (.slice ua l.length uc) v' l (restr p (slotsN os 0)) w' hb hq
        rw [idsP_none] at this
        exact this)
      rw [hld] at HI HS
      clear hld hok
      go_wp2_with fail
      rw [HW2.out]
      generalize w1.heap.size = Y at y2 k0 k1 k2
      have YK := Lib.hid fun (w' : World) (hs : Below W2.heap.size W2 w') => y2.keep hs
      clear HW2 y2
      go_wp2_with fail
      refine (HI.out W2 (BK.out _ e2) (PK.out _ e2) (OK.out _ e2)).mono ?_
      rintro e W3 ⟨rfl, d⟩
      have e3 := e2.trans (d.mono e2.size)
      clear k0 k1 k2
      have k0 := (YK.out _ e3).c0
      have k1 := (YK.out _ e3).c1
      have k2 := (YK.out _ e3).c2
      clear d e2
      go_wp2_with fail
      refine (HS.out W3 (BK.out _ e3) (PK.out _ e3) (OK.out _ e3)).mono ?_
      rintro e W4 ⟨rfl, d⟩
      have e4 := e3.trans (d.mono e3.size)
      clear k0 k1 k2
      have k0 := (YK.out _ e4).c0
      have k1 := (YK.out _ e4).c1
      have k2 := (YK.out _ e4).c2
      clear d e3
      go_wp2_with fail
      refine (HLD.out W4 (BK.out _ e4) (PK.out _ e4) (OK.out _ e4)).mono ?_
      rintro e W5 ⟨vx, rfl, gx, d⟩
      have e5 := e4.trans (d.mono e4.size)
      clear k0 k1 k2
      have k0 := (YK.out _ e5).c0
      have k1 := (YK.out _ e5).c1
      have k2 := (YK.out _ e5).c2
      clear d e4
      have gx := gx.holds
      obtain ⟨xa, xc, rfl⟩ := gx.form
      have PE := PK.out W5 e5
      have HH3 := Lib.hid (PE.keep ((Below.refl _ _).alloc (Nat.le_refl _) (.cells #[] 3)))
      obtain ⟨pb, po, rfl, -, -⟩ := PE.at_ (k := 0) (by omega)
      have own3 : (W5.alloc (.cells #[] 3)).ownsRow W5.heap.size 3 1 (.slice (some ⟨W5.heap.size, 0, none⟩) 0 0) 0 [] := own_empty (Nat.le_refl _) (heap_alloc_new _ _)
      obtain ⟨i0, hi, hz0, hz1, hz2⟩ := info_parts infoInt
      clear PE k0 k1 k2 HI HS HLD
      go_wp2_with (at_builtin; refine wpList_append_own _ rfl _ _ 26 rfl W5.heap.size 3 i0 (.int .i64 0) 1 8 Try.underlying26 hi hz0 hz1 hz2 rfl (by decide) _ 0 [] rfl own3 ⟨pb, po, none⟩ p.length vc (rowI p) rfl (by rw [rowI_len, Nat.mul_one]) (fun j u hu => HoldsI.rowA HH3.out j u hu) (rowI_one p) (by unfold maxLen; omega) (by omega) (by simp) ?_; intro v4 w4 hown4 hgrow4 _)
      simp only [Nat.zero_add, List.nil_append] at hown4
      have hb4 : Below W5.heap.size W5 w4 := ((Below.refl W5.heap.size W5).alloc (Nat.le_refl _) (.cells #[] 3)).trans (own_below (v := .slice (some ⟨W5.heap.size, 0, none⟩) 0 0) hgrow4 (by simp) (fun k hk => (own_lt own3 k hk).1))
      have e4 := e5.trans (hb4.mono e5.size)
      have EK := Lib.hid e4
      have h4 := Lib.hid (NewI.of_own hown4).holds
      have gx := gx.keep hb4
      have GX := Lib.hid fun (w' : World) (hs : Below w4.heap.size w4 w') => gx.keep hs
      obtain ⟨N, hN⟩ : ∃ N, N = os.length := ⟨_, rfl⟩
      have h4' : Hid (HoldsI w4 v4 (restr p (slotsN os N))) := Lib.hid (by rw [hN, HALL.out]; exact h4.out)
      have hN40 : N ≤ 40 := by omega
      have zN : IntKind.i64.wrap ((N : Int) - 1) = (N : Int) - 1 := IntWalk.i64_in _ (by omega)
      rw [← hN] at HG HPT OK hoc ⊢
      clear hown4 hgrow4 own3 hb4 e5 e4 HH3 hN gx h4 hi hz0 hz1 hz2 HALL
      go_wp2_with fail
      go_loopw [10, 11] (fun va i wr => ∃ (k : Nat) (u : Value) (m : Int), k ≤ N ∧ u = va ∧ m = (k : Int) - 1 ∧ i = .int .i64 m ∧ Hid (HoldsI wr u (restr p (slotsN os k))) ∧ Hid (Below w4.heap.size w4 wr)) (fun _ i _ => (intOf i + 1).toNat)
      case atStart => exact ⟨N, _, _, Nat.le_refl _, rfl, rfl, rfl, h4', Lib.hid (Below.refl _ _)⟩
      case round =>
        clear h4'
        obtain ⟨k, u, m, hkN, rfl, hm, rfl, HU, BR⟩ := hrel
        have ER := Lib.hid (EK.out.trans (BR.out.mono EK.out.size))
        have y := YK.out wr ER.out
        rcases Nat.eq_zero_or_pos k with hk0 | hk0
        · subst hk0
          obtain rfl : m = -1 := by omega
          have gu := HU.out
          have hm1 : decide ((-1 : Int) ≥ 0) = false := rfl
          have k0 := y.c0
          have k1 := y.c1
          have k2 := y.c2
          clear y hm k0 k1 k2
          go_wp2_with fail
          refine (sameP_yes _ _ p wr (GX.out wr BR.out) (PK.out wr ER.out)).mono ?_
          rintro e w8 ⟨rfl, d8⟩
          have E8 := ER.out.trans (d8.mono ER.out.size)
          have gu := gu.keep d8
          have k0 := (YK.out w8 E8).c0
          have k1 := (YK.out w8 E8).c1
          have k2 := (YK.out w8 E8).c2
          clear d8
          go_wp2_with fail
          refine (HID.out u w8 (BK.out _ E8) gu).mono ?_
          rintro e w9 ⟨v9, rfl, g9, d9⟩
          have C9 := CK.out _ (E8.trans (d9.mono E8.size))
          obtain ⟨ia, ic, rfl⟩ := g9.holds.form
          clear g9 gu d9 k0 k1 k2 E8
          go_wp2_with fail
          go_ret
          exact ⟨rfl, C9⟩
        · obtain ⟨j, rfl⟩ : ∃ j, k = j + 1 := ⟨k - 1, by omega⟩
          obtain rfl : m = (j : Int) := by omega
          have hjN : j < N := by omega
          obtain ⟨t, ht, htl, hpt⟩ := HG.out j hjN
          obtain ⟨ob, oo, rfl, hobl, s0⟩ := (OK.out wr ER.out).at_ hjN
          rw [ht] at s0
          obtain ⟨pb', po', hpe, hpbl, t0⟩ := (PK.out wr ER.out).at_ htl
          simp only [Option.some.injEq, Addr.mk.injEq, and_true] at hpe
          obtain ⟨rfl, rfl⟩ := hpe
          have e1 : p.getD t 0 = pAt p t := rfl
          rw [e1] at t0
          have HPk := Lib.hid fun (w' : World) (hs : Since wr w') => HPT.out u j hjN w' (BK.out _ (ER.out.trans (Below.mono hs ER.out.size))) (HU.out.keep hs)
          rw [ht, Int.toNat_natCast] at HPk
          have ij : (j : Int) < (N : Int) := by omega
          have i0j : (0 : Int) ≤ (j : Int) := by omega
          have it : (t : Int) < (p.length : Int) := by omega
          have i0t : (0 : Int) ≤ (t : Int) := by omega
          have hge : decide ((j : Int) ≥ 0) = true := decide_eq_true i0j
          obtain ⟨ua', uc', hue⟩ := HU.out.form
          have HK := Lib.hid fun (w' : World) (hs : Since wr w') => (show w'.cell? ⟨Y, 0, none⟩ = some (.int .i64 h.b) ∧ w'.cell? ⟨Y, 1, none⟩ = some (.int .i64 h.r) ∧ w'.cell? ⟨Y, 2, none⟩ = some (.int .i64 h.t) ∧ w'.cell? ⟨ob, oo + j, none⟩ = some (.int .i64 (t : Int)) ∧ Since wr w' from ⟨(y.keep hs).c0, (y.keep hs).c1, (y.keep hs).c2, (Below.cell hs (p := ⟨ob, oo + j, none⟩) hobl).trans s0, hs⟩)
          have hstart := HK.out _ (show Since wr wr.drew from (Below.refl _ _).drew)
          have T0 := Lib.hid fun (w' : World) (hs : Since wr w') => (Below.cell hs (p := ⟨pb, po + t, none⟩) hpbl).trans t0
          have S0 := Lib.hid fun (w' : World) (hs : Since wr w') => (Below.cell hs (p := ⟨ob, oo + j, none⟩) hobl).trans s0
          obtain ⟨z, hz⟩ : ∃ z, z = pAt p t := ⟨_, rfl⟩
          rw [← hz] at T0 HPk
          have zz : (z != z) = false := by simp
          clear y hm s0 t0 e1 ht hpt hue hz hk0
          go_wp2_with fail
          go_region_held3 (fun w' => w'.cell? ⟨Y, 0, none⟩ = some (.int .i64 h.b) ∧ w'.cell? ⟨Y, 1, none⟩ = some (.int .i64 h.r) ∧ w'.cell? ⟨Y, 2, none⟩ = some (.int .i64 h.t) ∧ w'.cell? ⟨ob, oo + j, none⟩ = some (.int .i64 (t : Int)) ∧ Since wr w')
            (first | exact hstart | exact HK.out _ s5 | exact HK.out _ (by exact (‹_ ∧ _› : _ ∧ _ ∧ _ ∧ _ ∧ Since wr _).2.2.2.2) | fail)
            (first
              | (go_at_call 20; ((with_reducible refine (HPk.out _ (by exact (‹_ ∧ _› : _ ∧ _ ∧ _ ∧ _ ∧ Since wr _).2.2.2.2)).mono ?_); rintro e w5 ⟨v5, rfl, g5, d5⟩; have s5 : Since wr w5 := Since.call (by exact (‹_ ∧ _› : _ ∧ _ ∧ _ ∧ _ ∧ Since wr _).2.2.2.2) d5; have G5 := Lib.hid g5; clear d5 g5))
              | fail)
          rename_i hheld
          have hx9 := Lib.hid (BR.out.trans (Below.mono hheld.2.2.2.2 BR.out.size))
          have t5 := T0.out _ hheld.2.2.2.2
          have s9 := S0.out _ hheld.2.2.2.2
          have G9 := Lib.hid G5.out.holds
          clear hheld hstart G5
          have zj : IntKind.i64.wrap ((j : Int) - 1) = (j : Int) - 1 := IntWalk.i64_in _ (by omega)
          go_wp2_with fail
          go_roundw
          case rel => exact ⟨j, _, _, by omega, rfl, rfl, rfl, G9, hx9⟩
          case measure => simp [intOf] <;> omega

set_option maxRecDepth 100000 in
set_option maxHeartbeats 2000000 in
/-- What the walk gives, for every argument. -/
theorem contract (H : Type) (enc : TypeId × Value → H) (W : World) (base : Nat) (args : Array Value) (ds gs : List (DataW H)) (before : List MemPlace)
    (hval : ∀ (j : Nat) t v, Try.f11.params[j]? = some t → args[j]? = some v → Value.okWide Try.prog W .any base t v)
    (hW : DataW.Whole enc Try.prog Try.f11.params.toList Rows.fnLoadOkSpec.vars false W args.toList ds gs before) :
    Calls Try.prog 11 args W fun e W' => ∃ v, e = .returned v ∧ Rows.fnLoadOkSpec.post enc Try.prog Try.f11 false true false false W args v W' := by
  have hW' := hW
  obtain ⟨p, q, hA0, hV, rfl, hfz, hnd⟩ := hW
  have hA : DataW.TrodAll enc Try.prog W 0 (fun _ => true) true Try.f11.params.toList args.toList ds p := hA0
  rw [Try.params11] at hA hval
  obtain ⟨v0, vs0, d0, ds0, p0, q0, hargs, rfl, rfl, h0, r0⟩ := trodAll_cons hA
  obtain ⟨rfl, rfl, rfl⟩ := trodAll_nil r0
  obtain rfl : args = #[v0] := by cases args; simp_all
  obtain ⟨rfl, rfl⟩ := trodVars_none hV
  have k0 := h0
  have lt0 : ∀ x ∈ p0, x.block < W.heap.size := by obtain ⟨m, hm⟩ := k0; exact DataW.trod_lt m _ _ _ hm
  obtain ⟨a0, len0, cap0, rfl⟩ := okWide_slice Try.underlying22 (hval 0 22 v0 rfl rfl)
  obtain ⟨z0, x0⟩ : ∃ zs, IsRow .u8 W a0 len0 cap0 zs := by
    obtain ⟨fuel, hf⟩ := h0
    rcases open_ints Try.underlying22 Try.underlying5 (by kernel_rfl) hf with ⟨hcs, _⟩ | ⟨x, l, c, zs, hcs, _, hl, hm, hz, _, hcell, hwz⟩
    · simp [Value.cells] at hcs
      obtain ⟨rfl, rfl, rfl⟩ := hcs
      exact ⟨[], .inl ⟨rfl, rfl, rfl, rfl⟩⟩
    · simp [Value.cells] at hcs
      obtain ⟨rfl, rfl, rfl⟩ := hcs
      exact ⟨zs, .inr ⟨_, rfl, hl, hm, by simpa using hz, hcell, hwz⟩⟩
  clear hA0
  refine (walk a0 len0 cap0 W (row8_of x0)).mono fun e W' ⟨he, bel⟩ => ?_
  subst he
  exact ⟨_, rfl, _, _, _, [], _, [], hW', trodAll_mk1 (shut_bool Try.underlying4 _), (trodAll_cons_mk (Below.trod laidOut (by kernel_rfl) (of_decide_eq_true (by kernel_rfl)) k0 bel lt0) trodAll_mk0), rfl, bel.frame _, fun h => by cases h⟩

set_option maxRecDepth 100000 in
theorem lifted (os : Os) (started : os.Started) (H : Type) (enc : TypeId × Value → H) :
    ReturnsInHanded {} Try.checked os 11 .any (Rows.fnLoadOkSpec.pre6 enc Try.prog Try.f11 Rows.fnLoadOkRow.domain false) (Rows.fnLoadOkSpec.post enc Try.prog Try.f11 false true false false) := by
  refine returnsInHanded_of_change (C := Try.checked) own started (by kernel_rfl) Try.func11
    (ChangeSpec.witness6 (enc := enc) (C := Try.checked) false ⟨#[], #[.slice none 0 0], []⟩ 8 (by kernel_rfl) (by kernel_rfl) (by kernel_rfl) (by kernel_rfl)) ?_
  intro W base args ds gs before hval hW _ _
  exact contract H enc W base args ds gs before hval hW

theorem proved : Rows.FnLoadOkSaid :=
  OpenClaim.holds_of_wide 11 Try.f11 rfl rfl rfl rfl rfl rfl rfl ⟨rfl, rfl, rfl, rfl, rfl⟩ rfl rfl rfl rfl rfl (by kernel_rfl) Try.func11 (by kernel_rfl)
    (of_decide_eq_true (by kernel_rfl)) (by unfold Func.isWrapper; first | (rw [if_pos (by decide +kernel)]; kernel_rfl) | (rw [if_neg (by decide +kernel)]; exact ⟨rfl, rfl⟩))
    (fun os started H enc _ => lifted os started H enc)
#print axioms proved
end Go.Proofs.Ytbaebamiiigmlab.fnLoadOk
