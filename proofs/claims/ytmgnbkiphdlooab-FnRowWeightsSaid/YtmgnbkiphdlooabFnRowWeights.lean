/-
  For every code of bytes the law on RowWeights (the model's answer; the weights of all rows are together the load) returns true and leaves its argument as it was. Conditions: none beyond the form's own reach.
-/
import Derived.Test.YtmgnbkiphdlooabRows
import Derived.Test.YtmgnbkiphdlooabGBase
import Derived.WalkKit
import Derived.ProofKit
import Derived.OpenShut
import Derived.ShutString
import Derived.ChangeOld
import Derived.Below
import Derived.Test.YtmgnbkiphdlooabGCr
import Derived.Test.YtmgnbkiphdlooabWtW
import Derived.Test.YtmgnbkiphdlooabRwMath2
import Derived.Test.YtmgnbkiphdlooabRwS
import Derived.Test.YtmgnbkiphdlooabRwI
import Derived.Test.YtmgnbkiphdlooabGPn
import Derived.Test.YtmgnbkiphdlooabGPl
import Derived.Test.YtmgnbkiphdlooabGPs
import Derived.Test.YtmgnbkiphdlooabSkMath
import Derived.Test.YtmgnbkiphdlooabWtI
import Derived.Test.YtmgnbkiphdlooabRwT2
namespace Go.Proofs.Ytmgnbkiphdlooab.fnRowWeights
open Go.ChangeShapes Go.WideShapes Go.ChangeAt Go.RowKit
open Go.ChangeMaps (open_string shut_string)
set_option linter.unusedVariables false


/-- What the walk is told of a slice of integers that came in. -/
def IsRow (k : IntKind) (w : World) (a : Option Addr) (len cap : Nat) (zs : List Int) : Prop :=
  (a = none ∧ len = 0 ∧ cap = 0 ∧ zs = []) ∨
  ∃ x, a = some x ∧ len ≤ cap ∧ cap ≤ maxLen ∧ zs.length = cap ∧ (∀ i, i < zs.length → w.cell? (x.add i) = some (.int k (zs.getD i 0))) ∧ ∀ n ∈ zs, (Lit.int k n).wf = true

set_option maxRecDepth 10000 in
set_option maxHeartbeats 4000000 in
theorem walk (a0 : Option Addr) (len0 cap0 : Nat) (w : World) (w0 : IsRow8 w a0 len0 cap0) :
    Calls Try.prog 3 #[.slice a0 len0 cap0] w fun e w' => e = .returned (.bool true) ∧ Below w.heap.size w w' := by
  have hm := row8_len w0
  unfold maxLen at hm
  by_cases hl : ¬ len0 ≤ 1048576
  · go_enter Try.func3, Try.ntmps3
    go_wp2
    go_ret
    exact ⟨rfl, Below.refl _ _⟩
  · have hl := Nat.not_lt.1 (fun h => hl (Nat.not_le.2 h))
    go_enter Try.func3, Try.ntmps3
    go_wp2_with fail
    refine (drawRowWeights_any a0 len0 cap0 w w0).mono ?_
    rintro e w1 ⟨h, l, p, u, v, hl40, hp40, he, NB, OW, hb⟩
    have he' : e = .returned (.tuple #[.agg #[.int .i64 h.b, .int .i64 h.r, .int .i64 h.t], u, v]) := he
    subst he'
    clear he w0
    have hu := NB.holds
    have hv := OW.holds
    clear NB OW
    obtain ⟨ua, uc, rfl⟩ : ∃ a c, u = .slice a l.length c := by obtain ⟨a, c, e, _⟩ := hu; exact ⟨a, c, e⟩
    obtain ⟨va, vc, rfl⟩ := hv.form
    have b2 : Below w1.heap.size w1 (w1.alloc (.cells #[.int .i64 h.b, .int .i64 h.r, .int .i64 h.t] 24)) := (Below.refl _ _).alloc (Nat.le_refl _) _
    have y2 := BoxH.new w1 h
    have C2 := hb.trans (b2.mono hb.size)
    have hu := hu.keep b2
    have hv := hv.keep b2
    generalize hW2 : w1.alloc (.cells #[.int .i64 h.b, .int .i64 h.r, .int .i64 h.t] 24) = W2 at b2 y2 C2 hu hv
    have HW2 := Lib.hid hW2
    clear hW2 b2 hb
    have BK := Lib.hid fun (w' : World) (hs : Below W2.heap.size W2 w') => hu.keep hs
    have PK := Lib.hid fun (w' : World) (hs : Below W2.heap.size W2 w') => hv.keep hs
    have CK := Lib.hid fun (w' : World) (hs : Below W2.heap.size W2 w') => C2.trans (hs.mono C2.size)
    have e2 : Below W2.heap.size W2 W2 := Below.refl _ _
    have k0 := y2.c0
    have k1 := y2.c1
    have k2 := y2.c2
    clear hu hv C2
    have HI := Lib.hid fun (w' : World) (hb : HoldsBx w' (.slice ua l.length uc) l) (hp : HoldsI w' (.slice va p.length vc) p) => implRowWeights_any h _ _ l p w' hb hp
    have HS := Lib.hid fun (w' : World) (hb : HoldsBx w' (.slice ua l.length uc) l) (hp : HoldsI w' (.slice va p.length vc) p) => specRowWeights_any h _ _ l p w' hb hp
    have HL := Lib.hid fun (w' : World) (hb : HoldsBx w' (.slice ua l.length uc) l) (hp : HoldsI w' (.slice va p.length vc) p) => implLoadOf_any h _ _ l p w' hb hp
    cases hok : plOk h (bxsOk l) (bxIds l) p
    · have e0 : rowO h l p = [] := by unfold rowO; rw [hok]; rfl
      have e1 : loadW h l p = -1 := by unfold loadW; rw [hok]; rfl
      rw [e0] at HI HS
      rw [e1] at HL
      clear hok e0 e1
      go_wp2_with fail
      rw [HW2.out]
      generalize w1.heap.size = Y at y2 k0 k1 k2
      have YK := Lib.hid fun (w' : World) (hs : Below W2.heap.size W2 w') => y2.keep hs
      clear HW2 y2
      go_wp2_with fail
      refine (HI.out W2 (BK.out _ e2) (PK.out _ e2)).mono ?_
      rintro e W3 ⟨vi, rfl, g, d⟩
      have e3 := e2.trans (d.mono e2.size)
      clear k0 k1 k2
      have k0 := (YK.out _ e3).c0
      have k1 := (YK.out _ e3).c1
      have k2 := (YK.out _ e3).c2
      clear d e2
      have gi := g.holds
      obtain ⟨ia, ic, rfl⟩ := gi.form
      clear g
      go_wp2_with fail
      refine (HS.out W3 (BK.out _ e3) (PK.out _ e3)).mono ?_
      rintro e W4 ⟨vs, rfl, gs, d⟩
      have e4 := e3.trans (d.mono e3.size)
      have gi := gi.keep d
      clear k0 k1 k2
      have k0 := (YK.out _ e4).c0
      have k1 := (YK.out _ e4).c1
      have k2 := (YK.out _ e4).c2
      clear d e3
      have gs := gs.holds
      go_wp2_with fail
      refine (sameInts_yes _ vs [] W4 gi gs).mono ?_
      rintro e W5 ⟨rfl, d⟩
      have e5 := e4.trans (d.mono e4.size)
      have gi := gi.keep d
      clear k0 k1 k2
      have k0 := (YK.out _ e5).c0
      have k1 := (YK.out _ e5).c1
      have k2 := (YK.out _ e5).c2
      clear d e4
      clear gs
      go_wp2_with fail
      refine (HL.out W5 (BK.out _ e5) (PK.out _ e5)).mono ?_
      rintro e W6 ⟨rfl, d⟩
      have e6 := e5.trans (d.mono e5.size)
      have gi := gi.keep d
      clear k0 k1 k2
      have k0 := (YK.out _ e6).c0
      have k1 := (YK.out _ e6).c1
      have k2 := (YK.out _ e6).c2
      clear d e5
      go_wp2_with fail
      refine (alive_yes _).mono ?_
      rintro e w' ⟨rfl, rfl⟩
      go_wp2_with fail
      go_ret
      exact ⟨rfl, CK.out _ e6⟩
    · have HSUM := Lib.hid (rowO_sum hok)
      obtain ⟨R, q1, q2, q3⟩ := rows_pl hok
      have hlen := pl_len hok
      have hR : rowsMany h p = R := by unfold rowsMany; rw [q3, Nat.mul_div_cancel _ q2]
      have hLR : (rowO h l p).length = R := by unfold rowO; rw [if_pos hok, rowsW_len, hR]
      have hR36 : 0 < R ∧ R ≤ 36 := by
        have h1 : R * 1 ≤ R * h.t.toNat := Nat.mul_le_mul_left R q2
        rcases Nat.eq_zero_or_pos R with h0 | h0
        · subst h0; omega
        · omega
      have HRR := Lib.hid (show h.b * h.r = ((rowO h l p).length : Int) from by
        obtain ⟨R2, T2, e1, e2, e3, e4, e5, -⟩ := rows_two2 hok
        rw [hLR, e2]
        have e6 : T2 = h.t.toNat := by omega
        subst e6
        have : R2 * h.t.toNat = R * h.t.toNat := by rw [← e5, q3]
        have := Nat.eq_of_mul_eq_mul_right q2 this
        omega)
      have HNX := Lib.hid fun k (hk : k < (rowO h l p).length) => (show ((rowO h l p).take (k + 1)).sum = ((rowO h l p).take k).sum + (rowO h l p).getD k 0 from by
        rw [← List.take_append_getElem hk, List.sum_append, List.sum_cons, List.sum_nil, List.getD_eq_getElem?_getD, List.getElem?_eq_getElem hk, Option.getD_some]
        omega)
      have HBD := Lib.hid fun k (hk : k ≤ (rowO h l p).length) => (show 0 ≤ ((rowO h l p).take k).sum ∧ ((rowO h l p).take k).sum ≤ 90 * k from by
        induction k with
        | zero => simp
        | succ k ih =>
          have h1 := ih (by omega)
          have h2 := HNX.out k (by omega)
          have h3 : (rowO h l p).getD k 0 = rowN l h.t.toNat p k h.t.toNat := by
            have : rowO h l p = rowsW l h.t.toNat p R := by unfold rowO; rw [if_pos hok, hR]
            rw [this]; exact rowsW_at (by omega)
          have h4 := rowN_bd hok (r := k) (T := h.t.toNat) (by
            have h5 : (k + 1) * h.t.toNat ≤ R * h.t.toNat := Nat.mul_le_mul_right _ (by omega)
            rw [Nat.succ_mul] at h5; omega) h.t.toNat (Nat.le_refl _)
          have h6 := hull_t3 hok q1
          omega)
      have hL0 : 0 < (rowO h l p).length := by omega
      have hL36 : (rowO h l p).length ≤ 36 := by omega
      generalize rowO h l p = L at HI HS HSUM HRR HNX HBD hL0 hL36
      generalize loadW h l p = ld at HL HSUM
      have hl0 : ((L.length : Int) == 0) = false := beq_eq_false_iff_ne.2 (by omega)
      have hld : (ld == ld) = true := by simp
      clear hok q1 q3 hR hLR
      go_wp2_with fail
      rw [HW2.out]
      generalize w1.heap.size = Y at y2 k0 k1 k2
      have YK := Lib.hid fun (w' : World) (hs : Below W2.heap.size W2 w') => y2.keep hs
      clear HW2 y2
      go_wp2_with fail
      refine (HI.out W2 (BK.out _ e2) (PK.out _ e2)).mono ?_
      rintro e W3 ⟨vi, rfl, g, d⟩
      have e3 := e2.trans (d.mono e2.size)
      clear k0 k1 k2
      have k0 := (YK.out _ e3).c0
      have k1 := (YK.out _ e3).c1
      have k2 := (YK.out _ e3).c2
      clear d e2
      have gi := g.holds
      obtain ⟨ia, ic, rfl⟩ := gi.form
      clear g
      go_wp2_with fail
      refine (HS.out W3 (BK.out _ e3) (PK.out _ e3)).mono ?_
      rintro e W4 ⟨vs, rfl, gs, d⟩
      have e4 := e3.trans (d.mono e3.size)
      have gi := gi.keep d
      clear k0 k1 k2
      have k0 := (YK.out _ e4).c0
      have k1 := (YK.out _ e4).c1
      have k2 := (YK.out _ e4).c2
      clear d e3
      have gs := gs.holds
      go_wp2_with fail
      refine (sameInts_yes _ vs L W4 gi gs).mono ?_
      rintro e W5 ⟨rfl, d⟩
      have e5 := e4.trans (d.mono e4.size)
      have gi := gi.keep d
      clear k0 k1 k2
      have k0 := (YK.out _ e5).c0
      have k1 := (YK.out _ e5).c1
      have k2 := (YK.out _ e5).c2
      clear d e4
      clear gs
      have EK := Lib.hid e5
      have GK := Lib.hid fun (w' : World) (hs : Below W5.heap.size W5 w') => gi.keep hs
      clear k0 k1 k2 gi HI HS
      go_wp2_with fail
      go_loopw [7, 8] (fun sm i wr => ∃ k : Nat, k ≤ L.length ∧ sm = .int .i64 ((L.take k).sum) ∧ i = .int .i64 k ∧ Hid (Below W5.heap.size W5 wr)) (fun _ i _ => L.length - (intOf i).toNat)
      case atStart => exact ⟨0, by omega, by rw [List.take_zero]; rfl, rfl, Lib.hid (Below.refl _ _)⟩
      case round =>
        obtain ⟨k, hkN, rfl, rfl, BR⟩ := hrel
        have ER := Lib.hid (EK.out.trans (BR.out.mono EK.out.size))
        by_cases hlt : k < L.length
        · obtain ⟨pb, po, rfl, hpbl, t0⟩ := (GK.out wr BR.out).at_ hlt
          have ik : (k : Int) < (L.length : Int) := by omega
          have i0k : (0 : Int) ≤ (k : Int) := by omega
          have hnx := HNX.out k hlt
          have hbd := HBD.out (k + 1) (by omega)
          obtain ⟨x, hx⟩ : ∃ x, x = L.getD k 0 := ⟨_, rfl⟩
          rw [← hx] at t0 hnx
          have hsum : IntKind.i64.wrap ((L.take k).sum + x) = (L.take (k + 1)).sum := by rw [hnx] at hbd ⊢; exact IntWalk.i64_in _ (by omega)
          have HSM := Lib.hid hsum
          generalize (L.take k).sum = a at hsum HSM ⊢
          clear hnx hbd hx
          go_wp2_with fail
          go_roundw
          case rel => exact ⟨k + 1, by omega, (by first | rfl | rw [HSM.out]), by go_num, BR⟩
          case measure => simp [intOf]; omega
        · obtain rfl : k = L.length := by omega
          have y := YK.out wr ER.out
          have k0 := y.c0
          have k1 := y.c1
          have k2 := y.c2
          have HLk := Lib.hid (HL.out wr (BK.out _ ER.out) (PK.out _ ER.out))
          rw [List.take_length, HSUM.out]
          have h1 : (h.b * h.r == ((L.length : Nat) : Int)) = true := by rw [HRR.out]; simp
          have h2 : (((L.length : Nat) : Int) == IntKind.i64.wrap (h.b * h.r)) = true := by rw [HRR.out, IntWalk.i64_in _ (by omega)]; simp
          have hz : IntKind.i64.wrap (h.b * h.r) = ((L.length : Nat) : Int) := by rw [HRR.out]; exact IntWalk.i64_in _ (by omega)
          clear y
          go_wp2_with fail
          refine HLk.out.mono ?_
          rintro e w6 ⟨rfl, d6⟩
          have y := YK.out w6 (ER.out.trans (d6.mono ER.out.size))
          have m0 := y.c0
          have m1 := y.c1
          have m2 := y.c2
          have C9 := CK.out _ (ER.out.trans (d6.mono ER.out.size))
          clear k0 k1 k2 y d6
          go_wp2_with fail
          go_ret
          exact ⟨rfl, C9⟩

set_option maxRecDepth 100000 in
set_option maxHeartbeats 2000000 in
/-- What the walk gives, for every argument. -/
theorem contract (H : Type) (enc : TypeId × Value → H) (W : World) (base : Nat) (args : Array Value) (ds gs : List (DataW H)) (before : List MemPlace)
    (hval : ∀ (j : Nat) t v, Try.f3.params[j]? = some t → args[j]? = some v → Value.okWide Try.prog W .any base t v)
    (hW : DataW.Whole enc Try.prog Try.f3.params.toList Rows.fnRowWeightsSpec.vars false W args.toList ds gs before) :
    Calls Try.prog 3 args W fun e W' => ∃ v, e = .returned v ∧ Rows.fnRowWeightsSpec.post enc Try.prog Try.f3 false true false false W args v W' := by
  have hW' := hW
  obtain ⟨p, q, hA0, hV, rfl, hfz, hnd⟩ := hW
  have hA : DataW.TrodAll enc Try.prog W 0 (fun _ => true) true Try.f3.params.toList args.toList ds p := hA0
  rw [Try.params3] at hA hval
  obtain ⟨v0, vs0, d0, ds0, p0, q0, hargs, rfl, rfl, h0, r0⟩ := trodAll_cons hA
  obtain ⟨rfl, rfl, rfl⟩ := trodAll_nil r0
  obtain rfl : args = #[v0] := by cases args; simp_all
  obtain ⟨rfl, rfl⟩ := trodVars_none hV
  have k0 := h0
  have lt0 : ∀ x ∈ p0, x.block < W.heap.size := by obtain ⟨m, hm⟩ := k0; exact DataW.trod_lt m _ _ _ hm
  obtain ⟨a0, len0, cap0, rfl⟩ := okWide_slice Try.underlying22 (hval 0 22 v0 rfl rfl)
  obtain ⟨z0, x0⟩ : ∃ zs, IsRow .u8 W a0 len0 cap0 zs := by
    obtain ⟨fuel, hf⟩ := h0
    rcases open_ints Try.underlying22 Try.underlying5 (by kernel_rfl) hf with ⟨hcs, _⟩ | ⟨x, l, c, zs, hcs, _, hl, hm, hz, _, hcell, hwz⟩
    · simp [Value.cells] at hcs
      obtain ⟨rfl, rfl, rfl⟩ := hcs
      exact ⟨[], .inl ⟨rfl, rfl, rfl, rfl⟩⟩
    · simp [Value.cells] at hcs
      obtain ⟨rfl, rfl, rfl⟩ := hcs
      exact ⟨zs, .inr ⟨_, rfl, hl, hm, by simpa using hz, hcell, hwz⟩⟩
  clear hA0
  refine (walk a0 len0 cap0 W (row8_of x0)).mono fun e W' ⟨he, bel⟩ => ?_
  subst he
  exact ⟨_, rfl, _, _, _, [], _, [], hW', trodAll_mk1 (shut_bool Try.underlying4 _), (trodAll_cons_mk (Below.trod laidOut (by kernel_rfl) (of_decide_eq_true (by kernel_rfl)) k0 bel lt0) trodAll_mk0), rfl, bel.frame _, fun h => by cases h⟩

set_option maxRecDepth 100000 in
theorem lifted (os : Os) (started : os.Started) (H : Type) (enc : TypeId × Value → H) :
    ReturnsInHanded {} Try.checked os 3 .any (Rows.fnRowWeightsSpec.pre6 enc Try.prog Try.f3 Rows.fnRowWeightsRow.domain false) (Rows.fnRowWeightsSpec.post enc Try.prog Try.f3 false true false false) := by
  refine returnsInHanded_of_change (C := Try.checked) own started (by kernel_rfl) Try.func3
    (ChangeSpec.witness6 (enc := enc) (C := Try.checked) false ⟨#[], #[.slice none 0 0], []⟩ 8 (by kernel_rfl) (by kernel_rfl) (by kernel_rfl) (by kernel_rfl)) ?_
  intro W base args ds gs before hval hW _ _
  exact contract H enc W base args ds gs before hval hW

theorem proved : Rows.FnRowWeightsSaid :=
  OpenClaim.holds_of_wide 3 Try.f3 rfl rfl rfl rfl rfl rfl rfl ⟨rfl, rfl, rfl, rfl, rfl⟩ rfl rfl rfl rfl rfl (by kernel_rfl) Try.func3 (by kernel_rfl)
    (of_decide_eq_true (by kernel_rfl)) (by unfold Func.isWrapper; first | (rw [if_pos (by decide +kernel)]; kernel_rfl) | (rw [if_neg (by decide +kernel)]; exact ⟨rfl, rfl⟩))
    (fun os started H enc _ => lifted os started H enc)
#print axioms proved
end Go.Proofs.Ytmgnbkiphdlooab.fnRowWeights
