/-
  For every code of bytes the law on SafeSlots (the model's answer; with a box of the class put into any of these slots no more pairs are too near than before; into any other slot of PlanNext, there are more) returns true and leaves its argument as it was. Conditions: none beyond the form's own reach.
-/
import Derived.Test.YtlccmgdmfchmnaaDoorRows
import Derived.Test.YtlccmgdmfchmnaaDoorGBase
import Derived.WalkKit
import Derived.ProofKit
import Derived.OpenShut
import Derived.ShutString
import Derived.ChangeOld
import Derived.Below
import Derived.ChangeVars
import Derived.Test.YtlccmgdmfchmnaaDoorCards
import Derived.Test.YtlccmgdmfchmnaaDoorTie
import Derived.Deep.DeepHandedRow
import Derived.Lib.LaidTab
import Derived.Test.YtlccmgdmfchmnaaDoorGCr
import Derived.Test.YtlccmgdmfchmnaaDoorWtW
import Derived.Test.YtlccmgdmfchmnaaDoorDaMath2
import Derived.Test.YtlccmgdmfchmnaaDoorDaS
import Derived.Test.YtlccmgdmfchmnaaDoorDaN
import Derived.Test.YtlccmgdmfchmnaaDoorDaF
import Derived.Test.YtlccmgdmfchmnaaDoorDaI
import Derived.Test.YtlccmgdmfchmnaaDoorDaW
import Derived.Test.YtlccmgdmfchmnaaDoorGPn
import Derived.Test.YtlccmgdmfchmnaaDoorGPl
import Derived.Test.YtlccmgdmfchmnaaDoorGPs
import Derived.Test.YtlccmgdmfchmnaaDoorPlI
import Derived.Test.YtlccmgdmfchmnaaDoorPrC
import Derived.Test.YtlccmgdmfchmnaaDoorGDr
import Derived.Test.YtlccmgdmfchmnaaDoorGBx
import Derived.Test.YtlccmgdmfchmnaaDoorApN
namespace Go.Proofs.YtlccmgdmfchmnaaDoor.fnSafeSlots
open Go.ChangeShapes Go.WideShapes Go.ChangeAt Go.RowKit
open Go.ChangeMaps (open_string shut_string)
set_option linter.unusedVariables false


/-- What the walk is told of a slice of integers that came in. -/
def IsRow (k : IntKind) (w : World) (a : Option Addr) (len cap : Nat) (zs : List Int) : Prop :=
  (a = none ∧ len = 0 ∧ cap = 0 ∧ zs = []) ∨
  ∃ x, a = some x ∧ len ≤ cap ∧ cap ≤ maxLen ∧ zs.length = cap ∧ (∀ i, i < zs.length → w.cell? (x.add i) = some (.int k (zs.getD i 0))) ∧ ∀ n ∈ zs, (Lit.int k n).wf = true

set_option maxRecDepth 10000 in
set_option maxHeartbeats 4000000 in
theorem walk (a0 : Option Addr) (len0 cap0 : Nat) (w : World) (w0 : IsRow8 w a0 len0 cap0) (hT : TabA w) :
    Calls Tryd.prog 5 #[.slice a0 len0 cap0] w fun e w' => e = .returned (.bool true) ∧ Below w.heap.size w w' := by
  have hm := row8_len w0
  unfold maxLen at hm
  by_cases hl : ¬ len0 ≤ 1048576
  · go_enter Tryd.func5, Tryd.ntmps5
    go_wp2
    go_ret
    exact ⟨rfl, Below.refl _ _⟩
  · have hl := Nat.not_lt.1 (fun h => hl (Nat.not_le.2 h))
    go_enter Tryd.func5, Tryd.ntmps5
    go_wp2_with fail
    refine (drawSafeSlots_any a0 len0 cap0 w w0).mono ?_
    rintro e w1 ⟨c, hca, hcb, h, l, p, u, v, hl40, hp40, he, NB, OW, hb⟩
    have he' : e = .returned (.tuple #[.agg #[.int .i64 h.b, .int .i64 h.r, .int .i64 h.t], u, v, .int .i64 c]) := he
    subst he'
    clear he w0
    have hu := NB.holds
    have hv := OW.holds
    clear NB OW
    obtain ⟨ua, uc, rfl⟩ : ∃ a c, u = .slice a l.length c := by obtain ⟨a, c, e, _⟩ := hu; exact ⟨a, c, e⟩
    obtain ⟨va, vc, rfl⟩ := hv.form
    have b2 : Below w1.heap.size w1 (w1.alloc (.cells #[.int .i64 h.b, .int .i64 h.r, .int .i64 h.t] 29)) := (Below.refl _ _).alloc (Nat.le_refl _) _
    have y2 := BoxH.new w1 h
    have C2 := hb.trans (b2.mono hb.size)
    have hu := hu.keep b2
    have hv := hv.keep b2
    generalize hW2 : w1.alloc (.cells #[.int .i64 h.b, .int .i64 h.r, .int .i64 h.t] 29) = W2 at b2 y2 C2 hu hv
    have HW2 := Lib.hid hW2
    clear hW2 b2 hb
    have BK := Lib.hid fun (w' : World) (hs : Below W2.heap.size W2 w') => hu.keep hs
    have PK := Lib.hid fun (w' : World) (hs : Below W2.heap.size W2 w') => hv.keep hs
    have CK := Lib.hid fun (w' : World) (hs : Below W2.heap.size W2 w') => C2.trans (hs.mono C2.size)
    have e2 : Below W2.heap.size W2 W2 := Below.refl _ _
    have k0 := y2.c0
    have k1 := y2.c1
    have k2 := y2.c2
    clear hu hv C2
    have HI := Lib.hid fun (w' : World) (hs : Below w.heap.size w w') (hb : HoldsBx w' (.slice ua l.length uc) l) (hp : HoldsI w' (.slice va p.length vc) p) => implSafeSlots_any h _ _ l p c w' hb hp (hT.keep hs)
    have HS := Lib.hid fun (w' : World) (hb : HoldsBx w' (.slice ua l.length uc) l) (hp : HoldsI w' (.slice va p.length vc) p) => specSafeSlots_any h _ _ l p c w' hb hp
    have HSV := Lib.hid fun (w' : World) (hb : HoldsBx w' (.slice ua l.length uc) l) (hp : HoldsI w' (.slice va p.length vc) p) => specPlanValid_any h _ _ l p w' hb hp
    by_cases hok : plOk h (bxsOk l) (bxIds l) p = true ∧ (0 ≤ c ∧ c ≤ 3) ∧ l.length ≠ 10
    · obtain ⟨hk, hc, hl10⟩ := hok
      have hlt10 : l.length < 10 := by
        have := (bxsOk_each (plOk_bok hk)).2
        omega
      have HLAW := Lib.hid (more_law hk hc hlt10)
      have HASC := Lib.hid (safeO_asc h l p c)
      have HTN := Lib.hid fun (u' : Value) (w' : World) (hs : Below w.heap.size w w') (hb : HoldsBx w' u' (moreB l c)) (hp : HoldsI w' (.slice va p.length vc) p) => implTooNear_any h u' _ (moreB l c) p w' hb hp (hT.keep hs)
      have HTQ := Lib.hid fun (s : Nat) (u' v' : Value) (w' : World) (hs : Below w.heap.size w w') (hb : HoldsBx w' u' (moreB l c)) (hq : HoldsI w' v' (p.set s 777)) => implTooNear_any h u' v' (moreB l c) (p.set s 777) w' hb hq (hT.keep hs)
      have HPN := Lib.hid fun (u' : Value) (w' : World) (hb : HoldsBx w' u' (moreB l c)) (hp : HoldsI w' (.slice va p.length vc) p) => implPlanNext_any h u' _ (moreB l c) p w' hb hp
      have HPU := Lib.hid fun (s : Int) (u' : Value) (w' : World) (hb : HoldsBx w' u' (moreB l c)) (hp : HoldsI w' (.slice va p.length vc) p) => implPlanPut_any h u' _ (moreB l c) p s 777 w' hb hp
      rw [hk] at HSV
      have hcd0 : decide (c < 0) = false := decide_eq_false (by omega)
      have hcd3 : decide (c > 3) = false := decide_eq_false (by omega)
      have hcd3' : decide (3 < c) = false := hcd3
      have hld : ((l.length : Int) == 10) = false := by simp; omega
      have hNL : (nextI h (bxsOk (moreB l c)) (bxIds (moreB l c)) p).length ≤ 36 := nextI_le
      generalize hgl : safeO h l p c = L at HI HS HLAW HASC
      generalize hgn : nextI h (bxsOk (moreB l c)) (bxIds (moreB l c)) p = NX at HLAW HPN hNL
      generalize hgb : nearO h (moreB l c) p = BL0 at HTN HLAW
      obtain ⟨NQ, hNQ⟩ : ∃ f : Nat → List (Int × Int), f = fun s => nearO h (moreB l c) (p.set s 777) := ⟨_, rfl⟩
      have HLAW := Lib.hid (show ∀ k, k < NX.length → ∃ s : Nat, NX.getD k 0 = (s : Int) ∧ s < p.length ∧ putP h (bxsOk (moreB l c)) (bxIds (moreB l c)) p (s : Int) 777 = (p.set s 777, true) ∧ decide ((NQ s).length = BL0.length) = hasI L (s : Int) from by rw [hNQ]; exact HLAW.out)
      have HTQ := Lib.hid (show ∀ (s : Nat) (u' v' : Value) (w' : World) (hs : Below w.heap.size w w') (hb : HoldsBx w' u' (moreB l c)) (hq : HoldsI w' v' (p.set s 777)), Calls Tryd.prog 14 #[.agg #[.int .i64 h.b, .int .i64 h.r, .int .i64 h.t], u', v'] w' fun e w2 => ∃ v2, e = .returned v2 ∧ FreeQ w'.heap.size w2 v2 (NQ s) ∧ Below w'.heap.size w' w2 from by rw [hNQ]; exact HTQ.out)
      clear hgl hgn hgb hNQ hk hc hl10
      go_wp2_with fail
      rw [HW2.out]
      generalize w1.heap.size = Y at y2 k0 k1 k2
      have YK := Lib.hid fun (w' : World) (hs : Below W2.heap.size W2 w') => y2.keep hs
      clear HW2 y2
      go_wp2_with fail
      refine (HI.out W2 (CK.out _ e2) (BK.out _ e2) (PK.out _ e2)).mono ?_
      rintro e W3 ⟨vi, rfl, g, d⟩
      have e3 := e2.trans (d.mono e2.size)
      clear k0 k1 k2
      have k0 := (YK.out _ e3).c0
      have k1 := (YK.out _ e3).c1
      have k2 := (YK.out _ e3).c2
      clear d e2
      have gi := g.holds
      clear g
      obtain ⟨ia, ic, rfl⟩ := gi.form
      go_wp2_with fail
      refine (HS.out W3 (BK.out _ e3) (PK.out _ e3)).mono ?_
      rintro e W4 ⟨vs, rfl, gs, d⟩
      have e4 := e3.trans (d.mono e3.size)
      have gi := gi.keep d
      clear k0 k1 k2
      have k0 := (YK.out _ e4).c0
      have k1 := (YK.out _ e4).c1
      have k2 := (YK.out _ e4).c2
      clear d e3
      have gs := gs.holds
      go_wp2_with fail
      refine (sameP_yes _ vs L W4 gi gs).mono ?_
      rintro e W5 ⟨rfl, d⟩
      have e5 := e4.trans (d.mono e4.size)
      have gi := gi.keep d
      clear k0 k1 k2
      have k0 := (YK.out _ e5).c0
      have k1 := (YK.out _ e5).c1
      have k2 := (YK.out _ e5).c2
      clear d e4
      clear gs
      go_wp2_with fail
      refine (HSV.out W5 (BK.out _ e5) (PK.out _ e5)).mono ?_
      rintro e W6 ⟨rfl, d⟩
      have e6 := e5.trans (d.mono e5.size)
      have gi := gi.keep d
      clear k0 k1 k2
      have k0 := (YK.out _ e6).c0
      have k1 := (YK.out _ e6).c1
      have k2 := (YK.out _ e6).c2
      clear d e5
      clear k0 k1 k2
      have EK := Lib.hid e6
      have LK := Lib.hid fun (w' : World) (hs : Below W6.heap.size W6 w') => gi.keep hs
      have own0 : (W6.alloc (.cells #[] 39)).ownsRow W6.heap.size 39 5 (.slice (some ⟨W6.heap.size, 0, none⟩) 0 0) 0 [] := own_zero (Nat.le_refl _) (heap_alloc_new _ _)
      have OW0 := Lib.hid own0
      obtain ⟨i0, hi, hz0, hz1, hz2⟩ := info_parts infoBox
      have HBI := Lib.hid hi
      have HB0 := Lib.hid hz0
      have HB1 := Lib.hid hz1
      have HB2 := Lib.hid hz2
      clear e6 HI HS HSV own0 hi hz0 hz1 hz2 gi
      by_cases hl0 : 0 < l.length
      · obtain ⟨bb, bo, rfl⟩ : ∃ bb bo, ua = some ⟨bb, bo, none⟩ := by
          obtain ⟨a', c', e', _, _, h4⟩ := BK.out W6 EK.out
          simp only [Value.slice.injEq] at e'
          rcases h4 with h4 | ⟨b9, off9, h5, _⟩
          · omega
          · exact ⟨b9, off9, e'.1.trans h5⟩
        have HNW := Lib.hid (show ∀ (j : Nat) (u : Value), (rowB l)[j]? = some u → (W6.alloc (.cells #[] 39)).cell? ((⟨bb, bo, none⟩ : Addr).add j) = some u from fun j u hu => HoldsBx.row ((BK.out W6 EK.out).keep ((Below.refl _ _).alloc (Nat.le_refl _) _)) j u hu)
        have HRL := Lib.hid (rowB_len l)
        have HR1 := Lib.hid (rowB_one l)
        have tok1 : True := trivial
        go_wp2_with (first
          | (at_builtin; have _t := tok1; refine wpList_append_own _ rfl _ _ 30 rfl W6.heap.size 39 i0 (.agg #[.int .i64 0, .int .i64 0, .int .i64 0, .int .i64 0, .bool false]) 5 40 Tryd.underlying30 HBI.out HB0.out HB1.out HB2.out rfl (by decide) _ 0 [] rfl OW0.out ⟨bb, bo, none⟩ l.length uc (rowB l) rfl HRL.out HNW.out HR1.out (by unfold maxLen; omega) (by omega) (by simp) ?_; intro v3 w3 hown3 hgrow3 _; have hb3 : Below W6.heap.size (W6.alloc (.cells #[] 39)) w3 := own_below (v := .slice (some ⟨W6.heap.size, 0, none⟩) 0 0) hgrow3 (by simp) (fun k hk => (own_lt OW0.out k hk).1); have B3 := Lib.hid (((Below.refl W6.heap.size W6).alloc (Nat.le_refl _) (.cells #[] 39)).trans hb3); rw [Nat.zero_add, List.nil_append] at hown3; have OW3 := Lib.hid hown3; clear hown3 hgrow3 hb3 OW0 HNW HRL HR1 tok1)
          | (at_builtin; refine wpList_append_own _ rfl _ _ 30 rfl W6.heap.size 39 i0 (.agg #[.int .i64 0, .int .i64 0, .int .i64 0, .int .i64 0, .bool false]) 5 40 Tryd.underlying30 HBI.out HB0.out HB1.out HB2.out rfl (by decide) _ _ _ rfl (OW3.out.alloc _) ⟨_, 0, none⟩ 1 1 [.int .i64 777, .int .i64 1, .int .i64 c, .int .i64 0, .bool false] rfl rfl (fun j u hu => cells_new j u hu) (by simp [Value.oneCell']) (by unfold maxLen; omega) (by omega) (by have := B3.out.size; simp <;> omega) ?_; intro v4 w4 hown4 hgrow4 _; have hb4 : Below W6.heap.size (w3.alloc (.cells #[.int .i64 777, .int .i64 1, .int .i64 c, .int .i64 0, .bool false] 39)) w4 := own_below hgrow4 (by have := B3.out.size; simp <;> omega) (fun k hk => (own_lt OW3.out k hk).1); have B4 := Lib.hid (B3.out.trans (((Below.refl _ w3).alloc B3.out.size _).trans hb4)); (have hm4 : HoldsBx w4 v4 (moreB l c) := final_holds (x := ⟨777, 1, c, 0, false⟩) hown4); clear hown4 hgrow4 hb4 OW3 B3; obtain ⟨ma, mc, rfl⟩ : ∃ a c', v4 = .slice a (moreB l c).length c' := (by obtain ⟨a, c', e, _⟩ := hm4; exact ⟨a, c', e⟩); have SM := Lib.hid fun (w' : World) (hs : Below w4.heap.size w4 w') => hm4.keep hs; have E4 := Lib.hid (EK.out.trans (B4.out.mono EK.out.size)); have LW := Lib.hid fun (w' : World) (hs : Below w4.heap.size w4 w') => LK.out w' (B4.out.trans (hs.mono B4.out.size)); have y := YK.out w4 E4.out; have k0 := y.c0; have k1 := y.c1; have k2 := y.c2))
        have HT4 := Lib.hid (HTN.out _ w4 (CK.out _ E4.out) hm4 (PK.out _ E4.out))
        clear hm4 B4 EK LK y
        go_wp2_with fail
        refine HT4.out.mono ?_
        rintro e w5 ⟨v5, rfl, g5, d5⟩
        have g5 := g5.holds
        obtain ⟨ja, jc, rfl⟩ : ∃ a c', v5 = .slice a BL0.length c' := by obtain ⟨a, c', e, _⟩ := g5; exact ⟨a, c', e⟩
        have E5 := Lib.hid (E4.out.trans (d5.mono E4.out.size))
        have B5 := Lib.hid d5
        have y := YK.out w5 E5.out
        clear k0 k1 k2 g5 d5 HT4
        have k0 := y.c0
        have k1 := y.c1
        have k2 := y.c2
        clear y
        have HN5 := Lib.hid (HPN.out _ w5 (SM.out _ B5.out) (PK.out _ E5.out))
        go_wp2_with fail
        refine HN5.out.mono ?_
        rintro e w6 ⟨v6, rfl, g6, d6⟩
        have g6 := g6.holds
        obtain ⟨na, nc, rfl⟩ := g6.form
        have E6 := Lib.hid (E5.out.trans (d6.mono E5.out.size))
        have B6 := Lib.hid (B5.out.trans (d6.mono B5.out.size))
        have GN := Lib.hid fun (w' : World) (hs : Below w6.heap.size w6 w') => g6.keep hs
        have SN := Lib.hid fun (w' : World) (hs : Below w6.heap.size w6 w') => SM.out w' (B6.out.trans (hs.mono B6.out.size))
        have LN := Lib.hid fun (w' : World) (hs : Below w6.heap.size w6 w') => LW.out w' (B6.out.trans (hs.mono B6.out.size))
        have EN := Lib.hid fun (w' : World) (hs : Below w6.heap.size w6 w') => E6.out.trans (hs.mono E6.out.size)
        obtain ⟨M, hM⟩ : ∃ M, M = NX.length := ⟨_, rfl⟩
        have HML := Lib.hid hM
        have hM36 : M ≤ 36 := by omega
        rw [← hM] at GN HLAW ⊢
        clear d6 g6 hM k0 k1 k2 HN5 E5 B5 E6 B6 E4 SM LW
        go_wp2_with fail
        go_loopw [11] (fun i wr => ∃ k : Nat, k ≤ M ∧ i = .int .i64 k ∧ Hid (Below w6.heap.size w6 wr)) (fun i _ => M - (intOf i).toNat)
        case atStart => exact ⟨0, by omega, rfl, Lib.hid (Below.refl _ _)⟩
        case round =>
          obtain ⟨k, hkM, rfl, BR⟩ := hrel
          by_cases hlt : k < M
          · obtain ⟨s, hs1, hs2, hs3, hs4⟩ := HLAW.out k hlt
            obtain ⟨nb, no, rfl, hnbl, s0⟩ := (GN.out wr BR.out).at_ hlt
            rw [hs1] at s0
            have HPP := Lib.hid fun (w' : World) (hs : Since wr w') => (show Calls Tryd.prog 24 #[.agg #[.int .i64 h.b, .int .i64 h.r, .int .i64 h.t], .slice ma (moreB l c).length mc, .slice va p.length vc, .int .i64 (s : Int), .int .i64 777] w' fun e w2 => ∃ v', e = .returned (.tuple #[v', .bool true]) ∧ FreeE w'.heap.size w2 v' (p.set s 777) ∧ Below w'.heap.size w' w2 from by
              have hc := HPU.out (s : Int) _ w' (SN.out _ (BR.out.trans (Below.mono hs BR.out.size))) (PK.out _ (EN.out _ (BR.out.trans (Below.mono hs BR.out.size))))
              rw [hs3] at hc
              exact hc)
            have HTX := Lib.hid fun (v' : Value) (w' : World) (hs : Since wr w') (hq : HoldsI w' v' (p.set s 777)) => HTQ.out s _ v' w' (CK.out _ (EN.out _ (BR.out.trans (Below.mono hs BR.out.size)))) (SN.out _ (BR.out.trans (Below.mono hs BR.out.size))) hq
            have HHX := Lib.hid fun (w' : World) (hs : Since wr w') => hasInt_any (.slice ia L.length ic) L (s : Int) w' (LN.out _ (BR.out.trans (Below.mono hs BR.out.size)))
            have hbn : (((NQ s).length : Int) == (BL0.length : Int)) = hasI L (s : Int) := by
              rw [← hs4]
              by_cases e : (NQ s).length = BL0.length
              · rw [decide_eq_true e, e]; simp
              · rw [decide_eq_false e, beq_eq_false_iff_ne]; omega
            generalize hgq : NQ s = Q9 at HTX hbn
            generalize hgh : hasI L (s : Int) = hv at HHX hbn
            have hvv : (hv != hv) = false := by cases hv <;> rfl
            have ik : (k : Int) < (M : Int) := by omega
            have i0k : (0 : Int) ≤ (k : Int) := by omega
            have y := YK.out wr (EN.out _ BR.out)
            have HK := Lib.hid fun (w' : World) (hs : Since wr w') => (show w'.cell? ⟨Y, 0, none⟩ = some (.int .i64 h.b) ∧ w'.cell? ⟨Y, 1, none⟩ = some (.int .i64 h.r) ∧ w'.cell? ⟨Y, 2, none⟩ = some (.int .i64 h.t) ∧ w'.cell? ⟨nb, no + k, none⟩ = some (.int .i64 (s : Int)) ∧ Since wr w' from ⟨(y.keep hs).c0, (y.keep hs).c1, (y.keep hs).c2, (Below.cell hs (p := ⟨nb, no + k, none⟩) hnbl).trans s0, hs⟩)
            have hstart := HK.out _ (show Since wr wr.drew from (Below.refl _ _).drew)
            clear hs1 hs2 hs3 hs4 s0 y hgq hgh
            go_wp2_with fail
            go_region_held3 (fun w' => w'.cell? ⟨Y, 0, none⟩ = some (.int .i64 h.b) ∧ w'.cell? ⟨Y, 1, none⟩ = some (.int .i64 h.r) ∧ w'.cell? ⟨Y, 2, none⟩ = some (.int .i64 h.t) ∧ w'.cell? ⟨nb, no + k, none⟩ = some (.int .i64 (s : Int)) ∧ Since wr w')
              (first | exact hstart | exact HK.out _ s5 | exact HK.out _ (by exact (‹_ ∧ _› : _ ∧ _ ∧ _ ∧ _ ∧ Since wr _).2.2.2.2) | fail)
              (first
                | (go_at_call 24; ((with_reducible refine (HPP.out _ (by exact (‹_ ∧ _› : _ ∧ _ ∧ _ ∧ _ ∧ Since wr _).2.2.2.2)).mono ?_); rintro e w7 ⟨v7, rfl, o7, d7⟩; have s5 : Since wr w7 := Since.call (by exact (‹_ ∧ _› : _ ∧ _ ∧ _ ∧ _ ∧ Since wr _).2.2.2.2) d7; have n7 := Lib.hid o7.holds; clear o7 d7))
                | fail)
            rename_i hheld
            have HS7 := Lib.hid (show Since wr w7 from hheld.2.2.2.2)
            have N7 := Lib.hid (show HoldsI w7.drew v7 (p.set s 777) from n7.out.keep ((Below.refl _ _).drew))
            have HS8 := Lib.hid (show Since wr w7.drew from HS7.out.drew)
            clear hheld hstart
            have hstart := HK.out _ HS8.out
            go_wp2_with fail
            go_region_held3 (fun w' => w'.cell? ⟨Y, 0, none⟩ = some (.int .i64 h.b) ∧ w'.cell? ⟨Y, 1, none⟩ = some (.int .i64 h.r) ∧ w'.cell? ⟨Y, 2, none⟩ = some (.int .i64 h.t) ∧ w'.cell? ⟨nb, no + k, none⟩ = some (.int .i64 (s : Int)) ∧ Since wr w')
              (first | exact hstart | exact HK.out _ s9 | exact HK.out _ (by exact (‹_ ∧ _› : _ ∧ _ ∧ _ ∧ _ ∧ Since wr _).2.2.2.2) | fail)
              (first
                | (go_at_call 14; ((with_reducible refine (HTX.out _ _ (by exact (‹_ ∧ _› : _ ∧ _ ∧ _ ∧ _ ∧ Since wr _).2.2.2.2) N7.out).mono ?_); rintro e w9 ⟨v9, rfl, g9, d9⟩; have s9 : Since wr w9 := Since.call (by exact (‹_ ∧ _› : _ ∧ _ ∧ _ ∧ _ ∧ Since wr _).2.2.2.2) d9; obtain ⟨qa, qc, rfl⟩ : ∃ a c', v9 = .slice a Q9.length c' := (by obtain ⟨a, c', e, _⟩ := g9.holds; exact ⟨a, c', e⟩); clear g9 d9))
                | (go_at_call 25; ((with_reducible refine (HHX.out _ (by exact (‹_ ∧ _› : _ ∧ _ ∧ _ ∧ _ ∧ Since wr _).2.2.2.2)).mono ?_); rintro e w8 ⟨rfl, rfl⟩))
                | fail)
            rename_i hheld
            have B9 := Lib.hid (BR.out.trans (Below.mono hheld.2.2.2.2 BR.out.size))
            clear hheld hstart
            go_wp2_with fail
            go_roundw
            case rel => exact ⟨k + 1, by omega, by go_num, B9⟩
            case measure => simp [intOf]; omega
          · obtain rfl : k = M := by omega
            have HAL := Lib.hid (ascendP_yes (.slice ia L.length ic) L wr (LN.out wr BR.out) HASC.out)
            have C5 := CK.out _ (EN.out _ BR.out)
            go_wp2_with fail
            refine HAL.out.mono ?_
            rintro e w9 ⟨rfl, d9⟩
            have C6 := C5.trans (d9.mono C5.size)
            go_wp2_with fail
            go_ret
            exact ⟨rfl, C6⟩
      · obtain rfl : l = [] := List.eq_nil_of_length_eq_zero (by omega)
        have OW3 := OW0
        have B3 := Lib.hid ((Below.refl W6.heap.size W6).alloc (Nat.le_refl _) (.cells #[] 39))
        obtain ⟨w3, hw3⟩ : ∃ w3, w3 = W6.alloc (.cells #[] 39) := ⟨_, rfl⟩
        rw [← hw3] at OW3 B3
        have HW3 := Lib.hid hw3
        clear hw3 OW0
        have tok1 : True := trivial
        go_wp2_with (first
          | (at_builtin; have _t := tok1; refine wpList_append_nothing2 rfl _ _ 30 rfl 39 i0 Tryd.underlying30 HBI.out ⟨W6.heap.size, 0, none⟩ 0 0 (Nat.le_refl _) (by rfl) ua uc (by rfl) ?_; rw [← HW3.out]; clear tok1)
          | (at_builtin; refine wpList_append_own _ rfl _ _ 30 rfl W6.heap.size 39 i0 (.agg #[.int .i64 0, .int .i64 0, .int .i64 0, .int .i64 0, .bool false]) 5 40 Tryd.underlying30 HBI.out HB0.out HB1.out HB2.out rfl (by decide) _ _ _ rfl (OW3.out.alloc _) ⟨_, 0, none⟩ 1 1 [.int .i64 777, .int .i64 1, .int .i64 c, .int .i64 0, .bool false] rfl rfl (fun j u hu => cells_new j u hu) (by simp [Value.oneCell']) (by unfold maxLen; omega) (by omega) (by have := B3.out.size; simp <;> omega) ?_; intro v4 w4 hown4 hgrow4 _; have hb4 : Below W6.heap.size (w3.alloc (.cells #[.int .i64 777, .int .i64 1, .int .i64 c, .int .i64 0, .bool false] 39)) w4 := own_below hgrow4 (by have := B3.out.size; simp <;> omega) (fun k hk => (own_lt OW3.out k hk).1); have B4 := Lib.hid (B3.out.trans (((Below.refl _ w3).alloc B3.out.size _).trans hb4)); (have hm4 : HoldsBx w4 v4 (moreB [] c) := final_holds (l := []) (x := ⟨777, 1, c, 0, false⟩) hown4); clear hown4 hgrow4 hb4 OW3 B3; obtain ⟨ma, mc, rfl⟩ : ∃ a c', v4 = .slice a (moreB [] c).length c' := (by obtain ⟨a, c', e, _⟩ := hm4; exact ⟨a, c', e⟩); have SM := Lib.hid fun (w' : World) (hs : Below w4.heap.size w4 w') => hm4.keep hs; have E4 := Lib.hid (EK.out.trans (B4.out.mono EK.out.size)); have LW := Lib.hid fun (w' : World) (hs : Below w4.heap.size w4 w') => LK.out w' (B4.out.trans (hs.mono B4.out.size)); have y := YK.out w4 E4.out; have k0 := y.c0; have k1 := y.c1; have k2 := y.c2))
        have HT4 := Lib.hid (HTN.out _ w4 (CK.out _ E4.out) hm4 (PK.out _ E4.out))
        clear hm4 B4 EK LK y
        go_wp2_with fail
        refine HT4.out.mono ?_
        rintro e w5 ⟨v5, rfl, g5, d5⟩
        have g5 := g5.holds
        obtain ⟨ja, jc, rfl⟩ : ∃ a c', v5 = .slice a BL0.length c' := by obtain ⟨a, c', e, _⟩ := g5; exact ⟨a, c', e⟩
        have E5 := Lib.hid (E4.out.trans (d5.mono E4.out.size))
        have B5 := Lib.hid d5
        have y := YK.out w5 E5.out
        clear k0 k1 k2 g5 d5 HT4
        have k0 := y.c0
        have k1 := y.c1
        have k2 := y.c2
        clear y
        have HN5 := Lib.hid (HPN.out _ w5 (SM.out _ B5.out) (PK.out _ E5.out))
        go_wp2_with fail
        refine HN5.out.mono ?_
        rintro e w6 ⟨v6, rfl, g6, d6⟩
        have g6 := g6.holds
        obtain ⟨na, nc, rfl⟩ := g6.form
        have E6 := Lib.hid (E5.out.trans (d6.mono E5.out.size))
        have B6 := Lib.hid (B5.out.trans (d6.mono B5.out.size))
        have GN := Lib.hid fun (w' : World) (hs : Below w6.heap.size w6 w') => g6.keep hs
        have SN := Lib.hid fun (w' : World) (hs : Below w6.heap.size w6 w') => SM.out w' (B6.out.trans (hs.mono B6.out.size))
        have LN := Lib.hid fun (w' : World) (hs : Below w6.heap.size w6 w') => LW.out w' (B6.out.trans (hs.mono B6.out.size))
        have EN := Lib.hid fun (w' : World) (hs : Below w6.heap.size w6 w') => E6.out.trans (hs.mono E6.out.size)
        obtain ⟨M, hM⟩ : ∃ M, M = NX.length := ⟨_, rfl⟩
        have HML := Lib.hid hM
        have hM36 : M ≤ 36 := by omega
        rw [← hM] at GN HLAW ⊢
        clear d6 g6 hM k0 k1 k2 HN5 E5 B5 E6 B6 E4 SM LW
        go_wp2_with fail
        go_loopw [11] (fun i wr => ∃ k : Nat, k ≤ M ∧ i = .int .i64 k ∧ Hid (Below w6.heap.size w6 wr)) (fun i _ => M - (intOf i).toNat)
        case atStart => exact ⟨0, by omega, rfl, Lib.hid (Below.refl _ _)⟩
        case round =>
          obtain ⟨k, hkM, rfl, BR⟩ := hrel
          by_cases hlt : k < M
          · obtain ⟨s, hs1, hs2, hs3, hs4⟩ := HLAW.out k hlt
            obtain ⟨nb, no, rfl, hnbl, s0⟩ := (GN.out wr BR.out).at_ hlt
            rw [hs1] at s0
            have HPP := Lib.hid fun (w' : World) (hs : Since wr w') => (show Calls Tryd.prog 24 #[.agg #[.int .i64 h.b, .int .i64 h.r, .int .i64 h.t], .slice ma (moreB [] c).length mc, .slice va p.length vc, .int .i64 (s : Int), .int .i64 777] w' fun e w2 => ∃ v', e = .returned (.tuple #[v', .bool true]) ∧ FreeE w'.heap.size w2 v' (p.set s 777) ∧ Below w'.heap.size w' w2 from by
              have hc := HPU.out (s : Int) _ w' (SN.out _ (BR.out.trans (Below.mono hs BR.out.size))) (PK.out _ (EN.out _ (BR.out.trans (Below.mono hs BR.out.size))))
              rw [hs3] at hc
              exact hc)
            have HTX := Lib.hid fun (v' : Value) (w' : World) (hs : Since wr w') (hq : HoldsI w' v' (p.set s 777)) => HTQ.out s _ v' w' (CK.out _ (EN.out _ (BR.out.trans (Below.mono hs BR.out.size)))) (SN.out _ (BR.out.trans (Below.mono hs BR.out.size))) hq
            have HHX := Lib.hid fun (w' : World) (hs : Since wr w') => hasInt_any (.slice ia L.length ic) L (s : Int) w' (LN.out _ (BR.out.trans (Below.mono hs BR.out.size)))
            have hbn : (((NQ s).length : Int) == (BL0.length : Int)) = hasI L (s : Int) := by
              rw [← hs4]
              by_cases e : (NQ s).length = BL0.length
              · rw [decide_eq_true e, e]; simp
              · rw [decide_eq_false e, beq_eq_false_iff_ne]; omega
            generalize hgq : NQ s = Q9 at HTX hbn
            generalize hgh : hasI L (s : Int) = hv at HHX hbn
            have hvv : (hv != hv) = false := by cases hv <;> rfl
            have ik : (k : Int) < (M : Int) := by omega
            have i0k : (0 : Int) ≤ (k : Int) := by omega
            have y := YK.out wr (EN.out _ BR.out)
            have HK := Lib.hid fun (w' : World) (hs : Since wr w') => (show w'.cell? ⟨Y, 0, none⟩ = some (.int .i64 h.b) ∧ w'.cell? ⟨Y, 1, none⟩ = some (.int .i64 h.r) ∧ w'.cell? ⟨Y, 2, none⟩ = some (.int .i64 h.t) ∧ w'.cell? ⟨nb, no + k, none⟩ = some (.int .i64 (s : Int)) ∧ Since wr w' from ⟨(y.keep hs).c0, (y.keep hs).c1, (y.keep hs).c2, (Below.cell hs (p := ⟨nb, no + k, none⟩) hnbl).trans s0, hs⟩)
            have hstart := HK.out _ (show Since wr wr.drew from (Below.refl _ _).drew)
            clear hs1 hs2 hs3 hs4 s0 y hgq hgh
            go_wp2_with fail
            go_region_held3 (fun w' => w'.cell? ⟨Y, 0, none⟩ = some (.int .i64 h.b) ∧ w'.cell? ⟨Y, 1, none⟩ = some (.int .i64 h.r) ∧ w'.cell? ⟨Y, 2, none⟩ = some (.int .i64 h.t) ∧ w'.cell? ⟨nb, no + k, none⟩ = some (.int .i64 (s : Int)) ∧ Since wr w')
              (first | exact hstart | exact HK.out _ s5 | exact HK.out _ (by exact (‹_ ∧ _› : _ ∧ _ ∧ _ ∧ _ ∧ Since wr _).2.2.2.2) | fail)
              (first
                | (go_at_call 24; ((with_reducible refine (HPP.out _ (by exact (‹_ ∧ _› : _ ∧ _ ∧ _ ∧ _ ∧ Since wr _).2.2.2.2)).mono ?_); rintro e w7 ⟨v7, rfl, o7, d7⟩; have s5 : Since wr w7 := Since.call (by exact (‹_ ∧ _› : _ ∧ _ ∧ _ ∧ _ ∧ Since wr _).2.2.2.2) d7; have n7 := Lib.hid o7.holds; clear o7 d7))
                | fail)
            rename_i hheld
            have HS7 := Lib.hid (show Since wr w7 from hheld.2.2.2.2)
            have N7 := Lib.hid (show HoldsI w7.drew v7 (p.set s 777) from n7.out.keep ((Below.refl _ _).drew))
            have HS8 := Lib.hid (show Since wr w7.drew from HS7.out.drew)
            clear hheld hstart
            have hstart := HK.out _ HS8.out
            go_wp2_with fail
            go_region_held3 (fun w' => w'.cell? ⟨Y, 0, none⟩ = some (.int .i64 h.b) ∧ w'.cell? ⟨Y, 1, none⟩ = some (.int .i64 h.r) ∧ w'.cell? ⟨Y, 2, none⟩ = some (.int .i64 h.t) ∧ w'.cell? ⟨nb, no + k, none⟩ = some (.int .i64 (s : Int)) ∧ Since wr w')
              (first | exact hstart | exact HK.out _ s9 | exact HK.out _ (by exact (‹_ ∧ _› : _ ∧ _ ∧ _ ∧ _ ∧ Since wr _).2.2.2.2) | fail)
              (first
                | (go_at_call 14; ((with_reducible refine (HTX.out _ _ (by exact (‹_ ∧ _› : _ ∧ _ ∧ _ ∧ _ ∧ Since wr _).2.2.2.2) N7.out).mono ?_); rintro e w9 ⟨v9, rfl, g9, d9⟩; have s9 : Since wr w9 := Since.call (by exact (‹_ ∧ _› : _ ∧ _ ∧ _ ∧ _ ∧ Since wr _).2.2.2.2) d9; obtain ⟨qa, qc, rfl⟩ : ∃ a c', v9 = .slice a Q9.length c' := (by obtain ⟨a, c', e, _⟩ := g9.holds; exact ⟨a, c', e⟩); clear g9 d9))
                | (go_at_call 25; ((with_reducible refine (HHX.out _ (by exact (‹_ ∧ _› : _ ∧ _ ∧ _ ∧ _ ∧ Since wr _).2.2.2.2)).mono ?_); rintro e w8 ⟨rfl, rfl⟩))
                | fail)
            rename_i hheld
            have B9 := Lib.hid (BR.out.trans (Below.mono hheld.2.2.2.2 BR.out.size))
            clear hheld hstart
            go_wp2_with fail
            go_roundw
            case rel => exact ⟨k + 1, by omega, by go_num, B9⟩
            case measure => simp [intOf]; omega
          · obtain rfl : k = M := by omega
            have HAL := Lib.hid (ascendP_yes (.slice ia L.length ic) L wr (LN.out wr BR.out) HASC.out)
            have C5 := CK.out _ (EN.out _ BR.out)
            go_wp2_with fail
            refine HAL.out.mono ?_
            rintro e w9 ⟨rfl, d9⟩
            have C6 := C5.trans (d9.mono C5.size)
            go_wp2_with fail
            go_ret
            exact ⟨rfl, C6⟩
    · have hcase : plOk h (bxsOk l) (bxIds l) p = false ∨ (plOk h (bxsOk l) (bxIds l) p = true ∧ decide (c < 0) = true) ∨ (plOk h (bxsOk l) (bxIds l) p = true ∧ decide (c < 0) = false ∧ decide (3 < c) = true) ∨ (plOk h (bxsOk l) (bxIds l) p = true ∧ decide (c < 0) = false ∧ decide (3 < c) = false ∧ ((l.length : Int) == 10) = true) := by
        cases hk : plOk h (bxsOk l) (bxIds l) p
        · exact .inl rfl
        · rcases (by omega : c < 0 ∨ (¬ c < 0 ∧ (3 < c ∨ (0 ≤ c ∧ c ≤ 3)))) with h1 | ⟨h1, h2 | h2⟩
          · exact .inr (.inl ⟨rfl, decide_eq_true h1⟩)
          · exact .inr (.inr (.inl ⟨rfl, decide_eq_false h1, decide_eq_true h2⟩))
          · by_cases h3 : l.length = 10
            · exact .inr (.inr (.inr ⟨rfl, decide_eq_false h1, decide_eq_false (by omega), by rw [h3]; rfl⟩))
            · exact absurd ⟨hk, h2, h3⟩ hok
      generalize safeO h l p c = L at HI HS
      clear hok
      go_wp2_with fail
      rw [HW2.out]
      generalize w1.heap.size = Y at y2 k0 k1 k2
      have YK := Lib.hid fun (w' : World) (hs : Below W2.heap.size W2 w') => y2.keep hs
      clear HW2 y2
      go_wp2_with fail
      refine (HI.out W2 (CK.out _ e2) (BK.out _ e2) (PK.out _ e2)).mono ?_
      rintro e W3 ⟨vi, rfl, g, d⟩
      have e3 := e2.trans (d.mono e2.size)
      clear k0 k1 k2
      have k0 := (YK.out _ e3).c0
      have k1 := (YK.out _ e3).c1
      have k2 := (YK.out _ e3).c2
      clear d e2
      have gi := g.holds
      clear g
      obtain ⟨ia, ic, rfl⟩ := gi.form
      go_wp2_with fail
      refine (HS.out W3 (BK.out _ e3) (PK.out _ e3)).mono ?_
      rintro e W4 ⟨vs, rfl, gs, d⟩
      have e4 := e3.trans (d.mono e3.size)
      have gi := gi.keep d
      clear k0 k1 k2
      have k0 := (YK.out _ e4).c0
      have k1 := (YK.out _ e4).c1
      have k2 := (YK.out _ e4).c2
      clear d e3
      have gs := gs.holds
      go_wp2_with fail
      refine (sameP_yes _ vs L W4 gi gs).mono ?_
      rintro e W5 ⟨rfl, d⟩
      have e5 := e4.trans (d.mono e4.size)
      have gi := gi.keep d
      clear k0 k1 k2
      have k0 := (YK.out _ e5).c0
      have k1 := (YK.out _ e5).c1
      have k2 := (YK.out _ e5).c2
      clear d e4
      clear gs
      go_wp2_with fail
      refine (HSV.out W5 (BK.out _ e5) (PK.out _ e5)).mono ?_
      rintro e W6 ⟨rfl, d⟩
      have e6 := e5.trans (d.mono e5.size)
      have gi := gi.keep d
      clear k0 k1 k2
      have k0 := (YK.out _ e6).c0
      have k1 := (YK.out _ e6).c1
      have k2 := (YK.out _ e6).c2
      clear d e5
      rcases hcase with hd | ⟨hd, hq1⟩ | ⟨hd, hq0, hq1⟩ | ⟨hd, hq0, hq1, hq2⟩
      · rw [hd]
        go_wp2_with fail
        refine (alive_yes _).mono ?_
        rintro e w' ⟨rfl, rfl⟩
        go_wp2_with fail
        go_ret
        exact ⟨rfl, CK.out _ e6⟩
      · rw [hd]
        go_wp2_with fail
        refine (alive_yes _).mono ?_
        rintro e w' ⟨rfl, rfl⟩
        go_wp2_with fail
        go_ret
        exact ⟨rfl, CK.out _ e6⟩
      · rw [hd]
        go_wp2_with fail
        refine (alive_yes _).mono ?_
        rintro e w' ⟨rfl, rfl⟩
        go_wp2_with fail
        go_ret
        exact ⟨rfl, CK.out _ e6⟩
      · rw [hd]
        go_wp2_with fail
        refine (alive_yes _).mono ?_
        rintro e w' ⟨rfl, rfl⟩
        go_wp2_with fail
        go_ret
        exact ⟨rfl, CK.out _ e6⟩

theorem gtableA : Tryd.prog.globalNamed "loop.example/containerport/impl.apartNeeds" = some 0 := by kernel_rfl
theorem gtableAType : (Tryd.prog.globals[0]?).map (·.type) = some 71 := by kernel_rfl
theorem cellstableA : Tryd.prog.cellsOf 71 = 4 * 4 := by kernel_rfl
theorem cellstableARow : Tryd.prog.cellsOf 70 = 4 := by kernel_rfl
theorem cellstableAElem : Tryd.prog.cellsOf 3 = 1 := by kernel_rfl
/-- What the row's list gives: the table stands. -/
theorem tableA {W : World} (h : laidMetH Tryd.prog Rows.fnSafeSlotsRow.laid W) : TabA W := by
  obtain ⟨ps, hv, _⟩ := (show laidMet Tryd.prog Rows.fnSafeSlotsRow.laid W from h)
  obtain ⟨g', t', cs, fuel, p, q, hg', ht', hvar, hd, _, _⟩ := hv
  obtain rfl := Option.some.inj (gtableA.symm.trans hg')
  obtain rfl := Option.some.inj (gtableAType.symm.trans ht')
  have he := cells_of_tab2 (zss := [[0, 0, 0, 0], [0, 0, 1, 2], [0, 1, 0, 3], [0, 2, 3, 1]]) (k := .i64) Tryd.underlying71 Tryd.underlying70 Tryd.underlying3 cellstableARow cellstableAElem cellstableA hd
  unfold TabA
  rw [hvar]
  congr 1
  apply Array.ext'
  rw [he]
  rfl

set_option maxRecDepth 100000 in
set_option maxHeartbeats 2000000 in
/-- What the walk gives, for every argument. -/
theorem contract (H : Type) (enc : TypeId × Value → H) (W : World) (base : Nat) (args : Array Value) (ds gs : List (DataW H)) (before : List MemPlace)
    (hval : ∀ (j : Nat) t v, Tryd.f5.params[j]? = some t → args[j]? = some v → Value.okWide Tryd.prog W .any base t v)
    (hW : DataW.Whole enc Tryd.prog Tryd.f5.params.toList Rows.fnSafeSlotsSpec.vars false W args.toList ds gs before) (hL : laidMetH Tryd.prog Rows.fnSafeSlotsRow.laid W) :
    Calls Tryd.prog 5 args W fun e W' => ∃ v, e = .returned v ∧ Rows.fnSafeSlotsSpec.post enc Tryd.prog Tryd.f5 false true false false W args v W' := by
  have hW' := hW
  obtain ⟨p, q, hA0, hV, rfl, hfz, hnd⟩ := hW
  have hA : DataW.TrodAll enc Tryd.prog W 0 (fun _ => true) true Tryd.f5.params.toList args.toList ds p := hA0
  rw [Tryd.params5] at hA hval
  obtain ⟨v0, vs0, d0, ds0, p0, q0, hargs, rfl, rfl, h0, r0⟩ := trodAll_cons hA
  obtain ⟨rfl, rfl, rfl⟩ := trodAll_nil r0
  obtain rfl : args = #[v0] := by cases args; simp_all
  have hV1 : DataW.TrodVars enc Tryd.prog W (fun _ => true) ["loop.example/containerport/impl.apartNeeds"] gs q := hV
  obtain ⟨gv, tv, csv, fv, dv, pv, rfl, hgv, htv, hvv, hdv, rfl⟩ := trodVars_one hV1
  obtain rfl := Option.some.inj (gtableA.symm.trans hgv)
  obtain rfl := Option.some.inj (gtableAType.symm.trans htv)
  obtain rfl := Option.some.inj ((show W.var? Tryd.prog "loop.example/containerport/impl.apartNeeds" = some _ from tableA hL).symm.trans hvv)
  have hvars : ∀ W' : World, Below W.heap.size W W' → DataW.TrodVars enc Tryd.prog W' (fun b => decide (b < W.heap.size)) ["loop.example/containerport/impl.apartNeeds"] [dv] _ := fun W' bel => by
    have h1 : DataW.Trod enc Tryd.prog W 0 (fun _ => true) true 71 (.agg (tabA.map (Value.int .i64)).toArray) dv pv := ⟨fv, hdv⟩
    obtain ⟨f2, h2⟩ := Below.trod laidOut (by kernel_rfl) (of_decide_eq_true (by kernel_rfl)) h1 bel (DataW.trod_lt fv _ _ _ hdv)
    exact trodVars_mk1 gtableA gtableAType (keepVar bel hvv) h2
  clear hV hV1
  have k0 := h0
  have lt0 : ∀ x ∈ p0, x.block < W.heap.size := by obtain ⟨m, hm⟩ := k0; exact DataW.trod_lt m _ _ _ hm
  obtain ⟨a0, len0, cap0, rfl⟩ := okWide_slice Tryd.underlying22 (hval 0 22 v0 rfl rfl)
  obtain ⟨z0, x0⟩ : ∃ zs, IsRow .u8 W a0 len0 cap0 zs := by
    obtain ⟨fuel, hf⟩ := h0
    rcases open_ints Tryd.underlying22 Tryd.underlying5 (by kernel_rfl) hf with ⟨hcs, _⟩ | ⟨x, l, c, zs, hcs, _, hl, hm, hz, _, hcell, hwz⟩
    · simp [Value.cells] at hcs
      obtain ⟨rfl, rfl, rfl⟩ := hcs
      exact ⟨[], .inl ⟨rfl, rfl, rfl, rfl⟩⟩
    · simp [Value.cells] at hcs
      obtain ⟨rfl, rfl, rfl⟩ := hcs
      exact ⟨zs, .inr ⟨_, rfl, hl, hm, by simpa using hz, hcell, hwz⟩⟩
  clear hA0
  refine (walk a0 len0 cap0 W (row8_of x0) (tableA hL)).mono fun e W' ⟨he, bel⟩ => ?_
  subst he
  exact ⟨_, rfl, _, _, _, [], _, _, hW', trodAll_mk1 (shut_bool Tryd.underlying4 _), (trodAll_cons_mk (Below.trod laidOut (by kernel_rfl) (of_decide_eq_true (by kernel_rfl)) k0 bel lt0) trodAll_mk0), hvars _ bel, bel.frame _, fun h => by cases h⟩

/-- A world for the witness: the settled one, each listed variable holding what its initialiser lays. -/
noncomputable def laidWorld (os : Os) : World :=
  { World.holding Tryd.prog os ⟨#[], #[], []⟩ with heap := ((World.holding Tryd.prog os ⟨#[], #[], []⟩).heap.modify 0 fun | .cells _ t frozen => .cells #[.int .i64 0, .int .i64 0, .int .i64 0, .int .i64 0, .int .i64 0, .int .i64 0, .int .i64 1, .int .i64 2, .int .i64 0, .int .i64 1, .int .i64 0, .int .i64 3, .int .i64 0, .int .i64 2, .int .i64 3, .int .i64 1] t frozen | o => o) }
theorem laid_met (os : Os) : laidMet Tryd.prog Rows.fnSafeSlotsRow.laid ((laidWorld os).forCall (fun _ _ => 0) ⟨#[], #[.slice none 0 0], []⟩).memory :=
  laidMet_of_run' 8 (by kernel_rfl) (by kernel_rfl)
theorem reads (os : Os) {H : Type} (enc : TypeId × Value → H) : ∃ places, DataW.whole enc Tryd.prog ((laidWorld os).forCall (fun _ _ => 0) ⟨#[], #[.slice none 0 0], []⟩).memory Tryd.f5.params.toList Rows.fnSafeSlotsSpec.vars false (#[.slice none 0 0] : Array Value).toList 8 = some ([.nil], [Rows.laid_loop_example_containerport_impl_apartNeeds], places) :=
  ⟨(MemPlace.row ⟨0, 0, none⟩ 16 ++ []), by kernel_rfl⟩

set_option maxRecDepth 100000 in
theorem lifted (os : Os) (started : os.Started) (H : Type) (enc : TypeId × Value → H) (F : Stop.Interp) :
    ReturnsInHanded {} Tryd.checked os 5 .any ((OpenSpec.ofChange Rows.fnSafeSlotsSpec).preRow enc Tryd.prog Tryd.f5 Rows.fnSafeSlotsRow.domain false Rows.fnSafeSlotsRow.laid) (((OpenSpec.ofChange Rows.fnSafeSlotsSpec).at F).post enc Tryd.prog Tryd.f5 false true false false) := by
  obtain ⟨places, hx⟩ := reads os enc
  refine returnsInHanded_of_row (C := Tryd.checked) (s := OpenSpec.ofChange Rows.fnSafeSlotsSpec) own started (by kernel_rfl) Tryd.func5
    (witness_row_at (enc := enc) (C := Tryd.checked) false (laidWorld os) #[.slice none 0 0] rfl (by kernel_rfl) (by kernel_rfl) (by kernel_rfl)
      (OpenSpec.preRow_of_cond 8 hx (by kernel_rfl) (fun k hk => by cases hk) (by kernel_rfl) (laid_met os))) ?_
  intro W base args ds gs before hval hW _ _ _ hL _ _
  exact contract H enc W base args ds gs before hval hW hL

theorem said : Rows.FnSafeSlotsSaid :=
  OpenClaim.holds_of_cond 5 Tryd.f5 rfl rfl rfl rfl rfl rfl rfl ⟨rfl, rfl, rfl, rfl, rfl⟩ rfl rfl rfl rfl rfl (by kernel_rfl) Tryd.func5 (by kernel_rfl)
    (of_decide_eq_true (by kernel_rfl)) (by unfold Func.isWrapper; first | (rw [if_pos (by decide +kernel)]; kernel_rfl) | (rw [if_neg (by decide +kernel)]; exact ⟨rfl, rfl⟩))
    (fun os started H enc _ F => by rw [OpenClaim.pre_eq_preRow]; exact lifted os started H enc F)

/-- No parameter wants a stand-in; the program's own looks are off: what the card asks. -/
theorem plain (f : FuncId) (fn : Func) (hf : Tryd.pinned.checked.prog.funcNamed "loop.example/containerport/laws.FnSafeSlots" = some f) (hfn : Tryd.pinned.checked.prog.funcs[f]? = some fn) :
    false = Tryd.pinned.checked.prog.looks [] ∧ ∀ (j : Nat) t, fn.params[j]? = some t → Tryd.pinned.checked.prog.wantsStandIn t = false := by
  obtain rfl : f = 5 := Option.some.inj ((show Tryd.prog.funcNamed "loop.example/containerport/laws.FnSafeSlots" = some 5 by kernel_rfl).symm.trans hf) |>.symm
  obtain rfl : fn = Tryd.f5 := (Option.some.inj (Tryd.func5.symm.trans hfn)).symm
  refine ⟨by kernel_rfl, fun j t ht => ?_⟩
  rw [Tryd.params5] at ht
  have hm : t = 22 := by
    have := Array.mem_of_getElem? ht
    simp at this
    omega
  rcases hm with rfl
  · exact (show Tryd.prog.wantsStandIn 22 = false by kernel_rfl)

theorem proved : Rows.FnSafeSlotsCardSaid :=
  Claim7.holds_tied_plain_at .later [] _ _ _ _ said (fun _ h => by cases h) (by kernel_rfl) (fun _ h => by cases h) fnSafeSlots_row_tie rfl ⟨rfl, rfl⟩ (by kernel_rfl) rfl plain (by kernel_rfl)
#print axioms proved
end Go.Proofs.YtlccmgdmfchmnaaDoor.fnSafeSlots
