/-
  For every code of bytes the law on TooNear (the model's answer; when any box is taken that can be, no other pairs are too near; and without dangerous boxes there are none) returns true and leaves its argument as it was. Conditions: none beyond the form's own reach.
-/
import Derived.Test.YtlccmgdmfchmnaaDoorRows
import Derived.Test.YtlccmgdmfchmnaaDoorGBase
import Derived.WalkKit
import Derived.ProofKit
import Derived.OpenShut
import Derived.ShutString
import Derived.ChangeOld
import Derived.Below
import Derived.ChangeVars
import Derived.Test.YtlccmgdmfchmnaaDoorCards
import Derived.Test.YtlccmgdmfchmnaaDoorTie
import Derived.Deep.DeepHandedRow
import Derived.Lib.LaidTab
import Derived.Test.YtlccmgdmfchmnaaDoorGCr
import Derived.Test.YtlccmgdmfchmnaaDoorWtW
import Derived.Test.YtlccmgdmfchmnaaDoorDaMath2
import Derived.Test.YtlccmgdmfchmnaaDoorDaS
import Derived.Test.YtlccmgdmfchmnaaDoorDaN
import Derived.Test.YtlccmgdmfchmnaaDoorDaF
import Derived.Test.YtlccmgdmfchmnaaDoorDaI
import Derived.Test.YtlccmgdmfchmnaaDoorDaW
import Derived.Test.YtlccmgdmfchmnaaDoorGPn
import Derived.Test.YtlccmgdmfchmnaaDoorGPl
import Derived.Test.YtlccmgdmfchmnaaDoorGPs
import Derived.Test.YtlccmgdmfchmnaaDoorPlI
import Derived.Test.YtlccmgdmfchmnaaDoorPrC
import Derived.Test.YtlccmgdmfchmnaaDoorGDr
import Derived.Test.YtlccmgdmfchmnaaDoorGBx
namespace Go.Proofs.YtlccmgdmfchmnaaDoor.fnTooNear
open Go.ChangeShapes Go.WideShapes Go.ChangeAt Go.RowKit
open Go.ChangeMaps (open_string shut_string)
set_option linter.unusedVariables false


/-- What the walk is told of a slice of integers that came in. -/
def IsRow (k : IntKind) (w : World) (a : Option Addr) (len cap : Nat) (zs : List Int) : Prop :=
  (a = none ∧ len = 0 ∧ cap = 0 ∧ zs = []) ∨
  ∃ x, a = some x ∧ len ≤ cap ∧ cap ≤ maxLen ∧ zs.length = cap ∧ (∀ i, i < zs.length → w.cell? (x.add i) = some (.int k (zs.getD i 0))) ∧ ∀ n ∈ zs, (Lit.int k n).wf = true

set_option maxRecDepth 10000 in
set_option maxHeartbeats 4000000 in
theorem walk (a0 : Option Addr) (len0 cap0 : Nat) (w : World) (w0 : IsRow8 w a0 len0 cap0) (hT : TabA w) :
    Calls Tryd.prog 4 #[.slice a0 len0 cap0] w fun e w' => e = .returned (.bool true) ∧ Below w.heap.size w w' := by
  have hm := row8_len w0
  unfold maxLen at hm
  by_cases hl : ¬ len0 ≤ 1048576
  · go_enter Tryd.func4, Tryd.ntmps4
    go_wp2
    go_ret
    exact ⟨rfl, Below.refl _ _⟩
  · have hl := Nat.not_lt.1 (fun h => hl (Nat.not_le.2 h))
    go_enter Tryd.func4, Tryd.ntmps4
    go_wp2_with fail
    refine (drawTooNear_any a0 len0 cap0 w w0).mono ?_
    rintro e w1 ⟨h, l, p, u, v, hl40, hp40, he, NB, OW, hb⟩
    have he' : e = .returned (.tuple #[.agg #[.int .i64 h.b, .int .i64 h.r, .int .i64 h.t], u, v]) := he
    subst he'
    clear he w0
    have hu := NB.holds
    have hv := OW.holds
    clear NB OW
    obtain ⟨ua, uc, rfl⟩ : ∃ a c, u = .slice a l.length c := by obtain ⟨a, c, e, _⟩ := hu; exact ⟨a, c, e⟩
    obtain ⟨va, vc, rfl⟩ := hv.form
    have b2 : Below w1.heap.size w1 (w1.alloc (.cells #[.int .i64 h.b, .int .i64 h.r, .int .i64 h.t] 29)) := (Below.refl _ _).alloc (Nat.le_refl _) _
    have y2 := BoxH.new w1 h
    have C2 := hb.trans (b2.mono hb.size)
    have hu := hu.keep b2
    have hv := hv.keep b2
    generalize hW2 : w1.alloc (.cells #[.int .i64 h.b, .int .i64 h.r, .int .i64 h.t] 29) = W2 at b2 y2 C2 hu hv
    have HW2 := Lib.hid hW2
    clear hW2 b2 hb
    have BK := Lib.hid fun (w' : World) (hs : Below W2.heap.size W2 w') => hu.keep hs
    have PK := Lib.hid fun (w' : World) (hs : Below W2.heap.size W2 w') => hv.keep hs
    have CK := Lib.hid fun (w' : World) (hs : Below W2.heap.size W2 w') => C2.trans (hs.mono C2.size)
    have e2 : Below W2.heap.size W2 W2 := Below.refl _ _
    have k0 := y2.c0
    have k1 := y2.c1
    have k2 := y2.c2
    clear hu hv C2
    have HI := Lib.hid fun (w' : World) (hs : Below w.heap.size w w') (hb : HoldsBx w' (.slice ua l.length uc) l) (hp : HoldsI w' (.slice va p.length vc) p) => implTooNear_any h _ _ l p w' hb hp (hT.keep hs)
    have HS := Lib.hid fun (w' : World) (hb : HoldsBx w' (.slice ua l.length uc) l) (hp : HoldsI w' (.slice va p.length vc) p) => specTooNear_any h _ _ l p w' hb hp
    have HSV := Lib.hid fun (w' : World) (hb : HoldsBx w' (.slice ua l.length uc) l) (hp : HoldsI w' (.slice va p.length vc) p) => specPlanValid_any h _ _ l p w' hb hp
    cases hok : plOk h (bxsOk l) (bxIds l) p
    · have e0 : nearO h l p = [] := by unfold nearO; rw [hok]; rfl
      rw [e0] at HI HS
      rw [hok] at HSV
      clear hok e0
      go_wp2_with fail
      rw [HW2.out]
      generalize w1.heap.size = Y at y2 k0 k1 k2
      have YK := Lib.hid fun (w' : World) (hs : Below W2.heap.size W2 w') => y2.keep hs
      clear HW2 y2
      go_wp2_with fail
      refine (HI.out W2 (CK.out _ e2) (BK.out _ e2) (PK.out _ e2)).mono ?_
      rintro e W3 ⟨vi, rfl, g, d⟩
      have e3 := e2.trans (d.mono e2.size)
      clear k0 k1 k2
      have k0 := (YK.out _ e3).c0
      have k1 := (YK.out _ e3).c1
      have k2 := (YK.out _ e3).c2
      clear d e2
      have gi := g.holds
      clear g
      obtain ⟨ia, ic, rfl⟩ : ∃ a c, vi = .slice a ([]).length c := by obtain ⟨a, c, e, _⟩ := gi; exact ⟨a, c, e⟩
      go_wp2_with fail
      refine (HS.out W3 (BK.out _ e3) (PK.out _ e3)).mono ?_
      rintro e W4 ⟨vs, rfl, gs, d⟩
      have e4 := e3.trans (d.mono e3.size)
      have gi := gi.keep d
      clear k0 k1 k2
      have k0 := (YK.out _ e4).c0
      have k1 := (YK.out _ e4).c1
      have k2 := (YK.out _ e4).c2
      clear d e3
      have gs := gs.holds
      go_wp2_with fail
      refine (samePairs_yes _ vs ([]) W4 gi gs).mono ?_
      rintro e W5 ⟨rfl, d⟩
      have e5 := e4.trans (d.mono e4.size)
      have gi := gi.keep d
      clear k0 k1 k2
      have k0 := (YK.out _ e5).c0
      have k1 := (YK.out _ e5).c1
      have k2 := (YK.out _ e5).c2
      clear d e4
      clear gs
      go_wp2_with fail
      refine (HSV.out W5 (BK.out _ e5) (PK.out _ e5)).mono ?_
      rintro e W6 ⟨rfl, d⟩
      have e6 := e5.trans (d.mono e5.size)
      have gi := gi.keep d
      clear k0 k1 k2
      have k0 := (YK.out _ e6).c0
      have k1 := (YK.out _ e6).c1
      have k2 := (YK.out _ e6).c2
      clear d e5
      go_wp2_with fail
      refine (alive_yes _).mono ?_
      rintro e w' ⟨rfl, rfl⟩
      go_wp2_with fail
      go_ret
      exact ⟨rfl, CK.out _ e6⟩
    · have HPT := Lib.hid fun (k : Nat) (w' : World) (hb : HoldsBx w' (.slice ua l.length uc) l) (hp : HoldsI w' (.slice va p.length vc) p) => implPlanTake_any h _ _ l p (k : Int) w' hb hp
      have HTN := Lib.hid fun (k : Nat) (v' : Value) (w' : World) (hs : Below w.heap.size w w') (hb : HoldsBx w' (.slice ua l.length uc) l) (hq : HoldsI w' v' (takeP h (bxsOk l) (bxIds l) p (k : Int)).1) => implTooNear_any h _ v' l _ w' hb hq (hT.keep hs)
      have HTK := Lib.hid fun (k : Nat) hid => nearO_take (h := h) (l := l) (p := p) (k := k) hid
      have HFL := Lib.hid fun (k : Nat) => nearO_le h l (takeP h (bxsOk l) (bxIds l) p (k : Int)).1
      have HHM := Lib.hid fun (u' : Value) (w' : World) (hs : Below w.heap.size w w') (hb : HoldsBx w' u' (harmB l)) (hp : HoldsI w' (.slice va p.length vc) p) => (show Calls Tryd.prog 14 #[.agg #[.int .i64 h.b, .int .i64 h.r, .int .i64 h.t], u', .slice va p.length vc] w' fun e w2 => ∃ v', e = .returned v' ∧ FreeQ w'.heap.size w2 v' [] ∧ Below w'.heap.size w' w2 from by
        have := implTooNear_any h u' (.slice va p.length vc) (harmB l) p w' hb hp (hT.keep hs)
        rw [nearO_harm hok] at this
        exact this)
      have hLl := nearO_le h l p
      rw [hok] at HSV
      generalize hgL : nearO h l p = L at HI HS HTK hLl
      generalize hgt : takeP h (bxsOk l) (bxIds l) p = tk at HPT HTN HTK HFL
      clear hok hgL hgt
      go_wp2_with fail
      rw [HW2.out]
      generalize w1.heap.size = Y at y2 k0 k1 k2
      have YK := Lib.hid fun (w' : World) (hs : Below W2.heap.size W2 w') => y2.keep hs
      clear HW2 y2
      go_wp2_with fail
      refine (HI.out W2 (CK.out _ e2) (BK.out _ e2) (PK.out _ e2)).mono ?_
      rintro e W3 ⟨vi, rfl, g, d⟩
      have e3 := e2.trans (d.mono e2.size)
      clear k0 k1 k2
      have k0 := (YK.out _ e3).c0
      have k1 := (YK.out _ e3).c1
      have k2 := (YK.out _ e3).c2
      clear d e2
      have gi := g.holds
      clear g
      obtain ⟨ia, ic, rfl⟩ : ∃ a c, vi = .slice a (L).length c := by obtain ⟨a, c, e, _⟩ := gi; exact ⟨a, c, e⟩
      go_wp2_with fail
      refine (HS.out W3 (BK.out _ e3) (PK.out _ e3)).mono ?_
      rintro e W4 ⟨vs, rfl, gs, d⟩
      have e4 := e3.trans (d.mono e3.size)
      have gi := gi.keep d
      clear k0 k1 k2
      have k0 := (YK.out _ e4).c0
      have k1 := (YK.out _ e4).c1
      have k2 := (YK.out _ e4).c2
      clear d e3
      have gs := gs.holds
      go_wp2_with fail
      refine (samePairs_yes _ vs (L) W4 gi gs).mono ?_
      rintro e W5 ⟨rfl, d⟩
      have e5 := e4.trans (d.mono e4.size)
      have gi := gi.keep d
      clear k0 k1 k2
      have k0 := (YK.out _ e5).c0
      have k1 := (YK.out _ e5).c1
      have k2 := (YK.out _ e5).c2
      clear d e4
      clear gs
      go_wp2_with fail
      refine (HSV.out W5 (BK.out _ e5) (PK.out _ e5)).mono ?_
      rintro e W6 ⟨rfl, d⟩
      have e6 := e5.trans (d.mono e5.size)
      have gi := gi.keep d
      clear k0 k1 k2
      have k0 := (YK.out _ e6).c0
      have k1 := (YK.out _ e6).c1
      have k2 := (YK.out _ e6).c2
      clear d e5
      have EK := Lib.hid e6
      have LK := Lib.hid fun (w' : World) (hs : Below W6.heap.size W6 w') => gi.keep hs
      have own0 : (W6.alloc (.cells #[] 39)).ownsRow W6.heap.size 39 5 (.slice (some ⟨W6.heap.size, 0, none⟩) 0 0) ((harmB l).take 0).length (rowB ((harmB l).take 0)) := own_zero (Nat.le_refl _) (heap_alloc_new _ _)
      have OWZ := Lib.hid own0
      have DZ := Lib.hid (show Below W6.heap.size W6 (W6.alloc (.cells #[] 39)) from (Below.refl _ _).alloc (Nat.le_refl _) _)
      obtain ⟨i0, hi, hz0, hz1, hz2⟩ := info_parts infoBox
      have HBI := Lib.hid hi
      have HB0 := Lib.hid hz0
      have HB1 := Lib.hid hz1
      have HB2 := Lib.hid hz2
      obtain ⟨N, hN⟩ : ∃ N, N = l.length := ⟨_, rfl⟩
      have HNL := Lib.hid hN
      have hN40 : N ≤ 40 := by omega
      rw [← hN] at BK HPT HTN ⊢
      clear k0 k1 k2 hN e6 HI HS HSV own0 hi hz0 hz1 hz2 gi
      go_wp2_with fail
      go_loopw [7, 8] (fun sv i wr => ∃ (k : Nat) (s9 : Value), s9 = sv ∧ k ≤ N ∧ i = .int .i64 k ∧ Hid (wr.ownsRow W6.heap.size 39 5 s9 ((harmB l).take k).length (rowB ((harmB l).take k))) ∧ Hid (Below W6.heap.size W6 wr)) (fun _ i _ => N - (intOf i).toNat)
      case atStart => exact ⟨0, _, rfl, by omega, rfl, OWZ, DZ⟩
      case round =>
        clear OWZ DZ
        obtain ⟨k, s9, rfl, hkN, rfl, OW, DR⟩ := hrel
        have ER := Lib.hid (EK.out.trans (DR.out.mono EK.out.size))
        by_cases hlt : k < N
        · have hkl : k < l.length := by have := HNL.out; omega
          obtain ⟨bb, bo, rfl, hbbl, hcs⟩ : ∃ bb bo, ua = some ⟨bb, bo, none⟩ ∧ bb < wr.heap.size ∧ ∀ j, j < 5 → wr.cell? ⟨bb, bo + (k * 5 + j), none⟩ = l[k].cells[j]? := by
            obtain ⟨a', c', e', _, _, h4⟩ := BK.out wr ER.out
            simp only [Value.slice.injEq] at e'
            rcases h4 with h4 | ⟨b9, off9, h5, h6, h7⟩
            · have := HNL.out; omega
            · exact ⟨b9, off9, e'.1.trans h5, h6, h7 k hkl⟩
          have HTK2 := Lib.hid (harmB_take hkl)
          have htl := harmB_take_len (l := l) (k := k) (by omega)
          generalize l[k] = b at hcs HTK2
          have s0 : wr.cell? ⟨bb, bo + k * 5, none⟩ = some (.int .i64 b.i) := hcs 0 (by omega)
          have s1 : wr.cell? ⟨bb, bo + k * 5 + 1, none⟩ = some (.int .i64 b.g) := hcs 1 (by omega)
          have s2 : wr.cell? ⟨bb, bo + k * 5 + 2, none⟩ = some (.int .i64 b.c) := hcs 2 (by omega)
          have s3 : wr.cell? ⟨bb, bo + k * 5 + 3, none⟩ = some (.int .i64 b.p) := hcs 3 (by omega)
          have s4 : wr.cell? ⟨bb, bo + k * 5 + 4, none⟩ = some (.bool b.d) := hcs 4 (by omega)
          have ik : (k : Int) < (N : Int) := by omega
          have i0k : (0 : Int) ≤ (k : Int) := by omega
          have hwn : W6.heap.size ≤ wr.heap.size := DR.out.size
          have K5 : (wr.alloc (.cells #[.int .i64 b.i, .int .i64 b.g, .int .i64 b.c, .int .i64 b.p, .bool b.d] 39)).heap[wr.heap.size]? = some (.cells #[.int .i64 b.i, .int .i64 b.g, .int .i64 b.c, .int .i64 b.p, .bool b.d] 39 (0, 0)) := heap_alloc_new _ _
          have K6 : (wr.alloc (.cells #[.int .i64 b.i, .int .i64 b.g, .int .i64 0, .int .i64 b.p, .bool b.d] 39)).heap[wr.heap.size]? = some (.cells #[.int .i64 b.i, .int .i64 b.g, .int .i64 0, .int .i64 b.p, .bool b.d] 39 (0, 0)) := heap_alloc_new _ _
          have e2 : (wr.alloc (.cells #[.int .i64 b.i, .int .i64 b.g, .int .i64 b.c, .int .i64 b.p, .bool b.d] 39)).cell? ⟨wr.heap.size, 2, none⟩ = some (.int .i64 b.c) := by simp only [World.cell?, K5]; rfl
          have fz : (wr.alloc (.cells #[.int .i64 b.i, .int .i64 b.g, .int .i64 b.c, .int .i64 b.p, .bool b.d] 39)).frozen? ⟨wr.heap.size, 2, none⟩ = false := by simp only [World.frozen?, K5]; rfl
          have hb5 : Below wr.heap.size wr (wr.alloc (.cells #[.int .i64 b.i, .int .i64 b.g, .int .i64 b.c, .int .i64 b.p, .bool b.d] 39)) := (Below.refl _ _).alloc (Nat.le_refl _) _
          have hb6 : Below wr.heap.size wr (wr.alloc (.cells #[.int .i64 b.i, .int .i64 b.g, .int .i64 0, .int .i64 b.p, .bool b.d] 39)) := (Below.refl _ _).alloc (Nat.le_refl _) _
          have d0 : (wr.alloc (.cells #[.int .i64 b.i, .int .i64 b.g, .int .i64 0, .int .i64 b.p, .bool b.d] 39)).cell? ⟨wr.heap.size, 0, none⟩ = some (.int .i64 b.i) := by simp only [World.cell?, K6]; rfl
          have d1 : (wr.alloc (.cells #[.int .i64 b.i, .int .i64 b.g, .int .i64 0, .int .i64 b.p, .bool b.d] 39)).cell? ⟨wr.heap.size, 1, none⟩ = some (.int .i64 b.g) := by simp only [World.cell?, K6]; rfl
          have d2 : (wr.alloc (.cells #[.int .i64 b.i, .int .i64 b.g, .int .i64 0, .int .i64 b.p, .bool b.d] 39)).cell? ⟨wr.heap.size, 2, none⟩ = some (.int .i64 0) := by simp only [World.cell?, K6]; rfl
          have d3 : (wr.alloc (.cells #[.int .i64 b.i, .int .i64 b.g, .int .i64 0, .int .i64 b.p, .bool b.d] 39)).cell? ⟨wr.heap.size, 3, none⟩ = some (.int .i64 b.p) := by simp only [World.cell?, K6]; rfl
          have d4 : (wr.alloc (.cells #[.int .i64 b.i, .int .i64 b.g, .int .i64 0, .int .i64 b.p, .bool b.d] 39)).cell? ⟨wr.heap.size, 4, none⟩ = some (.bool b.d) := by simp only [World.cell?, K6]; rfl
          have hsz6 : (wr.alloc (.cells #[.int .i64 b.i, .int .i64 b.g, .int .i64 0, .int .i64 b.p, .bool b.d] 39)).heap.size = wr.heap.size + 1 := by simp
          have OW6 := Lib.hid (own_keep OW.out (w' := (wr.alloc (.cells #[.int .i64 b.i, .int .i64 b.g, .int .i64 0, .int .i64 b.p, .bool b.d] 39))) (fun j hj1 hj2 => hb6.block j hj2))
          rw [htl] at OW6
          have HW6 := Lib.hid (hb6.mono hwn)
          have HCN := Lib.hid (show ∀ (j : Nat) (u : Value), ([.int .i64 b.i, .int .i64 b.g, .int .i64 0, .int .i64 b.p, .bool b.d] : List Value)[j]? = some u → ((wr.alloc (.cells #[.int .i64 b.i, .int .i64 b.g, .int .i64 0, .int .i64 b.p, .bool b.d] 39)).alloc (.cells #[.int .i64 b.i, .int .i64 b.g, .int .i64 0, .int .i64 b.p, .bool b.d] 39)).cell? ((⟨wr.heap.size + 1, 0, none⟩ : Addr).add j) = some u from fun j u hu => by rw [← hsz6]; exact cells_new j u hu)
          have HS6 := Lib.hid hsz6
          clear hcs K5 K6 hb5 hb6 hsz6
          go_wp2_with (at_builtin; refine wpList_append_own _ rfl _ _ 30 rfl W6.heap.size 39 i0 (.agg #[.int .i64 0, .int .i64 0, .int .i64 0, .int .i64 0, .bool false]) 5 40 Tryd.underlying30 HBI.out HB0.out HB1.out HB2.out rfl (by decide) _ _ _ rfl (OW6.out.alloc _) ⟨_, 0, none⟩ 1 1 [.int .i64 b.i, .int .i64 b.g, .int .i64 0, .int .i64 b.p, .bool b.d] rfl rfl (fun j u hu => HCN.out j u hu) (by simp [Value.oneCell']) (by unfold maxLen; omega) (by omega) (by simp; omega) ?_; intro v' w8 hown8 hgrow8 _)
          have hb8 : Below W6.heap.size ((wr.alloc (.cells #[.int .i64 b.i, .int .i64 b.g, .int .i64 0, .int .i64 b.p, .bool b.d] 39)).alloc (.cells #[.int .i64 b.i, .int .i64 b.g, .int .i64 0, .int .i64 b.p, .bool b.d] 39)) w8 := own_below hgrow8 (by simp; omega) (fun k hk => (own_lt OW6.out k hk).1)
          have D8 := Lib.hid (DR.out.trans ((HW6.out.alloc (by rw [HS6.out]; omega) (.cells #[.int .i64 b.i, .int .i64 b.g, .int .i64 0, .int .i64 b.p, .bool b.d] 39)).trans hb8))
          have hown9 : w8.ownsRow W6.heap.size 39 5 v' ((harmB l).take (k + 1)).length (rowB ((harmB l).take (k + 1))) := by
            rw [harmB_take_len (by have := HNL.out; omega), HTK2.out, rowB_app]
            exact hown8
          have H9 := Lib.hid hown9
          clear hown8 hgrow8 hb8 hown9
          go_wp2_with fail
          go_roundw
          case rel => exact ⟨k + 1, _, rfl, by omega, by go_num, H9, D8⟩
          case measure => simp [intOf]; omega
        · obtain rfl : k = N := by omega
          have hsl := harmB_take_len (l := l) (k := k) (by have := HNL.out; omega)
          have hsame : (harmB l).take k = harmB l := List.take_of_length_le (by rw [harmB_len]; have := HNL.out; omega)
          have hown := OW.out
          rw [hsame] at hown
          have HSM0 := (NewBx.of_own hown).holds
          obtain ⟨sa, sc, rfl⟩ : ∃ a c, s9 = .slice a (harmB l).length c := by obtain ⟨a, c, e, _⟩ := HSM0; exact ⟨a, c, e⟩
          rw [harmB_len, ← HNL.out] at HSM0 ⊢
          obtain ⟨wh, hwh⟩ : ∃ wh, wh = wr := ⟨_, rfl⟩
          rw [← hwh] at HSM0 ER
          have HSM := Lib.hid fun (w' : World) (hs : Below wh.heap.size wh w') => HSM0.keep hs
          have EW := Lib.hid ER.out
          have LW := Lib.hid fun (w' : World) (hs : Below wh.heap.size wh w') => LK.out w' (DR.out.trans (by rw [hwh] at hs; exact hs.mono DR.out.size))
          have BZ := Lib.hid (show Below wh.heap.size wh wr by rw [hwh]; exact Below.refl _ _)
          obtain ⟨NP, hNP⟩ : ∃ NP, NP = p.length := ⟨_, rfl⟩
          have hNP40 : NP ≤ 40 := by omega
          rw [← hNP] at PK HPT HHM ⊢
          obtain ⟨K, hK⟩ : ∃ K, K = L.length := ⟨_, rfl⟩
          have HKL := Lib.hid hK
          have hK1300 : K ≤ 1300 := by omega
          rw [← hK] at LW ⊢
          clear hown hsame hsl HSM0 hwh hNP hK OW DR ER EK LK
          go_wp2_with fail
          go_loopw [10] (fun i wr => ∃ k : Nat, k ≤ NP ∧ i = .int .i64 k ∧ Hid (Below wh.heap.size wh wr)) (fun i _ => NP - (intOf i).toNat)
          case atStart => exact ⟨0, by omega, rfl, BZ⟩
          case round =>
            clear BZ
            obtain ⟨k2, hk2, rfl, BR⟩ := hrel
            have ER := Lib.hid (EW.out.trans (BR.out.mono EW.out.size))
            have y := YK.out wr ER.out
            have k0 := y.c0
            have k1 := y.c1
            have k2' := y.c2
            clear y
            by_cases hlt2 : k2 < NP
            · have ik2 : (k2 : Int) < (NP : Int) := by omega
              have i0k2 : (0 : Int) ≤ (k2 : Int) := by omega
              have HPk' := Lib.hid (HPT.out k2 wr (BK.out _ ER.out) (PK.out _ ER.out))
              have HTNk := Lib.hid fun v' w' => HTN.out k2 v' w'
              have HTKk := Lib.hid (HTK.out k2)
              have hfl := HFL.out k2
              obtain ⟨tq, htq⟩ : ∃ t, t = tk (k2 : Int) := ⟨_, rfl⟩
              rw [← htq] at HPk' HTNk HTKk hfl
              clear htq
              generalize nearO h l tq.1 = F at HTNk HTKk hfl
              obtain ⟨q, id⟩ := tq
              go_wp2_with fail
              refine HPk'.out.mono ?_
              rintro e w5 ⟨vt, rfl, gt, d5⟩
              have gt := gt.holds
              have B5 := Lib.hid (BR.out.trans (d5.mono BR.out.size))
              clear d5 k0 k1 k2' HPk' BR ER
              by_cases hid : id < 0
              · have hidd : decide (id < 0) = true := decide_eq_true hid
                go_wp2_with fail
                go_roundw
                case rel => exact ⟨k2 + 1, by omega, by go_num, B5⟩
                case measure => simp [intOf]; omega
              · have hidd : decide (id < 0) = false := decide_eq_false hid
                have E5 := Lib.hid (EW.out.trans (B5.out.mono EW.out.size))
                have HT5 := Lib.hid (HTNk.out vt w5 (CK.out _ E5.out) (BK.out _ E5.out) gt)
                have HX := Lib.hid (HTKk.out (by omega))
                have y := YK.out w5 E5.out
                have k0 := y.c0
                have k1 := y.c1
                have k2' := y.c2
                clear y gt hid HTNk HTKk
                go_wp2_with fail
                refine HT5.out.mono ?_
                rintro e w6 ⟨vf, rfl, gf, d6⟩
                have gf := gf.holds
                obtain ⟨fa, fc, rfl⟩ : ∃ a c, vf = .slice a (F).length c := by obtain ⟨a, c, e, _⟩ := gf; exact ⟨a, c, e⟩
                have B6 := Lib.hid (B5.out.trans (d6.mono B5.out.size))
                have GF := Lib.hid fun (w' : World) (hs : Below w6.heap.size w6 w') => gf.keep hs
                have GL := Lib.hid fun (w' : World) (hs : Below w6.heap.size w6 w') => LW.out w' (B6.out.trans (hs.mono B6.out.size))
                have BS := Lib.hid fun (w' : World) (hs : Below w6.heap.size w6 w') => B6.out.trans (hs.mono B6.out.size)
                obtain ⟨M, hM⟩ : ∃ M, M = F.length := ⟨_, rfl⟩
                have HML := Lib.hid hM
                have hM1300 : M ≤ 1300 := by omega
                rw [← hM] at GF ⊢
                clear d6 gf k0 k1 k2' hM HT5 B5 E5
                go_wp2_with fail
                go_loopw [14] (fun i wr => ∃ i3 : Nat, i3 ≤ M ∧ i = .int .i64 i3 ∧ Hid (Below w6.heap.size w6 wr)) (fun i _ => M - (intOf i).toNat)
                case atStart => exact ⟨0, by omega, rfl, Lib.hid (Below.refl _ _)⟩
                case round =>
                  obtain ⟨i3, hi3, rfl, B7⟩ := hrel
                  by_cases hlt3 : i3 < M
                  · obtain ⟨wo, rfl⟩ : ∃ wo : World, wo = wr := ⟨_, rfl⟩
                    have hi3F : i3 < F.length := by have := HML.out; omega
                    obtain ⟨f1, f2, f3⟩ := HX.out F[i3] (List.getElem_mem hi3F)
                    obtain ⟨x1, hx1⟩ : ∃ x, x = F[i3].1 := ⟨_, rfl⟩
                    obtain ⟨x2, hx2⟩ : ∃ x, x = F[i3].2 := ⟨_, rfl⟩
                    have GX := Lib.hid fun (w' : World) (hs : Below w6.heap.size w6 w') => (show ∃ b off, fa = some ⟨b, off, none⟩ ∧ w'.cell? ⟨b, off + i3 * 2, none⟩ = some (.int .i64 x1) ∧ w'.cell? ⟨b, off + i3 * 2 + 1, none⟩ = some (.int .i64 x2) from by
                      obtain ⟨b, off, hk', ha, _, c1, c2⟩ := (GF.out w' hs).at_ hlt3
                      exact ⟨b, off, ha, by rw [hx1]; exact c1, by rw [hx2]; exact c2⟩)
                    have HAN := Lib.hid (show L.any (fun x => x.1 == x1 && x.2 == x2) = true from List.any_eq_true.2 ⟨F[i3], f1, by rw [hx1, hx2]; simp⟩)
                    have n1 : (x1 == (k2 : Int)) = false := by rw [hx1]; simpa using f2
                    have n2 : (x2 == (k2 : Int)) = false := by rw [hx2]; simpa using f3
                    have ii3 : (i3 : Int) < (M : Int) := by omega
                    have i0i3 : (0 : Int) ≤ (i3 : Int) := by omega
                    clear f1 f2 f3 hx1 hx2 hi3F
                    go_wp2_with fail
                    go_loopw [15, 16] (fun s i wr => ∃ j : Nat, j ≤ K ∧ s = .bool ((L.take j).any (fun x => x.1 == x1 && x.2 == x2)) ∧ i = .int .i64 j ∧ Hid (Below w6.heap.size w6 wr)) (fun _ i _ => K - (intOf i).toNat)
                    case atStart => exact ⟨0, by omega, by simp, rfl, B7⟩
                    case round =>
                      clear B7
                      obtain ⟨j, hjK, rfl, rfl, B8⟩ := hrel
                      by_cases hltj : j < K
                      · have hjL : j < L.length := by have := HKL.out; omega
                        have hnx : (L.take (j + 1)).any (fun x => x.1 == x1 && x.2 == x2) = ((L.take j).any (fun x => x.1 == x1 && x.2 == x2) || (L[j].1 == x1 && L[j].2 == x2)) := by
                          rw [← List.take_append_getElem hjL, List.any_append]; simp
                        obtain ⟨lb, lo, hk', rfl, hlbl, s0, s1⟩ := (GL.out wr B8.out).at_ hltj
                        obtain ⟨fb, fo, rfl, t0, t1⟩ := GX.out wr B8.out
                        have hqp := fun W => run_eql_pair W L[j].1 L[j].2 x1 x2
                        generalize L[j].1 = z1 at s0 hnx hqp
                        generalize L[j].2 = z2 at s1 hnx hqp
                        generalize hgv : (z1 == x1 && z2 == x2) = v9 at hnx hqp
                        have ij : (j : Int) < (K : Int) := by omega
                        have i0j : (0 : Int) ≤ (j : Int) := by omega
                        have HNX := Lib.hid hnx
                        have B9 := Lib.hid (show Below w6.heap.size w6 wr.drew from B8.out.drew)
                        clear hnx hk' hjL hgv
                        generalize hgs : (L.take j).any (fun x => x.1 == x1 && x.2 == x2) = s9' at HNX ⊢
                        clear hgs
                        cases s9'
                        · go_wp2_with fail
                          (first | go_region | fail)
                          go_wp2_with fail
                          go_roundw
                          case rel => exact ⟨j + 1, by omega, by rw [HNX.out]; rfl, by go_num, B9⟩
                          case measure => simp [intOf]; omega
                        · clear hqp s0 s1 t0 t1
                          go_wp2_with fail
                          (first | go_region | fail)
                          go_wp2_with fail
                          go_roundw
                          case rel => exact ⟨j + 1, by omega, by rw [HNX.out]; rfl, by go_num, B9⟩
                          case measure => simp [intOf]; omega
                      · obtain rfl : j = K := by omega
                        have hall : L.take j = L := List.take_of_length_le (by have := HKL.out; omega)
                        rw [hall, HAN.out]
                        obtain ⟨fb, fo, rfl, t0, t1⟩ := GX.out wr B8.out
                        clear hall
                        go_wp2_with fail
                        go_roundw
                        case rel => exact ⟨i3 + 1, by omega, by go_num, B8⟩
                        case measure => simp [intOf]; omega
                  · obtain rfl : i3 = M := by omega
                    have B9 := Lib.hid (BS.out _ B7.out)
                    go_wp2_with fail
                    go_roundw
                    case rel => exact ⟨k2 + 1, by omega, by go_num, B9⟩
                    case measure => simp [intOf]; omega
            · obtain rfl : k2 = NP := by omega
              have HMk := Lib.hid (HHM.out _ wr (CK.out _ ER.out) (HSM.out _ BR.out) (PK.out _ ER.out))
              have CE := Lib.hid fun (w' : World) (hs : Below wr.heap.size wr w') => CK.out w' (ER.out.trans (hs.mono ER.out.size))
              go_wp2_with fail
              refine HMk.out.mono ?_
              rintro e w9 ⟨v9, rfl, g9, d9⟩
              have g9 := g9.holds
              obtain ⟨ja, jc, rfl⟩ : ∃ a c, v9 = .slice a (([] : List (Int × Int))).length c := by obtain ⟨a, c, e, _⟩ := g9; exact ⟨a, c, e⟩
              have C9 := CE.out _ d9
              clear g9 d9
              go_wp2_with fail
              go_ret
              exact ⟨rfl, C9⟩

theorem gtableA : Tryd.prog.globalNamed "loop.example/containerport/impl.apartNeeds" = some 0 := by kernel_rfl
theorem gtableAType : (Tryd.prog.globals[0]?).map (·.type) = some 71 := by kernel_rfl
theorem cellstableA : Tryd.prog.cellsOf 71 = 4 * 4 := by kernel_rfl
theorem cellstableARow : Tryd.prog.cellsOf 70 = 4 := by kernel_rfl
theorem cellstableAElem : Tryd.prog.cellsOf 3 = 1 := by kernel_rfl
/-- What the row's list gives: the table stands. -/
theorem tableA {W : World} (h : laidMetH Tryd.prog Rows.fnTooNearRow.laid W) : TabA W := by
  obtain ⟨ps, hv, _⟩ := (show laidMet Tryd.prog Rows.fnTooNearRow.laid W from h)
  obtain ⟨g', t', cs, fuel, p, q, hg', ht', hvar, hd, _, _⟩ := hv
  obtain rfl := Option.some.inj (gtableA.symm.trans hg')
  obtain rfl := Option.some.inj (gtableAType.symm.trans ht')
  have he := cells_of_tab2 (zss := [[0, 0, 0, 0], [0, 0, 1, 2], [0, 1, 0, 3], [0, 2, 3, 1]]) (k := .i64) Tryd.underlying71 Tryd.underlying70 Tryd.underlying3 cellstableARow cellstableAElem cellstableA hd
  unfold TabA
  rw [hvar]
  congr 1
  apply Array.ext'
  rw [he]
  rfl

set_option maxRecDepth 100000 in
set_option maxHeartbeats 2000000 in
/-- What the walk gives, for every argument. -/
theorem contract (H : Type) (enc : TypeId × Value → H) (W : World) (base : Nat) (args : Array Value) (ds gs : List (DataW H)) (before : List MemPlace)
    (hval : ∀ (j : Nat) t v, Tryd.f4.params[j]? = some t → args[j]? = some v → Value.okWide Tryd.prog W .any base t v)
    (hW : DataW.Whole enc Tryd.prog Tryd.f4.params.toList Rows.fnTooNearSpec.vars false W args.toList ds gs before) (hL : laidMetH Tryd.prog Rows.fnTooNearRow.laid W) :
    Calls Tryd.prog 4 args W fun e W' => ∃ v, e = .returned v ∧ Rows.fnTooNearSpec.post enc Tryd.prog Tryd.f4 false true false false W args v W' := by
  have hW' := hW
  obtain ⟨p, q, hA0, hV, rfl, hfz, hnd⟩ := hW
  have hA : DataW.TrodAll enc Tryd.prog W 0 (fun _ => true) true Tryd.f4.params.toList args.toList ds p := hA0
  rw [Tryd.params4] at hA hval
  obtain ⟨v0, vs0, d0, ds0, p0, q0, hargs, rfl, rfl, h0, r0⟩ := trodAll_cons hA
  obtain ⟨rfl, rfl, rfl⟩ := trodAll_nil r0
  obtain rfl : args = #[v0] := by cases args; simp_all
  have hV1 : DataW.TrodVars enc Tryd.prog W (fun _ => true) ["loop.example/containerport/impl.apartNeeds"] gs q := hV
  obtain ⟨gv, tv, csv, fv, dv, pv, rfl, hgv, htv, hvv, hdv, rfl⟩ := trodVars_one hV1
  obtain rfl := Option.some.inj (gtableA.symm.trans hgv)
  obtain rfl := Option.some.inj (gtableAType.symm.trans htv)
  obtain rfl := Option.some.inj ((show W.var? Tryd.prog "loop.example/containerport/impl.apartNeeds" = some _ from tableA hL).symm.trans hvv)
  have hvars : ∀ W' : World, Below W.heap.size W W' → DataW.TrodVars enc Tryd.prog W' (fun b => decide (b < W.heap.size)) ["loop.example/containerport/impl.apartNeeds"] [dv] _ := fun W' bel => by
    have h1 : DataW.Trod enc Tryd.prog W 0 (fun _ => true) true 71 (.agg (tabA.map (Value.int .i64)).toArray) dv pv := ⟨fv, hdv⟩
    obtain ⟨f2, h2⟩ := Below.trod laidOut (by kernel_rfl) (of_decide_eq_true (by kernel_rfl)) h1 bel (DataW.trod_lt fv _ _ _ hdv)
    exact trodVars_mk1 gtableA gtableAType (keepVar bel hvv) h2
  clear hV hV1
  have k0 := h0
  have lt0 : ∀ x ∈ p0, x.block < W.heap.size := by obtain ⟨m, hm⟩ := k0; exact DataW.trod_lt m _ _ _ hm
  obtain ⟨a0, len0, cap0, rfl⟩ := okWide_slice Tryd.underlying22 (hval 0 22 v0 rfl rfl)
  obtain ⟨z0, x0⟩ : ∃ zs, IsRow .u8 W a0 len0 cap0 zs := by
    obtain ⟨fuel, hf⟩ := h0
    rcases open_ints Tryd.underlying22 Tryd.underlying5 (by kernel_rfl) hf with ⟨hcs, _⟩ | ⟨x, l, c, zs, hcs, _, hl, hm, hz, _, hcell, hwz⟩
    · simp [Value.cells] at hcs
      obtain ⟨rfl, rfl, rfl⟩ := hcs
      exact ⟨[], .inl ⟨rfl, rfl, rfl, rfl⟩⟩
    · simp [Value.cells] at hcs
      obtain ⟨rfl, rfl, rfl⟩ := hcs
      exact ⟨zs, .inr ⟨_, rfl, hl, hm, by simpa using hz, hcell, hwz⟩⟩
  clear hA0
  refine (walk a0 len0 cap0 W (row8_of x0) (tableA hL)).mono fun e W' ⟨he, bel⟩ => ?_
  subst he
  exact ⟨_, rfl, _, _, _, [], _, _, hW', trodAll_mk1 (shut_bool Tryd.underlying4 _), (trodAll_cons_mk (Below.trod laidOut (by kernel_rfl) (of_decide_eq_true (by kernel_rfl)) k0 bel lt0) trodAll_mk0), hvars _ bel, bel.frame _, fun h => by cases h⟩

/-- A world for the witness: the settled one, each listed variable holding what its initialiser lays. -/
noncomputable def laidWorld (os : Os) : World :=
  { World.holding Tryd.prog os ⟨#[], #[], []⟩ with heap := ((World.holding Tryd.prog os ⟨#[], #[], []⟩).heap.modify 0 fun | .cells _ t frozen => .cells #[.int .i64 0, .int .i64 0, .int .i64 0, .int .i64 0, .int .i64 0, .int .i64 0, .int .i64 1, .int .i64 2, .int .i64 0, .int .i64 1, .int .i64 0, .int .i64 3, .int .i64 0, .int .i64 2, .int .i64 3, .int .i64 1] t frozen | o => o) }
theorem laid_met (os : Os) : laidMet Tryd.prog Rows.fnTooNearRow.laid ((laidWorld os).forCall (fun _ _ => 0) ⟨#[], #[.slice none 0 0], []⟩).memory :=
  laidMet_of_run' 8 (by kernel_rfl) (by kernel_rfl)
theorem reads (os : Os) {H : Type} (enc : TypeId × Value → H) : ∃ places, DataW.whole enc Tryd.prog ((laidWorld os).forCall (fun _ _ => 0) ⟨#[], #[.slice none 0 0], []⟩).memory Tryd.f4.params.toList Rows.fnTooNearSpec.vars false (#[.slice none 0 0] : Array Value).toList 8 = some ([.nil], [Rows.laid_loop_example_containerport_impl_apartNeeds], places) :=
  ⟨(MemPlace.row ⟨0, 0, none⟩ 16 ++ []), by kernel_rfl⟩

set_option maxRecDepth 100000 in
theorem lifted (os : Os) (started : os.Started) (H : Type) (enc : TypeId × Value → H) (F : Stop.Interp) :
    ReturnsInHanded {} Tryd.checked os 4 .any ((OpenSpec.ofChange Rows.fnTooNearSpec).preRow enc Tryd.prog Tryd.f4 Rows.fnTooNearRow.domain false Rows.fnTooNearRow.laid) (((OpenSpec.ofChange Rows.fnTooNearSpec).at F).post enc Tryd.prog Tryd.f4 false true false false) := by
  obtain ⟨places, hx⟩ := reads os enc
  refine returnsInHanded_of_row (C := Tryd.checked) (s := OpenSpec.ofChange Rows.fnTooNearSpec) own started (by kernel_rfl) Tryd.func4
    (witness_row_at (enc := enc) (C := Tryd.checked) false (laidWorld os) #[.slice none 0 0] rfl (by kernel_rfl) (by kernel_rfl) (by kernel_rfl)
      (OpenSpec.preRow_of_cond 8 hx (by kernel_rfl) (fun k hk => by cases hk) (by kernel_rfl) (laid_met os))) ?_
  intro W base args ds gs before hval hW _ _ _ hL _ _
  exact contract H enc W base args ds gs before hval hW hL

theorem said : Rows.FnTooNearSaid :=
  OpenClaim.holds_of_cond 4 Tryd.f4 rfl rfl rfl rfl rfl rfl rfl ⟨rfl, rfl, rfl, rfl, rfl⟩ rfl rfl rfl rfl rfl (by kernel_rfl) Tryd.func4 (by kernel_rfl)
    (of_decide_eq_true (by kernel_rfl)) (by unfold Func.isWrapper; first | (rw [if_pos (by decide +kernel)]; kernel_rfl) | (rw [if_neg (by decide +kernel)]; exact ⟨rfl, rfl⟩))
    (fun os started H enc _ F => by rw [OpenClaim.pre_eq_preRow]; exact lifted os started H enc F)

/-- No parameter wants a stand-in; the program's own looks are off: what the card asks. -/
theorem plain (f : FuncId) (fn : Func) (hf : Tryd.pinned.checked.prog.funcNamed "loop.example/containerport/laws.FnTooNear" = some f) (hfn : Tryd.pinned.checked.prog.funcs[f]? = some fn) :
    false = Tryd.pinned.checked.prog.looks [] ∧ ∀ (j : Nat) t, fn.params[j]? = some t → Tryd.pinned.checked.prog.wantsStandIn t = false := by
  obtain rfl : f = 4 := Option.some.inj ((show Tryd.prog.funcNamed "loop.example/containerport/laws.FnTooNear" = some 4 by kernel_rfl).symm.trans hf) |>.symm
  obtain rfl : fn = Tryd.f4 := (Option.some.inj (Tryd.func4.symm.trans hfn)).symm
  refine ⟨by kernel_rfl, fun j t ht => ?_⟩
  rw [Tryd.params4] at ht
  have hm : t = 22 := by
    have := Array.mem_of_getElem? ht
    simp at this
    omega
  rcases hm with rfl
  · exact (show Tryd.prog.wantsStandIn 22 = false by kernel_rfl)

theorem proved : Rows.FnTooNearCardSaid :=
  Claim7.holds_tied_plain_at .later [] _ _ _ _ said (fun _ h => by cases h) (by kernel_rfl) (fun _ h => by cases h) fnTooNear_row_tie rfl ⟨rfl, rfl⟩ (by kernel_rfl) rfl plain (by kernel_rfl)
#print axioms proved
end Go.Proofs.YtlccmgdmfchmnaaDoor.fnTooNear
