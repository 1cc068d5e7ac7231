/-
  The program's chapter 11: ApartNeed, ApartOf, classOf, slotsTooNear, TooNear, SafeSlots.
-/
import Derived.Test.YtlccmgdmfchmnaaDoorDaTb
import Derived.Test.YtlccmgdmfchmnaaDoorDaMath3
import Derived.Test.YtlccmgdmfchmnaaDoorDaMath2
import Derived.Test.YtlccmgdmfchmnaaDoorDaS
import Derived.Test.YtlccmgdmfchmnaaDoorLsI
import Derived.Test.YtlccmgdmfchmnaaDoorPlI
import Derived.Test.YtlccmgdmfchmnaaDoorPrF
import Derived.Test.YtlccmgdmfchmnaaDoorGBl
import Derived.Laws.AppendOwnNone
import Derived.Maps.AppendAt
import Derived.Deep.RegionHeld3
namespace Go.Proofs.YtlccmgdmfchmnaaDoor
open Go.RowKit
set_option linter.unusedVariables false

set_option maxRecDepth 10000 in
set_option maxHeartbeats 4000000 in
theorem implApartOf_any (h : Hl) (s t : Int) (w : World) :
    Calls Tryd.prog 72 #[.agg #[.int .i64 h.b, .int .i64 h.r, .int .i64 h.t], .int .i64 s, .int .i64 t] w fun e w' => e = .returned (.int .i64 (apartS h s t)) ∧ Below w.heap.size w w' := by
  have hb1 := (Below.refl w.heap.size w).alloc (Nat.le_refl _) (.cells #[.int .i64 h.b, .int .i64 h.r, .int .i64 h.t] 29)
  have hx1 := BoxH.new w h
  obtain ⟨W1, hW1⟩ : ∃ W1, W1 = w.alloc (.cells #[.int .i64 h.b, .int .i64 h.r, .int .i64 h.t] 29) := ⟨_, rfl⟩
  rw [← hW1] at hb1 hx1
  have HW := Lib.hid hW1
  have HB := Lib.hid hb1
  have y0 := hx1.c0
  have y1 := hx1.c1
  have y2 := hx1.c2
  have HX := Lib.hid fun (w' : World) (hs : Below W1.heap.size W1 w') => hx1.keep hs
  clear hW1 hb1 hx1
  have HA := Lib.hid fun (w' : World) => implPlaceOf_any h s w'
  have HC := Lib.hid fun (w' : World) => implPlaceOf_any h t w'
  have hbd : ∀ s, -1 ≤ (plOf h s).1 ∧ (plOf h s).1 ≤ 3 := fun s => by
    rcases plOf_two h s with ⟨h1, _⟩ | ⟨h1, hk, h2, h3⟩
    · omega
    · have h4 := (plOf_in hk h2 h3).1.2
      have := hlOk_iff.1 hk
      rw [plOf_yes hk h2 h3] at h1 ⊢
      simp only [] at h1 ⊢
      omega
  have b1 := hbd s
  have b2 := hbd t
  obtain ⟨r, hr⟩ : ∃ r, r = apartS h s t := ⟨_, rfl⟩
  rw [← hr]
  unfold apartS at hr
  generalize plOf h s = p1 at HA hr b1
  generalize plOf h t = p2 at HC hr b2
  obtain ⟨x1, y1', z1'⟩ := p1
  obtain ⟨x2, y2', z2'⟩ := p2
  have HA' : Hid (∀ w' : World, Calls Tryd.prog 88 #[.agg #[.int .i64 h.b, .int .i64 h.r, .int .i64 h.t], .int .i64 s] w' fun e w2 => e = .returned (.tuple #[.int .i64 x1, .int .i64 y1', .int .i64 z1']) ∧ Below w'.heap.size w' w2) := HA
  have HC' : Hid (∀ w' : World, Calls Tryd.prog 88 #[.agg #[.int .i64 h.b, .int .i64 h.r, .int .i64 h.t], .int .i64 t] w' fun e w2 => e = .returned (.tuple #[.int .i64 x2, .int .i64 y2', .int .i64 z2']) ∧ Below w'.heap.size w' w2) := HC
  simp only [] at hr b1 b2
  obtain ⟨mx, hmx⟩ : ∃ mx, mx = max x1 x2 := ⟨_, rfl⟩
  obtain ⟨mn, hmn⟩ : ∃ mn, mn = min x1 x2 := ⟨_, rfl⟩
  have hmax := run_max x1 x2 mx hmx
  have hmin := run_min x1 x2 mn hmn
  obtain ⟨dv, hdv⟩ : ∃ dv, dv = mx - mn := ⟨_, rfl⟩
  have zd1 : IntKind.i64.wrap (mx - mn) = dv := by rw [hdv]; exact IntWalk.i64_in _ (by omega)
  have HM := Lib.hid (And.intro hmx (And.intro hmn hdv))
  clear HA HC hbd hmx hmn hdv
  have go : ∀ r0 : Int, r = r0 → (
      (decide (x1 < 0) = true ∧ r0 = -1) ∨
      (decide (x1 < 0) = false ∧ decide (x2 < 0) = true ∧ r0 = -1) ∨
      (decide (x1 < 0) = false ∧ decide (x2 < 0) = false ∧ decide (dv > 1) = true ∧ r0 = 3) ∨
      (decide (x1 < 0) = false ∧ decide (x2 < 0) = false ∧ decide (dv > 1) = false ∧ (dv == 1) = true ∧ r0 = 2) ∨
      (decide (x1 < 0) = false ∧ decide (x2 < 0) = false ∧ decide (dv > 1) = false ∧ (dv == 1) = false ∧ (y1' != y2') = true ∧ r0 = 1) ∨
      (decide (x1 < 0) = false ∧ decide (x2 < 0) = false ∧ decide (dv > 1) = false ∧ (dv == 1) = false ∧ (y1' != y2') = false ∧ r0 = 0)) →
      Calls Tryd.prog 72 #[.agg #[.int .i64 h.b, .int .i64 h.r, .int .i64 h.t], .int .i64 s, .int .i64 t] w fun e w' => e = .returned (.int .i64 r) ∧ Below w.heap.size w w' := by
    rintro r0 rfl hcase
    clear HM
    rcases hcase with ⟨k1, rfl⟩ | ⟨k1, k2, rfl⟩ | ⟨k1, k2, k3, rfl⟩ | ⟨k1, k2, k3, k4, rfl⟩ | ⟨k1, k2, k3, k4, k5, rfl⟩ | ⟨k1, k2, k3, k4, k5, rfl⟩
    all_goals
      clear hr
      go_enter Tryd.func72, Tryd.ntmps72
      go_wp2_with fail
      rw [← HW.out]
      go_wp2_with fail
      refine (HA'.out W1).mono ?_
      rintro e w2 ⟨rfl, d2⟩
      have C2 := HB.out.trans (d2.mono HB.out.size)
      have x2q := HX.out w2 d2
      have c0 := x2q.c0
      have c1 := x2q.c1
      have c2 := x2q.c2
      clear x2q y0 y1 y2 d2
      go_wp2_with fail
      refine (HC'.out w2).mono ?_
      rintro e w3 ⟨rfl, d3⟩
      have C3 := C2.trans (d3.mono C2.size)
      clear d3 c0 c1 c2
      go_wp2_with fail
      go_ret
      exact ⟨rfl, C3⟩
  refine go r rfl ?_
  obtain ⟨hmx, hmn, hdv⟩ := HM.out
  clear go HA' HC' HX HB HW y0 y1 y2 hmax hmin zd1 HM
  by_cases k1 : x1 < 0
  · exact .inl ⟨decide_eq_true k1, by rw [hr, if_pos (.inl k1)]⟩
  · by_cases k2 : x2 < 0
    · exact .inr (.inl ⟨decide_eq_false k1, decide_eq_true k2, by rw [hr, if_pos (.inr k2)]⟩)
    · rw [if_neg (by omega)] at hr
      by_cases k3 : dv > 1
      · exact .inr (.inr (.inl ⟨decide_eq_false k1, decide_eq_false k2, decide_eq_true k3, by rw [hr, if_neg (by omega), if_neg (by omega), if_neg (by omega)]⟩))
      · by_cases k4 : dv = 1
        · exact .inr (.inr (.inr (.inl ⟨decide_eq_false k1, decide_eq_false k2, decide_eq_false k3, by simp [k4], by rw [hr, if_neg (by omega), if_neg (by omega), if_pos (by omega)]⟩)))
        · have k6 : x1 = x2 := by omega
          by_cases k5 : y1' = y2'
          · exact .inr (.inr (.inr (.inr (.inr ⟨decide_eq_false k1, decide_eq_false k2, decide_eq_false k3, by simpa using k4, by simp [k5], by rw [hr, if_pos ⟨k6, k5⟩]⟩))))
          · exact .inr (.inr (.inr (.inr (.inl ⟨decide_eq_false k1, decide_eq_false k2, decide_eq_false k3, by simpa using k4, by simpa using k5, by rw [hr, if_neg (fun hc => k5 hc.2), if_pos k6]⟩))))

set_option maxRecDepth 10000 in
set_option maxHeartbeats 1000000 in
theorem implClassOf_any (u : Value) (l : List Bx) (x : Int) (w : World) (hb : HoldsBx w u l) (hx0 : 0 ≤ findB l x) (hxz : x ≠ 0) :
    Calls Tryd.prog 47 #[u, .int .i64 x] w fun e w' => e = .returned (.int .i64 (clsB l x)) ∧ Below w.heap.size w w' := by
  have hbd := (findB_bd l x).2
  have HF := Lib.hid (indexOf_any u l x w hb)
  obtain ⟨i, hi⟩ : ∃ i : Nat, findB l x = (i : Int) := ⟨(findB l x).toNat, by omega⟩
  have hil : i < l.length := by omega
  have hw : clsB l x = l[i].c := by
    unfold clsB
    rw [if_neg hxz, hi, Int.toNat_natCast, getD_bx hil]
  obtain ⟨bb, bo, bc, rfl, hbl, hc1⟩ : ∃ bb bo bc, u = .slice (some ⟨bb, bo, none⟩) l.length bc ∧ bb < w.heap.size ∧ w.cell? ⟨bb, bo + i * 5 + 2, none⟩ = some (.int .i64 l[i].c) := by
    obtain ⟨a', c', e, q1, q2, q3⟩ := hb
    rcases q3 with q3 | ⟨b', off', q4, q5, q6⟩
    · omega
    · exact ⟨b', off', c', by rw [e, q4], q5, q6 i hil 2 (by omega)⟩
  rw [hw]
  rw [hi] at HF
  generalize l[i].c = g at hc1 ⊢
  have ii : (i : Int) < (l.length : Int) := by omega
  have i0i : (0 : Int) ≤ (i : Int) := by omega
  obtain ⟨m, hm⟩ : ∃ m, m = l.length := ⟨_, rfl⟩
  rw [← hm] at ii HF ⊢
  clear hb hx0 hbd hi hil hw hm hxz
  go_enter Tryd.func47, Tryd.ntmps47
  go_wp2_with fail
  refine HF.out.mono ?_
  rintro e w' ⟨rfl, b2⟩
  have hc2 : w'.cell? ⟨bb, bo + i * 5 + 2, none⟩ = some (.int .i64 g) := (b2.cell (p := ⟨bb, bo + i * 5 + 2, none⟩) hbl).trans hc1
  clear hc1
  go_wp2_with fail
  go_ret
  exact ⟨rfl, b2⟩

set_option maxRecDepth 10000 in
set_option maxHeartbeats 4000000 in
theorem slotsTooNear_any (h : Hl) (u v : Value) (l : List Bx) (p : List Int) (s c : Int) (w : World) (hb : HoldsBx w u l) (hp : HoldsI w v p) (hok : plOk h (bxsOk l) (bxIds l) p = true) (hT : TabA w) :
    Calls Tryd.prog 46 #[.agg #[.int .i64 h.b, .int .i64 h.r, .int .i64 h.t], u, v, .int .i64 s, .int .i64 c] w fun e w' => ∃ v', e = .returned v' ∧ OwnI w.heap.size w' v' (nrI h l p s c) ∧ Below w.heap.size w w' := by
  obtain ⟨i0, hi, hz0, hz1, hz2⟩ := info_parts infoInt
  have HI := Lib.hid hi
  have HZ0 := Lib.hid hz0
  have HZ1 := Lib.hid hz1
  have HZ2 := Lib.hid hz2
  clear hi hz0 hz1 hz2
  have hb1 := (Below.refl w.heap.size w).alloc (Nat.le_refl _) (.cells #[.int .i64 h.b, .int .i64 h.r, .int .i64 h.t] 29)
  have hx1 := BoxH.new w h
  obtain ⟨W1, hW1⟩ : ∃ W1, W1 = w.alloc (.cells #[.int .i64 h.b, .int .i64 h.r, .int .i64 h.t] 29) := ⟨_, rfl⟩
  rw [← hW1] at hb1 hx1
  have HW := Lib.hid hW1
  have HB := Lib.hid hb1
  have y0 := hx1.c0
  have y1 := hx1.c1
  have y2 := hx1.c2
  have HX := Lib.hid fun (w' : World) (hs : Below W1.heap.size W1 w') => hx1.keep hs
  have hs1 : W1.heap.size = w.heap.size + 1 := by rw [hW1]; simp
  clear hW1 hb1 hx1
  have hlen := pl_len hok
  have HSL := Lib.hid fun (w' : World) (hs : Below w.heap.size w w') => loadedSlots_any v p w' (hp.keep hs) (by omega)
  have HTA := Lib.hid fun (w' : World) (hs : Below w.heap.size w w') => hT.keep hs
  have PK := Lib.hid fun (w' : World) (hs : Below w.heap.size w w') => hp.keep hs
  have HCL := Lib.hid fun k (hl : k < p.length) (hz : pAt p k ≠ 0) (w' : World) (hs : Below w.heap.size w w') => implClassOf_any u l (pAt p k) w' (hb.keep hs) (pl_find hok hl hz) hz
  have HAP := Lib.hid fun (t : Int) (w' : World) => implApartOf_any h s t w'
  have HFA := Lib.hid fun j (hj : j < (fullS p).length) => (show (fullI p).getD j 0 = (fAt p j : Int) ∧ fAt p j < p.length ∧ pAt p (fAt p j) ≠ 0 from ⟨fullI_at hj, fAt_mem hj⟩)
  have HNX := Lib.hid fun j (hj : j < (fullS p).length) => nrJ_next (g := nrG h l p s c) (p := p) hj
  have HGD := Lib.hid fun k => (show nrG h l p s c k = decide (apartS h s (k : Int) < needC c (clsB l (pAt p k))) from rfl)
  have HEN := Lib.hid (nrJ_end h l p s c)
  have HLE := Lib.hid fun j => nrJ_le (nrG h l p s c) p j
  have HZ := Lib.hid (show nrJ (nrG h l p s c) p 0 = [] by simp [nrJ])
  generalize nrG h l p s c = g at HNX HGD HEN HLE HZ
  have hfl := fullI_len p
  have hfn := fullS_le p
  obtain ⟨pa, pc, rfl⟩ := hp.form
  obtain ⟨n, hn⟩ : ∃ n, n = p.length := ⟨_, rfl⟩
  obtain ⟨m, hm⟩ : ∃ m, m = (fullS p).length := ⟨_, rfl⟩
  rw [← hn] at hlen HCL HFA HLE HSL PK hfn ⊢
  rw [← hm] at hfl HFA HNX HEN hfn
  clear hok hb hp hn hm hT
  go_enter Tryd.func46, Tryd.ntmps46
  go_wp2_with fail
  rw [← HW.out]
  go_wp2_with fail
  refine (HSL.out _ HB.out).mono ?_
  rintro e w3 ⟨v3, rfl, O3, b3⟩
  have C3 := Lib.hid (HB.out.trans (b3.mono HB.out.size))
  have D3 := Lib.hid b3
  have NK := Lib.hid fun (w' : World) (hs : Below w3.heap.size w3 w') => O3.holds.keep hs
  have HX3 := Lib.hid fun (w' : World) (hs : Below w3.heap.size w3 w') => HX.out w' (D3.out.trans (hs.mono D3.out.size))
  have BW := Lib.hid fun (w' : World) (hs : Below w3.heap.size w3 w') => C3.out.trans (hs.mono C3.out.size)
  obtain ⟨a3, c3, rfl⟩ := O3.holds.form
  have HO := Lib.hid (OwnI.nil (K := w3.heap.size) (w := w3))
  rw [hfl] at NK ⊢
  rw [← HZ.out] at HO
  clear O3 b3 HSL y0 y1 y2 D3 HZ hfl
  go_wp2_with fail
  go_loopw [11, 17] (fun va i wr => ∃ j : Nat, j ≤ m ∧ i = .int .i64 j ∧ Hid (OwnI w3.heap.size wr va (nrJ g p j)) ∧ Hid (Below w3.heap.size w3 wr)) (fun _ i _ => m - (intOf i).toNat)
  case atStart => exact ⟨0, by omega, rfl, HO, Lib.hid (Below.refl _ _)⟩
  case round =>
    clear HO
    obtain ⟨j, hjm, rfl, HOJ, DJ⟩ := hrel
    by_cases hlt : j < m
    · obtain ⟨sb, so, rfl, hsbl, s0⟩ := (NK.out wr DJ.out).at_ (k := j) hlt
      obtain ⟨f1, f2, f3⟩ := HFA.out j hlt
      rw [f1] at s0
      have HNj := Lib.hid (HNX.out j hlt)
      have hle := HLE.out j
      obtain ⟨k, hk⟩ : ∃ k, k = fAt p j := ⟨_, rfl⟩
      rw [← hk] at s0 f2 f3 HNj
      obtain ⟨pb, po, rfl, hpb, t0⟩ := (PK.out wr (BW.out wr DJ.out)).at_ f2
      have e1 : p.getD k 0 = pAt p k := rfl
      rw [e1] at t0
      have ik : (k : Int) < (n : Int) := by omega
      have i0k : (0 : Int) ≤ (k : Int) := by omega
      have ij : (j : Int) < (m : Int) := by omega
      have i0j : (0 : Int) ≤ (j : Int) := by omega
      have HCk := Lib.hid fun (w' : World) (hs : Below w3.heap.size w3 w') => HCL.out k f2 f3 w' (BW.out w' hs)
      have HAk := Lib.hid fun (w' : World) => HAP.out (k : Int) w'
      have HGk := Lib.hid (HGD.out k)
      obtain ⟨x, hx⟩ : ∃ x, x = pAt p k := ⟨_, rfl⟩
      rw [← hx] at t0 HCk HGk
      obtain ⟨ck, hck⟩ : ∃ ck, ck = clsB l x := ⟨_, rfl⟩
      rw [← hck] at HCk HGk
      obtain ⟨ap, hap⟩ : ∃ ap, ap = apartS h s (k : Int) := ⟨_, rfl⟩
      rw [← hap] at HAk HGk
      have HND := Lib.hid fun (w' : World) (hs : Below w3.heap.size w3 w') => implApartNeed_any c ck w' (HTA.out w' (BW.out w' hs))
      obtain ⟨nd, hnd⟩ : ∃ nd, nd = needC c ck := ⟨_, rfl⟩
      rw [← hnd] at HND HGk
      have yi := HX3.out wr DJ.out
      have c0 := yi.c0
      have c1 := yi.c1
      have c2 := yi.c2
      obtain ⟨L, hL⟩ : ∃ L, L = nrJ g p j := ⟨_, rfl⟩
      have HLs := Lib.hid hL
      rw [← hL] at HOJ hle HNj
      have HT0 := Lib.hid fun (w' : World) (hs : Below wr.heap.size wr w') => (Below.cell hs (p := ⟨pb, po + k, none⟩) hpb).trans t0
      have HCs := Lib.hid fun (w' : World) (hs : Since wr w') => HCk.out w' (DJ.out.trans (Below.mono hs DJ.out.size))
      have HNs := Lib.hid fun (w' : World) (hs : Since wr w') => HND.out w' (DJ.out.trans (Below.mono hs DJ.out.size))
      have HK := Lib.hid fun (w' : World) (hs : Since wr w') => (show w'.cell? ⟨w.heap.size, 0, none⟩ = some (.int .i64 h.b) ∧ w'.cell? ⟨w.heap.size, 1, none⟩ = some (.int .i64 h.r) ∧ w'.cell? ⟨w.heap.size, 2, none⟩ = some (.int .i64 h.t) ∧ w'.cell? ⟨pb, po + k, none⟩ = some (.int .i64 x) ∧ Since wr w' from ⟨(yi.keep hs).c0, (yi.keep hs).c1, (yi.keep hs).c2, HT0.out w' hs, hs⟩)
      have hstart := HK.out _ (show Since wr wr.drew from (Below.refl _ _).drew)
      clear e1 hx hck hap hnd hL hk yi f1 f2 f3 HFA c0 c1 c2 HCk HND HT0
      go_wp2_with fail
      go_region_held3 (fun w' => w'.cell? ⟨w.heap.size, 0, none⟩ = some (.int .i64 h.b) ∧ w'.cell? ⟨w.heap.size, 1, none⟩ = some (.int .i64 h.r) ∧ w'.cell? ⟨w.heap.size, 2, none⟩ = some (.int .i64 h.t) ∧ w'.cell? ⟨pb, po + k, none⟩ = some (.int .i64 x) ∧ Since wr w')
        (first | exact hstart | exact HK.out _ s5 | exact HK.out _ s6 | exact HK.out _ s7 | exact HK.out _ (by exact (‹_ ∧ _› : _ ∧ _ ∧ _ ∧ _ ∧ Since wr _).2.2.2.2) | fail)
        (first
          | (go_at_call 72; ((with_reducible refine (HAk.out _).mono ?_); rintro e w5 ⟨rfl, d5⟩; have s5 : Since wr w5 := Since.call (by exact (‹_ ∧ _› : _ ∧ _ ∧ _ ∧ _ ∧ Since wr _).2.2.2.2) d5; clear d5))
          | (go_at_call 47; ((with_reducible refine (HCs.out _ (by exact (‹_ ∧ _› : _ ∧ _ ∧ _ ∧ _ ∧ Since wr _).2.2.2.2)).mono ?_); rintro e w6 ⟨rfl, d6⟩; have s6 : Since wr w6 := Since.call (by exact (‹_ ∧ _› : _ ∧ _ ∧ _ ∧ _ ∧ Since wr _).2.2.2.2) d6; clear d6))
          | (go_at_call 10; ((with_reducible refine (HNs.out _ (by exact (‹_ ∧ _› : _ ∧ _ ∧ _ ∧ _ ∧ Since wr _).2.2.2.2)).mono ?_); rintro e w7 ⟨rfl, d7⟩; have s7 : Since wr w7 := Since.call (by exact (‹_ ∧ _› : _ ∧ _ ∧ _ ∧ _ ∧ Since wr _).2.2.2.2) d7; clear d7))
          | fail)
      rename_i hheld
      have D7 := Lib.hid (DJ.out.trans (Below.mono hheld.2.2.2.2 DJ.out.size))
      have HOW := Lib.hid (HOJ.out.keep (show Below wr.heap.size wr _ from hheld.2.2.2.2))
      clear hheld hstart HOJ
      cases hg : g k
      · have hlt9 : decide (ap < nd) = false := by rw [← HGk.out]; exact hg
        have hlt8 : nd ≤ ap := Int.not_lt.1 (of_decide_eq_false hlt9)
        have HS9 := Lib.hid (show nrJ g p (j + 1) = L from by rw [HNj.out, hg]; rfl)
        clear hg
        go_wp2_with fail
        go_roundw
        case rel => exact ⟨j + 1, by omega, by go_num, Lib.hid (by rw [HS9.out]; exact HOW.out), D7⟩
        case measure => simp [intOf]; omega
      · have hlt9 : decide (ap < nd) = true := by rw [← HGk.out]; exact hg
        have hlt8 : ap < nd := of_decide_eq_true hlt9
        have HS9 := Lib.hid (show nrJ g p (j + 1) = L ++ [(k : Int)] from by rw [HNj.out, hg]; rfl)
        clear hg
        go_wp2_with (at_builtin; refine wpList_append_own _ rfl _ _ 31 rfl w3.heap.size 3 i0 (.int .i64 0) 1 8 Tryd.underlying31 HI.out HZ0.out HZ1.out HZ2.out rfl (by decide) _ (L).length (rowI (L)) rfl (HOW.out.alloc _) ⟨_, 0, none⟩ 1 1 [.int .i64 (k : Int)] rfl rfl (fun j u hu => cells_new j u hu) (by simp [Value.oneCell']) (by unfold maxLen; omega) (by omega) (by have := D7.out.size; simp; omega) ?_; intro v5 w5 hown5 hgrow _)
        have hb5 : Below w3.heap.size w7 w5 := ((Below.refl _ _).alloc (by have := D7.out.size; omega) _).trans (own_below hgrow (by have := D7.out.size; simp; omega) (fun k' hk' => (own_lt HOW.out k' hk').1))
        have hO5 : OwnI w3.heap.size w5 v5 (L ++ [(k : Int)]) := own_put hown5
        clear hgrow hown5
        go_wp2_with fail
        go_roundw
        case rel => exact ⟨j + 1, by omega, by go_num, Lib.hid (by rw [HS9.out]; exact hO5), Lib.hid (D7.out.trans hb5)⟩
        case measure => simp [intOf]; omega
    · obtain rfl : j = m := by omega
      have O9 := HOJ.out.from_ (show w.heap.size ≤ w3.heap.size by have := C3.out.size; omega)
      rw [HEN.out] at O9
      have C9 := BW.out _ DJ.out
      go_wp2_with fail
      go_ret
      exact ⟨_, rfl, O9, C9⟩

set_option maxRecDepth 10000 in
set_option maxHeartbeats 4000000 in
theorem implSafeSlots_any (h : Hl) (u v : Value) (l : List Bx) (p : List Int) (c : Int) (w : World) (hb : HoldsBx w u l) (hp : HoldsI w v p) (hT : TabA w) :
    Calls Tryd.prog 20 #[.agg #[.int .i64 h.b, .int .i64 h.r, .int .i64 h.t], u, v, .int .i64 c] w fun e w' => ∃ v', e = .returned v' ∧ FreeE w.heap.size w' v' (safeO h l p c) ∧ Below w.heap.size w w' := by
  obtain ⟨i0, hi, hz0, hz1, hz2⟩ := info_parts infoInt
  have HI := Lib.hid hi
  have HZ0 := Lib.hid hz0
  have HZ1 := Lib.hid hz1
  have HZ2 := Lib.hid hz2
  clear hi hz0 hz1 hz2
  have hb1 := (Below.refl w.heap.size w).alloc (Nat.le_refl _) (.cells #[.int .i64 h.b, .int .i64 h.r, .int .i64 h.t] 29)
  have hx1 := BoxH.new w h
  obtain ⟨W1, hW1⟩ : ∃ W1, W1 = w.alloc (.cells #[.int .i64 h.b, .int .i64 h.r, .int .i64 h.t] 29) := ⟨_, rfl⟩
  rw [← hW1] at hb1 hx1
  have HW := Lib.hid hW1
  have HB := Lib.hid hb1
  have y0 := hx1.c0
  have y1 := hx1.c1
  have y2 := hx1.c2
  have HX := Lib.hid fun (w' : World) (hs : Below W1.heap.size W1 w') => hx1.keep hs
  have hs1 : W1.heap.size = w.heap.size + 1 := by rw [hW1]; simp
  clear hW1 hb1 hx1
  have HPV := Lib.hid fun (w' : World) (hs : Below w.heap.size w w') => implPlanValid_any h u v l p w' (hb.keep hs) (hp.keep hs)
  cases hok : plOk h (bxsOk l) (bxIds l) p
  · have HE := Lib.hid (show safeO h l p c = [] from by unfold safeO; rw [nextI_bad hok]; split <;> rfl)
    rw [hok] at HPV
    clear hok hb hp hT
    go_enter Tryd.func20, Tryd.ntmps20
    go_wp2_with fail
    rw [← HW.out]
    go_wp2_with fail
    refine (HPV.out _ HB.out).mono ?_
    rintro e w3 ⟨rfl, b3⟩
    have C3 := HB.out.trans (b3.mono HB.out.size)
    clear b3 HPV y0 y1 y2
    go_wp2_with fail
    go_ret
    exact ⟨_, rfl, by rw [HE.out]; exact FreeE.zero, C3⟩
  · by_cases hc : 0 ≤ c ∧ c ≤ 3
    · have hlen := pl_len hok
      have HE := Lib.hid (show safeO h l p c = (nextI h (bxsOk l) (bxIds l) p).filter (safeS h l p c) from by unfold safeO; rw [if_pos hc])
      have HNXT := Lib.hid fun (w' : World) (hs : Below w.heap.size w w') => implPlanNext_any h u v l p w' (hb.keep hs) (hp.keep hs)
      have HNR := Lib.hid fun (s : Int) (w' : World) (hs : Below w.heap.size w w') => slotsTooNear_any h u v l p s c w' (hb.keep hs) (hp.keep hs) hok (hT.keep hs)
      have HSF := Lib.hid fun s => nrI_safe h l p s c
      rw [hok] at HPV
      have hnl : (nextI h (bxsOk l) (bxIds l) p).length ≤ 36 := nextI_le
      obtain ⟨nx, hnx⟩ : ∃ nx, nx = nextI h (bxsOk l) (bxIds l) p := ⟨_, rfl⟩
      rw [← hnx] at HE HNXT hnl
      have HFN := Lib.hid fun k (hk : k < nx.length) => filt_step (safeS h l p c) hk
      generalize safeS h l p c = sf at HE HSF HFN
      obtain ⟨m, hm⟩ : ∃ m, m = nx.length := ⟨_, rfl⟩
      have HMX := Lib.hid hm
      have hm36 : m ≤ 36 := by omega
      rw [← hm] at HFN
      have hcv := implClassValid_yes c
      clear hok hb hp hT hnx hnl hlen hm
      go_enter Tryd.func20, Tryd.ntmps20
      go_wp2_with fail
      rw [← HW.out]
      go_wp2_with fail
      refine (HPV.out _ HB.out).mono ?_
      rintro e w3 ⟨rfl, b3⟩
      have C3 := Lib.hid (HB.out.trans (b3.mono HB.out.size))
      have y3 := HX.out w3 b3
      have c0 := y3.c0
      have c1 := y3.c1
      have c2 := y3.c2
      have D3 := Lib.hid b3
      clear b3 HPV y0 y1 y2 y3
      go_wp2_with fail
      refine (hcv w3 hc).mono ?_
      rintro e w' ⟨rfl, rfl⟩
      go_wp2_with fail
      refine (HNXT.out _ C3.out).mono ?_
      rintro e w4 ⟨v4, rfl, O4, b4⟩
      have C4 := Lib.hid (C3.out.trans (b4.mono C3.out.size))
      have D4 := Lib.hid (D3.out.trans (b4.mono D3.out.size))
      have NK := Lib.hid fun (w' : World) (hs : Below w4.heap.size w4 w') => O4.holds.keep hs
      have HX4 := Lib.hid fun (w' : World) (hs : Below w4.heap.size w4 w') => HX.out w' (D4.out.trans (hs.mono D4.out.size))
      have BW := Lib.hid fun (w' : World) (hs : Below w4.heap.size w4 w') => C4.out.trans (hs.mono C4.out.size)
      obtain ⟨a4, c4, rfl⟩ := O4.holds.form
      have HO := Lib.hid (OwnI.nil (K := w4.heap.size) (w := w4))
      rw [← HMX.out] at NK ⊢
      clear O4 b4 HNXT c0 c1 c2 hcv hc
      go_wp2_with fail
      go_loopw [9, 27] (fun va i wr => ∃ k : Nat, k ≤ m ∧ i = .int .i64 k ∧ Hid (OwnI w4.heap.size wr va ((nx.take k).filter sf)) ∧ Hid (Below w4.heap.size w4 wr)) (fun _ i _ => m - (intOf i).toNat)
      case atStart => exact ⟨0, by omega, rfl, HO, Lib.hid (Below.refl _ _)⟩
      case round =>
        clear HO
        obtain ⟨k, hkm, rfl, HOK, DK⟩ := hrel
        by_cases hlt : k < m
        · obtain ⟨nb, no, rfl, hnb, s0⟩ := (NK.out wr DK.out).at_ (k := k) (by have := HMX.out; omega)
          have HFk := HFN.out k hlt
          obtain ⟨x, hx⟩ : ∃ x, x = nx.getD k 0 := ⟨_, rfl⟩
          rw [← hx] at s0 HFk
          have HNk := Lib.hid (HNR.out x wr (BW.out wr DK.out))
          have HSk := Lib.hid (HSF.out x)
          obtain ⟨nr, hnr⟩ : ∃ nr, nr = nrI h l p x c := ⟨_, rfl⟩
          rw [← hnr] at HNk HSk
          have ik : (k : Int) < (m : Int) := by omega
          have i0k : (0 : Int) ≤ (k : Int) := by omega
          have yi := HX4.out wr DK.out
          have c0 := yi.c0
          have c1 := yi.c1
          have c2 := yi.c2
          have hfl : ((nx.take k).filter sf).length ≤ 36 := Nat.le_trans (List.length_filter_le _ _) (by rw [List.length_take]; omega)
          obtain ⟨L, hL⟩ : ∃ L, L = (nx.take k).filter sf := ⟨_, rfl⟩
          rw [← hL] at HOK HFk hfl
          have HF := Lib.hid HFk
          clear hx hnr hL yi HFk
          go_wp2_with fail
          refine HNk.out.mono ?_
          rintro e w5 ⟨v5, rfl, O5, b5⟩
          obtain ⟨a5, c5, rfl⟩ := O5.holds.form
          have D5 := Lib.hid (DK.out.trans (b5.mono DK.out.size))
          have HOW := Lib.hid (HOK.out.keep b5)
          clear O5 b5 HOK c0 c1 c2 HNk
          by_cases hz : nr.length = 0
          · have HS9 := Lib.hid (show (nx.take (k + 1)).filter sf = L ++ [x] from by rw [HF.out, ← HSk.out, if_pos (decide_eq_true hz)])
            rw [hz]
            clear hz
            go_wp2_with (at_builtin; refine wpList_append_own _ rfl _ _ 31 rfl w4.heap.size 3 i0 (.int .i64 0) 1 8 Tryd.underlying31 HI.out HZ0.out HZ1.out HZ2.out rfl (by decide) _ (L).length (rowI (L)) rfl (HOW.out.alloc _) ⟨w5.heap.size, 0, none⟩ 1 1 [.int .i64 x] rfl rfl (fun j u hu => cells_new j u hu) (by simp [Value.oneCell']) (by unfold maxLen; omega) (by omega) (by have := D5.out.size; simp; omega) ?_; intro v6 w6 hown5 hgrow _)
            have hb5 : Below w4.heap.size w5 w6 := ((Below.refl _ _).alloc (by have := D5.out.size; omega) _).trans (own_below hgrow (by have := D5.out.size; simp; omega) (fun k' hk' => (own_lt HOW.out k' hk').1))
            have hO5 : OwnI w4.heap.size w6 v6 (L ++ [x]) := own_put hown5
            clear hgrow hown5
            go_wp2_with fail
            go_roundw
            case rel => exact ⟨k + 1, by omega, by go_num, Lib.hid (by rw [HS9.out]; exact hO5), Lib.hid (D5.out.trans hb5)⟩
            case measure => simp [intOf]; omega
          · have HS9 := Lib.hid (show (nx.take (k + 1)).filter sf = L from by rw [HF.out, ← HSk.out, if_neg (by simpa using hz)])
            have hz9 : ((nr.length : Int) == 0) = false := beq_eq_false_iff_ne.2 (by omega)
            obtain ⟨q, hq⟩ : ∃ q, q = nr.length := ⟨_, rfl⟩
            rw [← hq] at hz9 ⊢
            clear hz hq
            go_wp2_with fail
            go_roundw
            case rel => exact ⟨k + 1, by omega, by go_num, Lib.hid (by rw [HS9.out]; exact HOW.out), D5⟩
            case measure => simp [intOf]; omega
        · obtain rfl : k = m := by omega
          have O9 := HOK.out.from_ (show w.heap.size ≤ w4.heap.size by have := C4.out.size; omega)
          rw [HMX.out, List.take_length, ← HE.out] at O9
          have C9 := BW.out _ DK.out
          go_wp2_with fail
          go_ret
          exact ⟨_, rfl, FreeE.of_own O9, C9⟩
    · have HE := Lib.hid (show safeO h l p c = [] from by unfold safeO; rw [if_neg hc])
      have hcv := implClassValid_no c
      rw [hok] at HPV
      clear hok hb hp hT
      go_enter Tryd.func20, Tryd.ntmps20
      go_wp2_with fail
      rw [← HW.out]
      go_wp2_with fail
      refine (HPV.out _ HB.out).mono ?_
      rintro e w3 ⟨rfl, b3⟩
      have C3 := HB.out.trans (b3.mono HB.out.size)
      clear b3 HPV y0 y1 y2
      go_wp2_with fail
      refine (hcv w3 hc).mono ?_
      rintro e w' ⟨rfl, rfl⟩
      go_wp2_with fail
      go_ret
      exact ⟨_, rfl, by rw [HE.out]; exact FreeE.zero, C3⟩

theorem OwnQ.nil {K : Nat} {w : World} : OwnQ K w (.slice none 0 0) [] := ⟨by simp [rowQ], .inl ⟨rfl, rfl⟩⟩
set_option maxRecDepth 10000 in
set_option maxHeartbeats 8000000 in
theorem implTooNear_any (h : Hl) (u v : Value) (l : List Bx) (p : List Int) (w : World) (hb : HoldsBx w u l) (hp : HoldsI w v p) (hT : TabA w) :
    Calls Tryd.prog 14 #[.agg #[.int .i64 h.b, .int .i64 h.r, .int .i64 h.t], u, v] w fun e w' => ∃ v', e = .returned v' ∧ FreeQ w.heap.size w' v' (nearO h l p) ∧ Below w.heap.size w w' := by
  obtain ⟨i0, hi, hz0, hz1, hz2⟩ := info_parts infoPair
  have HI := Lib.hid hi
  have HZ0 := Lib.hid hz0
  have HZ1 := Lib.hid hz1
  have HZ2 := Lib.hid hz2
  clear hi hz0 hz1 hz2
  have hb1 := (Below.refl w.heap.size w).alloc (Nat.le_refl _) (.cells #[.int .i64 h.b, .int .i64 h.r, .int .i64 h.t] 29)
  have hx1 := BoxH.new w h
  obtain ⟨W1, hW1⟩ : ∃ W1, W1 = w.alloc (.cells #[.int .i64 h.b, .int .i64 h.r, .int .i64 h.t] 29) := ⟨_, rfl⟩
  rw [← hW1] at hb1 hx1
  have HW := Lib.hid hW1
  have HB := Lib.hid hb1
  have y0 := hx1.c0
  have y1 := hx1.c1
  have y2 := hx1.c2
  have HX := Lib.hid fun (w' : World) (hs : Below W1.heap.size W1 w') => hx1.keep hs
  have hs1 : W1.heap.size = w.heap.size + 1 := by rw [hW1]; simp
  clear hW1 hb1 hx1
  have HPV := Lib.hid fun (w' : World) (hs : Below w.heap.size w w') => implPlanValid_any h u v l p w' (hb.keep hs) (hp.keep hs)
  cases hok : plOk h (bxsOk l) (bxIds l) p
  · have HE := Lib.hid (show nearO h l p = [] from by unfold nearO; rw [hok]; rfl)
    rw [hok] at HPV
    clear hok hb hp hT
    go_enter Tryd.func14, Tryd.ntmps14
    go_wp2_with fail
    rw [← HW.out]
    go_wp2_with fail
    refine (HPV.out _ HB.out).mono ?_
    rintro e w3 ⟨rfl, b3⟩
    have C3 := HB.out.trans (b3.mono HB.out.size)
    clear b3 HPV y0 y1 y2
    go_wp2_with fail
    go_ret
    exact ⟨_, rfl, by rw [HE.out]; exact FreeQ.nil, C3⟩
  · have hlen := pl_len hok
    have HSL := Lib.hid fun (w' : World) (hs : Below w.heap.size w w') => loadedSlots_any v p w' (hp.keep hs) (by omega)
    have PK := Lib.hid fun (w' : World) (hs : Below w.heap.size w w') => hp.keep hs
    have HCL := Lib.hid fun k (hl : k < p.length) (hz : pAt p k ≠ 0) (w' : World) (hs : Below w.heap.size w w') => implClassOf_any u l (pAt p k) w' (hb.keep hs) (pl_find hok hl hz) hz
    have HNR := Lib.hid fun (s c : Int) (w' : World) (hs : Below w.heap.size w w') => slotsTooNear_any h u v l p s c w' (hb.keep hs) (hp.keep hs) hok (hT.keep hs)
    have HFA := Lib.hid fun j (hj : j < (fullS p).length) => (show (fullI p).getD j 0 = (fAt p j : Int) ∧ fAt p j < p.length ∧ pAt p (fAt p j) ≠ 0 from ⟨fullI_at hj, fAt_mem hj⟩)
    have HPR := Lib.hid fun a (ha : a < p.length) => prJ_near hok ha
    have HRL := Lib.hid fun (s c : Int) => nrI_le h l p s c
    have HE := Lib.hid (show nearO h l p = nearN (nearG h fun k => clsB l (pAt p k)) p.length p.length from by unfold nearO; rw [if_pos hok])
    have HTN := Lib.hid (tnN_end (near_none hok))
    generalize (nearG h fun k => clsB l (pAt p k)) = g at HPR HE HTN
    have HNX := Lib.hid fun m => (show tnN g p (m + 1) = tnN g p m ++ nearA g p.length (fAt p m) from rfl)
    have HL1 := Lib.hid fun m => tnN_le g p m
    have hfl := fullI_len p
    have hfn := fullS_le p
    rw [hok] at HPV
    obtain ⟨pa, pc, rfl⟩ := hp.form
    obtain ⟨n, hn⟩ : ∃ n, n = p.length := ⟨_, rfl⟩
    obtain ⟨m, hm⟩ : ∃ m, m = (fullS p).length := ⟨_, rfl⟩
    rw [← hn] at hlen HCL HFA HSL PK HPR HRL HE HTN HNX HL1 hfn HPV HNR ⊢
    rw [← hm] at hfl HFA HTN hfn
    clear hok hb hp hn hm hT
    go_enter Tryd.func14, Tryd.ntmps14
    go_wp2_with fail
    rw [← HW.out]
    go_wp2_with fail
    refine (HPV.out _ HB.out).mono ?_
    rintro e w3 ⟨rfl, b3⟩
    have C3 := Lib.hid (HB.out.trans (b3.mono HB.out.size))
    have D3 := Lib.hid b3
    clear b3 HPV y0 y1 y2
    go_wp2_with fail
    refine (HSL.out _ C3.out).mono ?_
    rintro e w4 ⟨v4, rfl, O4, b4⟩
    have C4 := Lib.hid (C3.out.trans (b4.mono C3.out.size))
    have D4 := Lib.hid (D3.out.trans (b4.mono D3.out.size))
    have NK := Lib.hid fun (w' : World) (hs : Below w4.heap.size w4 w') => O4.holds.keep hs
    have HX4 := Lib.hid fun (w' : World) (hs : Below w4.heap.size w4 w') => HX.out w' (D4.out.trans (hs.mono D4.out.size))
    have BW := Lib.hid fun (w' : World) (hs : Below w4.heap.size w4 w') => C4.out.trans (hs.mono C4.out.size)
    obtain ⟨a4, c4, rfl⟩ := O4.holds.form
    have HO := Lib.hid (OwnQ.nil (K := w4.heap.size) (w := w4))
    rw [hfl] at NK ⊢
    clear O4 b4 HSL hfl
    go_wp2_with fail
    go_loopw [7, 20] (fun va i wr => ∃ j : Nat, j ≤ m ∧ i = .int .i64 j ∧ Hid (OwnQ w4.heap.size wr va (tnN g p j)) ∧ Hid (Below w4.heap.size w4 wr)) (fun _ i _ => m - (intOf i).toNat)
    case atStart => exact ⟨0, by omega, rfl, HO, Lib.hid (Below.refl _ _)⟩
    case round =>
      clear HO
      obtain ⟨wo, rfl⟩ : ∃ wo : World, wo = wr := ⟨_, rfl⟩
      obtain ⟨j, hjm, rfl, HOA, DO⟩ := hrel
      by_cases hlt : j < m
      · obtain ⟨sb, so, rfl, hsbl, s0⟩ := (NK.out wo DO.out).at_ (k := j) hlt
        obtain ⟨f1, f2, f3⟩ := HFA.out j hlt
        rw [f1] at s0
        have HNj := Lib.hid (HNX.out j)
        have hl1 := HL1.out j
        obtain ⟨a, ha⟩ : ∃ a, a = fAt p j := ⟨_, rfl⟩
        rw [← ha] at s0 f2 f3 HNj
        obtain ⟨pb, po, rfl, hpb, t0⟩ := (PK.out wo (BW.out wo DO.out)).at_ f2
        have e1 : p.getD a 0 = pAt p a := rfl
        rw [e1] at t0
        have ia : (a : Int) < (n : Int) := by omega
        have i0a : (0 : Int) ≤ (a : Int) := by omega
        have ij : (j : Int) < (m : Int) := by omega
        have i0j : (0 : Int) ≤ (j : Int) := by omega
        have HCk := Lib.hid (HCL.out a f2 f3 wo (BW.out wo DO.out))
        have HPa := HPR.out a f2
        obtain ⟨x, hx⟩ : ∃ x, x = pAt p a := ⟨_, rfl⟩
        rw [← hx] at t0 HCk HPa
        obtain ⟨ck, hck⟩ : ∃ ck, ck = clsB l x := ⟨_, rfl⟩
        rw [← hck] at HCk HPa
        have HNk := Lib.hid fun (w' : World) (hs : Below w4.heap.size w4 w') => HNR.out (a : Int) ck w' (BW.out w' hs)
        have hrl := HRL.out (a : Int) ck
        obtain ⟨nr, hnr⟩ : ∃ nr, nr = nrI h l p (a : Int) ck := ⟨_, rfl⟩
        rw [← hnr] at HNk HPa hrl
        rw [← HPa] at HNj
        obtain ⟨L, hL⟩ : ∃ L, L = tnN g p j := ⟨_, rfl⟩
        rw [← hL] at HNj HOA hl1
        have hnm : n * j ≤ 36 * 36 := Nat.mul_le_mul (by omega) (by omega)
        have hL2 : L.length ≤ 36 * 36 := by omega
        have hq36 : nr.length ≤ 36 := by omega
        have HPN := Lib.hid fun t (ht : t < nr.length) => prJ_next (a := (a : Int)) (r := nr) ht
        have HPL := Lib.hid fun t => prJ_le (a : Int) nr t
        have HP0 := Lib.hid (prJ_zero (a : Int) nr)
        obtain ⟨q, hq⟩ : ∃ q, q = nr.length := ⟨_, rfl⟩
        have HQ := Lib.hid hq
        rw [← hq] at HPN HPL HNj hq36
        have hlb := Lib.hid (fun k => own_lt HOA.out k)
        have yo := HX4.out wo DO.out
        have HCs := Lib.hid fun (w' : World) (hs : Since wo w') => HCL.out a f2 f3 w' (BW.out w' (DO.out.trans (Below.mono hs DO.out.size)))
        rw [← hx] at HCs
        rw [← hck] at HCs
        have HNs := Lib.hid fun (w' : World) (hs : Since wo w') => HNk.out w' (DO.out.trans (Below.mono hs DO.out.size))
        have HK := Lib.hid fun (w' : World) (hs : Since wo w') => (show w'.cell? ⟨w.heap.size, 0, none⟩ = some (.int .i64 h.b) ∧ w'.cell? ⟨w.heap.size, 1, none⟩ = some (.int .i64 h.r) ∧ w'.cell? ⟨w.heap.size, 2, none⟩ = some (.int .i64 h.t) ∧ w'.cell? ⟨pb, po + a, none⟩ = some (.int .i64 x) ∧ Since wo w' from ⟨(yo.keep hs).c0, (yo.keep hs).c1, (yo.keep hs).c2, (Below.cell hs (p := ⟨pb, po + a, none⟩) hpb).trans t0, hs⟩)
        have hstart := HK.out _ (show Since wo wo.drew from (Below.refl _ _).drew)
        clear e1 hx hck hnr hL ha f1 f2 f3 HFA HPa hl1 hnm hrl hq HCL HNR HPR HRL HCk HNk yo t0
        go_wp2_with fail
        clear s0
        go_region_held3 (fun w' => w'.cell? ⟨w.heap.size, 0, none⟩ = some (.int .i64 h.b) ∧ w'.cell? ⟨w.heap.size, 1, none⟩ = some (.int .i64 h.r) ∧ w'.cell? ⟨w.heap.size, 2, none⟩ = some (.int .i64 h.t) ∧ w'.cell? ⟨pb, po + a, none⟩ = some (.int .i64 x) ∧ Since wo w')
          (first | exact hstart | exact HK.out _ s5 | exact HK.out _ s6 | exact HK.out _ (by exact (‹_ ∧ _› : _ ∧ _ ∧ _ ∧ _ ∧ Since wo _).2.2.2.2) | fail)
          (first
            | (go_at_call 47; ((with_reducible refine (HCs.out _ (by exact (‹_ ∧ _› : _ ∧ _ ∧ _ ∧ _ ∧ Since wo _).2.2.2.2)).mono ?_); rintro e w5 ⟨rfl, d5⟩; have s5 : Since wo w5 := Since.call (by exact (‹_ ∧ _› : _ ∧ _ ∧ _ ∧ _ ∧ Since wo _).2.2.2.2) d5; clear d5))
            | (go_at_call 46; ((with_reducible refine (HNs.out _ (by exact (‹_ ∧ _› : _ ∧ _ ∧ _ ∧ _ ∧ Since wo _).2.2.2.2)).mono ?_); rintro e w6 ⟨v6, rfl, O6, d6⟩; have s6 : Since wo w6 := Since.call (by exact (‹_ ∧ _› : _ ∧ _ ∧ _ ∧ _ ∧ Since wo _).2.2.2.2) d6; have N6 := Lib.hid (NewI.of_own (O6.from_ (show Below wo.heap.size wo _ from (by exact (‹_ ∧ _› : _ ∧ _ ∧ _ ∧ _ ∧ Since wo _).2.2.2.2)).size)); obtain ⟨a6, c6, rfl⟩ := O6.holds.form; clear O6 d6))
            | fail)
        rename_i hheld
        have hz6 := (show Below wo.heap.size wo w6 from hheld.2.2.2.2).size
        have D6 := Lib.hid (DO.out.trans (Below.mono hheld.2.2.2.2 DO.out.size))
        have OA6 := Lib.hid (HOA.out.keep (show Below wo.heap.size wo w6 from hheld.2.2.2.2))
        clear hheld hstart HOA
        rw [← HQ.out] at N6 ⊢
        have HOB6 := Lib.hid (show ∀ k, u7.ownBlock = some k → k < wo.heap.size ∨ w6.heap.size ≤ k from fun k hk => .inl (hlb.out k hk).2)
        rw [show L = L ++ prJ (a : Int) nr 0 by rw [HP0.out, List.append_nil]] at OA6
        clear hlb HP0 HNs HCs HK
        go_wp2_with fail
        go_loopw [7, 36] (fun va t wr => ∃ k : Nat, k ≤ q ∧ t = .int .i64 k ∧ Hid (OwnQ w4.heap.size wr va (L ++ prJ (a : Int) nr k)) ∧ Hid (∀ k, va.ownBlock = some k → k < wo.heap.size ∨ w6.heap.size ≤ k) ∧ Hid (Mid wo.heap.size w6 wr) ∧ Hid (Below w4.heap.size w4 wr)) (fun _ t _ => q - (intOf t).toNat)
        case atStart => exact ⟨0, by omega, rfl, OA6, HOB6, Lib.hid (Mid.refl _ _), D6⟩
        case round =>
          clear OA6 HOB6 D6
          obtain ⟨k, hkq, rfl, HOK, HOB, MK, DK⟩ := hrel
          by_cases hklt : k < q
          · obtain ⟨rb, ro, rfl, hrb, t0⟩ := ((N6.out.mid MK.out).holds).at_ (k := k) (by have := HQ.out; omega)
            have HPk := HPN.out k hklt
            have hpl := HPL.out k
            obtain ⟨y, hy⟩ : ∃ y, y = nr.getD k 0 := ⟨_, rfl⟩
            rw [← hy] at t0 HPk
            have hLL : (L ++ prJ (a : Int) nr k).length ≤ 2000 := by rw [List.length_append]; omega
            obtain ⟨M, hM⟩ : ∃ M, M = L ++ prJ (a : Int) nr k := ⟨_, rfl⟩
            have HM := Lib.hid hM
            rw [← hM] at HOK hLL
            have HP := Lib.hid HPk
            have ik : (k : Int) < (q : Int) := by omega
            have i0k : (0 : Int) ≤ (k : Int) := by omega
            have hzr : w4.heap.size ≤ wr.heap.size := DK.out.size
            have hz6r : w6.heap.size ≤ wr.heap.size := MK.out.1
            clear hy hM HPk hpl
            by_cases hay : (a : Int) < y
            · have HS9 := Lib.hid (show L ++ prJ (a : Int) nr (k + 1) = M ++ [((a : Int), y)] from by rw [HP.out, if_pos hay, HM.out, List.append_assoc])
              have hd9 : decide ((a : Int) < y) = true := decide_eq_true hay
              have hby : i0.bytes * (M.length + 1) ≤ 281474976710656 := by rw [HZ2.out]; omega
              clear hay
              go_wp2_with (at_builtin; refine wpList_append_own_at _ rfl _ _ 34 rfl w4.heap.size 43 i0 (.agg #[.int .i64 0, .int .i64 0]) 2 16 Tryd.underlying34 HI.out HZ0.out HZ1.out HZ2.out rfl (by decide) _ M.length (rowQ M) rfl (HOK.out.alloc _) ⟨wr.heap.size, 0, none⟩ 1 1 [.int .i64 (a : Int), .int .i64 y] rfl rfl (fun j u hu => cells_new j u hu) (by simp [Value.oneCell']) (by unfold maxLen; omega) (by omega) (by simp; omega) ?_; intro v8 w8 hown8 hgrow8 _ hob8)
              have hA : Below wr.heap.size wr (wr.alloc (.cells #[.int .i64 (a : Int), .int .i64 y] 43)) := (Below.refl _ _).alloc (Nat.le_refl _) _
              have hb8 : Below w4.heap.size wr w8 := (hA.mono hzr).trans (own_below hgrow8 (by simp; omega) (fun k' hk' => (own_lt HOK.out k' hk').1))
              have hO8 : OwnQ w4.heap.size w8 v8 (M ++ [((a : Int), y)]) := OwnQ.put hown8
              have HO8 := Lib.hid hO8
              have D8 := Lib.hid (DK.out.trans hb8)
              have hgrow' : (wr.alloc (.cells #[.int .i64 (a : Int), .int .i64 y] 43)).grownBy w8 _ := hgrow8
              have M8 := Lib.hid (show Mid wo.heap.size w6 w8 from (MK.out.on hA).grown hgrow' HOB.out)
              have HB8 := Lib.hid (show ∀ g, v8.ownBlock = some g → g < wo.heap.size ∨ w6.heap.size ≤ g from fun g hg => by
                rcases hob8 with e | e
                · exact HOB.out g (e ▸ hg)
                · refine .inr ?_
                  rw [hg] at e
                  have h1 := Option.some.inj e
                  simp at h1
                  omega)
              clear hown8 hgrow8 hgrow' hb8 hO8 hob8 hA
              go_wp2_with fail
              go_roundw
              case rel => exact ⟨k + 1, by omega, by go_num, Lib.hid (by rw [HS9.out]; exact HO8.out), HB8, M8, D8⟩
              case measure => simp [intOf]; omega
            · have HS9 := Lib.hid (show L ++ prJ (a : Int) nr (k + 1) = M from by rw [HP.out, if_neg hay, HM.out])
              have hd9 : decide ((a : Int) < y) = false := decide_eq_false hay
              clear hay
              go_wp2_with fail
              go_roundw
              case rel => exact ⟨k + 1, by omega, by go_num, Lib.hid (by rw [HS9.out]; exact HOK.out), HOB, MK, DK⟩
              case measure => simp [intOf]; omega
          · obtain rfl : k = q := by omega
            go_wp2_with fail
            go_roundw
            case rel => exact ⟨j + 1, by omega, by go_num, Lib.hid (by rw [HNj.out]; exact HOK.out), DK⟩
            case measure => simp [intOf]; omega
      · obtain rfl : j = m := by omega
        have O9 := HOA.out.from_ (show w.heap.size ≤ w4.heap.size by have := C4.out.size; omega)
        rw [HTN.out, ← HE.out] at O9
        have C9 := BW.out _ DO.out
        go_wp2_with fail
        go_ret
        exact ⟨_, rfl, O9.freeQ, C9⟩
end Go.Proofs.YtlccmgdmfchmnaaDoor
