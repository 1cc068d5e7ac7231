/-
  The model's BestOrder.
-/
import Derived.Test.YtbaebamiiigmlacLdL
import Derived.Laws.AppendOwnNone
import Derived.Maps.AppendAt
import Derived.Deep.RegionHeld3
namespace Go.Proofs.Ytbaebamiiigmlac
open Go.RowKit
set_option linter.unusedVariables false

/-- What is picked next on the best way. -/
def pickG (h : Hl) (l : List Bx) (p : List Int) (s : Nat) : Nat := firstK (fun k => nxS h p s k && decide (max (setH h l p (s + 2 ^ k)) (leastL (fullS p).length (setH h l p) (nxS h p) (s + 2 ^ k)) ≤ leastO h l p)) (fullS p).length
theorem pickG_law {h : Hl} {l : List Bx} {p : List Int} (hok : plOk h (bxsOk l) (bxIds l) p = true) {s : Nat} (hs : s < 2 ^ (fullS p).length - 1) (hw : leastL (fullS p).length (setH h l p) (nxS h p) s ≤ leastO h l p) :
    pickG h l p s < (fullS p).length ∧ nxS h p s (pickG h l p s) = true ∧ max (setH h l p (s + 2 ^ pickG h l p s)) (leastL (fullS p).length (setH h l p) (nxS h p) (s + 2 ^ pickG h l p s)) ≤ leastO h l p ∧ s + 2 ^ pickG h l p s < 2 ^ (fullS p).length ∧
    (∀ k, k < pickG h l p s → nxS h p s k = true → leastO h l p < max (setH h l p (s + 2 ^ k)) (leastL (fullS p).length (setH h l p) (nxS h p) (s + 2 ^ k))) := by
  obtain ⟨j, j1, j2, j3⟩ := leastL_hit (H := setH h l p) (nxS_bit h p) (nxS_ex hok) hs
  have hex : ∃ k, k < (fullS p).length ∧ (fun k => nxS h p s k && decide (max (setH h l p (s + 2 ^ k)) (leastL (fullS p).length (setH h l p) (nxS h p) (s + 2 ^ k)) ≤ leastO h l p)) k = true := ⟨j, j1, by
    show (nxS h p s j && decide _) = true
    rw [j2, Bool.true_and]
    exact decide_eq_true (by rw [← j3]; exact hw)⟩
  obtain ⟨k1, k2⟩ := firstK_some hex
  have k2' : (nxS h p s (pickG h l p s) && decide (max (setH h l p (s + 2 ^ pickG h l p s)) (leastL (fullS p).length (setH h l p) (nxS h p) (s + 2 ^ pickG h l p s)) ≤ leastO h l p)) = true := k2
  rw [Bool.and_eq_true, decide_eq_true_eq] at k2'
  have hk1 : pickG h l p s < (fullS p).length := k1
  refine ⟨hk1, k2'.1, k2'.2, bit_room (by omega) hk1 (nxS_bit h p s _ k2'.1), fun k hk hn => ?_⟩
  have := firstK_before k1 hk
  have hg : (nxS h p s k && decide (max (setH h l p (s + 2 ^ k)) (leastL (fullS p).length (setH h l p) (nxS h p) (s + 2 ^ k)) ≤ leastO h l p)) = false := this
  rw [hn, Bool.true_and, decide_eq_false_iff_not] at hg
  omega
def restG (h : Hl) (l : List Bx) (p : List Int) (d s : Nat) : List Nat := greedy (fullS p).length (setH h l p) (nxS h p) (leastO h l p) d s
theorem restG_next {h : Hl} {l : List Bx} {p : List Int} {d s : Nat} (hs : s < 2 ^ (fullS p).length - 1) : restG h l p (d + 1) s = pickG h l p s :: restG h l p d (s + 2 ^ pickG h l p s) := by
  unfold restG
  rw [greedy, if_neg (by omega)]
  rfl
theorem restG_end {h : Hl} {l : List Bx} {p : List Int} (d : Nat) : restG h l p d (2 ^ (fullS p).length - 1) = [] := by
  unfold restG
  cases d with
  | zero => rfl
  | succ d => rw [greedy, if_pos rfl]
theorem restG_start (h : Hl) (l : List Bx) (p : List Int) : restG h l p (2 ^ (fullS p).length) 0 = bestG h l p := rfl
theorem bestG_len {h : Hl} {l : List Bx} {p : List Int} (hok : plOk h (bxsOk l) (bxIds l) p = true) : (bestG h l p).length = (fullS p).length := by
  have := (ldOk_iff.1 (bestG_law hok).1).2.1
  rwa [List.length_map] at this
theorem MostB.grown {B : Nat} {a w w' : World} {row : Option Nat} (h : MostB B a w) (hg : w.grownBy w' row) (hr : ∀ k, row = some k → k = B ∨ a.heap.size ≤ k) : MostB B a w' :=
  ⟨hg.os.trans h.os, hg.tape.trans h.tape, hg.output.trans h.output, Nat.le_trans h.size hg.size, fun k hk hl => by
    refine (hg.block k (Nat.lt_of_lt_of_le hl h.size) (fun e => ?_)).trans (h.block k hk hl)
    rcases hr k e.symm with e2 | e2
    · exact hk e2
    · omega⟩
def toI (p : List Int) (G : List Nat) : List Int := G.map fun k => (fAt p k : Int)
theorem toI_len (p : List Int) (G : List Nat) : (toI p G).length = G.length := by simp [toI]
theorem toI_snoc (p : List Int) (G : List Nat) (k : Nat) : toI p (G ++ [k]) = toI p G ++ [(fAt p k : Int)] := by simp [toI]

set_option maxRecDepth 10000 in
set_option maxHeartbeats 8000000 in
theorem specBestOrder_any (h : Hl) (u v : Value) (l : List Bx) (p : List Int) (w : World) (hb : HoldsBx w u l) (hp : HoldsI w v p) (hn : p.length ≤ 1048577) :
    Calls Try.prog 27 #[.agg #[.int .i64 h.b, .int .i64 h.r, .int .i64 h.t], u, v] w fun e w' => ∃ v', e = .returned (.tuple #[v', .bool (bestO h l p).2]) ∧ OwnI w.heap.size w' v' (bestO h l p).1 ∧ Below w.heap.size w w' := by
  obtain ⟨i0, hi, hz0, hz1, hz2⟩ := info_parts infoInt
  have HI := Lib.hid hi
  have HZ0 := Lib.hid hz0
  have HZ1 := Lib.hid hz1
  have HZ2 := Lib.hid hz2
  clear hi hz0 hz1 hz2
  have hb1 := (Below.refl w.heap.size w).alloc (Nat.le_refl _) (.cells #[.int .i64 h.b, .int .i64 h.r, .int .i64 h.t] 28)
  have hx1 := BoxH.new w h
  obtain ⟨W1, hW1⟩ : ∃ W1, W1 = w.alloc (.cells #[.int .i64 h.b, .int .i64 h.r, .int .i64 h.t] 28) := ⟨_, rfl⟩
  rw [← hW1] at hb1 hx1
  have HW := Lib.hid hW1
  have HB := Lib.hid hb1
  have y0 := hx1.c0
  have y1 := hx1.c1
  have y2 := hx1.c2
  have HX := Lib.hid fun (w' : World) (hs : Below W1.heap.size W1 w') => hx1.keep hs
  have hs1 : W1.heap.size = w.heap.size + 1 := by rw [hW1]; simp
  clear hW1 hb1 hx1
  have hb2 : Below W1.heap.size W1 (W1.alloc (.cells #[] 3)) := (Below.refl _ _).alloc (Nat.le_refl _) _
  have hO2 : OwnI W1.heap.size (W1.alloc (.cells #[] 3)) (.slice (some ⟨W1.heap.size, 0, none⟩) 0 0) [] := OwnI.zero (Nat.le_refl _)
  have hx2 := HX.out _ hb2
  obtain ⟨W2, hW2⟩ : ∃ W2, W2 = W1.alloc (.cells #[] 3) := ⟨_, rfl⟩
  rw [← hW2] at hb2 hO2 hx2
  have hsz2 : W2.heap.size = W1.heap.size + 1 := by rw [hW2]; simp
  have HW2 := Lib.hid hW2
  have z0 := hx2.c0
  have z1 := hx2.c1
  have z2 := hx2.c2
  have HB2 := Lib.hid (HB.out.trans (hb2.mono HB.out.size))
  rw [hs1] at hb2 hO2 HX hsz2
  have HZ2s := Lib.hid hsz2
  have HO2 := Lib.hid hO2
  have HD2 := Lib.hid hb2
  clear hW2 hb2 hO2 hx2 y0 y1 y2 hsz2
  have HSL := Lib.hid fun (w' : World) (hs : Below w.heap.size w w') => l9Slots_any v p w' (hp.keep hs) hn
  have HPV := Lib.hid fun (w' : World) (hs : Below w.heap.size w w') => specPlanValid_any h u v l p w' (hb.keep hs) (hp.keep hs)
  have hfl := fullI_len p
  cases hok : plOk h (bxsOk l) (bxIds l) p
  · have HE := Lib.hid (show bestO h l p = ([], false) from by unfold bestO; rw [if_neg (by rw [hok]; simp)])
    rw [hok] at HPV
    obtain ⟨m, hm'⟩ : ∃ m, m = (fullS p).length := ⟨_, rfl⟩
    rw [← hm'] at hfl
    clear hok hb hp hm'
    go_enter Try.func27, Try.ntmps27
    go_wp2_with fail
    rw [← HW.out, ← HW2.out]
    go_wp2_with fail
    refine (HSL.out _ HB2.out).mono ?_
    rintro e w3 ⟨v3, rfl, O3, b3⟩
    obtain ⟨a3, c3, rfl⟩ := O3.holds.form
    rw [hfl] at O3 ⊢
    have y3 := HX.out w3 (HD2.out.trans (b3.mono (by have := HZ2s.out; omega)))
    have y0 := y3.c0
    have y1 := y3.c1
    have y2 := y3.c2
    have C3 := HB2.out.trans (b3.mono HB2.out.size)
    have N3 := Lib.hid (HO2.out.keep b3)
    clear y3 z0 z1 z2 O3 b3
    go_wp2_with fail
    refine (HPV.out _ C3).mono ?_
    rintro e w4 ⟨rfl, b4⟩
    have C4 := C3.trans (b4.mono C3.size)
    have N4 := (N3.out.keep b4).from_ (Nat.le_succ _)
    go_wp2_with fail
    go_ret2
    exact ⟨_, by rw [HE.out]; rfl, by rw [HE.out]; exact N4, C4⟩
  · rw [hok] at HPV
    by_cases hm : (fullS p).length ≤ 7
    · have HE := Lib.hid (show bestO h l p = (toI p (bestG h l p), true) from by unfold bestO; rw [if_pos ⟨hok, hm⟩]; rfl)
      have HHE := Lib.hid fun vs (w' : World) (hs : Below w.heap.size w w') (hv : HoldsI w' vs (fullI p)) => l9Heels_any h u v vs l p w' (hb.keep hs) (hp.keep hs) hv hok hm
      have HLE := Lib.hid fun vs vh (w' : World) (hv : HoldsI w' vs (fullI p)) (hh : HoldsI w' vh (heelsN h l p (2 ^ (fullS p).length))) => l9Least_any h vs vh l p w' hv hh hm
      have HNE := Lib.hid fun vs (s k : Nat) (hk : k < (fullS p).length) (w' : World) (hv : HoldsI w' vs (fullI p)) => l9Next_any h vs p s k w' hv hk (by omega)
      have HHA := Lib.hid fun k (hk : k < 2 ^ (fullS p).length) => heelsN_at (h := h) (l := l) (p := p) hk
      have HLA := Lib.hid fun k (hk : k < 2 ^ (fullS p).length) => lsN_at (h := h) (l := l) (t := 0) hk (Nat.zero_le _)
      have HFA := Lib.hid fun k (hk : k < (fullS p).length) => fullI_at (p := p) hk
      have HPI := Lib.hid fun s hs hw => pickG_law hok (s := s) hs hw
      have HRN := Lib.hid fun d s hs => restG_next (h := h) (l := l) (p := p) (d := d) (s := s) hs
      have HRE := Lib.hid fun d => restG_end (h := h) (l := l) (p := p) d
      have HRM := Lib.hid fun s k (hs : s < 2 ^ (fullS p).length) (hk : k < (fullS p).length) (hn : nxS h p s k = true) => bit_room hs hk (nxS_bit h p s k hn)
      have hRS := restG_start h l p
      have hGL := bestG_len hok
      have hL0 : leastL (fullS p).length (setH h l p) (nxS h p) 0 = leastO h l p := rfl
      have hhl := heelsN_len h l p (2 ^ (fullS p).length)
      have hll := lsN_len h l p 0
      have hM := Nat.pow_le_pow_right (n := 2) (by omega) hm
      have hMp := Nat.two_pow_pos (fullS p).length
      have HSV := Lib.hid fun k (hk : k < (fullS p).length) => shl_val (m := k) (by omega)
      generalize hgh : setH h l p = H at HHA HLA HPI hL0
      generalize hgl : leastL (fullS p).length H (nxS h p) = L at HLA HPI hL0
      generalize hgw : leastO h l p = W at HPI hL0
      generalize hgp : pickG h l p = pk at HPI HRN
      generalize hgr : restG h l p = rG at HRN HRE hRS
      generalize hgG : bestG h l p = BG at HE hRS hGL
      obtain ⟨m, hm'⟩ : ∃ m, m = (fullS p).length := ⟨_, rfl⟩
      rw [← hm'] at hfl hm HLE HHE HNE HHA HLA HFA HPI HRN HRE HRM hRS hGL hhl hll hM hMp HSV
      obtain ⟨M, hMM⟩ : ∃ M : Nat, M = 2 ^ m := ⟨_, rfl⟩
      rw [← hMM] at HLE HHE HHA HLA HPI HRN HRE HRM hRS hhl hll hM hMp
      have hM128 : M ≤ 128 := hM
      have zM : IntKind.i64.wrap ((M : Int) - 1) = (M : Int) - 1 := IntWalk.i64_in _ (by omega)
      have hm7 : decide ((7 : Int) < (m : Int)) = false := decide_eq_false (by omega)
      clear hok hb hp hm' hMM hM hgh hgl hgw hgp hgr hgG
      go_enter Try.func27, Try.ntmps27
      go_wp2_with fail
      rw [← HW.out, ← HW2.out]
      go_wp2_with fail
      refine (HSL.out _ HB2.out).mono ?_
      rintro e w3 ⟨v3, rfl, O3, b3⟩
      obtain ⟨sa, sc, rfl⟩ := O3.holds.form
      have OS3 : OwnI ((w.heap.size + 1) + 1) w3 (.slice sa (fullI p).length sc) (fullI p) := O3.from_ (by have := HZ2s.out; omega)
      rw [hfl] at OS3 ⊢
      have D3 := HD2.out.trans (b3.mono (by have := HZ2s.out; omega))
      have C3 := HB2.out.trans (b3.mono HB2.out.size)
      have hsz3 : (w.heap.size + 1) + 1 ≤ w3.heap.size := by have := HZ2s.out; have := b3.size; omega
      have y3 := HX.out w3 D3
      have y0 := y3.c0
      have y1 := y3.c1
      have y2 := y3.c2
      have N3 := Lib.hid (HO2.out.keep b3)
      clear y3 z0 z1 z2 O3 b3 HSL
      go_wp2_with fail
      refine (HPV.out _ C3).mono ?_
      rintro e w4 ⟨rfl, b4⟩
      have D4 := D3.trans (b4.mono (by have := D3.size; omega))
      have C4 := C3.trans (b4.mono C3.size)
      have hsz4 : (w.heap.size + 1) + 1 ≤ w4.heap.size := Nat.le_trans hsz3 b4.size
      have N4 := Lib.hid (N3.out.keep b4)
      have OS4 := OS3.keep b4
      have y3 := HX.out w4 D4
      clear y0 y1 y2 b4 N3 OS3 D3 C3 HPV
      have y0 := y3.c0
      have y1 := y3.c1
      have y2 := y3.c2
      clear y3
      go_wp2_with fail
      refine (HHE.out _ w4 C4 OS4.holds).mono ?_
      rintro e w5 ⟨v5, rfl, O5, b5⟩
      obtain ⟨ha, hc, rfl⟩ := O5.holds.form
      have OH5 : OwnI ((w.heap.size + 1) + 1) w5 (.slice ha (heelsN h l p M).length hc) (heelsN h l p M) := O5.from_ hsz4
      rw [hhl] at OH5 ⊢
      have D5 := D4.trans (b5.mono (by have := D4.size; omega))
      have C5 := C4.trans (b5.mono C4.size)
      have hsz5 : (w.heap.size + 1) + 1 ≤ w5.heap.size := Nat.le_trans hsz4 b5.size
      have N5 := Lib.hid (N4.out.keep b5)
      have OS5 := OS4.keep b5
      have y3 := HX.out w5 D5
      clear y0 y1 y2 b5 N4 OS4 D4 C4 O5 HHE
      have y0 := y3.c0
      have y1 := y3.c1
      have y2 := y3.c2
      clear y3
      go_wp2_with fail
      refine (HLE.out _ _ w5 OS5.holds OH5.holds).mono ?_
      rintro e w6 ⟨v6, rfl, O6, b6⟩
      obtain ⟨la, lc, rfl⟩ := O6.holds.form
      have OL6 : OwnI ((w.heap.size + 1) + 1) w6 (.slice la (lsN h l p 0).length lc) (lsN h l p 0) := O6.from_ hsz5
      rw [hll] at OL6 ⊢
      have D6 := Lib.hid (D5.trans (b6.mono (by have := D5.size; omega)))
      have C6 := Lib.hid (C5.trans (b6.mono C5.size))
      have N6 := Lib.hid (N5.out.keep b6)
      have hsz6 : w5.heap.size ≤ w6.heap.size := b6.size
      have OS6 := OS5.keep b6
      have OH6 := OH5.keep b6
      have VSK := Lib.hid fun (w' : World) (hs : MostB (w.heap.size + 1) w6 w') => (show OwnI ((w.heap.size + 1) + 1) w' _ (fullI p) from own_most OS6 hs (Nat.lt_succ_self _)).holds
      have VHK := Lib.hid fun (w' : World) (hs : MostB (w.heap.size + 1) w6 w') => (show OwnI ((w.heap.size + 1) + 1) w' _ (heelsN h l p M) from own_most OH6 hs (Nat.lt_succ_self _)).holds
      have VLK := Lib.hid fun (w' : World) (hs : MostB (w.heap.size + 1) w6 w') => (show OwnI ((w.heap.size + 1) + 1) w' _ (lsN h l p 0) from own_most OL6 hs (Nat.lt_succ_self _)).holds
      obtain ⟨lb0, lo0, hla0, -, t00⟩ := OL6.holds.at_ (k := 0) hMp
      subst hla0
      rw [HLA.out 0 hMp, hL0, Nat.add_zero] at t00
      have h61 : (w.heap.size + 1) ≤ w6.heap.size := by have := D6.out.size; omega
      have iM : (0 : Int) < (M : Int) := by omega
      clear y0 y1 y2 b6 N5 OS5 OH5 OL6 OS6 OH6 D5 C5 O6 HLE
      have HSUB := Lib.hid fun (w' : World) (hs : MostB (w.heap.size + 1) w6 w') => D6.out.trans (hs.under (Nat.le_refl _) h61)
      have hs61 : (w.heap.size + 1) < w6.heap.size := by have := hsz5; have := hsz6; omega
      have hwB : w.heap.size ≤ w.heap.size + 1 := Nat.le_succ _
      clear hsz3 hsz4 hsz5 HD2 HO2 HB2 D6 hfl hhl hll
      go_wp2_with fail
      go_loopw [8, 13] (fun va i wr => ∃ (done : List Nat) (s d : Nat), i = .int .i64 s ∧ Hid (done ++ rG d s = BG) ∧ s < M ∧ M - 1 - s ≤ d ∧ Hid (L s ≤ W) ∧ Hid (OwnI (w.heap.size + 1) wr va (toI p done)) ∧ Hid (∀ g, va.ownBlock = some g → g = (w.heap.size + 1) ∨ w6.heap.size ≤ g) ∧ Hid (MostB (w.heap.size + 1) w6 wr)) (fun _ i _ => M - (intOf i).toNat)
      case atStart => exact ⟨[], 0, M, rfl, Lib.hid (by rw [List.nil_append]; exact hRS), hMp, by omega, Lib.hid (by rw [hL0]; exact Int.le_refl _), N6, Lib.hid (fun g hg => .inl (by simpa [Value.ownBlock] using hg.symm)), Lib.hid (MostB.refl _ _)⟩
      case round =>
        clear N6
        obtain ⟨done, s, d, rfl, HG, hsM, hd, HLW, HOW, HOB, MM⟩ := hrel
        obtain ⟨wo, rfl⟩ : ∃ wo : World, wo = wr := ⟨_, rfl⟩
        have HLN := Lib.hid (show done.length ≤ 7 from by have h1 := congrArg List.length HG.out; rw [List.length_append, hGL] at h1; omega)
        by_cases hlt : s < M - 1
        · obtain ⟨d, rfl⟩ : ∃ e, d = e + 1 := ⟨d - 1, by omega⟩
          obtain ⟨q1, q2, q3, q4, q5⟩ := HPI.out s (by omega) HLW.out
          have hrn := HRN.out d s (by omega)
          obtain ⟨k0, hk0⟩ : ∃ k0, k0 = pk s := ⟨_, rfl⟩
          rw [← hk0] at q1 q2 q3 q4 q5 hrn
          have HQ2 := Lib.hid q2
          have HQ3 := Lib.hid q3
          have HQ5 := Lib.hid q5
          have HRN1 := Lib.hid hrn
          have ilt : decide ((s : Int) < (M : Int) - 1) = true := decide_eq_true (by omega)
          clear q2 q3 q5 hk0 hrn
          go_wp2_with fail
          go_loopw [14] (fun i wr => ∃ k : Nat, k ≤ k0 ∧ i = .int .i64 k ∧ Hid (Below wo.heap.size wo wr)) (fun i _ => k0 - (intOf i).toNat)
          case atStart => exact ⟨0, by omega, rfl, Lib.hid (Below.refl _ _)⟩
          case round =>
            obtain ⟨k, hkk, rfl, DI⟩ := hrel
            have M2 := Lib.hid (MM.out.below_ (DI.out.mono MM.out.size))
            have DR := Lib.hid (HSUB.out wr M2.out)
            have hkm : k < m := by omega
            have HNk := Lib.hid fun (w' : World) (hs : Since wr w') => HNE.out _ s k hkm w' ((VSK.out _ M2.out).keep hs)
            have y := HX.out wr DR.out
            have i0k : (0 : Int) ≤ (k : Int) := by omega
            have ik64 : (k : Int) ≤ 64 := by omega
            cases hn : nxS h p s k
            · have hne : k ≠ k0 := fun e => by rw [e, HQ2.out] at hn; cases hn
              rw [hn] at HNk
              have HK := Lib.hid fun (w' : World) (hs : Since wr w') => (show w'.cell? ⟨w.heap.size, 0, none⟩ = some (.int .i64 h.b) ∧ w'.cell? ⟨w.heap.size, 1, none⟩ = some (.int .i64 h.r) ∧ w'.cell? ⟨w.heap.size, 2, none⟩ = some (.int .i64 h.t) ∧ Since wr w' from ⟨(y.keep hs).c0, (y.keep hs).c1, (y.keep hs).c2, hs⟩)
              have hstart := HK.out _ (show Since wr wr.drew from (Below.refl _ _).drew)
              clear hn y
              go_wp2_with fail
              refine wp_region_held_drew (S := (fun w' => w'.cell? ⟨w.heap.size, 0, none⟩ = some (.int .i64 h.b) ∧ w'.cell? ⟨w.heap.size, 1, none⟩ = some (.int .i64 h.r) ∧ w'.cell? ⟨w.heap.size, 2, none⟩ = some (.int .i64 h.t) ∧ Since wr w')) (by kernel_rfl) hstart (fun hHeld => ?_)
              refine wpAnyH_take (i := 0) (v := ?v0) rfl (by kernel_rfl) (by kernel_rfl) (by kernel_rfl) (fun _ _ _ h => h) (Or.inl ⟨by rfl, ?hy0⟩) (by assumption) ?rest0
              case hy0 => (intro w5 hSw; (try dsimp only at hSw); go_simp; try with_reducible rfl)
              simp only [Act.put, List.getElem_toArray, List.getElem_cons_zero, List.setIfInBounds_toArray, List.set_cons_zero, List.set_cons_succ]
              refine wpAnyH_take (i := 1) (v := ?v1) rfl (by kernel_rfl) (by kernel_rfl) (by kernel_rfl) (fun _ _ _ h => h) (Or.inl ⟨by rfl, ?hy1⟩) (by assumption) ?rest1
              case hy1 => (intro w5 hSw; (try dsimp only at hSw); go_simp; try with_reducible rfl)
              simp only [Act.put, List.getElem_toArray, List.getElem_cons_zero, List.getElem_cons_succ, List.setIfInBounds_toArray, List.set_cons_zero, List.set_cons_succ]
              refine wpAnyH_take (i := 2) (v := ?v2) rfl (by kernel_rfl) (by kernel_rfl) (by kernel_rfl) (fun _ _ _ h => h) (Or.inl ⟨by rfl, ?hy2⟩) (by assumption) ?rest2
              case hy2 => (intro w5 hSw; (try dsimp only at hSw); go_simp; try with_reducible rfl)
              simp only [Act.put, List.getElem_toArray, List.getElem_cons_zero, List.getElem_cons_succ, List.setIfInBounds_toArray, List.set_cons_zero, List.set_cons_succ]
              refine wpAnyH_take (i := 3) (v := ?v3) rfl (by kernel_rfl) (by kernel_rfl) (by kernel_rfl) (fun _ _ _ h => h) (Or.inl ⟨by rfl, ?hy3⟩) (by assumption) ?rest3
              case hy3 => (intro w5 hSw; (try dsimp only at hSw); go_simp; try with_reducible rfl)
              simp only [Act.put, List.getElem_toArray, List.getElem_cons_zero, List.getElem_cons_succ, List.setIfInBounds_toArray, List.set_cons_zero, List.set_cons_succ]
              refine wpAnyH_ready (rs := [4]) (by kernel_rfl) (by simp) ?_
              refine AllReadyH.cons rfl (fun K hK => ?_) AllReadyH.nil
              go_simp
              refine (HNk.out _ hHeld.2.2.2).mono ?_
              rintro e w9 ⟨rfl, d9⟩
              have s9 : Since wr w9 := Since.call hHeld.2.2.2 d9
              clear d9
              refine hK.out _ _ (HK.out _ s9) (fun hHeld => ?_)
              refine wpAnyH_take (i := 5) (v := ?v5) rfl (by kernel_rfl) (by kernel_rfl) (by kernel_rfl) (fun _ _ _ h => h) (Or.inl ⟨by rfl, ?hy5⟩) (by assumption) ?rest5
              case hy5 => (intro w5 hSw; (try dsimp only at hSw); go_simp; try with_reducible rfl)
              simp only [Act.put, List.getElem_toArray, List.getElem_cons_zero, List.getElem_cons_succ, List.setIfInBounds_toArray, List.set_cons_zero, List.set_cons_succ]
              refine wpAnyH_take (i := 6) (v := ?v6) rfl (by kernel_rfl) (by kernel_rfl) (by kernel_rfl) (fun _ _ _ h => h) (Or.inl ⟨by rfl, ?hy6⟩) (by assumption) ?rest6
              case hy6 => (intro w5 hSw; (try dsimp only at hSw); go_simp; try with_reducible rfl)
              simp only [Act.put, List.getElem_toArray, List.getElem_cons_zero, List.getElem_cons_succ, List.setIfInBounds_toArray, List.set_cons_zero, List.set_cons_succ]
              refine wpAnyH_take (i := 7) (v := undef) rfl (by kernel_rfl) (by kernel_rfl) (by kernel_rfl) (fun _ _ _ h => h) (Or.inr ⟨by rfl, rfl⟩) (by assumption) ?_
              simp only [Act.put, List.getElem_toArray, List.getElem_cons_zero, List.getElem_cons_succ, List.setIfInBounds_toArray, List.set_cons_zero, List.set_cons_succ]
              refine wpAnyH_take (i := 8) (v := undef) rfl (by kernel_rfl) (by kernel_rfl) (by kernel_rfl) (fun _ _ _ h => h) (Or.inr ⟨by rfl, rfl⟩) (by assumption) ?_
              simp only [Act.put, List.getElem_toArray, List.getElem_cons_zero, List.getElem_cons_succ, List.setIfInBounds_toArray, List.set_cons_zero, List.set_cons_succ]
              refine wpAnyH_take (i := 9) (v := undef) rfl (by kernel_rfl) (by kernel_rfl) (by kernel_rfl) (fun _ _ _ h => h) (Or.inr ⟨by rfl, rfl⟩) (by assumption) ?_
              simp only [Act.put, List.getElem_toArray, List.getElem_cons_zero, List.getElem_cons_succ, List.setIfInBounds_toArray, List.set_cons_zero, List.set_cons_succ]
              refine wpAnyH_take (i := 10) (v := undef) rfl (by kernel_rfl) (by kernel_rfl) (by kernel_rfl) (fun _ _ _ h => h) (Or.inr ⟨by rfl, rfl⟩) (by assumption) ?_
              simp only [Act.put, List.getElem_toArray, List.getElem_cons_zero, List.getElem_cons_succ, List.setIfInBounds_toArray, List.set_cons_zero, List.set_cons_succ]
              refine wpAnyH_take (i := 11) (v := undef) rfl (by kernel_rfl) (by kernel_rfl) (by kernel_rfl) (fun _ _ _ h => h) (Or.inr ⟨by rfl, rfl⟩) (by assumption) ?_
              simp only [Act.put, List.getElem_toArray, List.getElem_cons_zero, List.getElem_cons_succ, List.setIfInBounds_toArray, List.set_cons_zero, List.set_cons_succ]
              refine wpAnyH_take (i := 12) (v := undef) rfl (by kernel_rfl) (by kernel_rfl) (by kernel_rfl) (fun _ _ _ h => h) (Or.inr ⟨by rfl, rfl⟩) (by assumption) ?_
              simp only [Act.put, List.getElem_toArray, List.getElem_cons_zero, List.getElem_cons_succ, List.setIfInBounds_toArray, List.set_cons_zero, List.set_cons_succ]
              refine wpAnyH_take (i := 13) (v := undef) rfl (by kernel_rfl) (by kernel_rfl) (by kernel_rfl) (fun _ _ _ h => h) (Or.inr ⟨by rfl, rfl⟩) (by assumption) ?_
              simp only [Act.put, List.getElem_toArray, List.getElem_cons_zero, List.getElem_cons_succ, List.setIfInBounds_toArray, List.set_cons_zero, List.set_cons_succ]
              refine wpAnyH_take (i := 14) (v := undef) rfl (by kernel_rfl) (by kernel_rfl) (by kernel_rfl) (fun _ _ _ h => h) (Or.inr ⟨by rfl, rfl⟩) (by assumption) ?_
              simp only [Act.put, List.getElem_toArray, List.getElem_cons_zero, List.getElem_cons_succ, List.setIfInBounds_toArray, List.set_cons_zero, List.set_cons_succ]
              refine wpAnyH_take (i := 15) (v := undef) rfl (by kernel_rfl) (by kernel_rfl) (by kernel_rfl) (fun _ _ _ h => h) (Or.inr ⟨by rfl, rfl⟩) (by assumption) ?_
              simp only [Act.put, List.getElem_toArray, List.getElem_cons_zero, List.getElem_cons_succ, List.setIfInBounds_toArray, List.set_cons_zero, List.set_cons_succ]
              refine wpAnyH_take (i := 16) (v := undef) rfl (by kernel_rfl) (by kernel_rfl) (by kernel_rfl) (fun _ _ _ h => h) (Or.inr ⟨by rfl, rfl⟩) (by assumption) ?_
              simp only [Act.put, List.getElem_toArray, List.getElem_cons_zero, List.getElem_cons_succ, List.setIfInBounds_toArray, List.set_cons_zero, List.set_cons_succ]
              refine wpAnyH_take (i := 17) (v := undef) rfl (by kernel_rfl) (by kernel_rfl) (by kernel_rfl) (fun _ _ _ h => h) (Or.inr ⟨by rfl, rfl⟩) (by assumption) ?_
              simp only [Act.put, List.getElem_toArray, List.getElem_cons_zero, List.getElem_cons_succ, List.setIfInBounds_toArray, List.set_cons_zero, List.set_cons_succ]
              refine wpAnyH_take (i := 18) (v := undef) rfl (by kernel_rfl) (by kernel_rfl) (by kernel_rfl) (fun _ _ _ h => h) (Or.inr ⟨by rfl, rfl⟩) (by assumption) ?_
              simp only [Act.put, List.getElem_toArray, List.getElem_cons_zero, List.getElem_cons_succ, List.setIfInBounds_toArray, List.set_cons_zero, List.set_cons_succ]
              refine wpAnyH_take (i := 19) (v := undef) rfl (by kernel_rfl) (by kernel_rfl) (by kernel_rfl) (fun _ _ _ h => h) (Or.inr ⟨by rfl, rfl⟩) (by assumption) ?_
              simp only [Act.put, List.getElem_toArray, List.getElem_cons_zero, List.getElem_cons_succ, List.setIfInBounds_toArray, List.set_cons_zero, List.set_cons_succ]
              refine wpAnyH_take (i := 20) (v := undef) rfl (by kernel_rfl) (by kernel_rfl) (by kernel_rfl) (fun _ _ _ h => h) (Or.inr ⟨by rfl, rfl⟩) (by assumption) ?_
              simp only [Act.put, List.getElem_toArray, List.getElem_cons_zero, List.getElem_cons_succ, List.setIfInBounds_toArray, List.set_cons_zero, List.set_cons_succ]
              refine wpAnyH_take (i := 21) (v := undef) rfl (by kernel_rfl) (by kernel_rfl) (by kernel_rfl) (fun _ _ _ h => h) (Or.inr ⟨by rfl, rfl⟩) (by assumption) ?_
              simp only [Act.put, List.getElem_toArray, List.getElem_cons_zero, List.getElem_cons_succ, List.setIfInBounds_toArray, List.set_cons_zero, List.set_cons_succ]
              refine wpAnyH_take (i := 22) (v := undef) rfl (by kernel_rfl) (by kernel_rfl) (by kernel_rfl) (fun _ _ _ h => h) (Or.inr ⟨by rfl, rfl⟩) (by assumption) ?_
              simp only [Act.put, List.getElem_toArray, List.getElem_cons_zero, List.getElem_cons_succ, List.setIfInBounds_toArray, List.set_cons_zero, List.set_cons_succ]
              refine wpAnyH_take (i := 23) (v := undef) rfl (by kernel_rfl) (by kernel_rfl) (by kernel_rfl) (fun _ _ _ h => h) (Or.inr ⟨by rfl, rfl⟩) (by assumption) ?_
              simp only [Act.put, List.getElem_toArray, List.getElem_cons_zero, List.getElem_cons_succ, List.setIfInBounds_toArray, List.set_cons_zero, List.set_cons_succ]
              refine wpAnyH_take (i := 24) (v := ?v24) rfl (by kernel_rfl) (by kernel_rfl) (by kernel_rfl) (fun _ _ _ h => h) (Or.inl ⟨by rfl, ?hy24⟩) (by assumption) ?rest24
              case hy24 => (intro w5 hSw; (try dsimp only at hSw); go_simp; try with_reducible rfl)
              simp only [Act.put, List.getElem_toArray, List.getElem_cons_zero, List.getElem_cons_succ, List.setIfInBounds_toArray, List.set_cons_zero, List.set_cons_succ]
              refine wpAnyH_done (by kernel_rfl) ?_ _
              have hx9 := Lib.hid (DI.out.trans (Below.mono s9 DI.out.size))
              clear hHeld hK
              go_wp2_with fail
              go_roundw
              case rel => exact ⟨k + 1, by omega, by go_num, hx9⟩
              case measure => simp [intOf]; omega
            · have hroom := HRM.out s k hsM hkm hn
              obtain ⟨q, hq⟩ : ∃ q, q = s + 2 ^ k := ⟨_, rfl⟩
              rw [← hq] at hroom
              have hpe : (((2 ^ k : Nat) : Nat) : Int) = (2 : Int) ^ k := by rw [Int.natCast_pow]; rfl
              have hsv0 := HSV.out k hkm
              rw [hpe] at hsv0
              have zq : IntKind.i64.wrap ((s : Int) + (2 : Int) ^ k) = (q : Int) := by rw [← hpe, hq, IntWalk.i64_in _ (by omega)]; omega
              obtain ⟨hb9, ho9, rfl, hhbl, s0⟩ := (VHK.out wr M2.out).at_ hroom
              obtain ⟨lb9, lo9, e9, hlbl, t0⟩ := (VLK.out wr M2.out).at_ hroom
              simp only [Option.some.injEq, Addr.mk.injEq, and_true] at e9
              obtain ⟨rfl, rfl⟩ := e9
              rw [HHA.out q hroom] at s0
              rw [HLA.out q hroom] at t0
              have q5k := HQ5.out k
              rw [← hq, hn] at q5k
              have q3k := HQ3.out
              rw [hn] at HNk
              have iq : (q : Int) < (M : Int) := by omega
              have i0q : (0 : Int) ≤ (q : Int) := by omega
              have HXY := Lib.hid (show k = k0 → max (H q) (L q) ≤ W from fun e => by rw [hq, e]; exact q3k)
              have HLQ := Lib.hid (show k = k0 → L q ≤ W from fun e => by have := HXY.out e; omega)
              generalize hgx : H q = x at s0 q5k HXY
              generalize hgy : L q = y9 at t0 q5k HXY
              obtain ⟨mx, hmx⟩ : ∃ mx, mx = max x y9 := ⟨_, rfl⟩
              rw [← hmx] at q5k HXY
              have hmx1 : (if y9 > x then y9 else x) = mx := by rw [hmx]; split <;> omega
              have hrun : ∀ W : World, Sem.run Try.prog (Builtin.max_ #[3, 3] 3 #[.int .i64 x, .int .i64 y9]) W = .ok (.int .i64 mx) W := fun W => by
                rw [← hmx1]
                simp [Builtin.max_, Builtin.max2, List.foldlM, Sem.run_pure]
              have HK := Lib.hid fun (w' : World) (hs : Since wr w') => (show w'.cell? ⟨w.heap.size, 0, none⟩ = some (.int .i64 h.b) ∧ w'.cell? ⟨w.heap.size, 1, none⟩ = some (.int .i64 h.r) ∧ w'.cell? ⟨w.heap.size, 2, none⟩ = some (.int .i64 h.t) ∧ w'.cell? ⟨hb9, ho9 + q, none⟩ = some (.int .i64 x) ∧ w'.cell? ⟨lb0, lo0 + q, none⟩ = some (.int .i64 y9) ∧ Since wr w' from ⟨(y.keep hs).c0, (y.keep hs).c1, (y.keep hs).c2, (Below.cell hs (p := ⟨hb9, ho9 + q, none⟩) hhbl).trans s0, (Below.cell hs (p := ⟨lb0, lo0 + q, none⟩) hlbl).trans t0, hs⟩)
              have hstart := HK.out _ (show Since wr wr.drew from (Below.refl _ _).drew)
              have HQQ := Lib.hid hq
              clear hn y hq hpe hmx hmx1 s0 t0 q3k hgx hgy
              by_cases hk9 : k = k0
              · have hle : decide (mx > W) = false := decide_eq_false (by have := HXY.out hk9; omega)
                have hle2 : decide (W < mx) = false := hle
                clear q5k
                subst hk9
                have HG2 := Lib.hid (show (done ++ [k]) ++ rG d q = BG from by rw [← HG.out, HRN1.out, ← HQQ.out, List.append_assoc]; rfl)
                have HTI := Lib.hid (toI_snoc p done k)
                have HD3 := Lib.hid (show M - 1 - q ≤ d from by have := HQQ.out; have := Nat.two_pow_pos k; omega)
                have HL3 := Lib.hid (HLQ.out rfl)
                obtain ⟨sb, so, hsa, hsbl, r0⟩ := (VSK.out wr M2.out).at_ (k := k) hkm
                subst hsa
                rw [HFA.out k hkm] at r0
                obtain ⟨fk, hfk⟩ : ∃ fk, fk = fAt p k := ⟨_, rfl⟩
                rw [← hfk] at r0 HTI
                have ikm : (k : Int) < (m : Int) := by omega
                have HK2 := Lib.hid fun (w' : World) (hs : Since wr w') => (show w'.cell? ⟨w.heap.size, 0, none⟩ = some (.int .i64 h.b) ∧ w'.cell? ⟨w.heap.size, 1, none⟩ = some (.int .i64 h.r) ∧ w'.cell? ⟨w.heap.size, 2, none⟩ = some (.int .i64 h.t) ∧ w'.cell? ⟨hb9, ho9 + q, none⟩ = some (.int .i64 x) ∧ w'.cell? ⟨lb0, lo0 + q, none⟩ = some (.int .i64 y9) ∧ w'.cell? ⟨sb, so + k, none⟩ = some (.int .i64 (fk : Int)) ∧ Since wr w' from ⟨(HK.out w' hs).1, (HK.out w' hs).2.1, (HK.out w' hs).2.2.1, (HK.out w' hs).2.2.2.1, (HK.out w' hs).2.2.2.2.1, (Below.cell hs (p := ⟨sb, so + k, none⟩) hsbl).trans r0, hs⟩)
                have hstart := HK2.out _ (show Since wr wr.drew from (Below.refl _ _).drew)
                clear r0 hfk HXY HLQ
                go_wp2_with fail
                go_region_held3 (fun w' => w'.cell? ⟨w.heap.size, 0, none⟩ = some (.int .i64 h.b) ∧ w'.cell? ⟨w.heap.size, 1, none⟩ = some (.int .i64 h.r) ∧ w'.cell? ⟨w.heap.size, 2, none⟩ = some (.int .i64 h.t) ∧ w'.cell? ⟨hb9, ho9 + q, none⟩ = some (.int .i64 x) ∧ w'.cell? ⟨lb0, lo0 + q, none⟩ = some (.int .i64 y9) ∧ w'.cell? ⟨sb, so + k, none⟩ = some (.int .i64 (fk : Int)) ∧ Since wr w')
                  (first | exact hstart | exact HK2.out _ s9 | exact HK2.out _ (by exact (‹_ ∧ _› : _ ∧ _ ∧ _ ∧ _ ∧ _ ∧ _ ∧ Since wr _).2.2.2.2.2.2) | fail)
                  (first
                    | (go_at_call 64; ((with_reducible refine (HNk.out _ (by exact (‹_ ∧ _› : _ ∧ _ ∧ _ ∧ _ ∧ _ ∧ _ ∧ Since wr _).2.2.2.2.2.2)).mono ?_); rintro e w9 ⟨rfl, d9⟩; have s9 : Since wr w9 := Since.call (by exact (‹_ ∧ _› : _ ∧ _ ∧ _ ∧ _ ∧ _ ∧ _ ∧ Since wr _).2.2.2.2.2.2) d9; clear d9))
                    | fail)
                rename_i hheld
                have hx9 := Lib.hid (DI.out.trans (Below.mono hheld.2.2.2.2.2.2 DI.out.size))
                have r9 := hheld.2.2.2.2.2.1
                have M9 := Lib.hid (MM.out.below_ (hx9.out.mono MM.out.size))
                have HOW9 := Lib.hid (HOW.out.keep hx9.out)
                have hln := HLN.out
                have htl := toI_len p done
                obtain ⟨Ls, hLs⟩ : ∃ Ls, Ls = toI p done := ⟨_, rfl⟩
                rw [← hLs] at HOW9 HTI htl
                have hl7 : Ls.length ≤ 7 := by omega
                have hz9 : w.heap.size + 1 ≤ w9.heap.size := by have := M9.out.size; omega
                clear hheld hstart hln htl hLs
                go_wp2_with (at_builtin; refine wpList_append_own_at _ rfl _ _ 25 rfl (w.heap.size + 1) 3 i0 (.int .i64 0) 1 8 Try.underlying25 HI.out HZ0.out HZ1.out HZ2.out rfl (by decide) _ Ls.length (rowI Ls) rfl (HOW9.out.alloc _) ⟨_, 0, none⟩ 1 1 [.int .i64 (fk : Int)] rfl rfl (fun j u hu => cells_new j u hu) (by simp [Value.oneCell']) (by unfold maxLen; omega) (by omega) (by simp; omega) ?_; intro v5 w5 hown5 hgrow _ hob5)
                have M5 := Lib.hid ((M9.out.alloc (.cells #[.int .i64 (fk : Int)] 3)).grown hgrow HOB.out)
                have hO5 : OwnI (w.heap.size + 1) w5 v5 (Ls ++ [(fk : Int)]) := own_put hown5
                have HOB5 := Lib.hid (show ∀ g, v5.ownBlock = some g → g = w.heap.size + 1 ∨ w6.heap.size ≤ g from fun g hg => by
                  rcases hob5 with e | e
                  · exact HOB.out g (e ▸ hg)
                  · refine .inr ?_
                    rw [hg] at e
                    have h1 := Option.some.inj e
                    have h2 := M9.out.size
                    simp at h1
                    omega)
                rw [← HTI.out] at hO5
                have HO5 := Lib.hid hO5
                clear hO5 hgrow hown5 hob5
                go_wp2_with fail
                go_roundw
                case rel => exact ⟨done ++ [k], q, d, rfl, HG2, hroom, HD3.out, HL3, HO5, HOB5, M5⟩
                case measure => (try simp [intOf]); (try (have := HQQ.out; have := Nat.two_pow_pos k; omega))
              · have hgt : decide (mx > W) = true := decide_eq_true (q5k (by omega) rfl)
                have hgt2 : decide (W < mx) = true := hgt
                clear q5k HXY
                go_wp2_with fail
                go_region_held3 (fun w' => w'.cell? ⟨w.heap.size, 0, none⟩ = some (.int .i64 h.b) ∧ w'.cell? ⟨w.heap.size, 1, none⟩ = some (.int .i64 h.r) ∧ w'.cell? ⟨w.heap.size, 2, none⟩ = some (.int .i64 h.t) ∧ w'.cell? ⟨hb9, ho9 + q, none⟩ = some (.int .i64 x) ∧ w'.cell? ⟨lb0, lo0 + q, none⟩ = some (.int .i64 y9) ∧ Since wr w')
                  (first | exact hstart | exact HK.out _ s9 | exact HK.out _ (by exact (‹_ ∧ _› : _ ∧ _ ∧ _ ∧ _ ∧ _ ∧ Since wr _).2.2.2.2.2) | fail)
                  (first
                    | (go_at_call 64; ((with_reducible refine (HNk.out _ (by exact (‹_ ∧ _› : _ ∧ _ ∧ _ ∧ _ ∧ _ ∧ Since wr _).2.2.2.2.2)).mono ?_); rintro e w9 ⟨rfl, d9⟩; have s9 : Since wr w9 := Since.call (by exact (‹_ ∧ _› : _ ∧ _ ∧ _ ∧ _ ∧ _ ∧ Since wr _).2.2.2.2.2) d9; clear d9))
                    | fail)
                rename_i hheld
                have hx9 := Lib.hid (DI.out.trans (Below.mono hheld.2.2.2.2.2 DI.out.size))
                clear hheld hstart
                go_wp2_with fail
                go_roundw
                case rel => exact ⟨k + 1, by omega, by go_num, hx9⟩
                case measure => simp [intOf]; omega
        · obtain rfl : s = M - 1 := by omega
          have hg := HG.out
          rw [HRE.out d, List.append_nil] at hg
          have ilt : decide (((M - 1 : Nat) : Int) < (M : Int) - 1) = false := decide_eq_false (by omega)
          have C9 := HB.out.trans ((HSUB.out _ MM.out).mono hwB)
          have O9 := HOW.out.from_ hwB
          rw [hg] at O9
          go_wp2_with fail
          go_ret2
          exact ⟨_, by rw [HE.out]; rfl, by rw [HE.out]; exact O9, C9⟩
    · have HE := Lib.hid (show bestO h l p = ([], false) from by unfold bestO; rw [if_neg (fun hc => hm hc.2)])
      obtain ⟨m, hm'⟩ : ∃ m, m = (fullS p).length := ⟨_, rfl⟩
      rw [← hm'] at hfl hm
      have hm7 : decide ((7 : Int) < (m : Int)) = true := decide_eq_true (by omega)
      clear hok hb hp hm'
      go_enter Try.func27, Try.ntmps27
      go_wp2_with fail
      rw [← HW.out, ← HW2.out]
      go_wp2_with fail
      refine (HSL.out _ HB2.out).mono ?_
      rintro e w3 ⟨v3, rfl, O3, b3⟩
      obtain ⟨a3, c3, rfl⟩ := O3.holds.form
      rw [hfl] at O3 ⊢
      have y3 := HX.out w3 (HD2.out.trans (b3.mono (by have := HZ2s.out; omega)))
      have y0 := y3.c0
      have y1 := y3.c1
      have y2 := y3.c2
      have C3 := HB2.out.trans (b3.mono HB2.out.size)
      have N3 := Lib.hid (HO2.out.keep b3)
      clear y3 z0 z1 z2 O3 b3
      go_wp2_with fail
      refine (HPV.out _ C3).mono ?_
      rintro e w4 ⟨rfl, b4⟩
      have C4 := C3.trans (b4.mono C3.size)
      have N4 := (N3.out.keep b4).from_ (Nat.le_succ _)
      go_wp2_with fail
      go_ret2
      exact ⟨_, by rw [HE.out]; rfl, by rw [HE.out]; exact N4, C4⟩
end Go.Proofs.Ytbaebamiiigmlac
