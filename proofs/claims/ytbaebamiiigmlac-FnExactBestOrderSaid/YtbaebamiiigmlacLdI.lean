/-
  The program's BestOrder.
-/
import Derived.Test.YtbaebamiiigmlacLdIb
import Derived.Test.YtbaebamiiigmlacLdB
import Derived.Laws.AppendOwnNone
namespace Go.Proofs.Ytbaebamiiigmlac
open Go.RowKit
set_option linter.unusedVariables false

set_option maxRecDepth 10000 in
set_option maxHeartbeats 8000000 in
theorem implBestOrder_any (h : Hl) (u v : Value) (l : List Bx) (p : List Int) (w : World) (hb : HoldsBx w u l) (hp : HoldsI w v p) (hn : p.length ≤ 1048577) :
    Calls Try.prog 28 #[.agg #[.int .i64 h.b, .int .i64 h.r, .int .i64 h.t], u, v] w fun e w' => ∃ v', e = .returned (.tuple #[v', .bool (bestO h l p).2]) ∧ FreeE w.heap.size w' v' (bestO h l p).1 ∧ Below w.heap.size w w' := by
  obtain ⟨i0, hi, hz0, hz1, hz2⟩ := info_parts infoInt
  have HI := Lib.hid hi
  have HZ0 := Lib.hid hz0
  have HZ1 := Lib.hid hz1
  have HZ2 := Lib.hid hz2
  clear hi hz0 hz1 hz2
  have hb1 := (Below.refl w.heap.size w).alloc (Nat.le_refl _) (.cells #[.int .i64 h.b, .int .i64 h.r, .int .i64 h.t] 28)
  have hx1 := BoxH.new w h
  obtain ⟨W1, hW1⟩ : ∃ W1, W1 = w.alloc (.cells #[.int .i64 h.b, .int .i64 h.r, .int .i64 h.t] 28) := ⟨_, rfl⟩
  rw [← hW1] at hb1 hx1
  have HW := Lib.hid hW1
  have HB := Lib.hid hb1
  have y0 := hx1.c0
  have y1 := hx1.c1
  have y2 := hx1.c2
  have HX := Lib.hid fun (w' : World) (hs : Below W1.heap.size W1 w') => hx1.keep hs
  have hs1 : W1.heap.size = w.heap.size + 1 := by rw [hW1]; simp
  clear hW1 hb1 hx1
  have HSL := Lib.hid fun (w' : World) (hs : Below w.heap.size w w') => loadedSlots_any v p w' (hp.keep hs) hn
  have HPV := Lib.hid fun (w' : World) (hs : Below w.heap.size w w') => implPlanValid_any h u v l p w' (hb.keep hs) (hp.keep hs)
  have hfl := fullI_len p
  have NOWALK : True := trivial
  cases hok : plOk h (bxsOk l) (bxIds l) p
  · have HE := Lib.hid (show bestO h l p = ([], false) from by unfold bestO; rw [if_neg (by rw [hok]; simp)])
    rw [hok] at HPV
    obtain ⟨m, hm'⟩ : ∃ m, m = (fullS p).length := ⟨_, rfl⟩
    rw [← hm'] at hfl
    clear hok hb hp hm' NOWALK
    go_enter Try.func28, Try.ntmps28
    go_wp2_with fail
    rw [← HW.out]
    go_wp2_with fail
    refine (HSL.out _ HB.out).mono ?_
    rintro e w3 ⟨v3, rfl, O3, b3⟩
    have y3 := HX.out w3 b3
    have C3 := HB.out.trans (b3.mono HB.out.size)
    clear b3 y0 y1 y2 O3
    have y0 := y3.c0
    have y1 := y3.c1
    have y2 := y3.c2
    clear y3
    go_wp2_with fail
    refine (HPV.out _ C3).mono ?_
    rintro e w4 ⟨rfl, b4⟩
    have C4 := C3.trans (b4.mono C3.size)
    go_wp2_with fail
    go_ret2
    exact ⟨_, by rw [HE.out]; rfl, by rw [HE.out]; exact FreeE.zero, C4⟩
  · rw [hok] at HPV
    by_cases hm : (fullS p).length ≤ 7
    · have HE := Lib.hid (show bestO h l p = (toI p (bestG h l p), true) from by unfold bestO; rw [if_pos ⟨hok, hm⟩]; rfl)
      have HLH := Lib.hid fun (w' : World) (hs : Below w.heap.size w w') => leastHeels_any h u v l p w' (hb.keep hs) (hp.keep hs) hok hm
      have HNW := Lib.hid fun B n s K W (w' : World) (hm : MapI B w' n (mapT h l p 0)) hs hK h1 h2 h3 => nextWithin_any B n s K (mapT h l p 0) W w' hm hs hK h1 h2 h3
      have HGV := Lib.hid fun s k hs hlt => gM_val hok (t := 0) (s := s) (k := k) hs hlt (by omega)
      have HXV := Lib.hid fun s k hs hlt hg => xM_val hok (t := 0) (s := s) (k := k) hs hlt (by omega) hg
      have HVV := Lib.hid fun s => (show valS h l p s = max (setH h l p s) (leastL (fullS p).length (setH h l p) (nxS h p) s) from rfl)
      have HM0 := Lib.hid (show ((mapT h l p 0) 0).getD 0 = leastO h l p from by
        have e := mapT_at (h := h) (l := l) (p := p) 0 0
        rw [if_pos ⟨Nat.le_refl _, Nat.two_pow_pos _, okS_zero hok⟩, valS_zero hok] at e
        rw [show (0 : Int) = ((0 : Nat) : Int) from rfl, e]; rfl)
      have HOK := Lib.hid fun s k (hs : okS h l p s = true) (hk : k < (fullS p).length) (hn : nxS h p s k = true) => (nxS_okS hok hs hk (nxS_bit h p s k hn)).symm.trans hn
      have HOR := Lib.hid fun s k (hn : nxS h p s k = true) => or_add (nxS_bit h p s k hn)
      have HFA := Lib.hid fun k (hk : k < (fullS p).length) => fullI_at (p := p) hk
      have HPI := Lib.hid fun s hs hw => pickG_law hok (s := s) hs hw
      have HRN := Lib.hid fun d s hs => restG_next (h := h) (l := l) (p := p) (d := d) (s := s) hs
      have HRE := Lib.hid fun d => restG_end (h := h) (l := l) (p := p) d
      have hRS := restG_start h l p
      have hGL := bestG_len hok
      have hOZ := okS_zero hok
      have hL0 : leastL (fullS p).length (setH h l p) (nxS h p) 0 = leastO h l p := rfl
      have hM := Nat.pow_le_pow_right (n := 2) (by omega) hm
      have hMp := Nat.two_pow_pos (fullS p).length
      generalize hgm : mapT h l p 0 = mp at HLH HNW HGV HXV HM0
      generalize hgv : valS h l p = vS at HXV HVV
      generalize hgh : setH h l p = H at HVV HPI hL0
      generalize hgl : leastL (fullS p).length H (nxS h p) = L at HVV HPI hL0
      generalize hgw : leastO h l p = W at HPI hL0 HM0
      generalize hgp : pickG h l p = pk at HPI HRN
      generalize hgr : restG h l p = rG at HRN HRE hRS
      generalize hgG : bestG h l p = BG at HE hRS hGL
      obtain ⟨m, hm'⟩ : ∃ m, m = (fullS p).length := ⟨_, rfl⟩
      rw [← hm'] at hfl hm hM hMp HGV HXV HOK HFA HPI HRN HRE hRS hGL
      obtain ⟨M, hMM⟩ : ∃ M : Nat, M = 2 ^ m := ⟨_, rfl⟩
      rw [← hMM] at hM hMp HGV HXV HPI HRN HRE hRS
      have hM128 : M ≤ 128 := hM
      have hm7 : decide ((7 : Int) < (m : Int)) = false := decide_eq_false (by omega)
      clear hok hb hp hm' hMM hM hgm hgv hgh hgl hgw hgp hgr hgG NOWALK
      go_enter Try.func28, Try.ntmps28
      go_wp2_with fail
      rw [← HW.out]
      go_wp2_with fail
      refine (HSL.out _ HB.out).mono ?_
      rintro e w3 ⟨v3, rfl, O3, b3⟩
      have C3 := Lib.hid (HB.out.trans (b3.mono HB.out.size))
      have D3 := Lib.hid b3
      have N3 := Lib.hid O3.new
      obtain ⟨a3, c3, rfl⟩ := O3.holds.form
      rw [hfl] at N3 ⊢
      have y3 := HX.out w3 b3
      clear O3 b3 y0 y1 y2 HSL
      have y0 := y3.c0
      have y1 := y3.c1
      have y2 := y3.c2
      clear y3
      go_wp2_with fail
      refine (HPV.out _ C3.out).mono ?_
      rintro e w4 ⟨rfl, b4⟩
      have C4 := Lib.hid (C3.out.trans (b4.mono C3.out.size))
      have D4 := Lib.hid (D3.out.trans (b4.mono D3.out.size))
      have N4 := Lib.hid (N3.out.keep b4)
      have y4 := HX.out w4 D4.out
      clear b4 y0 y1 y2 C3 D3 N3 HPV
      have y0 := y4.c0
      have y1 := y4.c1
      have y2 := y4.c2
      clear y4
      go_wp2_with fail
      refine (HLH.out _ C4.out).mono ?_
      rintro e w6 ⟨B, nn, rfl, hBge, M6, b6⟩
      have C6 := Lib.hid (C4.out.trans (b6.mono C4.out.size))
      have N6 := Lib.hid (N4.out.keep b6)
      have HM6 := Lib.hid M6
      clear b6 M6 C4 D4 N4 HLH y0 y1 y2
      go_wp2_with fail
      go_loopw [10, 11, 31] (fun va sv i wr => ∃ (done : List Nat) (s d : Nat), sv = .int .i64 s ∧ i = .int .i64 (done.length : Nat) ∧ Hid (done ++ rG d s = BG) ∧ s < M ∧ M - 1 - s ≤ d ∧ Hid (L s ≤ W) ∧ Hid (okS h l p s = true) ∧ Hid (OwnI w6.heap.size wr va (toI p done)) ∧ Hid (Below w6.heap.size w6 wr)) (fun _ _ i _ => m - (intOf i).toNat)
      case atStart => exact ⟨[], 0, M, rfl, rfl, Lib.hid (by rw [List.nil_append]; exact hRS), hMp, by omega, Lib.hid (by rw [hL0]; exact Int.le_refl _), Lib.hid hOZ, Lib.hid OwnI.nil, Lib.hid (Below.refl _ _)⟩
      case round =>
        obtain ⟨done, s, d, rfl, rfl, HG, hsM, hd, HLW, HOS, HOW, R6⟩ := hrel
        have HLN := Lib.hid (show done.length + (rG d s).length = m from by have h1 := congrArg List.length HG.out; rw [List.length_append, hGL] at h1; exact h1)
        by_cases hlt : s < M - 1
        · obtain ⟨d, rfl⟩ : ∃ e, d = e + 1 := ⟨d - 1, by omega⟩
          obtain ⟨q1, q2, q3, q4, q5⟩ := HPI.out s (by omega) HLW.out
          have hrn := HRN.out d s (by omega)
          obtain ⟨k, hk0⟩ : ∃ k0, k0 = pk s := ⟨_, rfl⟩
          rw [← hk0] at q1 q2 q3 q4 q5 hrn
          have hln := HLN.out
          rw [hrn, List.length_cons] at hln
          have hjm : done.length < m := by omega
          have hg1 : gM mp s k = true := by rw [HGV.out s k HOS.out hsM, decide_eq_true q1, q2]; rfl
          have hx1 : xM mp s k ≤ W := by rw [HXV.out s k HOS.out hsM hg1, HVV.out]; exact q3
          have hx3 : ∀ j, j < k → gM mp s j = true → W < xM mp s j := fun j hj hg => by
            have hgj := hg
            rw [HGV.out s j HOS.out hsM, Bool.and_eq_true] at hgj
            rw [HXV.out s j HOS.out hsM hg, HVV.out]
            exact q5 j hj hgj.2
          have HMr := Lib.hid (HM6.out.keep R6.out)
          have HNk := Lib.hid (HNW.out B nn s k W wr HMr.out (by omega) (by omega) hg1 hx1 hx3)
          have hlk := HMr.out.look 0 (by omega) (by omega)
          rw [HM0.out] at hlk
          have HOK2 := Lib.hid (HOK.out s k HOS.out q1 q2)
          have hor0 := or_val (s := s) (k := k) (by omega) (by omega)
          rw [HOR.out s k q2] at hor0
          have hsh := shl_pow (k := k) (by omega)
          obtain ⟨q, hq⟩ : ∃ q, q = s + 2 ^ k := ⟨_, rfl⟩
          rw [← hq] at q3 q4 hor0 HOK2 hrn
          have HD3 := Lib.hid (show M - 1 - q ≤ d from by have := Nat.two_pow_pos k; omega)
          have HL3 := Lib.hid (show L q ≤ W from by omega)
          have HG2 := Lib.hid (show (done ++ [k]) ++ rG d q = BG from by rw [← HG.out, hrn, List.append_assoc]; rfl)
          have HTI := Lib.hid (toI_snoc p done k)
          obtain ⟨sb, so, rfl, hsbl, r0⟩ := (N6.out.keep R6.out).holds.at_ (k := k) q1
          rw [HFA.out k q1] at r0
          obtain ⟨fk, hfk⟩ : ∃ fk, fk = fAt p k := ⟨_, rfl⟩
          rw [← hfk] at r0 HTI
          have htl := toI_len p done
          have HLL := Lib.hid (show (done ++ [k]).length = done.length + 1 from by simp)
          obtain ⟨jn, hjn⟩ : ∃ jn, jn = done.length := ⟨_, rfl⟩
          rw [← hjn] at hjm htl HLL ⊢
          obtain ⟨Ls, hLs⟩ : ∃ Ls, Ls = toI p done := ⟨_, rfl⟩
          have HOL := HOW
          rw [← hLs] at HOL HTI htl
          have hl7 : Ls.length ≤ 7 := by omega
          have ikm : (k : Int) < (m : Int) := by omega
          have i0k : (0 : Int) ≤ (k : Int) := by omega
          have ik64 : (k : Int) ≤ 64 := by omega
          have ijm : (jn : Int) < (m : Int) := by omega
          have HQ4 := Lib.hid q4
          clear q2 q3 q4 q5 hk0 hrn hln hg1 hx1 hx3 hq hfk hjn hLs htl HOW HNW HMr
          go_wp2_with fail
          refine HNk.out.mono ?_
          rintro e w' ⟨rfl, rfl⟩
          clear hlk
          go_wp2_with (at_builtin; refine wpList_append_own _ rfl _ _ 25 rfl w6.heap.size 3 i0 (.int .i64 0) 1 8 Try.underlying25 HI.out HZ0.out HZ1.out HZ2.out rfl (by decide) _ (Ls).length (rowI (Ls)) rfl (HOL.out.alloc _) ⟨wr.heap.size, 0, none⟩ 1 1 [.int .i64 (fk : Int)] rfl rfl (fun j u hu => cells_new j u hu) (by simp [Value.oneCell']) (by unfold maxLen; omega) (by omega) (by have := R6.out.size; simp; omega) ?_; intro v5 w5 hown5 hgrow _)
          have hb5 : Below w6.heap.size wr w5 := ((Below.refl _ _).alloc (by have := R6.out.size; omega) _).trans (own_below hgrow (by have := R6.out.size; simp; omega) (fun k' hk' => (own_lt HOL.out k' hk').1))
          have hO5 : OwnI w6.heap.size w5 v5 (Ls ++ [(fk : Int)]) := own_put hown5
          clear hgrow hown5
          rw [← HTI.out] at hO5
          have HO5 := Lib.hid hO5
          have R5 := Lib.hid (R6.out.trans hb5)
          clear hO5 hb5
          go_wp2_with fail
          go_roundw
          case rel => exact ⟨done ++ [k], q, d, rfl, by rw [HLL.out]; go_num, HG2, HQ4.out, HD3.out, HL3, HOK2, HO5, R5⟩
          case measure => simp [intOf] <;> omega
        · obtain rfl : s = M - 1 := by omega
          have hg := HG.out
          have hln := HLN.out
          rw [HRE.out d, List.append_nil] at hg
          rw [HRE.out d, List.length_nil, Nat.add_zero] at hln
          have ilt : decide ((done.length : Int) < (m : Int)) = false := decide_eq_false (by omega)
          have C9 := C6.out.trans (R6.out.mono C6.out.size)
          have O9 := HOW.out.freeE.from_ C6.out.size
          rw [hg] at O9
          clear hln
          go_wp2_with fail
          go_ret2
          exact ⟨_, by rw [HE.out]; rfl, by rw [HE.out]; exact O9, C9⟩
    · have HE := Lib.hid (show bestO h l p = ([], false) from by unfold bestO; rw [if_neg (fun hc => hm hc.2)])
      obtain ⟨m, hm'⟩ : ∃ m, m = (fullS p).length := ⟨_, rfl⟩
      rw [← hm'] at hfl hm
      have hm7 : decide ((7 : Int) < (m : Int)) = true := decide_eq_true (by omega)
      clear hok hb hp hm' NOWALK
      go_enter Try.func28, Try.ntmps28
      go_wp2_with fail
      rw [← HW.out]
      go_wp2_with fail
      refine (HSL.out _ HB.out).mono ?_
      rintro e w3 ⟨v3, rfl, O3, b3⟩
      obtain ⟨a3, c3, rfl⟩ := O3.holds.form
      rw [hfl]
      have y3 := HX.out w3 b3
      have C3 := HB.out.trans (b3.mono HB.out.size)
      clear b3 y0 y1 y2 O3
      have y0 := y3.c0
      have y1 := y3.c1
      have y2 := y3.c2
      clear y3
      go_wp2_with fail
      refine (HPV.out _ C3).mono ?_
      rintro e w4 ⟨rfl, b4⟩
      have C4 := C3.trans (b4.mono C3.size)
      go_wp2_with fail
      go_ret2
      exact ⟨_, by rw [HE.out]; rfl, by rw [HE.out]; exact FreeE.zero, C4⟩

end Go.Proofs.Ytbaebamiiigmlac
