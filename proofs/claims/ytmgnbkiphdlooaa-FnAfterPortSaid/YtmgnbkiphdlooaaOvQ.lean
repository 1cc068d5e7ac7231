/-
  The model's chapter 10, second part: PortMoves.
-/
import Derived.Test.YtmgnbkiphdlooaaOvS
import Derived.Test.YtmgnbkiphdlooaaGBase
import Derived.Laws.AppendOwnNone
import Derived.Deep.RegionHeld3
namespace Go.Proofs.Ytmgnbkiphdlooaa
open Go.RowKit
set_option linter.unusedVariables false

set_option maxRecDepth 10000 in
set_option maxHeartbeats 8000000 in
theorem specPortMoves_any (h : Hl) (u v : Value) (l : List Bx) (p : List Int) (q : Int) (w : World) (hb : HoldsBx w u l) (hp : HoldsI w v p) :
    Calls Try.prog 20 #[.agg #[.int .i64 h.b, .int .i64 h.r, .int .i64 h.t], u, v, .int .i64 q] w fun e w' => ∃ v', e = .returned v' ∧ OwnI w.heap.size w' v' (moveO h l p q) ∧ Below w.heap.size w w' := by
  have hb1 := (Below.refl w.heap.size w).alloc (Nat.le_refl _) (.cells #[.int .i64 h.b, .int .i64 h.r, .int .i64 h.t] 24)
  have hx1 := BoxH.new w h
  obtain ⟨W1, hW1⟩ : ∃ W1, W1 = w.alloc (.cells #[.int .i64 h.b, .int .i64 h.r, .int .i64 h.t] 24) := ⟨_, rfl⟩
  rw [← hW1] at hb1 hx1
  have HW := Lib.hid hW1
  have HB := Lib.hid hb1
  have y0 := hx1.c0
  have y1 := hx1.c1
  have y2 := hx1.c2
  have HX := Lib.hid fun (w' : World) (hs : Below W1.heap.size W1 w') => hx1.keep hs
  have hs1 : W1.heap.size = w.heap.size + 1 := by rw [hW1]; simp
  clear hW1 hb1 hx1
  have HPV := Lib.hid fun (w' : World) (hs : Below w.heap.size w w') => specPlanValid_any h u v l p w' (hb.keep hs) (hp.keep hs)
  have PK := Lib.hid fun (w' : World) (hs : Below w.heap.size w w') => hp.keep hs
  obtain ⟨i0, hi, hz0, hz1, hz2⟩ := info_parts infoInt
  have HI := Lib.hid hi
  have HZ0 := Lib.hid hz0
  have HZ1 := Lib.hid hz1
  have HZ2 := Lib.hid hz2
  clear hi hz0 hz1 hz2
  have hb2 : Below W1.heap.size W1 (W1.alloc (.cells #[] 3)) := (Below.refl _ _).alloc (Nat.le_refl _) _
  have hO2 : OwnI W1.heap.size (W1.alloc (.cells #[] 3)) (.slice (some ⟨W1.heap.size, 0, none⟩) 0 0) [] := OwnI.zero (Nat.le_refl _)
  have hx2 := HX.out _ hb2
  obtain ⟨W2, hW2⟩ : ∃ W2, W2 = W1.alloc (.cells #[] 3) := ⟨_, rfl⟩
  rw [← hW2] at hb2 hO2 hx2
  have HW2 := Lib.hid hW2
  have z0 := hx2.c0
  have z1 := hx2.c1
  have z2 := hx2.c2
  have HB2 := Lib.hid (HB.out.trans (hb2.mono HB.out.size))
  rw [hs1] at hb2 hO2 HX
  have HO2 := Lib.hid hO2
  have HD2 := Lib.hid hb2
  clear hW2 hb2 hO2 hx2 y0 y1 y2
  cases hok : plOk h (bxsOk l) (bxIds l) p
  · have HE := Lib.hid (show moveO h l p q = [] from by unfold moveO; rw [hok]; rfl)
    rw [hok] at HPV
    clear hok hb hp
    go_enter Try.func20, Try.ntmps20
    go_wp2_with fail
    rw [← HW.out, ← HW2.out]
    go_wp2_with fail
    refine (HPV.out _ HB2.out).mono ?_
    rintro e w3 ⟨rfl, b3⟩
    go_wp2_with fail
    go_ret
    exact ⟨_, rfl, by rw [HE.out]; exact (HO2.out.from_ (by omega)).keep b3, HB2.out.trans (b3.mono HB2.out.size)⟩
  · have hlen := pl_len hok
    obtain ⟨T, hT⟩ : ∃ T : Nat, T = h.t.toNat := ⟨_, rfl⟩
    have HAB := Lib.hid fun k j (h1 : j < k) (h2 : k < p.length) (w' : World) => specAbove_any h k j w' (plOk_iff.1 hok).1 h1 (by omega)
    have HPT := Lib.hid fun k (hl : k < p.length) (hz : pAt p k ≠ 0) (w' : World) (hs : Below w.heap.size w w') => specPort_any u v l p k w' (hb.keep hs) (hp.keep hs) hl (pl_find hok hl hz)
    rw [← hT] at HAB
    rw [hok] at HPV
    by_cases hq : 0 ≤ q ∧ q ≤ 6
    · have HE := Lib.hid (show moveO h l p q = filI (moveS T (ptB l) q p) p.length from by unfold moveO; rw [if_pos ⟨hok, hq.1, hq.2⟩, hT]; rfl)
      generalize ptB l = f at HPT HE
      obtain ⟨pa, pc, rfl⟩ := hp.form
      obtain ⟨n, hn⟩ : ∃ n, n = p.length := ⟨_, rfl⟩
      have HFN := Lib.hid fun k => filI_next (moveS T f q p) k
      have HFL := Lib.hid fun k => filI_len (moveS T f q p) k
      rw [← hn] at HPV PK HPT HAB HE hlen ⊢
      have HQ := Lib.hid hq
      clear hok hb hp hn hT hq
      go_enter Try.func20, Try.ntmps20
      go_wp2_with fail
      rw [← HW.out, ← HW2.out]
      go_wp2_with fail
      refine (HPV.out _ HB2.out).mono ?_
      rintro e w3 ⟨rfl, b3⟩
      have C3 := HB2.out.trans (b3.mono HB2.out.size)
      have HO3 := Lib.hid (HO2.out.keep b3)
      have HD3 := Lib.hid (HD2.out.trans (b3.mono (by have := HD2.out.size; omega)))
      clear b3 HPV HO2 HD2 z0 z1 z2 C3
      go_wp2_with fail
      refine (l1In_yes q 0 6 _ HQ.out.1 HQ.out.2).mono ?_
      rintro e w' ⟨rfl, rfl⟩
      go_wp2_with fail
      go_loopw [9, 10] (fun va i wr => ∃ k : Nat, k ≤ n ∧ i = .int .i64 k ∧ Hid (OwnI (w.heap.size + 1) wr va (filI (moveS T f q p) k)) ∧ Hid (Below (w.heap.size + 1) W1 wr)) (fun _ i _ => n - (intOf i).toNat)
      case atStart => exact ⟨0, by omega, rfl, HO3, HD3⟩
      case round =>
        clear HO3 HD3
        obtain ⟨wo, rfl⟩ : ∃ wo : World, wo = wr := ⟨_, rfl⟩
        obtain ⟨k, hkn, rfl, HOW, DO⟩ := hrel
        have EO := Lib.hid (HB.out.trans (DO.out.mono (by omega)))
        by_cases hlt : k < n
        · obtain ⟨pb, po, rfl, hpbl, s0'⟩ := (PK.out wo EO.out).at_ hlt
          have hpK : pb < wo.heap.size := hpbl
          have e0 : p.getD k 0 = pAt p k := rfl
          rw [e0] at s0'
          have ik : (k : Int) < (n : Int) := by omega
          have i0k : (0 : Int) ≤ (k : Int) := by omega
          have hnc := HFN.out k
          clear e0
          by_cases hz : pAt p k = 0
          · have hov := moveS_zero (T := T) (f := f) (q := q) hz
            rw [hov, if_neg (by simp)] at hnc
            have hsc' := Lib.hid hnc
            rw [hz] at s0'
            clear hnc hov
            go_wp2_with fail
            go_loopw [11, 12] (fun fl jv w2 => fl = .bool false ∧ jv = .int .i64 0 ∧ Hid (Below wo.heap.size wo w2)) (fun _ _ _ => 0)
            case atStart => exact ⟨rfl, rfl, Lib.hid (Below.refl _ _)⟩
            case round =>
              obtain ⟨rfl, rfl, DJ⟩ := hrel
              have s0 := (Below.cell DJ.out (p := ⟨pb, po + k, none⟩) hpK).trans s0'
              rcases Nat.eq_zero_or_pos k with hk0 | hk0
              · subst hk0
                have ij' : decide ((0 : Int) < (((0 : Nat) : Nat) : Int)) = false := rfl
                go_wp2_with fail
                go_roundw
                case rel => exact ⟨0 + 1, by omega, by go_num, by rw [hsc'.out]; exact Lib.hid (HOW.out.keep DJ.out), Lib.hid (DO.out.trans (DJ.out.mono (by have := DO.out.size; omega)))⟩
                case measure => simp [intOf]; omega
              · have ij' : decide ((0 : Int) < (k : Int)) = true := decide_eq_true (by omega)
                go_wp2_with fail
                go_roundw
                case rel => exact ⟨k + 1, by omega, by go_num, by rw [hsc'.out]; exact Lib.hid (HOW.out.keep DJ.out), Lib.hid (DO.out.trans (DJ.out.mono (by have := DO.out.size; omega)))⟩
                case measure => simp [intOf]; omega
          · have hov := moveS_any (T := T) (f := f) (q := q) hz
            have hdz : (pAt p k != 0) = true := by simpa using hz
            have HPk := Lib.hid (HPT.out k hlt hz wo EO.out)
            obtain ⟨c0, hc0⟩ : ∃ c0, c0 = (f (pAt p k) == q) := ⟨_, rfl⟩
            have hcd : decide (f (pAt p k) = q) = c0 := by rw [hc0]; rfl
            obtain ⟨fk, hfk⟩ : ∃ fk, fk = f (pAt p k) := ⟨_, rfl⟩
            obtain ⟨xk, hxk⟩ : ∃ xk, xk = pAt p k := ⟨_, rfl⟩
            rw [← hfk] at hc0
            have HCD := Lib.hid hcd
            have HOVH := Lib.hid hov
            have HNCH := Lib.hid hnc
            have hqk : (fk == q) = c0 := hc0.symm
            have s0x := s0'
            have hdx := hdz
            rw [← hxk] at s0x hdx
            have HSX := Lib.hid s0'
            have HPk2 := Lib.hid (show Calls Try.prog 47 #[u, .slice (some ⟨pb, po, none⟩) n pc, .int .i64 k] wo fun e w' => e = .returned (.int .i64 fk) ∧ wo = w' from by rw [hfk]; exact HPk.out)
            clear hcd hov hnc s0' hdz hc0 hxk hfk HPk
            go_wp2_with fail
            refine HPk2.out.mono ?_
            rintro e w' ⟨rfl, rfl⟩
            go_wp2_with fail
            have s0' := HSX.out
            have hdz : (pAt p k != 0) = true := by simpa using hz
            have hcd := HCD.out
            have hov := HOVH.out
            have hnc := HNCH.out
            go_loopw [11, 12] (fun fl jv w2 => ∃ (b : Bool) (j : Nat), j ≤ k ∧ b = (c0 || anyN (mvG T f q p k) j) ∧ fl = .bool b ∧ jv = .int .i64 j ∧ Hid (Below wo.heap.size wo w2)) (fun _ jv _ => k - (intOf jv).toNat)
            case atStart => exact ⟨_, 0, by omega, by rw [anyN_zero, Bool.or_false], rfl, rfl, Lib.hid (Below.refl _ _)⟩
            case round =>
              obtain ⟨b, j, hjk, hb, rfl, rfl, DJ⟩ := hrel
              have EJ := EO.out.trans (DJ.out.mono (by have := EO.out.size; omega))
              have s0 := (Below.cell DJ.out (p := ⟨pb, po + k, none⟩) hpK).trans s0'
              have yj := HX.out wr (DO.out.trans (DJ.out.mono (by have := DO.out.size; omega)))
              have c0' := yj.c0
              have c1' := yj.c1
              have c2' := yj.c2
              by_cases hjlt : j < k
              · have ij : (j : Int) < (k : Int) := by omega
                have ij' : decide ((j : Int) < (k : Int)) = true := decide_eq_true ij
                have i0j : (0 : Int) ≤ (j : Int) := by omega
                have hjl : j < n := by omega
                have ijn : (j : Int) < (n : Int) := by omega
                have hnx := anyN_next (mvG T f q p k) j
                cases b
                · have hbj : (mvG T f q p k) j = true → (c0 || anyN (mvG T f q p k) (j + 1)) = true := fun hg => by rw [hnx, hg]; simp
                  have hbn : (mvG T f q p k) j = false → (c0 || anyN (mvG T f q p k) (j + 1)) = false := fun hg => by rw [hnx, hg, Bool.or_false]; exact hb.symm
                  obtain ⟨pb', po', e', _, t0⟩ := (PK.out wr EJ).at_ hjl
                  simp only [Option.some.injEq, Addr.mk.injEq, and_true] at e'
                  obtain ⟨rfl, rfl⟩ := e'
                  have e1 : p.getD j 0 = pAt p j := rfl
                  rw [e1] at t0
                  by_cases hzj : pAt p j = 0
                  · have hgf : (mvG T f q p k) j = false := decide_eq_false fun hc => hc.1 hzj
                    have hv := hbn hgf
                    rw [hzj] at t0
                    clear hbj hbn hnx hb hgf e1
                    go_wp2_with fail
                    go_roundw
                    case rel => exact ⟨_, j + 1, by omega, hv.symm, rfl, by go_num, DJ⟩
                    case measure => simp [intOf]; omega
                  · have hdzj : (pAt p j != 0) = true := by simpa using hzj
                    have HA := Lib.hid (HAB.out k j hjlt hlt wr)
                    cases hrw : decide (k / T = j / T)
                    · have hgf : (mvG T f q p k) j = false := decide_eq_false fun hc => (of_decide_eq_false hrw) hc.2.1
                      have hv := hbn hgf
                      rw [hrw] at HA
                      obtain ⟨xj, hxj⟩ : ∃ xj, xj = pAt p j := ⟨_, rfl⟩
                      rw [← hxj] at t0 hdzj
                      clear hbj hbn hnx hb hgf e1 hrw hxj
                      go_wp2_with fail
                      refine HA.out.mono ?_
                      rintro e w5 ⟨rfl, b5⟩
                      have D5 := Lib.hid (DJ.out.trans (b5.mono (by have := EJ.size; have := DJ.out.size; omega)))
                      clear b5
                      go_wp2_with fail
                      go_roundw
                      case rel => exact ⟨_, j + 1, by omega, hv.symm, rfl, by go_num, D5⟩
                      case measure => simp [intOf]; omega
                    · have hgv : (mvG T f q p k) j = (f (pAt p j) == q) := by
                        have hrwt := of_decide_eq_true hrw
                        unfold mvG
                        cases hc : (f (pAt p j) == q)
                        · exact decide_eq_false fun h9 => by rw [h9.2.2] at hc; simp at hc
                        · exact decide_eq_true ⟨hzj, hrwt, by simpa using hc⟩
                      have hv : (f (pAt p j) == q) = (c0 || anyN (mvG T f q p k) (j + 1)) := by
                        rw [← hgv]
                        cases hgc : (mvG T f q p k) j
                        · exact (hbn hgc).symm
                        · exact (hbj hgc).symm
                      rw [hrw] at HA
                      obtain ⟨xj, hxj⟩ : ∃ xj, xj = pAt p j := ⟨_, rfl⟩
                      have t0x := t0
                      have hdx := hdzj
                      rw [← hxj] at t0x hdx
                      have HV9 := Lib.hid hv
                      clear hbj hbn hnx hb hgv e1 hrw t0 hdzj hv
                      have HXJ := Lib.hid hxj
                      clear hxj
                      go_wp2_with fail
                      refine HA.out.mono ?_
                      rintro e w5 ⟨rfl, b5⟩
                      have E5 := EJ.trans (b5.mono EJ.size)
                      have D5 := Lib.hid (DJ.out.trans (b5.mono (by have := EJ.size; have := DJ.out.size; omega)))
                      clear b5
                      go_wp2_with fail
                      refine (HPT.out j hjl hzj w5 E5).mono ?_
                      rintro e w6 ⟨rfl, rfl⟩
                      go_wp2_with fail
                      go_roundw
                      case rel => exact ⟨_, j + 1, by omega, HV9.out, rfl, by go_num, D5⟩
                      case measure => simp [intOf]; omega
                · have hv : (c0 || anyN (mvG T f q p k) (j + 1)) = true := by rw [hnx, ← Bool.or_assoc, ← hb]; rfl
                  clear hnx hb
                  go_wp2_with fail
                  go_roundw
                  case rel => exact ⟨_, j + 1, by omega, hv.symm, rfl, by go_num, DJ⟩
                  case measure => simp [intOf]; omega
              · obtain rfl : j = k := by omega
                have ij' : decide ((j : Int) < (j : Int)) = false := decide_eq_false (by omega)
                have hfin := hb
                clear hb
                cases b
                · have hsc := hnc
                  rw [hov, hcd, ← hfin, if_neg (by simp)] at hsc
                  have hsc' := Lib.hid hsc
                  clear hsc hnc hov hfin hcd
                  go_wp2_with fail
                  go_roundw
                  case rel => exact ⟨j + 1, by omega, by go_num, by rw [hsc'.out]; exact Lib.hid (HOW.out.keep DJ.out), Lib.hid (DO.out.trans (DJ.out.mono (by have := DO.out.size; omega)))⟩
                  case measure => simp [intOf]; omega
                · have hsc := hnc
                  rw [hov, hcd, ← hfin, if_pos rfl] at hsc
                  have HN2 := Lib.hid hsc
                  have hfl := HFL.out j
                  have HOJ := Lib.hid (HOW.out.keep DJ.out)
                  have DRJ := Lib.hid (DO.out.trans (DJ.out.mono (by have := DO.out.size; omega)))
                  clear hsc hnc hov hfin hcd HOW
                  have HOW := HOJ
                  have hszr : w.heap.size + 1 ≤ wr.heap.size := by have := DRJ.out.size; omega
                  go_wp2_with (at_builtin; refine wpList_append_own _ rfl _ _ 26 rfl (w.heap.size + 1) 3 i0 (.int .i64 0) 1 8 Try.underlying26 HI.out HZ0.out HZ1.out HZ2.out rfl (by decide) _ (filI (moveS T f q p) j).length (rowI (filI (moveS T f q p) j)) rfl (HOW.out.alloc _) ⟨wr.heap.size, 0, none⟩ 1 1 [.int .i64 (j : Int)] rfl rfl (fun j u hu => cells_new j u hu) (by simp [Value.oneCell']) (by unfold maxLen; omega) (by omega) (by have := hszr; simp; omega) ?_; intro v5 w5 hown5 hgrow _)
                  have hb5 : Below (w.heap.size + 1) wr w5 := ((Below.refl _ _).alloc (by have := hszr; omega) _).trans (own_below hgrow (by have := hszr; simp; omega) (fun k' hk' => (own_lt HOW.out k' hk').1))
                  have hO5 : OwnI (w.heap.size + 1) w5 v5 (filI (moveS T f q p) j ++ [(j : Int)]) := own_put hown5
                  clear hgrow hown5
                  go_roundw
                  case rel =>
                    rw [← HN2.out] at hO5
                    exact ⟨j + 1, by omega, by go_num, Lib.hid hO5, Lib.hid (DRJ.out.trans hb5)⟩
                  case measure => simp [intOf]; omega
        · obtain rfl : k = n := by omega
          have C9 := EO.out
          have O9 := HOW.out.from_ (show w.heap.size ≤ w.heap.size + 1 by omega)
          go_wp2_with fail
          go_ret
          exact ⟨_, rfl, by rw [HE.out]; exact O9, C9⟩
    · have HE := Lib.hid (show moveO h l p q = [] from by unfold moveO; rw [if_neg (fun hc => hq hc.2)])
      have HQ := Lib.hid hq
      clear hok hb hp hq hT
      go_enter Try.func20, Try.ntmps20
      go_wp2_with fail
      rw [← HW.out, ← HW2.out]
      go_wp2_with fail
      refine (HPV.out _ HB2.out).mono ?_
      rintro e w3 ⟨rfl, b3⟩
      go_wp2_with fail
      refine (l1In_no q 0 6 _ (by have := HQ.out; omega)).mono ?_
      rintro e w' ⟨rfl, rfl⟩
      go_wp2_with fail
      go_ret
      exact ⟨_, rfl, by rw [HE.out]; exact (HO2.out.from_ (by omega)).keep b3, HB2.out.trans (b3.mono HB2.out.size)⟩
end Go.Proofs.Ytmgnbkiphdlooaa
