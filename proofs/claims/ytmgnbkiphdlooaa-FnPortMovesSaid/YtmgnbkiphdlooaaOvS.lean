/-
  The model's chapter 10, first part: Overstows, PortMoves.
-/
import Derived.Test.YtmgnbkiphdlooaaGOm
import Derived.Test.YtmgnbkiphdlooaaWtS
import Derived.Test.YtmgnbkiphdlooaaGPl
import Derived.Test.YtmgnbkiphdlooaaPlC
import Derived.Test.YtmgnbkiphdlooaaGBase
import Derived.Laws.AppendOwnNone
import Derived.Deep.RegionHeld3
namespace Go.Proofs.Ytmgnbkiphdlooaa
open Go.RowKit
set_option linter.unusedVariables false

/-- What a box is asked of one below it. -/
def ovG (T : Nat) (f : Int → Int) (p : List Int) (k j : Nat) : Bool := decide (pAt p j ≠ 0 ∧ k / T = j / T ∧ f (pAt p j) < f (pAt p k))
def mvG (T : Nat) (f : Int → Int) (q : Int) (p : List Int) (k j : Nat) : Bool := decide (pAt p j ≠ 0 ∧ k / T = j / T ∧ f (pAt p j) = q)
theorem overS_any {T : Nat} {f : Int → Int} {p : List Int} {k : Nat} (hz : pAt p k ≠ 0) : overS T f p k = anyN (ovG T f p k) k := by unfold overS; rw [decide_eq_true hz, Bool.true_and]; rfl
theorem overS_zero {T : Nat} {f : Int → Int} {p : List Int} {k : Nat} (hz : pAt p k = 0) : overS T f p k = false := by unfold overS; rw [hz]; rfl
theorem moveS_any {T : Nat} {f : Int → Int} {q : Int} {p : List Int} {k : Nat} (hz : pAt p k ≠ 0) : moveS T f q p k = (decide (f (pAt p k) = q) || anyN (mvG T f q p k) k) := by unfold moveS; rw [decide_eq_true hz, Bool.true_and]; rfl
theorem moveS_zero {T : Nat} {f : Int → Int} {q : Int} {p : List Int} {k : Nat} (hz : pAt p k = 0) : moveS T f q p k = false := by unfold moveS; rw [hz]; rfl

set_option maxRecDepth 10000 in
set_option maxHeartbeats 1000000 in
theorem specPort_any (u v : Value) (l : List Bx) (p : List Int) (k : Nat) (w : World) (hb : HoldsBx w u l) (hp : HoldsI w v p) (hl : k < p.length) (hx0 : 0 ≤ findB l (pAt p k)) :
    Calls Try.prog 47 #[u, v, .int .i64 k] w fun e w' => e = .returned (.int .i64 (ptB l (pAt p k))) ∧ w = w' := by
  obtain ⟨pa, pc, rfl⟩ := hp.form
  obtain ⟨b, off, rfl, hbl, s0⟩ := hp.at_ hl
  have ik : (k : Int) < (p.length : Int) := by omega
  have i0k : (0 : Int) ≤ (k : Int) := by omega
  have e1 : p.getD k 0 = pAt p k := rfl
  rw [e1] at s0
  have hbd := (findB_bd l (pAt p k)).2
  have HF := Lib.hid (l2Find_any u l (pAt p k) w hb)
  obtain ⟨i, hi⟩ : ∃ i : Nat, findB l (pAt p k) = (i : Int) := ⟨(findB l (pAt p k)).toNat, by omega⟩
  have hil : i < l.length := by omega
  have hw : ptB l (pAt p k) = l[i].p := by
    unfold ptB
    rw [hi, Int.toNat_natCast, getD_bx hil]
  obtain ⟨bb, bo, bc, rfl, hc1⟩ : ∃ bb bo bc, u = .slice (some ⟨bb, bo, none⟩) l.length bc ∧ w.cell? ⟨bb, bo + i * 5 + 3, none⟩ = some (.int .i64 l[i].p) := by
    obtain ⟨a', c', e, q1, q2, q3⟩ := hb
    rcases q3 with q3 | ⟨b', off', q4, q5, q6⟩
    · omega
    · exact ⟨b', off', c', by rw [e, q4], q6 i hil 3 (by omega)⟩
  rw [hw]
  rw [hi] at HF
  obtain ⟨x, hxx⟩ : ∃ x, x = pAt p k := ⟨_, rfl⟩
  rw [← hxx] at s0 HF
  generalize l[i].p = g at hc1 ⊢
  have ii : (i : Int) < (l.length : Int) := by omega
  have i0i : (0 : Int) ≤ (i : Int) := by omega
  obtain ⟨n, hn⟩ : ∃ n, n = p.length := ⟨_, rfl⟩
  obtain ⟨m, hm⟩ : ∃ m, m = l.length := ⟨_, rfl⟩
  rw [← hn] at ik ⊢
  rw [← hm] at ii HF ⊢
  clear hb hp hx0 hbd hi hil hw hxx hn hm hl e1
  go_enter Try.func47, Try.ntmps47
  go_wp2_with fail
  refine HF.out.mono ?_
  rintro e w' ⟨rfl, rfl⟩
  go_wp2_with fail
  go_ret
  exact ⟨rfl, rfl⟩

set_option maxRecDepth 10000 in
set_option maxHeartbeats 1000000 in
theorem specAbove_any (h : Hl) (k j : Nat) (w : World) (hk : hlOk h = true) (h1 : j < k) (h2 : k ≤ 40) :
    Calls Try.prog 46 #[.agg #[.int .i64 h.b, .int .i64 h.r, .int .i64 h.t], .int .i64 k, .int .i64 j] w fun e w' => e = .returned (.bool (decide (k / h.t.toNat = j / h.t.toNat))) ∧ Below w.heap.size w w' := by
  obtain ⟨g1, g2, g3, g4, g5, g6⟩ := hlOk_iff.1 hk
  have hb1 := (Below.refl w.heap.size w).alloc (Nat.le_refl _) (.cells #[.int .i64 h.b, .int .i64 h.r, .int .i64 h.t] 24)
  have hx1 := BoxH.new w h
  obtain ⟨W1, hW1⟩ : ∃ W1, W1 = w.alloc (.cells #[.int .i64 h.b, .int .i64 h.r, .int .i64 h.t] 24) := ⟨_, rfl⟩
  rw [← hW1] at hb1 hx1
  have HW := Lib.hid hW1
  have HB := Lib.hid hb1
  have y0 := hx1.c0
  have y1 := hx1.c1
  have y2 := hx1.c2
  have HX := Lib.hid fun (w' : World) (hs : Below W1.heap.size W1 w') => hx1.keep hs
  clear hW1 hb1 hx1
  obtain ⟨T, hTT⟩ : ∃ T : Nat, T = h.t.toNat := ⟨_, rfl⟩
  have hT : h.t = (T : Int) := by omega
  rw [← hTT]
  have hgt : decide ((k : Int) > (j : Int)) = true := decide_eq_true (by omega)
  have hgt2 : decide ((j : Int) < (k : Int)) = true := hgt
  have nt : ¬ h.t = 0 := by omega
  have t1 : (k : Int).tdiv h.t = ((k / T : Nat) : Int) := by rw [hT, Int.tdiv_eq_ediv_of_nonneg (by omega)]; exact (Int.natCast_ediv k T).symm
  have t2 : (j : Int).tdiv h.t = ((j / T : Nat) : Int) := by rw [hT, Int.tdiv_eq_ediv_of_nonneg (by omega)]; exact (Int.natCast_ediv j T).symm
  have b1 : k / T ≤ 40 := Nat.le_trans (Nat.div_le_self _ _) h2
  have b2 : j / T ≤ 40 := Nat.le_trans (Nat.div_le_self _ _) (by omega)
  obtain ⟨qa, hqa⟩ : ∃ qa, qa = k / T := ⟨_, rfl⟩
  obtain ⟨qb, hqb⟩ : ∃ qb, qb = j / T := ⟨_, rfl⟩
  rw [← hqa] at t1 b1 ⊢
  rw [← hqb] at t2 b2 ⊢
  clear hqa hqb
  have hq : ((qa : Int) == (qb : Int)) = decide (qa = qb) := by
    by_cases e : qa = qb
    · rw [e, decide_eq_true rfl]; simp
    · rw [decide_eq_false e]
      have : (qa : Int) ≠ (qb : Int) := fun h => e (Int.ofNat.inj h)
      simpa using this
  obtain ⟨a, ha⟩ : ∃ a : Int, a = (qa : Int) := ⟨_, rfl⟩
  obtain ⟨b, hb⟩ : ∃ b : Int, b = (qb : Int) := ⟨_, rfl⟩
  rw [← ha] at t1 hq
  rw [← hb] at t2 hq
  have z1 : IntKind.i64.wrap a = a := IntWalk.i64_in _ (by omega)
  have z2 : IntKind.i64.wrap b = b := IntWalk.i64_in _ (by omega)
  generalize decide (qa = qb) = r at hq ⊢
  have HK := Lib.hid fun (w' : World) (hs : Since W1 w') => (show w'.cell? ⟨w.heap.size, 2, none⟩ = some (.int .i64 h.t) ∧ Since W1 w' from ⟨(HX.out w' hs).c2, hs⟩)
  have hstart := HK.out _ (show Since W1 W1.drew from (Below.refl _ _).drew)
  clear ha hb b1 b2 hT hTT hk h2 g1 g2 g3 g4 g5 g6 HX
  go_enter Try.func46, Try.ntmps46
  go_wp2_with fail
  rw [← HW.out]
  go_wp2_with fail
  go_region_held3 (fun w' => w'.cell? ⟨w.heap.size, 2, none⟩ = some (.int .i64 h.t) ∧ Since W1 w')
    (first | exact hstart | fail)
    (fail)
  rename_i hheld
  have C9 := HB.out.trans (Below.mono hheld.2 HB.out.size)
  clear hheld hstart
  go_wp2_with fail
  go_ret
  exact ⟨rfl, C9⟩

set_option maxRecDepth 10000 in
set_option maxHeartbeats 8000000 in
theorem specOverstows_any (h : Hl) (u v : Value) (l : List Bx) (p : List Int) (w : World) (hb : HoldsBx w u l) (hp : HoldsI w v p) :
    Calls Try.prog 13 #[.agg #[.int .i64 h.b, .int .i64 h.r, .int .i64 h.t], u, v] w fun e w' => e = .returned (.int .i64 (overO h l p)) ∧ Below w.heap.size w w' := by
  have hb1 := (Below.refl w.heap.size w).alloc (Nat.le_refl _) (.cells #[.int .i64 h.b, .int .i64 h.r, .int .i64 h.t] 24)
  have hx1 := BoxH.new w h
  obtain ⟨W1, hW1⟩ : ∃ W1, W1 = w.alloc (.cells #[.int .i64 h.b, .int .i64 h.r, .int .i64 h.t] 24) := ⟨_, rfl⟩
  rw [← hW1] at hb1 hx1
  have HW := Lib.hid hW1
  have HB := Lib.hid hb1
  have y0 := hx1.c0
  have y1 := hx1.c1
  have y2 := hx1.c2
  have HX := Lib.hid fun (w' : World) (hs : Below W1.heap.size W1 w') => hx1.keep hs
  clear hW1 hb1 hx1
  have HPV := Lib.hid fun (w' : World) (hs : Below w.heap.size w w') => specPlanValid_any h u v l p w' (hb.keep hs) (hp.keep hs)
  have PK := Lib.hid fun (w' : World) (hs : Below w.heap.size w w') => hp.keep hs
  cases hok : plOk h (bxsOk l) (bxIds l) p
  · have HE := Lib.hid (show overO h l p = -1 from by unfold overO; rw [hok]; rfl)
    rw [hok] at HPV
    clear hok hb hp
    go_enter Try.func13, Try.ntmps13
    go_wp2_with fail
    rw [← HW.out]
    go_wp2_with fail
    refine (HPV.out _ HB.out).mono ?_
    rintro e w2 ⟨rfl, b2⟩
    go_wp2_with fail
    go_ret
    exact ⟨by rw [HE.out]; rfl, HB.out.trans (b2.mono HB.out.size)⟩
  · have hlen := pl_len hok
    obtain ⟨T, hT⟩ : ∃ T : Nat, T = h.t.toNat := ⟨_, rfl⟩
    have HAB := Lib.hid fun k j (h1 : j < k) (h2 : k < p.length) (w' : World) => specAbove_any h k j w' (plOk_iff.1 hok).1 h1 (by omega)
    have HPT := Lib.hid fun k (hl : k < p.length) (hz : pAt p k ≠ 0) (w' : World) (hs : Below w.heap.size w w') => specPort_any u v l p k w' (hb.keep hs) (hp.keep hs) hl (pl_find hok hl hz)
    rw [← hT] at HAB
    have HE := Lib.hid (show overO h l p = (cnt (overS T (ptB l) p) p.length : Int) from by unfold overO; rw [if_pos hok, hT])
    rw [hok] at HPV
    generalize ptB l = f at HPT HE
    obtain ⟨pa, pc, rfl⟩ := hp.form
    obtain ⟨n, hn⟩ : ∃ n, n = p.length := ⟨_, rfl⟩
    have HCN := Lib.hid fun k => cnt_next (overS T f p) k
    have HCL := Lib.hid fun k => cnt_le (overS T f p) k
    rw [← hn] at HPV PK HPT HAB HE hlen ⊢
    clear hok hb hp hn hT
    go_enter Try.func13, Try.ntmps13
    go_wp2_with fail
    rw [← HW.out]
    go_wp2_with fail
    refine (HPV.out _ HB.out).mono ?_
    rintro e w2 ⟨rfl, b2⟩
    have D2 := Lib.hid b2
    clear b2 y0 y1 y2 HPV
    go_wp2_with fail
    go_loopw [7, 8] (fun sm i wr => ∃ k : Nat, k ≤ n ∧ sm = .int .i64 (cnt (overS T f p) k : Int) ∧ i = .int .i64 k ∧ Hid (Below W1.heap.size W1 wr)) (fun _ i _ => n - (intOf i).toNat)
    case atStart => exact ⟨0, by omega, rfl, rfl, D2⟩
    case round =>
      clear D2
      obtain ⟨wo, rfl⟩ : ∃ wo : World, wo = wr := ⟨_, rfl⟩
      obtain ⟨k, hkn, rfl, rfl, DO⟩ := hrel
      have EO := Lib.hid (HB.out.trans (DO.out.mono HB.out.size))
      by_cases hlt : k < n
      · obtain ⟨pb, po, rfl, hpbl, s0'⟩ := (PK.out wo EO.out).at_ hlt
        have hpK : pb < wo.heap.size := hpbl
        have e0 : p.getD k 0 = pAt p k := rfl
        rw [e0] at s0'
        have ik : (k : Int) < (n : Int) := by omega
        have i0k : (0 : Int) ≤ (k : Int) := by omega
        have hnc := HCN.out k
        have hcl := HCL.out k
        clear e0
        by_cases hz : pAt p k = 0
        · have hov := overS_zero (T := T) (f := f) hz
          rw [hov, if_neg (by simp)] at hnc
          have hsc' := Lib.hid hnc
          rw [hz] at s0'
          clear hnc hov
          go_wp2_with fail
          go_loopw [9, 10] (fun fl jv w2 => fl = .bool false ∧ jv = .int .i64 0 ∧ Hid (Below wo.heap.size wo w2)) (fun _ _ _ => 0)
          case atStart => exact ⟨rfl, rfl, Lib.hid (Below.refl _ _)⟩
          case round =>
            obtain ⟨rfl, rfl, DJ⟩ := hrel
            have s0 := (Below.cell DJ.out (p := ⟨pb, po + k, none⟩) hpK).trans s0'
            rcases Nat.eq_zero_or_pos k with hk0 | hk0
            · subst hk0
              have ij' : decide ((0 : Int) < (((0 : Nat) : Nat) : Int)) = false := rfl
              go_wp2_with fail
              go_roundw
              case rel => exact ⟨0 + 1, by omega, by rw [hsc'.out]; rfl, by go_num, Lib.hid (DO.out.trans (DJ.out.mono DO.out.size))⟩
              case measure => simp [intOf]; omega
            · have ij' : decide ((0 : Int) < (k : Int)) = true := decide_eq_true (by omega)
              go_wp2_with fail
              go_roundw
              case rel => exact ⟨k + 1, by omega, by rw [hsc'.out]; rfl, by go_num, Lib.hid (DO.out.trans (DJ.out.mono DO.out.size))⟩
              case measure => simp [intOf]; omega
        · have hov := overS_any (T := T) (f := f) hz
          have hdz : (pAt p k != 0) = true := by simpa using hz
          go_wp2_with fail
          go_loopw [9, 10] (fun fl jv w2 => ∃ (b : Bool) (j : Nat), j ≤ k ∧ b = anyN (ovG T f p k) j ∧ fl = .bool b ∧ jv = .int .i64 j ∧ Hid (Below wo.heap.size wo w2)) (fun _ jv _ => k - (intOf jv).toNat)
          case atStart => exact ⟨_, 0, by omega, rfl, rfl, rfl, Lib.hid (Below.refl _ _)⟩
          case round =>
            obtain ⟨b, j, hjk, hb, rfl, rfl, DJ⟩ := hrel
            have EJ := EO.out.trans (DJ.out.mono (by have := EO.out.size; omega))
            have s0 := (Below.cell DJ.out (p := ⟨pb, po + k, none⟩) hpK).trans s0'
            have yj := HX.out wr (DO.out.trans (DJ.out.mono DO.out.size))
            have c0' := yj.c0
            have c1' := yj.c1
            have c2' := yj.c2
            by_cases hjlt : j < k
            · have ij : (j : Int) < (k : Int) := by omega
              have ij' : decide ((j : Int) < (k : Int)) = true := decide_eq_true ij
              have i0j : (0 : Int) ≤ (j : Int) := by omega
              have hjl : j < n := by omega
              have ijn : (j : Int) < (n : Int) := by omega
              have hnx := anyN_next (ovG T f p k) j
              cases b
              · have hbj : (ovG T f p k) j = true → anyN (ovG T f p k) (j + 1) = true := fun hg => by rw [hnx, hg]; simp
                have hbn : (ovG T f p k) j = false → anyN (ovG T f p k) (j + 1) = false := fun hg => by rw [hnx, hg, Bool.or_false]; exact hb.symm
                obtain ⟨pb', po', e', _, t0⟩ := (PK.out wr EJ).at_ hjl
                simp only [Option.some.injEq, Addr.mk.injEq, and_true] at e'
                obtain ⟨rfl, rfl⟩ := e'
                have e1 : p.getD j 0 = pAt p j := rfl
                rw [e1] at t0
                by_cases hzj : pAt p j = 0
                · have hgf : (ovG T f p k) j = false := decide_eq_false fun hc => hc.1 hzj
                  have hv := hbn hgf
                  rw [hzj] at t0
                  clear hbj hbn hnx hb hgf e1
                  go_wp2_with fail
                  go_roundw
                  case rel => exact ⟨_, j + 1, by omega, hv.symm, rfl, by go_num, DJ⟩
                  case measure => simp [intOf]; omega
                · have hdzj : (pAt p j != 0) = true := by simpa using hzj
                  have HA := Lib.hid (HAB.out k j hjlt hlt wr)
                  cases hrw : decide (k / T = j / T)
                  · have hgf : (ovG T f p k) j = false := decide_eq_false fun hc => (of_decide_eq_false hrw) hc.2.1
                    have hv := hbn hgf
                    rw [hrw] at HA
                    obtain ⟨xj, hxj⟩ : ∃ xj, xj = pAt p j := ⟨_, rfl⟩
                    rw [← hxj] at t0 hdzj
                    clear hbj hbn hnx hb hgf e1 hrw hxj
                    go_wp2_with fail
                    refine HA.out.mono ?_
                    rintro e w5 ⟨rfl, b5⟩
                    have D5 := Lib.hid (DJ.out.trans (b5.mono (by have := EJ.size; have := DJ.out.size; omega)))
                    clear b5
                    go_wp2_with fail
                    go_roundw
                    case rel => exact ⟨_, j + 1, by omega, hv.symm, rfl, by go_num, D5⟩
                    case measure => simp [intOf]; omega
                  · have hgv : (ovG T f p k) j = decide (f (pAt p j) < f (pAt p k)) := by
                      have hrwt := of_decide_eq_true hrw
                      unfold ovG; exact decide_eq_decide.2 ⟨fun hc => hc.2.2, fun hc => ⟨hzj, hrwt, hc⟩⟩
                    have hv : decide (f (pAt p j) < f (pAt p k)) = anyN (ovG T f p k) (j + 1) := by
                      rw [← hgv]
                      cases hgc : (ovG T f p k) j
                      · exact (hbn hgc).symm
                      · exact (hbj hgc).symm
                    rw [hrw] at HA
                    obtain ⟨xj, hxj⟩ : ∃ xj, xj = pAt p j := ⟨_, rfl⟩
                    have t0x := t0
                    have hdx := hdzj
                    rw [← hxj] at t0x hdx
                    have HV9 := Lib.hid hv
                    clear hbj hbn hnx hb hgv e1 hrw t0 hdzj hv
                    have HXJ := Lib.hid hxj
                    clear hxj
                    go_wp2_with fail
                    refine HA.out.mono ?_
                    rintro e w5 ⟨rfl, b5⟩
                    have E5 := EJ.trans (b5.mono EJ.size)
                    have D5 := Lib.hid (DJ.out.trans (b5.mono (by have := EJ.size; have := DJ.out.size; omega)))
                    clear b5
                    go_wp2_with fail
                    refine (HPT.out j hjl hzj w5 E5).mono ?_
                    rintro e w6 ⟨rfl, rfl⟩
                    go_wp2_with fail
                    refine (HPT.out k hlt hz w5 E5).mono ?_
                    rintro e w6 ⟨rfl, rfl⟩
                    go_wp2_with fail
                    go_roundw
                    case rel => exact ⟨_, j + 1, by omega, HV9.out, rfl, by go_num, D5⟩
                    case measure => simp [intOf]; omega
              · have hv : anyN (ovG T f p k) (j + 1) = true := by rw [hnx, ← hb]; rfl
                clear hnx hb
                go_wp2_with fail
                go_roundw
                case rel => exact ⟨_, j + 1, by omega, hv.symm, rfl, by go_num, DJ⟩
                case measure => simp [intOf]; omega
            · obtain rfl : j = k := by omega
              have ij' : decide ((j : Int) < (j : Int)) = false := decide_eq_false (by omega)
              have hfin := hb
              clear hb
              cases b
              · have hsc := hnc
                rw [hov, ← hfin, if_neg (by simp)] at hsc
                have hsc' := Lib.hid hsc
                clear hsc hnc hov hfin
                go_wp2_with fail
                go_roundw
                case rel => exact ⟨j + 1, by omega, by rw [hsc'.out]; rfl, by go_num, Lib.hid (DO.out.trans (DJ.out.mono DO.out.size))⟩
                case measure => simp [intOf]; omega
              · have hsc := hnc
                rw [hov, ← hfin, if_pos rfl] at hsc
                have hsc' := Lib.hid hsc
                have zc : IntKind.i64.wrap ((cnt (overS T f p) j : Int) + 1) = ((cnt (overS T f p) j + 1 : Nat) : Int) := by rw [IntWalk.i64_in _ (by omega)]; omega
                clear hsc hnc hov hfin
                go_wp2_with fail
                go_roundw
                case rel => exact ⟨j + 1, by omega, by rw [hsc'.out]; first | rfl | go_num, by go_num, Lib.hid (DO.out.trans (DJ.out.mono DO.out.size))⟩
                case measure => simp [intOf]; omega
      · obtain rfl : k = n := by omega
        have C9 := EO.out
        go_wp2_with fail
        go_ret
        exact ⟨by rw [HE.out]; rfl, C9⟩

end Go.Proofs.Ytmgnbkiphdlooaa
