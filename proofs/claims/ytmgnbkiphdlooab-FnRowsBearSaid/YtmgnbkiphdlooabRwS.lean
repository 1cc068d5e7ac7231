/-
  The model's chapter 13, first part: RowWeights, RowsBear, OnLighter.
-/
import Derived.Test.YtmgnbkiphdlooabRwMath2
import Derived.Test.YtmgnbkiphdlooabWtS
import Derived.Test.YtmgnbkiphdlooabGPl
import Derived.Test.YtmgnbkiphdlooabPlC
import Derived.Test.YtmgnbkiphdlooabGBase
import Derived.Test.YtmgnbkiphdlooabGSl
import Derived.Laws.AppendOwnNone
import Derived.BigQuiet
import Derived.Deep.QuietTactic
namespace Go.Proofs.Ytmgnbkiphdlooab
open Go.RowKit
set_option linter.unusedVariables false

set_option maxRecDepth 10000 in
set_option maxHeartbeats 8000000 in
theorem specRowWeights_any (h : Hl) (u v : Value) (l : List Bx) (p : List Int) (w : World) (hb : HoldsBx w u l) (hp : HoldsI w v p) :
    Calls Try.prog 14 #[.agg #[.int .i64 h.b, .int .i64 h.r, .int .i64 h.t], u, v] w fun e w' => ∃ v', e = .returned v' ∧ OwnI w.heap.size w' v' (rowO h l p) ∧ Below w.heap.size w w' := by
  have hb1 := (Below.refl w.heap.size w).alloc (Nat.le_refl _) (.cells #[.int .i64 h.b, .int .i64 h.r, .int .i64 h.t] 24)
  have hx1 := BoxH.new w h
  obtain ⟨W1, hW1⟩ : ∃ W1, W1 = w.alloc (.cells #[.int .i64 h.b, .int .i64 h.r, .int .i64 h.t] 24) := ⟨_, rfl⟩
  rw [← hW1] at hb1 hx1
  have HW := Lib.hid hW1
  have HB := Lib.hid hb1
  have y0 := hx1.c0
  have y1 := hx1.c1
  have y2 := hx1.c2
  have HX := Lib.hid fun (w' : World) (hs : Below W1.heap.size W1 w') => hx1.keep hs
  have hs1 : W1.heap.size = w.heap.size + 1 := by rw [hW1]; simp
  clear hW1 hb1 hx1
  have PK := Lib.hid fun (w' : World) (hs : Below w.heap.size w w') => hp.keep hs
  have HPV := Lib.hid fun (w' : World) (hs : Below w.heap.size w w') => specPlanValid_any h u v l p w' (hb.keep hs) (hp.keep hs)
  obtain ⟨i0, hi, hz0, hz1, hz2⟩ := info_parts infoInt
  have HI := Lib.hid hi
  have HZ0 := Lib.hid hz0
  have HZ1 := Lib.hid hz1
  have HZ2 := Lib.hid hz2
  clear hi hz0 hz1 hz2
  have hb2 : Below W1.heap.size W1 (W1.alloc (.cells #[] 3)) := (Below.refl _ _).alloc (Nat.le_refl _) _
  have hO2 : OwnI W1.heap.size (W1.alloc (.cells #[] 3)) (.slice (some ⟨W1.heap.size, 0, none⟩) 0 0) [] := OwnI.zero (Nat.le_refl _)
  have hx2 := HX.out _ hb2
  obtain ⟨W2, hW2⟩ : ∃ W2, W2 = W1.alloc (.cells #[] 3) := ⟨_, rfl⟩
  rw [← hW2] at hb2 hO2 hx2
  have HW2 := Lib.hid hW2
  have z0 := hx2.c0
  have z1 := hx2.c1
  have z2 := hx2.c2
  have HB2 := Lib.hid (HB.out.trans (hb2.mono HB.out.size))
  rw [hs1] at hb2 hO2 HX
  have HO2 := Lib.hid hO2
  have HD2 := Lib.hid hb2
  clear hW2 hb2 hO2 hx2 y0 y1 y2
  cases hok : plOk h (bxsOk l) (bxIds l) p
  · have HE := Lib.hid (show rowO h l p = [] from by unfold rowO; rw [hok]; rfl)
    rw [hok] at HPV
    clear hok hb hp
    go_enter Try.func14, Try.ntmps14
    go_wp2_with fail
    rw [← HW.out, ← HW2.out]
    go_wp2_with fail
    refine (HPV.out _ HB2.out).mono ?_
    rintro e w3 ⟨rfl, b3⟩
    go_wp2_with fail
    go_ret
    exact ⟨_, rfl, by rw [HE.out]; exact (HO2.out.from_ (by omega)).keep b3, HB2.out.trans (b3.mono HB2.out.size)⟩
  · obtain ⟨R, q1, q2, q3⟩ := rows_pl hok
    obtain ⟨T, hTe⟩ : ∃ T : Nat, T = h.t.toNat := ⟨_, rfl⟩
    rw [← hTe] at q1 q2 q3
    have hlen := pl_len hok
    have hR : rowsMany h p = R := by unfold rowsMany; rw [← hTe, q3, Nat.mul_div_cancel _ q2]
    have hTT : h.t = (T : Int) := q1.symm
    have hT3 : T ≤ 3 := hull_t3 hok q1
    have HW8 := Lib.hid fun k (hl : k < p.length) (w' : World) (hs : Below w.heap.size w w') => specWeight_any u v l p k w' (hb.keep hs) (hp.keep hs) hl (fun hz => pl_find hok hl hz)
    have HE := Lib.hid (show rowO h l p = rowsW l T p R from by unfold rowO; rw [if_pos hok, hR, ← hTe])
    have HWB := Lib.hid fun k (hl : k < p.length) => wBx_bd hok hl
    have HBD := Lib.hid fun r (hr : r * T + T ≤ p.length) t ht => rowN_bd hok hr t ht
    have HNX := Lib.hid fun r => rowsW_next l T p r
    have HRL := Lib.hid fun r => rowsW_len l T p r
    have HRN := Lib.hid fun r t => (show rowN l T p r (t + 1) = rowN l T p r t + wBx l (pAt p (r * T + t)) from rfl)
    rw [hok] at HPV
    obtain ⟨pa, pc, rfl⟩ := hp.form
    obtain ⟨n, hn⟩ : ∃ n, n = p.length := ⟨_, rfl⟩
    rw [← hn] at HPV PK HW8 HWB HBD q3 hlen ⊢
    have hz0 : rowsW l T p 0 = [] := rfl
    have HTT := Lib.hid hTT
    have HQ3 := Lib.hid q3
    have hR36 : R ≤ 36 := by
      have h1 : R * 1 ≤ R * T := Nat.mul_le_mul_left R q2
      omega
    clear hok hb hp hn hTe hTT q1 q3 hR
    go_enter Try.func14, Try.ntmps14
    go_wp2_with fail
    rw [← HW.out, ← HW2.out]
    go_wp2_with fail
    refine (HPV.out _ HB2.out).mono ?_
    rintro e w3 ⟨rfl, b3⟩
    have HO3 := Lib.hid (HO2.out.keep b3)
    have HD3 := Lib.hid (HD2.out.trans (b3.mono (by have := HD2.out.size; omega)))
    clear b3 HPV HO2 HD2 z0 z1 z2
    go_wp2_with fail
    go_loopw [7, 8] (fun va i wr => ∃ (r ro : Nat), r ≤ R ∧ Hid (ro = r * T) ∧ i = .int .i64 (ro : Int) ∧ Hid (OwnI (w.heap.size + 1) wr va (rowsW l T p r)) ∧ Hid (Below (w.heap.size + 1) W1 wr)) (fun _ i _ => n - (intOf i).toNat)
    case atStart => exact ⟨0, 0, by omega, Lib.hid (by omega), rfl, by rw [hz0]; exact HO3, HD3⟩
    case round =>
      clear HO3 HD3 hz0
      obtain ⟨wo, rfl⟩ : ∃ wo : World, wo = wr := ⟨_, rfl⟩
      obtain ⟨r, ro, hrR, HRO, rfl, HO, DO⟩ := hrel
      by_cases hlt : r < R
      · have hron : ro + T ≤ n := by
          have h1 := HRO.out
          have h2 := HQ3.out
          have h3 : (r + 1) * T ≤ R * T := Nat.mul_le_mul_right T hlt
          rw [Nat.succ_mul] at h3
          omega
        have iro : (ro : Int) < (n : Int) := by omega
        have hz1 : rowN l T p r 0 = 0 := rfl
        have HBDr := Lib.hid fun t ht => HBD.out r (by have := HRO.out; omega) t ht
        go_wp2_with fail
        go_loopw [9, 10] (fun sm kv w2 => ∃ (t kk : Nat), t ≤ T ∧ Hid (kk = ro + t) ∧ sm = .int .i64 (rowN l T p r t) ∧ kv = .int .i64 (kk : Int) ∧ Hid (Below wo.heap.size wo w2)) (fun _ kv _ => ro + T - (intOf kv).toNat)
        case atStart => exact ⟨0, ro, by omega, Lib.hid rfl, by rw [hz1], rfl, Lib.hid (Below.refl _ _)⟩
        case round =>
          clear hz1
          obtain ⟨t, kk, htT, HKK, rfl, rfl, DI⟩ := hrel
          have D2 := Lib.hid (DO.out.trans (DI.out.mono (by have := DO.out.size; omega)))
          have E2 := Lib.hid (HB.out.trans (D2.out.mono (by omega)))
          have y2 := (HX.out wr D2.out).c2
          rw [HTT.out] at y2
          obtain ⟨e, he⟩ : ∃ e : Nat, e = ro + T := ⟨_, rfl⟩
          have zt : IntKind.i64.wrap ((ro : Int) + (T : Int)) = (e : Int) := by rw [IntWalk.i64_in _ (by omega)]; omega
          have HEE := Lib.hid he
          by_cases htl : t < T
          · have hkn : kk < n := by have := HKK.out; omega
            have ike : (kk : Int) < (e : Int) := by have := HKK.out; omega
            have hb1 := HBDr.out (t + 1) (by omega)
            have hwb := HWB.out kk hkn
            have hrn := HRN.out r t
            have hkr : r * T + t = kk := by have := HRO.out; have := HKK.out; omega
            rw [hkr] at hrn
            have HWk := Lib.hid (HW8.out kk hkn wr E2.out)
            have hsum : IntKind.i64.wrap (rowN l T p r t + wBx l (pAt p kk)) = rowN l T p r (t + 1) := by rw [hrn, IntWalk.i64_in _ (by omega)]
            have zk : IntKind.i64.wrap ((kk : Int) + 1) = (kk : Int) + 1 := IntWalk.i64_in _ (by omega)
            generalize wBx l (pAt p kk) = b at HWk hsum
            generalize rowN l T p r t = a at hsum ⊢
            have HSM := Lib.hid hsum
            clear hb1 hwb hrn hkr he
            go_wp2_with fail
            refine HWk.out.mono ?_
            rintro e' w' ⟨rfl, rfl⟩
            go_wp2_with fail
            go_roundw
            case rel => exact ⟨t + 1, kk + 1, by omega, Lib.hid (by have := HKK.out; omega), (by first | rfl | rw [HSM.out]), by go_num, DI⟩
            case measure => have := HKK.out; have := HEE.out; simp [intOf]; omega
          · obtain rfl : t = T := by omega
            have ike : ¬ kk < e := by have := HKK.out; omega
            have hb1 := HBDr.out t (Nat.le_refl _)
            have HNr := Lib.hid (HNX.out r)
            have hrl := Nat.le_of_eq (HRL.out r)
            have HOW := Lib.hid (HO.out.keep DI.out)
            obtain ⟨Ls, hLs⟩ : ∃ Ls, Ls = rowsW l t p r := ⟨_, rfl⟩
            obtain ⟨x, hx⟩ : ∃ x, x = rowN l t p r t := ⟨_, rfl⟩
            rw [← hLs, ← hx] at HNr
            rw [← hLs] at HOW hrl
            rw [← hx] at hb1 ⊢
            have hsz2 : w.heap.size + 1 ≤ wr.heap.size := by have := D2.out.size; omega
            clear he hLs hx HO
            go_wp2_with (at_builtin; refine wpList_append_own _ rfl _ _ 26 rfl (w.heap.size + 1) 3 i0 (.int .i64 0) 1 8 Try.underlying26 HI.out HZ0.out HZ1.out HZ2.out rfl (by decide) _ (Ls).length (rowI (Ls)) rfl (HOW.out.alloc _) ⟨wr.heap.size, 0, none⟩ 1 1 [.int .i64 x] rfl rfl (fun j u hu => cells_new j u hu) (by simp [Value.oneCell']) (by unfold maxLen; omega) (by omega) (by have := hsz2; simp; omega) ?_; intro v5 w5 hown5 hgrow _; have hb5 : Below (w.heap.size + 1) wr w5 := (((Below.refl _ _).alloc (by have := hsz2; omega) _).trans (own_below hgrow (by have := hsz2; simp; omega) (fun k' hk' => (own_lt HOW.out k' hk').1))); have hO5 : OwnI (w.heap.size + 1) w5 v5 (Ls ++ [x]) := (own_put hown5); clear hgrow hown5; have y6 := (HX.out w5 (D2.out.trans hb5)).c2; rw [HTT.out] at y6; clear y2)
            have D5 := Lib.hid (D2.out.trans hb5)
            rw [← HNr.out] at hO5
            have HO5 := Lib.hid hO5
            clear hb5 hO5 DO
            go_roundw
            case rel => exact ⟨r + 1, e, by omega, Lib.hid (by have := HRO.out; have := HEE.out; rw [Nat.succ_mul]; omega), rfl, HO5, D5⟩
            case measure => have := HEE.out; simp [intOf]; omega
      · obtain rfl : r = R := by omega
        have iro : ¬ ro < n := by have h1 := HRO.out; have h2 := HQ3.out; omega
        have C9 := HB.out.trans (DO.out.mono (by omega))
        have O9 := HO.out.from_ (show w.heap.size ≤ w.heap.size + 1 by omega)
        go_wp2_with fail
        go_ret
        exact ⟨_, rfl, by rw [HE.out]; exact O9, C9⟩

set_option maxRecDepth 10000 in
set_option maxHeartbeats 2000000 in
theorem specRowsBear_any (h : Hl) (u v : Value) (l : List Bx) (p : List Int) (most : Int) (w : World) (hb : HoldsBx w u l) (hp : HoldsI w v p) :
    Calls Try.prog 19 #[.agg #[.int .i64 h.b, .int .i64 h.r, .int .i64 h.t], u, v, .int .i64 most] w fun e w' => e = .returned (.bool (bearO h l p most)) ∧ Below w.heap.size w w' := by
  have hb1 := (Below.refl w.heap.size w).alloc (Nat.le_refl _) (.cells #[.int .i64 h.b, .int .i64 h.r, .int .i64 h.t] 24)
  have hx1 := BoxH.new w h
  obtain ⟨W1, hW1⟩ : ∃ W1, W1 = w.alloc (.cells #[.int .i64 h.b, .int .i64 h.r, .int .i64 h.t] 24) := ⟨_, rfl⟩
  rw [← hW1] at hb1 hx1
  have HW := Lib.hid hW1
  have HB := Lib.hid hb1
  have y0 := hx1.c0
  have y1 := hx1.c1
  have y2 := hx1.c2
  have HX := Lib.hid fun (w' : World) (hs : Below W1.heap.size W1 w') => hx1.keep hs
  clear hW1 hb1 hx1
  have PK := Lib.hid fun (w' : World) (hs : Below w.heap.size w w') => hp.keep hs
  have HRW := Lib.hid fun (w' : World) (hs : Below w.heap.size w w') => specRowWeights_any h u v l p w' (hb.keep hs) (hp.keep hs)
  cases hok : plOk h (bxsOk l) (bxIds l) p
  · have HE := Lib.hid (show bearO h l p most = false from decide_eq_false (fun hc => by rw [hok] at hc; cases hc.1))
    have e0 : rowO h l p = [] := by unfold rowO; rw [hok]; rfl
    rw [e0] at HRW
    clear hok hb hp e0 PK
    go_enter Try.func19, Try.ntmps19
    go_wp2_with fail
    rw [← HW.out]
    go_wp2_with fail
    refine (HRW.out _ HB.out).mono ?_
    rintro e w2 ⟨v2, rfl, O2, b2⟩
    obtain ⟨a2, c2, rfl⟩ := O2.holds.form
    have C9 := HB.out.trans (b2.mono HB.out.size)
    clear O2 b2
    go_wp2_with fail
    go_loopw [10] (fun i wr => i = .int .i64 0 ∧ wr = w2) (fun _ _ => 0)
    case atStart => exact ⟨rfl, rfl⟩
    case round =>
      obtain ⟨rfl, rfl⟩ := hrel
      go_wp2_with fail
      go_ret
      exact ⟨by rw [HE.out]; rfl, C9⟩
  · have e0 : rowO h l p = rowsW l h.t.toNat p (rowsMany h p) := by unfold rowO; rw [if_pos hok]
    have HBAD := Lib.hid fun r (hr : r < rowsMany h p) (hc : ¬ rowN l h.t.toNat p r h.t.toNat ≤ most) => (show bearO h l p most = false from decide_eq_false (fun h9 => hc (h9.2 r hr)))
    have HEND := Lib.hid fun (ha : ∀ r, r < rowsMany h p → rowN l h.t.toNat p r h.t.toNat ≤ most) => (show bearO h l p most = true from decide_eq_true ⟨hok, ha⟩)
    have HAT := Lib.hid fun r (hr : r < rowsMany h p) => rowsW_at (l := l) (T := h.t.toNat) (p := p) hr
    have hRL := rowsW_len l h.t.toNat p (rowsMany h p)
    have hpos : 0 < rowsMany h p ∧ rowsMany h p ≤ 36 := by
      obtain ⟨R, q1, q2, q3⟩ := rows_pl hok
      have hl := pl_len hok
      have hR : rowsMany h p = R := by unfold rowsMany; rw [q3, Nat.mul_div_cancel _ q2]
      have h1 : R * 1 ≤ R * h.t.toNat := Nat.mul_le_mul_left R q2
      rw [hR]
      rcases Nat.eq_zero_or_pos R with h0 | h0
      · subst h0; omega
      · omega
    rw [e0] at HRW
    obtain ⟨Ls, hLs⟩ : ∃ Ls, Ls = rowsW l h.t.toNat p (rowsMany h p) := ⟨_, rfl⟩
    rw [← hLs] at HRW HAT hRL
    obtain ⟨N, hN⟩ : ∃ N, N = rowsMany h p := ⟨_, rfl⟩
    rw [← hN] at HBAD HEND HAT hRL hpos
    generalize (fun r => rowN l h.t.toNat p r h.t.toNat) = g at *
    obtain ⟨g, hg⟩ : ∃ g : Nat → Int, ∀ r, g r = rowN l h.t.toNat p r h.t.toNat := ⟨_, fun _ => rfl⟩
    have HB2 := Lib.hid fun r (hr : r < N) (hc : ¬ g r ≤ most) => HBAD.out r hr (by rw [← hg]; exact hc)
    have HE2 := Lib.hid fun (ha : ∀ r, r < N → g r ≤ most) => HEND.out (fun r hr => by rw [← hg]; exact ha r hr)
    have HA2 := Lib.hid fun r (hr : r < N) => (HAT.out r hr).trans (hg r).symm
    obtain ⟨res, hres⟩ : ∃ res, res = bearO h l p most := ⟨_, rfl⟩
    rw [← hres] at HB2 HE2 ⊢
    clear hok hb hp e0 PK HBAD HEND HAT hLs hN hres hg
    go_enter Try.func19, Try.ntmps19
    go_wp2_with fail
    rw [← HW.out]
    go_wp2_with fail
    refine (HRW.out _ HB.out).mono ?_
    rintro e w2 ⟨v2, rfl, O2, b2⟩
    have hh := O2.holds
    obtain ⟨a2, c2, rfl⟩ := hh.form
    rw [hRL] at hh ⊢
    have HH := Lib.hid hh
    have C9 := Lib.hid (HB.out.trans (b2.mono HB.out.size))
    clear O2 b2 hh HRW y0 y1 y2
    go_wp2_with fail
    go_loopw [10] (fun i wr => ∃ k : Nat, k ≤ N ∧ i = .int .i64 k ∧ Hid (∀ r, r < k → g r ≤ most) ∧ wr = w2) (fun i _ => N - (intOf i).toNat)
    case atStart => exact ⟨0, by omega, rfl, Lib.hid (fun r hr => by omega), rfl⟩
    case round =>
      obtain ⟨k, hkN, rfl, HA, rfl⟩ := hrel
      by_cases hlt : k < N
      · obtain ⟨b, off, rfl, hbl, s0⟩ := HH.out.at_ hlt
        rw [HA2.out k hlt] at s0
        have ik : (k : Int) < (N : Int) := by omega
        have i0k : (0 : Int) ≤ (k : Int) := by omega
        have HBk := Lib.hid (HB2.out k hlt)
        obtain ⟨x, hx⟩ : ∃ x, x = g k := ⟨_, rfl⟩
        have HX9 := Lib.hid hx
        rw [← hx] at s0 HBk
        clear hx
        by_cases hgt : x ≤ most
        · have d1 : decide (x > most) = false := decide_eq_false (by omega)
          have d2 : decide (most < x) = false := d1
          go_wp2_with fail
          go_roundw
          case rel => exact ⟨k + 1, by omega, by go_num, Lib.hid fun r hr => by
            by_cases e : r = k
            · subst e; rw [← HX9.out]; exact hgt
            · exact HA.out r (by omega), by first | trivial | rfl⟩
          case measure => simp [intOf]; omega
        · have d1 : decide (x > most) = true := decide_eq_true (by omega)
          have d2 : decide (most < x) = true := d1
          have hr := HBk.out (by omega)
          have C8 := C9.out
          go_wp2_with fail
          go_ret
          exact ⟨by first | rfl | (rw [hr]; rfl), C8⟩
      · obtain rfl : k = N := by omega
        have hr := HE2.out HA.out
        have C8 := C9.out
        have ip : decide ((0 : Int) < (k : Int)) = true := decide_eq_true (by omega)
        have ip2 : decide ((k : Int) > 0) = true := ip
        go_wp2_with fail
        go_ret
        exact ⟨by first | rfl | (rw [hr]; rfl), C8⟩

set_option maxRecDepth 10000 in
set_option maxHeartbeats 8000000 in
theorem specOnLighter_any (h : Hl) (u v : Value) (l : List Bx) (p : List Int) (w : World) (hb : HoldsBx w u l) (hp : HoldsI w v p) :
    Calls Try.prog 23 #[.agg #[.int .i64 h.b, .int .i64 h.r, .int .i64 h.t], u, v] w fun e w' => ∃ v', e = .returned v' ∧ OwnI w.heap.size w' v' (lightO h l p) ∧ Below w.heap.size w w' := by
  have hb1 := (Below.refl w.heap.size w).alloc (Nat.le_refl _) (.cells #[.int .i64 h.b, .int .i64 h.r, .int .i64 h.t] 24)
  have hx1 := BoxH.new w h
  obtain ⟨W1, hW1⟩ : ∃ W1, W1 = w.alloc (.cells #[.int .i64 h.b, .int .i64 h.r, .int .i64 h.t] 24) := ⟨_, rfl⟩
  rw [← hW1] at hb1 hx1
  have HW := Lib.hid hW1
  have HB := Lib.hid hb1
  have y0 := hx1.c0
  have y1 := hx1.c1
  have y2 := hx1.c2
  have HX := Lib.hid fun (w' : World) (hs : Below W1.heap.size W1 w') => hx1.keep hs
  have hs1 : W1.heap.size = w.heap.size + 1 := by rw [hW1]; simp
  clear hW1 hb1 hx1
  have PK := Lib.hid fun (w' : World) (hs : Below w.heap.size w w') => hp.keep hs
  have HPV := Lib.hid fun (w' : World) (hs : Below w.heap.size w w') => specPlanValid_any h u v l p w' (hb.keep hs) (hp.keep hs)
  obtain ⟨i0, hi, hz0, hz1, hz2⟩ := info_parts infoInt
  have HI := Lib.hid hi
  have HZ0 := Lib.hid hz0
  have HZ1 := Lib.hid hz1
  have HZ2 := Lib.hid hz2
  clear hi hz0 hz1 hz2
  have hb2 : Below W1.heap.size W1 (W1.alloc (.cells #[] 3)) := (Below.refl _ _).alloc (Nat.le_refl _) _
  have hO2 : OwnI W1.heap.size (W1.alloc (.cells #[] 3)) (.slice (some ⟨W1.heap.size, 0, none⟩) 0 0) [] := OwnI.zero (Nat.le_refl _)
  have hx2 := HX.out _ hb2
  obtain ⟨W2, hW2⟩ : ∃ W2, W2 = W1.alloc (.cells #[] 3) := ⟨_, rfl⟩
  rw [← hW2] at hb2 hO2 hx2
  have HW2 := Lib.hid hW2
  have z0 := hx2.c0
  have z1 := hx2.c1
  have z2 := hx2.c2
  have HB2 := Lib.hid (HB.out.trans (hb2.mono HB.out.size))
  rw [hs1] at hb2 hO2 HX
  have HO2 := Lib.hid hO2
  have HD2 := Lib.hid hb2
  clear hW2 hb2 hO2 hx2 y0 y1 y2
  cases hok : plOk h (bxsOk l) (bxIds l) p
  · have HE := Lib.hid (show lightO h l p = [] from by unfold lightO; rw [hok]; rfl)
    rw [hok] at HPV
    clear hok hb hp
    go_enter Try.func23, Try.ntmps23
    go_wp2_with fail
    rw [← HW.out, ← HW2.out]
    go_wp2_with fail
    refine (HPV.out _ HB2.out).mono ?_
    rintro e w3 ⟨rfl, b3⟩
    go_wp2_with fail
    go_ret
    exact ⟨_, rfl, by rw [HE.out]; exact (HO2.out.from_ (by omega)).keep b3, HB2.out.trans (b3.mono HB2.out.size)⟩
  · obtain ⟨R, q1, q2, q3⟩ := rows_pl hok
    obtain ⟨T, hTe⟩ : ∃ T : Nat, T = h.t.toNat := ⟨_, rfl⟩
    rw [← hTe] at q1 q2 q3
    have hlen := pl_len hok
    have hR : rowsMany h p = R := by unfold rowsMany; rw [← hTe, q3, Nat.mul_div_cancel _ q2]
    have hTT : h.t = (T : Int) := q1.symm
    have hT3 : T ≤ 3 := hull_t3 hok q1
    have HW8 := Lib.hid fun k (hl : k < p.length) (w' : World) (hs : Below w.heap.size w w') => specWeight_any u v l p k w' (hb.keep hs) (hp.keep hs) hl (fun hz => pl_find hok hl hz)
    have HE := Lib.hid (show lightO h l p = filI (lightS T (wBx l) p) p.length from by unfold lightO filI; rw [if_pos hok, ← hTe])
    have HSB := Lib.hid fun (k : Nat) (w' : World) => specSlotBelow_any h (k : Int) w'
    have HSV := Lib.hid fun (k : Nat) (hl : k < p.length) => (show slBelow h (k : Int) = if (k : Int) % h.t = 0 then -1 else (k : Int) - 1 from slBelow_val (plOk_iff.1 hok).1 (by omega) (by have := (plOk_iff.1 hok).2.2.1; omega))
    have HFN := Lib.hid fun k => filI_next (lightS T (wBx l) p) k
    have HFL := Lib.hid fun k => filI_len (lightS T (wBx l) p) k
    have HLT := Lib.hid fun k => (show lightS T (wBx l) p k = decide (k % T ≠ 0 ∧ pAt p k ≠ 0 ∧ wBx l (pAt p (k - 1)) < wBx l (pAt p k)) from rfl)
    rw [hTT] at HSV
    rw [hok] at HPV
    obtain ⟨pa, pc, rfl⟩ := hp.form
    obtain ⟨n, hn⟩ : ∃ n, n = p.length := ⟨_, rfl⟩
    rw [← hn] at HPV PK HW8 HE HSV hlen ⊢
    generalize wBx l = wt at HW8 HE HFN HFL HLT
    obtain ⟨gl, hgl⟩ : ∃ gl, gl = lightS T wt p := ⟨_, rfl⟩
    rw [← hgl] at HE HFN HFL HLT
    clear hok hb hp hn hTe hTT q1 q3 hR hgl
    go_enter Try.func23, Try.ntmps23
    go_wp2_with fail
    rw [← HW.out, ← HW2.out]
    go_wp2_with fail
    refine (HPV.out _ HB2.out).mono ?_
    rintro e w3 ⟨rfl, b3⟩
    have HO3 := Lib.hid (HO2.out.keep b3)
    have HD3 := Lib.hid (HD2.out.trans (b3.mono (by have := HD2.out.size; omega)))
    clear b3 HPV HO2 HD2 z0 z1 z2
    go_wp2_with fail
    go_loopw [7, 8] (fun va i wr => ∃ k : Nat, k ≤ n ∧ i = .int .i64 k ∧ Hid (OwnI (w.heap.size + 1) wr va (filI gl k)) ∧ Hid (Below (w.heap.size + 1) W1 wr)) (fun _ i _ => n - (intOf i).toNat)
    case atStart => exact ⟨0, by omega, rfl, HO3, HD3⟩
    case round =>
      clear HO3 HD3
      obtain ⟨k, hkn, rfl, HOW, DR⟩ := hrel
      have BR := Lib.hid (HB.out.trans (DR.out.mono (by omega)))
      by_cases hlt : k < n
      · obtain ⟨pb, po, rfl, hpbl, s0⟩ := (PK.out wr BR.out).at_ hlt
        have e1 : p.getD k 0 = pAt p k := rfl
        rw [e1] at s0
        clear e1
        have ik : (k : Int) < (n : Int) := by omega
        have i0k : (0 : Int) ≤ (k : Int) := by omega
        have y := HX.out wr DR.out
        have y0 := y.c0
        have y1 := y.c1
        have y2 := y.c2
        have hfn := HFN.out k
        have hsv := HSV.out k hlt
        have hlt9 := HLT.out k
        have HWk := Lib.hid fun (w' : World) (hs : Below w.heap.size w w') => HW8.out k hlt w' hs
        clear y
        by_cases hm : (k : Int) % (T : Int) = 0
        · have hg : gl k = false := by rw [hlt9]; exact decide_eq_false (fun hc => hc.1 (by omega))
          rw [hg, if_neg (by simp)] at hfn
          have HN2 := Lib.hid hfn
          rw [if_pos hm] at hsv
          have HSBk := Lib.hid (HSB.out k wr)
          rw [hsv] at HSBk
          obtain ⟨x, hx⟩ : ∃ x, x = pAt p k := ⟨_, rfl⟩
          rw [← hx] at s0
          clear hx hg hfn hsv hlt9 hm HWk
          go_wp2_with fail
          refine HSBk.out.mono ?_
          rintro e w6 ⟨rfl, b6⟩
          have D6 := Lib.hid (DR.out.trans (b6.mono (by have := DR.out.size; omega)))
          have HOW6 := Lib.hid (HOW.out.keep b6)
          have s6 : w6.cell? ⟨pb, po + k, none⟩ = some (.int .i64 x) := (b6.cell (p := ⟨pb, po + k, none⟩) hpbl).trans s0
          have E6 := Lib.hid (BR.out.trans (b6.mono BR.out.size))
          clear b6 s0 y0 y1 y2
          go_wp2_with fail
          go_roundw
          case rel => exact ⟨k + 1, by omega, by go_num, by rw [HN2.out]; exact HOW6, D6⟩
          case measure => simp [intOf]; omega
        · have hk0 : k ≠ 0 := fun e => hm (by rw [e]; simp)
          obtain ⟨j, hkj⟩ : ∃ j, k = j + 1 := ⟨k - 1, by omega⟩
          rw [if_neg hm, show (k : Int) - 1 = (j : Int) by omega] at hsv
          have HSBk := Lib.hid (HSB.out k wr)
          rw [hsv] at HSBk
          have hkm : k % T ≠ 0 := fun e => hm (by omega)
          have hj1 : k - 1 = j := by omega
          rw [hj1] at hlt9
          have hjn : j < n := by omega
          have d0 : decide ((j : Int) ≥ 0) = true := decide_eq_true (by omega)
          have d1 : decide ((0 : Int) ≤ (j : Int)) = true := d0
          by_cases hz : pAt p k = 0
          · have hg : gl k = false := by rw [hlt9]; exact decide_eq_false (fun hc => hc.2.1 hz)
            rw [hg, if_neg (by simp)] at hfn
            have HN2 := Lib.hid hfn
            obtain ⟨x, hx⟩ : ∃ x, x = pAt p k := ⟨_, rfl⟩
            rw [← hx] at s0 hz
            subst hz
            clear hx hg hfn hsv hlt9 hm HWk hkm hj1 hkj
            go_wp2_with fail
            refine HSBk.out.mono ?_
            rintro e w6 ⟨rfl, b6⟩
            have D6 := Lib.hid (DR.out.trans (b6.mono (by have := DR.out.size; omega)))
            have HOW6 := Lib.hid (HOW.out.keep b6)
            have s6 : w6.cell? ⟨pb, po + k, none⟩ = some (.int .i64 0) := (b6.cell (p := ⟨pb, po + k, none⟩) hpbl).trans s0
            have E6 := Lib.hid (BR.out.trans (b6.mono BR.out.size))
            clear b6 s0 y0 y1 y2
            go_wp2_with fail
            go_roundw
            case rel => exact ⟨k + 1, by omega, by go_num, by rw [HN2.out]; exact HOW6, D6⟩
            case measure => simp [intOf]; omega
          · have hdz : (pAt p k != 0) = true := by simpa using hz
            have HWj := Lib.hid fun (w' : World) (hs : Below w.heap.size w w') => HW8.out j hjn w' hs
            have hg : gl k = decide (wt (pAt p j) < wt (pAt p k)) := by rw [hlt9]; exact decide_eq_decide.2 ⟨fun hc => hc.2.2, fun hc => ⟨hkm, hz, hc⟩⟩
            rw [hg] at hfn
            obtain ⟨x, hx⟩ : ∃ x, x = pAt p k := ⟨_, rfl⟩
            rw [← hx] at s0 hdz hfn HWk
            generalize wt (pAt p j) = wj at hfn HWj
            generalize wt x = wk at hfn HWk
            have hfl := HFL.out k
            clear hx hg hsv hlt9 hm hkm hj1 hz
            by_cases hgt : wj < wk
            · have g1 : decide (wk > wj) = true := decide_eq_true hgt
              have g2 : decide (wj < wk) = true := g1
              rw [g2, if_pos rfl] at hfn
              have HN2 := Lib.hid hfn
              clear hfn hgt hkj
              go_wp2_with fail
              refine HSBk.out.mono ?_
              rintro e w6 ⟨rfl, b6⟩
              have D6 := Lib.hid (DR.out.trans (b6.mono (by have := DR.out.size; omega)))
              have HOW6 := Lib.hid (HOW.out.keep b6)
              have s6 : w6.cell? ⟨pb, po + k, none⟩ = some (.int .i64 x) := (b6.cell (p := ⟨pb, po + k, none⟩) hpbl).trans s0
              have E6 := Lib.hid (BR.out.trans (b6.mono BR.out.size))
              clear b6 s0 y0 y1 y2
              go_wp2_with fail
              refine (HWk.out w6 E6.out).mono ?_
              rintro e w' ⟨rfl, rfl⟩
              go_wp2_with fail
              refine (HWj.out w6 E6.out).mono ?_
              rintro e w' ⟨rfl, rfl⟩
              obtain ⟨Ls, hLs⟩ : ∃ Ls, Ls = filI gl k := ⟨_, rfl⟩
              rw [← hLs] at HOW6 HN2 hfl
              have hszr : w.heap.size + 1 ≤ w6.heap.size := by have := D6.out.size; omega
              clear HOW hLs
              have HOW := HOW6
              go_wp2_with (at_builtin; refine wpList_append_own _ rfl _ _ 26 rfl (w.heap.size + 1) 3 i0 (.int .i64 0) 1 8 Try.underlying26 HI.out HZ0.out HZ1.out HZ2.out rfl (by decide) _ (Ls).length (rowI (Ls)) rfl (HOW.out.alloc _) ⟨w6.heap.size, 0, none⟩ 1 1 [.int .i64 (k : Int)] rfl rfl (fun j u hu => cells_new j u hu) (by simp [Value.oneCell']) (by unfold maxLen; omega) (by omega) (by have := hszr; simp; omega) ?_; intro v5 w5 hown5 hgrow _)
              have hb5 : Below (w.heap.size + 1) w6 w5 := ((Below.refl _ _).alloc (by have := hszr; omega) _).trans (own_below hgrow (by have := hszr; simp; omega) (fun k' hk' => (own_lt HOW.out k' hk').1))
              have hO5 : OwnI (w.heap.size + 1) w5 v5 (Ls ++ [(k : Int)]) := own_put hown5
              clear hgrow hown5
              have HO5 := Lib.hid hO5
              have D5 := Lib.hid (D6.out.trans hb5)
              clear hO5 hb5
              go_roundw
              case rel => exact ⟨k + 1, by omega, by go_num, by rw [HN2.out]; exact HO5, D5⟩
              case measure => simp [intOf]; omega
            · have g1 : decide (wk > wj) = false := decide_eq_false hgt
              have g2 : decide (wj < wk) = false := g1
              rw [g2, if_neg (by simp)] at hfn
              have HN2 := Lib.hid hfn
              clear hfn hgt hkj
              go_wp2_with fail
              refine HSBk.out.mono ?_
              rintro e w6 ⟨rfl, b6⟩
              have D6 := Lib.hid (DR.out.trans (b6.mono (by have := DR.out.size; omega)))
              have HOW6 := Lib.hid (HOW.out.keep b6)
              have s6 : w6.cell? ⟨pb, po + k, none⟩ = some (.int .i64 x) := (b6.cell (p := ⟨pb, po + k, none⟩) hpbl).trans s0
              have E6 := Lib.hid (BR.out.trans (b6.mono BR.out.size))
              clear b6 s0 y0 y1 y2
              go_wp2_with fail
              refine (HWk.out w6 E6.out).mono ?_
              rintro e w' ⟨rfl, rfl⟩
              go_wp2_with fail
              refine (HWj.out w6 E6.out).mono ?_
              rintro e w' ⟨rfl, rfl⟩
              go_wp2_with fail
              go_roundw
              case rel => exact ⟨k + 1, by omega, by go_num, by rw [HN2.out]; exact HOW6, D6⟩
              case measure => simp [intOf]; omega
      · obtain rfl : k = n := by omega
        have C9 := BR.out
        have O9 := HOW.out.from_ (show w.heap.size ≤ w.heap.size + 1 by omega)
        go_wp2_with fail
        go_ret
        exact ⟨_, rfl, by rw [HE.out]; exact O9, C9⟩

end Go.Proofs.Ytmgnbkiphdlooab
