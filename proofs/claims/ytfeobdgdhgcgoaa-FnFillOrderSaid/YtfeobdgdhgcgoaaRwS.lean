/-
  The model's chapter 13, first part: RowWeights, RowsBear, OnLighter.
-/
import Derived.Test.YtfeobdgdhgcgoaaRwMath2
import Derived.Test.YtfeobdgdhgcgoaaWtS
import Derived.Test.YtfeobdgdhgcgoaaGPl
import Derived.Test.YtfeobdgdhgcgoaaPlC
import Derived.Test.YtfeobdgdhgcgoaaGBase
import Derived.Test.YtfeobdgdhgcgoaaGSl
import Derived.Laws.AppendOwnNone
import Derived.BigQuiet
import Derived.Deep.QuietTactic
namespace Go.Proofs.Ytfeobdgdhgcgoaa
open Go.RowKit
set_option linter.unusedVariables false

set_option maxRecDepth 10000 in
set_option maxHeartbeats 8000000 in
theorem specRowWeights_any (h : Hl) (u v : Value) (l : List Bx) (p : List Int) (w : World) (hb : HoldsBx w u l) (hp : HoldsI w v p) :
    Calls Try.prog 87 #[.agg #[.int .i64 h.b, .int .i64 h.r, .int .i64 h.t], u, v] w fun e w' => ∃ v', e = .returned v' ∧ OwnI w.heap.size w' v' (rowO h l p) ∧ Below w.heap.size w w' := by
  have hb1 := (Below.refl w.heap.size w).alloc (Nat.le_refl _) (.cells #[.int .i64 h.b, .int .i64 h.r, .int .i64 h.t] 36)
  have hx1 := BoxH.new w h
  obtain ⟨W1, hW1⟩ : ∃ W1, W1 = w.alloc (.cells #[.int .i64 h.b, .int .i64 h.r, .int .i64 h.t] 36) := ⟨_, rfl⟩
  rw [← hW1] at hb1 hx1
  have HW := Lib.hid hW1
  have HB := Lib.hid hb1
  have y0 := hx1.c0
  have y1 := hx1.c1
  have y2 := hx1.c2
  have HX := Lib.hid fun (w' : World) (hs : Below W1.heap.size W1 w') => hx1.keep hs
  have hs1 : W1.heap.size = w.heap.size + 1 := by rw [hW1]; simp
  clear hW1 hb1 hx1
  have PK := Lib.hid fun (w' : World) (hs : Below w.heap.size w w') => hp.keep hs
  have HPV := Lib.hid fun (w' : World) (hs : Below w.heap.size w w') => specPlanValid_any h u v l p w' (hb.keep hs) (hp.keep hs)
  obtain ⟨i0, hi, hz0, hz1, hz2⟩ := info_parts infoInt
  have HI := Lib.hid hi
  have HZ0 := Lib.hid hz0
  have HZ1 := Lib.hid hz1
  have HZ2 := Lib.hid hz2
  clear hi hz0 hz1 hz2
  have hb2 : Below W1.heap.size W1 (W1.alloc (.cells #[] 3)) := (Below.refl _ _).alloc (Nat.le_refl _) _
  have hO2 : OwnI W1.heap.size (W1.alloc (.cells #[] 3)) (.slice (some ⟨W1.heap.size, 0, none⟩) 0 0) [] := OwnI.zero (Nat.le_refl _)
  have hx2 := HX.out _ hb2
  obtain ⟨W2, hW2⟩ : ∃ W2, W2 = W1.alloc (.cells #[] 3) := ⟨_, rfl⟩
  rw [← hW2] at hb2 hO2 hx2
  have HW2 := Lib.hid hW2
  have z0 := hx2.c0
  have z1 := hx2.c1
  have z2 := hx2.c2
  have HB2 := Lib.hid (HB.out.trans (hb2.mono HB.out.size))
  rw [hs1] at hb2 hO2 HX
  have HO2 := Lib.hid hO2
  have HD2 := Lib.hid hb2
  clear hW2 hb2 hO2 hx2 y0 y1 y2
  cases hok : plOk h (bxsOk l) (bxIds l) p
  · have HE := Lib.hid (show rowO h l p = [] from by unfold rowO; rw [hok]; rfl)
    rw [hok] at HPV
    clear hok hb hp
    go_enter Try.func87, Try.ntmps87
    go_wp2_with fail
    rw [← HW.out, ← HW2.out]
    go_wp2_with fail
    refine (HPV.out _ HB2.out).mono ?_
    rintro e w3 ⟨rfl, b3⟩
    go_wp2_with fail
    go_ret
    exact ⟨_, rfl, by rw [HE.out]; exact (HO2.out.from_ (by omega)).keep b3, HB2.out.trans (b3.mono HB2.out.size)⟩
  · obtain ⟨R, q1, q2, q3⟩ := rows_pl hok
    obtain ⟨T, hTe⟩ : ∃ T : Nat, T = h.t.toNat := ⟨_, rfl⟩
    rw [← hTe] at q1 q2 q3
    have hlen := pl_len hok
    have hR : rowsMany h p = R := by unfold rowsMany; rw [← hTe, q3, Nat.mul_div_cancel _ q2]
    have hTT : h.t = (T : Int) := q1.symm
    have hT3 : T ≤ 3 := hull_t3 hok q1
    have HW8 := Lib.hid fun k (hl : k < p.length) (w' : World) (hs : Below w.heap.size w w') => specWeight_any u v l p k w' (hb.keep hs) (hp.keep hs) hl (fun hz => pl_find hok hl hz)
    have HE := Lib.hid (show rowO h l p = rowsW l T p R from by unfold rowO; rw [if_pos hok, hR, ← hTe])
    have HWB := Lib.hid fun k (hl : k < p.length) => wBx_bd hok hl
    have HBD := Lib.hid fun r (hr : r * T + T ≤ p.length) t ht => rowN_bd hok hr t ht
    have HNX := Lib.hid fun r => rowsW_next l T p r
    have HRL := Lib.hid fun r => rowsW_len l T p r
    have HRN := Lib.hid fun r t => (show rowN l T p r (t + 1) = rowN l T p r t + wBx l (pAt p (r * T + t)) from rfl)
    rw [hok] at HPV
    obtain ⟨pa, pc, rfl⟩ := hp.form
    obtain ⟨n, hn⟩ : ∃ n, n = p.length := ⟨_, rfl⟩
    rw [← hn] at HPV PK HW8 HWB HBD q3 hlen ⊢
    have hz0 : rowsW l T p 0 = [] := rfl
    have HTT := Lib.hid hTT
    have HQ3 := Lib.hid q3
    have hR36 : R ≤ 36 := by
      have h1 : R * 1 ≤ R * T := Nat.mul_le_mul_left R q2
      omega
    clear hok hb hp hn hTe hTT q1 q3 hR
    go_enter Try.func87, Try.ntmps87
    go_wp2_with fail
    rw [← HW.out, ← HW2.out]
    go_wp2_with fail
    refine (HPV.out _ HB2.out).mono ?_
    rintro e w3 ⟨rfl, b3⟩
    have HO3 := Lib.hid (HO2.out.keep b3)
    have HD3 := Lib.hid (HD2.out.trans (b3.mono (by have := HD2.out.size; omega)))
    clear b3 HPV HO2 HD2 z0 z1 z2
    go_wp2_with fail
    go_loopw [7, 8] (fun va i wr => ∃ (r ro : Nat), r ≤ R ∧ Hid (ro = r * T) ∧ i = .int .i64 (ro : Int) ∧ Hid (OwnI (w.heap.size + 1) wr va (rowsW l T p r)) ∧ Hid (Below (w.heap.size + 1) W1 wr)) (fun _ i _ => n - (intOf i).toNat)
    case atStart => exact ⟨0, 0, by omega, Lib.hid (by omega), rfl, by rw [hz0]; exact HO3, HD3⟩
    case round =>
      clear HO3 HD3 hz0
      obtain ⟨wo, rfl⟩ : ∃ wo : World, wo = wr := ⟨_, rfl⟩
      obtain ⟨r, ro, hrR, HRO, rfl, HO, DO⟩ := hrel
      by_cases hlt : r < R
      · have hron : ro + T ≤ n := by
          have h1 := HRO.out
          have h2 := HQ3.out
          have h3 : (r + 1) * T ≤ R * T := Nat.mul_le_mul_right T hlt
          rw [Nat.succ_mul] at h3
          omega
        have iro : (ro : Int) < (n : Int) := by omega
        have hz1 : rowN l T p r 0 = 0 := rfl
        have HBDr := Lib.hid fun t ht => HBD.out r (by have := HRO.out; omega) t ht
        go_wp2_with fail
        go_loopw [9, 10] (fun sm kv w2 => ∃ (t kk : Nat), t ≤ T ∧ Hid (kk = ro + t) ∧ sm = .int .i64 (rowN l T p r t) ∧ kv = .int .i64 (kk : Int) ∧ Hid (Below wo.heap.size wo w2)) (fun _ kv _ => ro + T - (intOf kv).toNat)
        case atStart => exact ⟨0, ro, by omega, Lib.hid rfl, by rw [hz1], rfl, Lib.hid (Below.refl _ _)⟩
        case round =>
          clear hz1
          obtain ⟨t, kk, htT, HKK, rfl, rfl, DI⟩ := hrel
          have D2 := Lib.hid (DO.out.trans (DI.out.mono (by have := DO.out.size; omega)))
          have E2 := Lib.hid (HB.out.trans (D2.out.mono (by omega)))
          have y2 := (HX.out wr D2.out).c2
          rw [HTT.out] at y2
          obtain ⟨e, he⟩ : ∃ e : Nat, e = ro + T := ⟨_, rfl⟩
          have zt : IntKind.i64.wrap ((ro : Int) + (T : Int)) = (e : Int) := by rw [IntWalk.i64_in _ (by omega)]; omega
          have HEE := Lib.hid he
          by_cases htl : t < T
          · have hkn : kk < n := by have := HKK.out; omega
            have ike : (kk : Int) < (e : Int) := by have := HKK.out; omega
            have hb1 := HBDr.out (t + 1) (by omega)
            have hwb := HWB.out kk hkn
            have hrn := HRN.out r t
            have hkr : r * T + t = kk := by have := HRO.out; have := HKK.out; omega
            rw [hkr] at hrn
            have HWk := Lib.hid (HW8.out kk hkn wr E2.out)
            have hsum : IntKind.i64.wrap (rowN l T p r t + wBx l (pAt p kk)) = rowN l T p r (t + 1) := by rw [hrn, IntWalk.i64_in _ (by omega)]
            have zk : IntKind.i64.wrap ((kk : Int) + 1) = (kk : Int) + 1 := IntWalk.i64_in _ (by omega)
            generalize wBx l (pAt p kk) = b at HWk hsum
            generalize rowN l T p r t = a at hsum ⊢
            have HSM := Lib.hid hsum
            clear hb1 hwb hrn hkr he
            go_wp2_with fail
            refine HWk.out.mono ?_
            rintro e' w' ⟨rfl, rfl⟩
            go_wp2_with fail
            go_roundw
            case rel => exact ⟨t + 1, kk + 1, by omega, Lib.hid (by have := HKK.out; omega), (by first | rfl | rw [HSM.out]), by go_num, DI⟩
            case measure => have := HKK.out; have := HEE.out; simp [intOf]; omega
          · obtain rfl : t = T := by omega
            have ike : ¬ kk < e := by have := HKK.out; omega
            have hb1 := HBDr.out t (Nat.le_refl _)
            have HNr := Lib.hid (HNX.out r)
            have hrl := Nat.le_of_eq (HRL.out r)
            have HOW := Lib.hid (HO.out.keep DI.out)
            obtain ⟨Ls, hLs⟩ : ∃ Ls, Ls = rowsW l t p r := ⟨_, rfl⟩
            obtain ⟨x, hx⟩ : ∃ x, x = rowN l t p r t := ⟨_, rfl⟩
            rw [← hLs, ← hx] at HNr
            rw [← hLs] at HOW hrl
            rw [← hx] at hb1 ⊢
            have hsz2 : w.heap.size + 1 ≤ wr.heap.size := by have := D2.out.size; omega
            clear he hLs hx HO
            go_wp2_with (at_builtin; refine wpList_append_own _ rfl _ _ 25 rfl (w.heap.size + 1) 3 i0 (.int .i64 0) 1 8 Try.underlying25 HI.out HZ0.out HZ1.out HZ2.out rfl (by decide) _ (Ls).length (rowI (Ls)) rfl (HOW.out.alloc _) ⟨wr.heap.size, 0, none⟩ 1 1 [.int .i64 x] rfl rfl (fun j u hu => cells_new j u hu) (by simp [Value.oneCell']) (by unfold maxLen; omega) (by omega) (by have := hsz2; simp; omega) ?_; intro v5 w5 hown5 hgrow _; have hb5 : Below (w.heap.size + 1) wr w5 := (((Below.refl _ _).alloc (by have := hsz2; omega) _).trans (own_below hgrow (by have := hsz2; simp; omega) (fun k' hk' => (own_lt HOW.out k' hk').1))); have hO5 : OwnI (w.heap.size + 1) w5 v5 (Ls ++ [x]) := (own_put hown5); clear hgrow hown5; have y6 := (HX.out w5 (D2.out.trans hb5)).c2; rw [HTT.out] at y6; clear y2)
            have D5 := Lib.hid (D2.out.trans hb5)
            rw [← HNr.out] at hO5
            have HO5 := Lib.hid hO5
            clear hb5 hO5 DO
            go_roundw
            case rel => exact ⟨r + 1, e, by omega, Lib.hid (by have := HRO.out; have := HEE.out; rw [Nat.succ_mul]; omega), rfl, HO5, D5⟩
            case measure => have := HEE.out; simp [intOf]; omega
      · obtain rfl : r = R := by omega
        have iro : ¬ ro < n := by have h1 := HRO.out; have h2 := HQ3.out; omega
        have C9 := HB.out.trans (DO.out.mono (by omega))
        have O9 := HO.out.from_ (show w.heap.size ≤ w.heap.size + 1 by omega)
        go_wp2_with fail
        go_ret
        exact ⟨_, rfl, by rw [HE.out]; exact O9, C9⟩

end Go.Proofs.Ytfeobdgdhgcgoaa
