/-
  The program's chapter 13, first part: slices.Max, RowWeights, RowsBear, OnLighter.
-/
import Derived.Test.YtfeobdgdhgcgoaaRwMath3
import Derived.Test.YtfeobdgdhgcgoaaOvI
import Derived.Test.YtfeobdgdhgcgoaaWtI
import Derived.Test.YtfeobdgdhgcgoaaPlI
import Derived.Test.YtfeobdgdhgcgoaaLsI
import Derived.Laws.AppendOwnNone
import Derived.Deep.RegionHeld3
namespace Go.Proofs.Ytfeobdgdhgcgoaa
open Go.RowKit
set_option linter.unusedVariables false

set_option maxRecDepth 10000 in
set_option maxHeartbeats 4000000 in
theorem implRowWeights_any (h : Hl) (u v : Value) (l : List Bx) (p : List Int) (w : World) (hb : HoldsBx w u l) (hp : HoldsI w v p) :
    Calls Try.prog 82 #[.agg #[.int .i64 h.b, .int .i64 h.r, .int .i64 h.t], u, v] w fun e w' => ∃ v', e = .returned v' ∧ FreeE w.heap.size w' v' (rowO h l p) ∧ Below w.heap.size w w' := by
  have hb1 := (Below.refl w.heap.size w).alloc (Nat.le_refl _) (.cells #[.int .i64 h.b, .int .i64 h.r, .int .i64 h.t] 36)
  have hx1 := BoxH.new w h
  obtain ⟨W1, hW1⟩ : ∃ W1, W1 = w.alloc (.cells #[.int .i64 h.b, .int .i64 h.r, .int .i64 h.t] 36) := ⟨_, rfl⟩
  rw [← hW1] at hb1 hx1
  have HW := Lib.hid hW1
  have HB := Lib.hid hb1
  have y0 := hx1.c0
  have y1 := hx1.c1
  have y2 := hx1.c2
  have HX := Lib.hid fun (w' : World) (hs : Below W1.heap.size W1 w') => hx1.keep hs
  clear hW1 hb1 hx1
  have PK := Lib.hid fun (w' : World) (hs : Below w.heap.size w w') => hp.keep hs
  have HPV := Lib.hid fun (w' : World) (hs : Below w.heap.size w w') => implPlanValid_any h u v l p w' (hb.keep hs) (hp.keep hs)
  obtain ⟨i0, hi, hz0, hz1, hz2⟩ := info_parts infoInt
  have HI := Lib.hid hi
  have HZ0 := Lib.hid hz0
  have HZ1 := Lib.hid hz1
  have HZ2 := Lib.hid hz2
  clear hi hz0 hz1 hz2
  cases hok : plOk h (bxsOk l) (bxIds l) p
  · have HE := Lib.hid (show rowO h l p = [] from by unfold rowO; rw [hok]; rfl)
    rw [hok] at HPV
    clear hok hb hp
    go_enter Try.func82, Try.ntmps82
    go_wp2_with fail
    rw [← HW.out]
    go_wp2_with fail
    refine (HPV.out _ HB.out).mono ?_
    rintro e w2 ⟨rfl, b2⟩
    go_wp2_with fail
    go_ret
    exact ⟨_, rfl, by rw [HE.out]; exact FreeE.zero, HB.out.trans (b2.mono HB.out.size)⟩
  · obtain ⟨R, T, hT, hR, hT0, hT3, hn0, hn36, hR36⟩ := rows_two hok
    have HLR := Lib.hid fun (w' : World) (hs : Below w.heap.size w w') => loadedRows_any h v p T R w' (hp.keep hs) (plOk_iff.1 hok).1 (plOk_iff.1 hok).2.2.1 hT hR
    have HRW := Lib.hid fun r (hr : r < R) => rows_hold hok hT hT0 hn0 hr
    have HPT := Lib.hid fun k (hl : k < p.length) (hz : pAt p k ≠ 0) (w' : World) (hs : Below w.heap.size w w') => (gIn_plan hok hl) ▸ weightIn_any u l (pAt p k) w' (hb.keep hs)
    have hTN : h.t.toNat = T := by omega
    have hss := rowsL_len T p R
    have HE := Lib.hid (show rowO h l p = rowsW l T p R from by unfold rowO; rw [if_pos hok, hTN, rowsMany_eq hT hT0 hn0])
    have HWB := Lib.hid fun k (hl : k < p.length) => wBx_bd hok hl
    have HBD := Lib.hid fun r (hr : r * T + T ≤ p.length) t ht => rowN_bd hok hr t ht
    have HNX := Lib.hid fun r => rowsW_next l T p r
    have HRL := Lib.hid fun r => rowsW_len l T p r
    have HRN := Lib.hid fun r t => (show rowN l T p r (t + 1) = rowN l T p r t + wBx l (pAt p (r * T + t)) from rfl)
    have HSK := Lib.hid fun r (hr : r < R) => (show rowN l T p r T = rowN l T p r (hgtR T p r) from by
      obtain ⟨-, -, f2, -, f4, -⟩ := HRW.out r hr
      exact rowN_rest f2 f4)
    rw [hok] at HPV
    obtain ⟨ss, hsv⟩ : ∃ ss, ss = rowsL T p R := ⟨_, rfl⟩
    rw [← hsv] at HLR HRW hss
    obtain ⟨pa, pc, rfl⟩ := hp.form
    obtain ⟨n, hn⟩ : ∃ n, n = p.length := ⟨_, rfl⟩
    rw [← hn] at HPV PK HPT HLR HRW HWB HBD hn0 hn36 ⊢
    have hz0 : rowsW l T p 0 = [] := rfl
    clear hok hb hp hn hsv hT hR hTN hn0
    go_enter Try.func82, Try.ntmps82
    go_wp2_with fail
    rw [← HW.out]
    go_wp2_with fail
    refine (HPV.out _ HB.out).mono ?_
    rintro e w3 ⟨rfl, b3⟩
    have C3 := HB.out.trans (b3.mono HB.out.size)
    have y3 := HX.out w3 b3
    have c0 := y3.c0
    have c1 := y3.c1
    have c2 := y3.c2
    clear b3 y3 y0 y1 y2
    go_wp2_with fail
    refine (HLR.out w3 C3).mono ?_
    rintro e w5 ⟨v5, rfl, N5, b5⟩
    obtain ⟨a5, c5, rfl⟩ := N5.form
    have NY := Lib.hid fun (w' : World) (hs : Below w5.heap.size w5 w') => N5.holds.keep hs
    have C5 := Lib.hid (C3.trans (b5.mono C3.size))
    rw [hss] at NY ⊢
    clear N5 hss HLR HPV
    clear c0 c1 c2 b5 C3
    go_wp2_with fail
    go_loopw [7, 22] (fun va i wr => ∃ r : Nat, r ≤ R ∧ i = .int .i64 r ∧ Hid (OwnI w5.heap.size wr va (rowsW l T p r)) ∧ Hid (Below w5.heap.size w5 wr)) (fun _ i _ => R - (intOf i).toNat)
    case atStart => exact ⟨0, by omega, rfl, by rw [hz0]; exact Lib.hid OwnI.nil, Lib.hid (Below.refl _ _)⟩
    case round =>
      clear hz0
      obtain ⟨r, hrR, rfl, HOO, DR⟩ := hrel
      obtain ⟨wo, rfl⟩ : ∃ wo : World, wo = wr := ⟨_, rfl⟩
      by_cases hlt : r < R
      · obtain ⟨yb, yo, rx, rc, rfl, hyb, s0', hl1, hl2, -, HRow⟩ := (NY.out w5 (Below.refl _ _)).at_ hlt
        have s0 := (DR.out.cell (p := ⟨yb, yo + r, none⟩) hyb).trans s0'
        obtain ⟨hrl, hrg, hmT, hfull, hempty, hrn⟩ := HRW.out r hlt
        rw [hrl] at s0 hl1 HRow
        have HRK := Lib.hid fun (w' : World) (hs : Below w5.heap.size w5 w') => HRow.keep hs
        have ir : (r : Int) < (R : Int) := by omega
        have i0r : (0 : Int) ≤ (r : Int) := by omega
        have HSKr := HSK.out r hlt
        have HBDr := Lib.hid fun t ht => HBD.out r hrn t ht
        have HNXr := HNX.out r
        obtain ⟨m, hm⟩ : ∃ m, m = hgtR T p r := ⟨_, rfl⟩
        rw [← hm] at s0 hl1 HRK hrg hmT hfull HSKr
        rw [HSKr] at HNXr
        have HNR := Lib.hid HNXr
        have HG := Lib.hid hrg
        have HFU := Lib.hid hfull
        have hl0 : rowN l T p r 0 = 0 := rfl
        clear hrl hrg hfull hempty hm HRow s0' HSKr HNXr
        go_wp2_with fail
        clear s0
        go_loopw [10, 28] (fun sm jv w2 => ∃ t : Nat, t ≤ m ∧ sm = .int .i64 (rowN l T p r t) ∧ jv = .int .i64 t ∧ Hid (Below wo.heap.size wo w2)) (fun _ jv _ => m - (intOf jv).toNat)
        case atStart => exact ⟨0, by omega, by rw [hl0], rfl, Lib.hid (Below.refl _ _)⟩
        case round =>
          clear hl0
          obtain ⟨t, htm, rfl, rfl, DI⟩ := hrel
          have DJ := Lib.hid (DR.out.trans (DI.out.mono DR.out.size))
          have EW := C5.out.trans (DJ.out.mono C5.out.size)
          by_cases hltt : t < m
          · have it : (t : Int) < (m : Int) := by omega
            have i0t : (0 : Int) ≤ (t : Int) := by omega
            obtain ⟨kb, ko, rfl, hkb, t0⟩ := (HRK.out wr DJ.out).at_ hltt
            rw [HG.out t hltt] at t0
            have hz := HFU.out t hltt
            have hkn : r * T + t < n := by omega
            obtain ⟨pb, po, rfl, hpb, u0⟩ := (PK.out wr EW).at_ hkn
            have e1 : p.getD (r * T + t) 0 = pAt p (r * T + t) := rfl
            rw [e1] at u0
            have HPk := Lib.hid (HPT.out _ hkn hz wr EW)
            have hb1 := HBDr.out (t + 1) (by omega)
            have hrn1 := HRN.out r t
            obtain ⟨k, hk⟩ : ∃ k, k = r * T + t := ⟨_, rfl⟩
            rw [← hk] at t0 u0 hkn HPk hrn1
            obtain ⟨x, hx⟩ : ∃ x, x = pAt p k := ⟨_, rfl⟩
            rw [← hx] at u0 HPk hrn1
            have hsum : IntKind.i64.wrap (rowN l T p r t + wBx l x) = rowN l T p r (t + 1) := by rw [hrn1] at hb1 ⊢; exact IntWalk.i64_in _ (by omega)
            have HSM := Lib.hid hsum
            generalize wBx l x = bw at HPk hsum HSM
            generalize rowN l T p r t = a at hsum HSM ⊢
            have ik : (k : Int) < (n : Int) := by omega
            have i0k : (0 : Int) ≤ (k : Int) := by omega
            clear EW hz hx hb1 hrn1 e1 hk
            go_wp2_with fail
            refine HPk.out.mono ?_
            rintro e w6 ⟨rfl, b6⟩
            have D6 := Lib.hid (DI.out.trans (b6.mono DI.out.size))
            clear b6 t0 u0
            go_wp2_with fail
            go_roundw
            case rel => exact ⟨t + 1, by omega, (by first | rfl | rw [HSM.out]), by go_num, D6⟩
            case measure => simp [intOf]; omega
          · obtain rfl : t = m := by omega
            have HO := Lib.hid (HOO.out.keep DI.out)
            have hle := Nat.le_of_eq (HRL.out r)
            obtain ⟨Lr, hLr⟩ : ∃ L, L = rowsW l T p r := ⟨_, rfl⟩
            rw [← hLr] at HO hle HNR
            obtain ⟨x, hx⟩ : ∃ x, x = rowN l T p r t := ⟨_, rfl⟩
            rw [← hx] at HNR ⊢
            clear EW hLr hx
            have hzW : w5.heap.size ≤ wr.heap.size := DJ.out.size
            go_wp2_with (at_builtin; refine wpList_append_own _ rfl _ _ 25 rfl w5.heap.size 3 i0 (.int .i64 0) 1 8 Try.underlying25 HI.out HZ0.out HZ1.out HZ2.out rfl (by decide) _ Lr.length (rowI Lr) rfl (HO.out.alloc _) ⟨wr.heap.size, 0, none⟩ 1 1 [.int .i64 x] rfl rfl (fun j u hu => cells_new j u hu) (by simp [Value.oneCell']) (by unfold maxLen; omega) (by omega) (by simp; omega) ?_; intro v8 w8 hown8 hgrow _)
            have hb8 : Below w5.heap.size wr w8 := ((Below.refl _ _).alloc hzW _).trans (own_below hgrow (by simp; omega) (fun k' hk' => (own_lt HO.out k' hk').1))
            have HO8 := Lib.hid (show OwnI w5.heap.size w8 v8 (Lr ++ [x]) from own_put hown8)
            have D8 := Lib.hid (DJ.out.trans hb8)
            clear hgrow hown8 hb8
            go_roundw
            case rel => exact ⟨r + 1, by omega, by go_num, by rw [HNR.out]; exact HO8, D8⟩
            case measure => simp [intOf]; omega
      · obtain rfl : r = R := by omega
        have C9 := C5.out.trans (DR.out.mono C5.out.size)
        have O9 := HOO.out.freeE.from_ C5.out.size
        go_wp2_with fail
        go_ret
        exact ⟨_, rfl, by rw [HE.out]; exact O9, C9⟩

end Go.Proofs.Ytfeobdgdhgcgoaa
