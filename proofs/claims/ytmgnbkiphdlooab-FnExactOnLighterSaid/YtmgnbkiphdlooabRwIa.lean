/-
  The program's chapter 13, first part: slices.Max, RowWeights, RowsBear, OnLighter.
-/
import Derived.Test.YtmgnbkiphdlooabRwMath3
import Derived.Test.YtmgnbkiphdlooabOvI
import Derived.Test.YtmgnbkiphdlooabWtI
import Derived.Test.YtmgnbkiphdlooabPlI
import Derived.Test.YtmgnbkiphdlooabLsI
import Derived.Laws.AppendOwnNone
import Derived.Deep.RegionHeld3
namespace Go.Proofs.Ytmgnbkiphdlooab
open Go.RowKit
set_option linter.unusedVariables false

set_option maxRecDepth 10000 in
set_option maxHeartbeats 1000000 in
theorem slMax_any (v : Value) (L : List Int) (w : World) (hv : HoldsI w v L) (h0 : 0 < L.length) :
    Calls Try.prog 51 #[v] w fun e w' => e = .returned (.int .i64 (mxN L L.length)) ∧ w' = w := by
  have HNX := Lib.hid fun k => (show mxN L (k + 1) = max (mxN L k) (pAt L k) from rfl)
  have HON := Lib.hid (mxN_one L)
  have hlen : L.length ≤ 9223372036854775807 := by
    obtain ⟨a', c', e, q1, q2, _⟩ := hv
    unfold maxLen at q2
    omega
  obtain ⟨pa, pc, rfl⟩ := hv.form
  have PK := Lib.hid fun k (hk : k < L.length) => hv.at_ hk
  obtain ⟨n, hn⟩ : ∃ n, n = L.length := ⟨_, rfl⟩
  rw [← hn] at PK hlen h0 ⊢
  obtain ⟨b0, o0, rfl, hb0, s0⟩ := PK.out 0 h0
  rw [Nat.add_zero, show L.getD 0 0 = pAt L 0 from rfl] at s0
  have h1 : ¬ (n : Int) < 1 := by omega
  have i00 : (0 : Int) < (n : Int) := by omega
  obtain ⟨x, hx⟩ : ∃ x, x = pAt L 0 := ⟨_, rfl⟩
  rw [← hx] at s0 HON
  clear hv hn hx
  go_enter Try.func51, Try.ntmps51
  go_wp2_with fail
  clear s0
  go_loopw [3, 4] (fun mv i wr => ∃ k : Nat, 1 ≤ k ∧ k ≤ n ∧ mv = .int .i64 (mxN L k) ∧ i = .int .i64 k ∧ wr = w) (fun _ i _ => n - (intOf i).toNat)
  case atStart => exact ⟨1, by omega, by omega, by rw [HON.out], rfl, rfl⟩
  case round =>
    obtain ⟨k, hk1, hkn, rfl, rfl, rfl⟩ := hrel
    by_cases hlt : k < n
    · obtain ⟨b, off, e0, hbl, t0⟩ := PK.out k hlt
      simp only [Option.some.injEq, Addr.mk.injEq, and_true] at e0
      obtain ⟨rfl, rfl⟩ := e0
      rw [show L.getD k 0 = pAt L k from rfl] at t0
      have hnx := HNX.out k
      have ik : (k : Int) < (n : Int) := by omega
      have i0k : (0 : Int) ≤ (k : Int) := by omega
      obtain ⟨y, hy⟩ : ∃ y, y = pAt L k := ⟨_, rfl⟩
      rw [← hy] at t0 hnx
      obtain ⟨a, ha⟩ : ∃ a, a = mxN L k := ⟨_, rfl⟩
      rw [← ha] at hnx ⊢
      obtain ⟨m, hm⟩ : ∃ m, m = mxN L (k + 1) := ⟨_, rfl⟩
      have hmx : (if a < y then y else a) = m := by rw [hm, hnx]; split <;> omega
      have hmax : ∀ W : World, Sem.run Try.prog (Builtin.max_ #[3, 3] 3 #[.int .i64 a, .int .i64 y]) W = .ok (.int .i64 m) W := fun W => by
        rw [← hmx]
        simp [Builtin.max_, Builtin.max2, List.foldlM, Sem.run_pure]
      have HM := Lib.hid hm
      clear hy ha hnx hm hmx
      go_wp2_with fail
      go_roundw
      case rel => exact ⟨k + 1, by omega, by omega, (by first | rfl | rw [HM.out]), by go_num, trivial⟩
      case measure => simp [intOf]; omega
    · obtain rfl : k = n := by omega
      go_wp2_with fail
      go_ret
      exact ⟨rfl, rfl⟩

set_option maxRecDepth 10000 in
set_option maxHeartbeats 4000000 in
theorem implRowWeights_any (h : Hl) (u v : Value) (l : List Bx) (p : List Int) (w : World) (hb : HoldsBx w u l) (hp : HoldsI w v p) :
    Calls Try.prog 12 #[.agg #[.int .i64 h.b, .int .i64 h.r, .int .i64 h.t], u, v] w fun e w' => ∃ v', e = .returned v' ∧ FreeE w.heap.size w' v' (rowO h l p) ∧ Below w.heap.size w w' := by
  have hb1 := (Below.refl w.heap.size w).alloc (Nat.le_refl _) (.cells #[.int .i64 h.b, .int .i64 h.r, .int .i64 h.t] 24)
  have hx1 := BoxH.new w h
  obtain ⟨W1, hW1⟩ : ∃ W1, W1 = w.alloc (.cells #[.int .i64 h.b, .int .i64 h.r, .int .i64 h.t] 24) := ⟨_, rfl⟩
  rw [← hW1] at hb1 hx1
  have HW := Lib.hid hW1
  have HB := Lib.hid hb1
  have y0 := hx1.c0
  have y1 := hx1.c1
  have y2 := hx1.c2
  have HX := Lib.hid fun (w' : World) (hs : Below W1.heap.size W1 w') => hx1.keep hs
  clear hW1 hb1 hx1
  have PK := Lib.hid fun (w' : World) (hs : Below w.heap.size w w') => hp.keep hs
  have HPV := Lib.hid fun (w' : World) (hs : Below w.heap.size w w') => implPlanValid_any h u v l p w' (hb.keep hs) (hp.keep hs)
  obtain ⟨i0, hi, hz0, hz1, hz2⟩ := info_parts infoInt
  have HI := Lib.hid hi
  have HZ0 := Lib.hid hz0
  have HZ1 := Lib.hid hz1
  have HZ2 := Lib.hid hz2
  clear hi hz0 hz1 hz2
  cases hok : plOk h (bxsOk l) (bxIds l) p
  · have HE := Lib.hid (show rowO h l p = [] from by unfold rowO; rw [hok]; rfl)
    rw [hok] at HPV
    clear hok hb hp
    go_enter Try.func12, Try.ntmps12
    go_wp2_with fail
    rw [← HW.out]
    go_wp2_with fail
    refine (HPV.out _ HB.out).mono ?_
    rintro e w2 ⟨rfl, b2⟩
    go_wp2_with fail
    go_ret
    exact ⟨_, rfl, by rw [HE.out]; exact FreeE.zero, HB.out.trans (b2.mono HB.out.size)⟩
  · obtain ⟨R, T, hT, hR, hT0, hT3, hn0, hn36, hR36⟩ := rows_two hok
    have HLR := Lib.hid fun (w' : World) (hs : Below w.heap.size w w') => loadedRows_any h v p T R w' (hp.keep hs) (plOk_iff.1 hok).1 (plOk_iff.1 hok).2.2.1 hT hR
    have HRW := Lib.hid fun r (hr : r < R) => rows_hold hok hT hT0 hn0 hr
    have HPT := Lib.hid fun k (hl : k < p.length) (hz : pAt p k ≠ 0) (w' : World) (hs : Below w.heap.size w w') => (gIn_plan hok hl) ▸ weightIn_any u l (pAt p k) w' (hb.keep hs)
    have hTN : h.t.toNat = T := by omega
    have hss := rowsL_len T p R
    have HE := Lib.hid (show rowO h l p = rowsW l T p R from by unfold rowO; rw [if_pos hok, hTN, rowsMany_eq hT hT0 hn0])
    have HWB := Lib.hid fun k (hl : k < p.length) => wBx_bd hok hl
    have HBD := Lib.hid fun r (hr : r * T + T ≤ p.length) t ht => rowN_bd hok hr t ht
    have HNX := Lib.hid fun r => rowsW_next l T p r
    have HRL := Lib.hid fun r => rowsW_len l T p r
    have HRN := Lib.hid fun r t => (show rowN l T p r (t + 1) = rowN l T p r t + wBx l (pAt p (r * T + t)) from rfl)
    have HSK := Lib.hid fun r (hr : r < R) => (show rowN l T p r T = rowN l T p r (hgtR T p r) from by
      obtain ⟨-, -, f2, -, f4, -⟩ := HRW.out r hr
      exact rowN_rest f2 f4)
    rw [hok] at HPV
    obtain ⟨ss, hsv⟩ : ∃ ss, ss = rowsL T p R := ⟨_, rfl⟩
    rw [← hsv] at HLR HRW hss
    obtain ⟨pa, pc, rfl⟩ := hp.form
    obtain ⟨n, hn⟩ : ∃ n, n = p.length := ⟨_, rfl⟩
    rw [← hn] at HPV PK HPT HLR HRW HWB HBD hn0 hn36 ⊢
    have hz0 : rowsW l T p 0 = [] := rfl
    clear hok hb hp hn hsv hT hR hTN hn0
    go_enter Try.func12, Try.ntmps12
    go_wp2_with fail
    rw [← HW.out]
    go_wp2_with fail
    refine (HPV.out _ HB.out).mono ?_
    rintro e w3 ⟨rfl, b3⟩
    have C3 := HB.out.trans (b3.mono HB.out.size)
    have y3 := HX.out w3 b3
    have c0 := y3.c0
    have c1 := y3.c1
    have c2 := y3.c2
    clear b3 y3 y0 y1 y2
    go_wp2_with fail
    refine (HLR.out w3 C3).mono ?_
    rintro e w5 ⟨v5, rfl, N5, b5⟩
    obtain ⟨a5, c5, rfl⟩ := N5.form
    have NY := Lib.hid fun (w' : World) (hs : Below w5.heap.size w5 w') => N5.holds.keep hs
    have C5 := Lib.hid (C3.trans (b5.mono C3.size))
    rw [hss] at NY ⊢
    clear N5 hss HLR HPV
    clear c0 c1 c2 b5 C3
    go_wp2_with fail
    go_loopw [7, 22] (fun va i wr => ∃ r : Nat, r ≤ R ∧ i = .int .i64 r ∧ Hid (OwnI w5.heap.size wr va (rowsW l T p r)) ∧ Hid (Below w5.heap.size w5 wr)) (fun _ i _ => R - (intOf i).toNat)
    case atStart => exact ⟨0, by omega, rfl, by rw [hz0]; exact Lib.hid OwnI.nil, Lib.hid (Below.refl _ _)⟩
    case round =>
      clear hz0
      obtain ⟨r, hrR, rfl, HOO, DR⟩ := hrel
      obtain ⟨wo, rfl⟩ : ∃ wo : World, wo = wr := ⟨_, rfl⟩
      by_cases hlt : r < R
      · obtain ⟨yb, yo, rx, rc, rfl, hyb, s0', hl1, hl2, -, HRow⟩ := (NY.out w5 (Below.refl _ _)).at_ hlt
        have s0 := (DR.out.cell (p := ⟨yb, yo + r, none⟩) hyb).trans s0'
        obtain ⟨hrl, hrg, hmT, hfull, hempty, hrn⟩ := HRW.out r hlt
        rw [hrl] at s0 hl1 HRow
        have HRK := Lib.hid fun (w' : World) (hs : Below w5.heap.size w5 w') => HRow.keep hs
        have ir : (r : Int) < (R : Int) := by omega
        have i0r : (0 : Int) ≤ (r : Int) := by omega
        have HSKr := HSK.out r hlt
        have HBDr := Lib.hid fun t ht => HBD.out r hrn t ht
        have HNXr := HNX.out r
        obtain ⟨m, hm⟩ : ∃ m, m = hgtR T p r := ⟨_, rfl⟩
        rw [← hm] at s0 hl1 HRK hrg hmT hfull HSKr
        rw [HSKr] at HNXr
        have HNR := Lib.hid HNXr
        have HG := Lib.hid hrg
        have HFU := Lib.hid hfull
        have hl0 : rowN l T p r 0 = 0 := rfl
        clear hrl hrg hfull hempty hm HRow s0' HSKr HNXr
        go_wp2_with fail
        clear s0
        go_loopw [10, 28] (fun sm jv w2 => ∃ t : Nat, t ≤ m ∧ sm = .int .i64 (rowN l T p r t) ∧ jv = .int .i64 t ∧ Hid (Below wo.heap.size wo w2)) (fun _ jv _ => m - (intOf jv).toNat)
        case atStart => exact ⟨0, by omega, by rw [hl0], rfl, Lib.hid (Below.refl _ _)⟩
        case round =>
          clear hl0
          obtain ⟨t, htm, rfl, rfl, DI⟩ := hrel
          have DJ := Lib.hid (DR.out.trans (DI.out.mono DR.out.size))
          have EW := C5.out.trans (DJ.out.mono C5.out.size)
          by_cases hltt : t < m
          · have it : (t : Int) < (m : Int) := by omega
            have i0t : (0 : Int) ≤ (t : Int) := by omega
            obtain ⟨kb, ko, rfl, hkb, t0⟩ := (HRK.out wr DJ.out).at_ hltt
            rw [HG.out t hltt] at t0
            have hz := HFU.out t hltt
            have hkn : r * T + t < n := by omega
            obtain ⟨pb, po, rfl, hpb, u0⟩ := (PK.out wr EW).at_ hkn
            have e1 : p.getD (r * T + t) 0 = pAt p (r * T + t) := rfl
            rw [e1] at u0
            have HPk := Lib.hid (HPT.out _ hkn hz wr EW)
            have hb1 := HBDr.out (t + 1) (by omega)
            have hrn1 := HRN.out r t
            obtain ⟨k, hk⟩ : ∃ k, k = r * T + t := ⟨_, rfl⟩
            rw [← hk] at t0 u0 hkn HPk hrn1
            obtain ⟨x, hx⟩ : ∃ x, x = pAt p k := ⟨_, rfl⟩
            rw [← hx] at u0 HPk hrn1
            have hsum : IntKind.i64.wrap (rowN l T p r t + wBx l x) = rowN l T p r (t + 1) := by rw [hrn1] at hb1 ⊢; exact IntWalk.i64_in _ (by omega)
            have HSM := Lib.hid hsum
            generalize wBx l x = bw at HPk hsum HSM
            generalize rowN l T p r t = a at hsum HSM ⊢
            have ik : (k : Int) < (n : Int) := by omega
            have i0k : (0 : Int) ≤ (k : Int) := by omega
            clear EW hz hx hb1 hrn1 e1 hk
            go_wp2_with fail
            refine HPk.out.mono ?_
            rintro e w6 ⟨rfl, b6⟩
            have D6 := Lib.hid (DI.out.trans (b6.mono DI.out.size))
            clear b6 t0 u0
            go_wp2_with fail
            go_roundw
            case rel => exact ⟨t + 1, by omega, (by first | rfl | rw [HSM.out]), by go_num, D6⟩
            case measure => simp [intOf]; omega
          · obtain rfl : t = m := by omega
            have HO := Lib.hid (HOO.out.keep DI.out)
            have hle := Nat.le_of_eq (HRL.out r)
            obtain ⟨Lr, hLr⟩ : ∃ L, L = rowsW l T p r := ⟨_, rfl⟩
            rw [← hLr] at HO hle HNR
            obtain ⟨x, hx⟩ : ∃ x, x = rowN l T p r t := ⟨_, rfl⟩
            rw [← hx] at HNR ⊢
            clear EW hLr hx
            have hzW : w5.heap.size ≤ wr.heap.size := DJ.out.size
            go_wp2_with (at_builtin; refine wpList_append_own _ rfl _ _ 26 rfl w5.heap.size 3 i0 (.int .i64 0) 1 8 Try.underlying26 HI.out HZ0.out HZ1.out HZ2.out rfl (by decide) _ Lr.length (rowI Lr) rfl (HO.out.alloc _) ⟨wr.heap.size, 0, none⟩ 1 1 [.int .i64 x] rfl rfl (fun j u hu => cells_new j u hu) (by simp [Value.oneCell']) (by unfold maxLen; omega) (by omega) (by simp; omega) ?_; intro v8 w8 hown8 hgrow _)
            have hb8 : Below w5.heap.size wr w8 := ((Below.refl _ _).alloc hzW _).trans (own_below hgrow (by simp; omega) (fun k' hk' => (own_lt HO.out k' hk').1))
            have HO8 := Lib.hid (show OwnI w5.heap.size w8 v8 (Lr ++ [x]) from own_put hown8)
            have D8 := Lib.hid (DJ.out.trans hb8)
            clear hgrow hown8 hb8
            go_roundw
            case rel => exact ⟨r + 1, by omega, by go_num, by rw [HNR.out]; exact HO8, D8⟩
            case measure => simp [intOf]; omega
      · obtain rfl : r = R := by omega
        have C9 := C5.out.trans (DR.out.mono C5.out.size)
        have O9 := HOO.out.freeE.from_ C5.out.size
        go_wp2_with fail
        go_ret
        exact ⟨_, rfl, by rw [HE.out]; exact O9, C9⟩

set_option maxRecDepth 10000 in
set_option maxHeartbeats 2000000 in
theorem implRowsBear_any (h : Hl) (u v : Value) (l : List Bx) (p : List Int) (most : Int) (w : World) (hb : HoldsBx w u l) (hp : HoldsI w v p) :
    Calls Try.prog 18 #[.agg #[.int .i64 h.b, .int .i64 h.r, .int .i64 h.t], u, v, .int .i64 most] w fun e w' => e = .returned (.bool (bearO h l p most)) ∧ Below w.heap.size w w' := by
  have hb1 := (Below.refl w.heap.size w).alloc (Nat.le_refl _) (.cells #[.int .i64 h.b, .int .i64 h.r, .int .i64 h.t] 24)
  have hx1 := BoxH.new w h
  obtain ⟨W1, hW1⟩ : ∃ W1, W1 = w.alloc (.cells #[.int .i64 h.b, .int .i64 h.r, .int .i64 h.t] 24) := ⟨_, rfl⟩
  rw [← hW1] at hb1 hx1
  have HW := Lib.hid hW1
  have HB := Lib.hid hb1
  have y0 := hx1.c0
  have y1 := hx1.c1
  have y2 := hx1.c2
  have HX := Lib.hid fun (w' : World) (hs : Below W1.heap.size W1 w') => hx1.keep hs
  clear hW1 hb1 hx1
  have PK := Lib.hid fun (w' : World) (hs : Below w.heap.size w w') => hp.keep hs
  have HPV := Lib.hid fun (w' : World) (hs : Below w.heap.size w w') => implPlanValid_any h u v l p w' (hb.keep hs) (hp.keep hs)
  have HRW := Lib.hid fun (w' : World) (hs : Below w.heap.size w w') => implRowWeights_any h u v l p w' (hb.keep hs) (hp.keep hs)
  cases hok : plOk h (bxsOk l) (bxIds l) p
  · have HE := Lib.hid (show bearO h l p most = false from decide_eq_false (fun hc => by rw [hok] at hc; cases hc.1))
    rw [hok] at HPV
    clear hok hb hp PK
    go_enter Try.func18, Try.ntmps18
    go_wp2_with fail
    rw [← HW.out]
    go_wp2_with fail
    refine (HPV.out _ HB.out).mono ?_
    rintro e w2 ⟨rfl, b2⟩
    go_wp2_with fail
    go_ret
    exact ⟨by rw [HE.out]; rfl, HB.out.trans (b2.mono HB.out.size)⟩
  · obtain ⟨R, T, hT, hR, hT0, hT3, hn0, hn36, hR36⟩ := rows_two hok
    have hm := rowsMany_eq (p := p) hT hT0 hn0
    have hlen : (rowO h l p).length = R := by unfold rowO; rw [if_pos hok, rowsW_len, hm]
    have hpl : 1 ≤ p.length := by
      obtain ⟨m1, _, _⟩ := slMany_bd (plOk_iff.1 hok).1
      have h1 := (plOk_iff.1 hok).2.2.1
      omega
    have hR0 : 0 < R := by
      rcases Nat.eq_zero_or_pos R with e | e
      · exfalso; subst e; rw [Nat.zero_mul] at hn0; omega
      · exact e
    have HE := Lib.hid (bear_max (most := most) hok (by rw [hm]; exact hR0))
    obtain ⟨L, hL⟩ : ∃ L, L = rowO h l p := ⟨_, rfl⟩
    rw [← hL] at HRW HE hlen
    have hl0 : 0 < L.length := by omega
    rw [hok] at HPV
    have HM0 := Lib.hid fun v (w' : World) (hv : HoldsI w' v L) => slMax_any v L w' hv hl0
    obtain ⟨mx, hmx⟩ : ∃ mx, mx = mxN L L.length := ⟨_, rfl⟩
    rw [← hmx] at HM0 HE
    clear hok hb hp PK hT hR hn0 hm hlen hL hmx
    go_enter Try.func18, Try.ntmps18
    go_wp2_with fail
    rw [← HW.out]
    go_wp2_with fail
    refine (HPV.out _ HB.out).mono ?_
    rintro e w3 ⟨rfl, b3⟩
    have C3 := HB.out.trans (b3.mono HB.out.size)
    have y3 := HX.out w3 b3
    have c0 := y3.c0
    have c1 := y3.c1
    have c2 := y3.c2
    clear b3 y3 y0 y1 y2 HPV
    go_wp2_with fail
    refine (HRW.out w3 C3).mono ?_
    rintro e w4 ⟨v4, rfl, F4, b4⟩
    have C4 := C3.trans (b4.mono C3.size)
    have HMx := Lib.hid (HM0.out v4 w4 F4.holds)
    clear F4 b4 C3 c0 c1 c2 HRW HM0
    go_wp2_with fail
    refine HMx.out.mono ?_
    rintro e w' ⟨rfl, rfl⟩
    go_wp2_with fail
    go_ret
    exact ⟨by rw [← HE.out]; rfl, C4⟩

set_option maxRecDepth 10000 in
set_option maxHeartbeats 8000000 in
theorem implOnLighter_any (h : Hl) (u v : Value) (l : List Bx) (p : List Int) (w : World) (hb : HoldsBx w u l) (hp : HoldsI w v p) :
    Calls Try.prog 22 #[.agg #[.int .i64 h.b, .int .i64 h.r, .int .i64 h.t], u, v] w fun e w' => ∃ v', e = .returned v' ∧ FreeE w.heap.size w' v' (lightO h l p) ∧ Below w.heap.size w w' := by
  have hb1 := (Below.refl w.heap.size w).alloc (Nat.le_refl _) (.cells #[.int .i64 h.b, .int .i64 h.r, .int .i64 h.t] 24)
  have hx1 := BoxH.new w h
  obtain ⟨W1, hW1⟩ : ∃ W1, W1 = w.alloc (.cells #[.int .i64 h.b, .int .i64 h.r, .int .i64 h.t] 24) := ⟨_, rfl⟩
  rw [← hW1] at hb1 hx1
  have HW := Lib.hid hW1
  have HB := Lib.hid hb1
  have y0 := hx1.c0
  have y1 := hx1.c1
  have y2 := hx1.c2
  have HX := Lib.hid fun (w' : World) (hs : Below W1.heap.size W1 w') => hx1.keep hs
  have hs1 : W1.heap.size = w.heap.size + 1 := by rw [hW1]; simp
  clear hW1 hb1 hx1
  have PK := Lib.hid fun (w' : World) (hs : Below w.heap.size w w') => hp.keep hs
  have HPV := Lib.hid fun (w' : World) (hs : Below w.heap.size w w') => implPlanValid_any h u v l p w' (hb.keep hs) (hp.keep hs)
  obtain ⟨i0, hi, hz0, hz1, hz2⟩ := info_parts infoInt
  have HI := Lib.hid hi
  have HZ0 := Lib.hid hz0
  have HZ1 := Lib.hid hz1
  have HZ2 := Lib.hid hz2
  clear hi hz0 hz1 hz2
  cases hok : plOk h (bxsOk l) (bxIds l) p
  · have HE := Lib.hid (show lightO h l p = [] from by unfold lightO; rw [hok]; rfl)
    rw [hok] at HPV
    clear hok hb hp
    go_enter Try.func22, Try.ntmps22
    go_wp2_with fail
    rw [← HW.out]
    go_wp2_with fail
    refine (HPV.out _ HB.out).mono ?_
    rintro e w2 ⟨rfl, b2⟩
    go_wp2_with fail
    go_ret
    exact ⟨_, rfl, by rw [HE.out]; exact FreeE.zero, HB.out.trans (b2.mono HB.out.size)⟩
  · obtain ⟨R, T, hT, hR, hT0, hT3, hn0, hn36, hR36⟩ := rows_two hok
    have hTN : h.t.toNat = T := by omega
    have HLS := Lib.hid fun (w' : World) (hs : Below w.heap.size w w') => loadedSlots_any v p w' (hp.keep hs) (by omega)
    have HSB := Lib.hid fun (k : Nat) (w' : World) => implSlotBelow_any h (k : Int) w'
    have HSV := Lib.hid fun (k : Nat) (hl : k < p.length) => (show slBelow h (k : Int) = if (k : Int) % (T : Int) = 0 then -1 else (k : Int) - 1 from by rw [← hT]; exact slBelow_val (plOk_iff.1 hok).1 (by omega) (by have := (plOk_iff.1 hok).2.2.1; omega))
    have HW8 := Lib.hid fun k (hl : k < p.length) (w' : World) (hs : Below w.heap.size w w') => (gIn_plan hok hl) ▸ weightIn_any u l (pAt p k) w' (hb.keep hs)
    have HE := Lib.hid (show lightJ T (wBx l) p (fullS p).length = lightO h l p from by rw [← hTN]; exact lightJ_end hok)
    have HNX := Lib.hid fun j (hj : j < (fullS p).length) => lightJ_next (T := T) (w := wBx l) hj
    have HLE := Lib.hid fun j => lightJ_len T (wBx l) p j
    have HZ := Lib.hid (lightJ_zero T (wBx l) p)
    have HLT := Lib.hid fun k => (show lightS T (wBx l) p k = decide (k % T ≠ 0 ∧ pAt p k ≠ 0 ∧ wBx l (pAt p (k - 1)) < wBx l (pAt p k)) from rfl)
    have HFA := Lib.hid fun j (hj : j < (fullS p).length) => (show fAt p j < p.length ∧ pAt p (fAt p j) ≠ 0 ∧ (fullI p).getD j 0 = (fAt p j : Int) from ⟨(fAt_mem hj).1, (fAt_mem hj).2, fullI_at hj⟩)
    have hFL := fullS_le p
    have hFI := fullI_len p
    rw [hok] at HPV
    obtain ⟨pa, pc, rfl⟩ := hp.form
    obtain ⟨n, hn⟩ : ∃ n, n = p.length := ⟨_, rfl⟩
    rw [← hn] at HPV PK HLS HW8 HFA HSV hFL hn36 ⊢
    obtain ⟨N, hN⟩ : ∃ N, N = (fullS p).length := ⟨_, rfl⟩
    rw [← hN] at HE HNX HFA hFL hFI
    clear hok hb hp hn hN hT hR hTN hn0
    go_enter Try.func22, Try.ntmps22
    go_wp2_with fail
    rw [← HW.out]
    go_wp2_with fail
    refine (HPV.out _ HB.out).mono ?_
    rintro e w3 ⟨rfl, b3⟩
    have D3 := Lib.hid (show Below (w.heap.size + 1) W1 w3 from hs1 ▸ b3)
    have C3 := HB.out.trans (b3.mono HB.out.size)
    rw [hs1] at HX
    clear b3 y0 y1 y2 HPV
    go_wp2_with fail
    refine (HLS.out w3 C3).mono ?_
    rintro e w5 ⟨v5, rfl, N5, b5⟩
    have NH := N5.holds
    obtain ⟨fa, fc, rfl⟩ := NH.form
    have NY := Lib.hid fun (w' : World) (hs : Below w5.heap.size w5 w') => NH.keep hs
    have D5 := Lib.hid (D3.out.trans (b5.mono (by have := D3.out.size; omega)))
    rw [hFI] at NY ⊢
    have HO0 := Lib.hid (OwnI.nil (K := w5.heap.size) (w := w5))
    have hw5 : w.heap.size + 1 ≤ w5.heap.size := by have := D5.out.size; omega
    clear N5 NH HLS b5 C3 D3 hFI
    go_wp2_with fail
    go_loopw [7, 19] (fun va i wr => ∃ j : Nat, j ≤ N ∧ i = .int .i64 j ∧ Hid (OwnI w5.heap.size wr va (lightJ T (wBx l) p j)) ∧ Hid (Below w5.heap.size w5 wr)) (fun _ i _ => N - (intOf i).toNat)
    case atStart => exact ⟨0, by omega, rfl, by rw [HZ.out]; exact HO0, Lib.hid (Below.refl _ _)⟩
    case round =>
      clear HO0 HZ
      obtain ⟨j, hjN, rfl, HOW, DJ⟩ := hrel
      have DR := Lib.hid (D5.out.trans (DJ.out.mono hw5))
      by_cases hlt : j < N
      · obtain ⟨fb, fo, rfl, hfb, t0⟩ := (NY.out wr DJ.out).at_ hlt
        obtain ⟨hkn, hkz, hka⟩ := HFA.out j hlt
        rw [hka] at t0
        have HNj := HNX.out j hlt
        have hle := HLE.out j
        obtain ⟨k, hk⟩ : ∃ k, k = fAt p j := ⟨_, rfl⟩
        rw [← hk] at t0 hkn hkz HNj
        have ij : (j : Int) < (N : Int) := by omega
        have i0j : (0 : Int) ≤ (j : Int) := by omega
        have hsv := HSV.out k hkn
        have hls := HLT.out k
        have y := HX.out wr DR.out
        have c0 := y.c0
        have c1 := y.c1
        have c2 := y.c2
        have HSBk := Lib.hid (HSB.out k)
        obtain ⟨Lj, hLj⟩ : ∃ L, L = lightJ T (wBx l) p j := ⟨_, rfl⟩
        rw [← hLj] at HNj HOW hle
        clear hka hk y hLj
        by_cases hm : (k : Int) % (T : Int) = 0
        · have hg : lightS T (wBx l) p k = false := by rw [hls]; exact decide_eq_false (fun hc => hc.1 (by omega))
          rw [hg, if_neg (by simp)] at HNj
          rw [if_pos hm] at hsv
          rw [hsv] at HSBk
          have HP2 := Lib.hid HNj
          clear hg HNj hsv hls hm hkz
          go_wp2_with fail
          refine (HSBk.out _).mono ?_
          rintro e w6 ⟨rfl, b6⟩
          have D6 := Lib.hid (DJ.out.trans (b6.mono DJ.out.size))
          have HO6 := Lib.hid (HOW.out.keep b6)
          have E6 := Lib.hid (HB.out.trans ((D5.out.trans (D6.out.mono hw5)).mono (by omega)))
          clear b6 c0 c1 c2 t0
          go_wp2_with fail
          go_quiet (fail)
          have b7 : Below w6.heap.size w6 (w6.drewN nq) := Below.drewN_ (Below.refl _ _) _
          have D7 := Lib.hid (D6.out.trans (b7.mono D6.out.size))
          have HO7 := Lib.hid (HO6.out.keep b7)
          generalize w6.drewN nq = w7 at D7 HO7 ⊢
          clear b7
          go_wp2_with fail
          go_roundw
          case rel => exact ⟨j + 1, by omega, by go_num, by rw [HP2.out]; exact HO7, D7⟩
          case measure => simp [intOf]; omega
        · obtain ⟨i, hki⟩ : ∃ i, k = i + 1 := ⟨k - 1, by have : k ≠ 0 := fun e => hm (by rw [e]; simp); omega⟩
          rw [if_neg hm, show (k : Int) - 1 = (i : Int) by omega] at hsv
          rw [hsv] at HSBk
          have hkm : k % T ≠ 0 := fun e => hm (by omega)
          have hg : lightS T (wBx l) p k = decide (wBx l (pAt p i) < wBx l (pAt p k)) := by rw [hls, show k - 1 = i by omega]; exact decide_eq_decide.2 ⟨fun hc => hc.2.2, fun hc => ⟨hkm, hkz, hc⟩⟩
          rw [hg] at HNj
          have hin : i < n := by omega
          have d0 : decide ((i : Int) ≥ 0) = true := decide_eq_true (by omega)
          have d1 : decide ((0 : Int) ≤ (i : Int)) = true := d0
          obtain ⟨pb, po, rfl, hpb, s0⟩ := (PK.out w (Below.refl _ _)).at_ hkn
          obtain ⟨pb2, po2, e0, -, s1⟩ := (PK.out w (Below.refl _ _)).at_ hin
          simp only [Option.some.injEq, Addr.mk.injEq, and_true] at e0
          obtain ⟨rfl, rfl⟩ := e0
          rw [show p.getD k 0 = pAt p k from rfl] at s0
          rw [show p.getD i 0 = pAt p i from rfl] at s1
          have HWk0 := HW8.out k hkn
          have HWi0 := HW8.out i hin
          obtain ⟨xk, hxk⟩ : ∃ x, x = pAt p k := ⟨_, rfl⟩
          obtain ⟨xi, hxi⟩ : ∃ x, x = pAt p i := ⟨_, rfl⟩
          rw [← hxk] at s0 HNj HWk0
          rw [← hxi] at s1 HNj HWi0
          generalize wBx l xk = wk at HNj HWk0
          generalize wBx l xi = wi at HNj HWi0
          have HWk1 := Lib.hid HWk0
          have HWi1 := Lib.hid HWi0
          have HS0 := Lib.hid s0
          have HS1 := Lib.hid s1
          have ik : (k : Int) < (n : Int) := by omega
          have i0k : (0 : Int) ≤ (k : Int) := by omega
          have ii : (i : Int) < (n : Int) := by omega
          have i0i : (0 : Int) ≤ (i : Int) := by omega
          clear hsv hls hm hkz hg hkm hxk hxi HWk0 HWi0 s0 s1 hki
          go_wp2_with fail
          refine (HSBk.out _).mono ?_
          rintro e w6 ⟨rfl, b6⟩
          have D6 := Lib.hid (DJ.out.trans (b6.mono DJ.out.size))
          have HO6 := Lib.hid (HOW.out.keep b6)
          have E6 := Lib.hid (HB.out.trans ((D5.out.trans (D6.out.mono hw5)).mono (by omega)))
          clear b6 c0 c1 c2 t0
          have HWk := Lib.hid fun (w' : World) (hs : Since w6 w') => HWk1.out w' (E6.out.trans (Below.mono hs E6.out.size))
          have HWi := Lib.hid fun (w' : World) (hs : Since w6 w') => HWi1.out w' (E6.out.trans (Below.mono hs E6.out.size))
          have HK2 := Lib.hid fun (w' : World) (hs : Since w6 w') => (show w'.cell? ⟨pb, po + k, none⟩ = some (.int .i64 xk) ∧ w'.cell? ⟨pb, po + i, none⟩ = some (.int .i64 xi) ∧ Since w6 w' from ⟨((E6.out.trans (Below.mono hs E6.out.size)).cell (p := ⟨pb, po + k, none⟩) hpb).trans HS0.out, ((E6.out.trans (Below.mono hs E6.out.size)).cell (p := ⟨pb, po + i, none⟩) hpb).trans HS1.out, hs⟩)
          have hstart := HK2.out _ (show Since w6 w6.drew from (Below.refl _ _).drew)
          clear HWk1 HWi1
          by_cases hgt : wi < wk
          · rw [decide_eq_true hgt, if_pos rfl] at HNj
            have HP2 := Lib.hid HNj
            have g1 : decide (wk > wi) = true := decide_eq_true hgt
            have g2 : decide (wi < wk) = true := g1
            clear HNj hgt
            go_wp2_with fail
            go_region_held3 (fun w' => w'.cell? ⟨pb, po + k, none⟩ = some (.int .i64 xk) ∧ w'.cell? ⟨pb, po + i, none⟩ = some (.int .i64 xi) ∧ Since w6 w')
              (first | exact hstart | exact HK2.out _ s7 | exact HK2.out _ (by exact (‹_ ∧ _› : _ ∧ _ ∧ Since w6 _).2.2) | fail)
              (first
                | (go_at_call 45; ((with_reducible refine (HWk.out _ (by exact (‹_ ∧ _› : _ ∧ _ ∧ Since w6 _).2.2)).mono ?_); rintro e w7 ⟨rfl, d7⟩; have s7 : Since w6 w7 := Since.call (by exact (‹_ ∧ _› : _ ∧ _ ∧ Since w6 _).2.2) d7; clear d7))
                | (go_at_call 45; ((with_reducible refine (HWi.out _ (by exact (‹_ ∧ _› : _ ∧ _ ∧ Since w6 _).2.2)).mono ?_); rintro e w7 ⟨rfl, d7⟩; have s7 : Since w6 w7 := Since.call (by exact (‹_ ∧ _› : _ ∧ _ ∧ Since w6 _).2.2) d7; clear d7))
                | fail)
            rename_i hheld
            have b9 : Below w6.heap.size w6 w7 := hheld.2.2
            have D9 := Lib.hid (D6.out.trans (b9.mono D6.out.size))
            have HO9 := Lib.hid (HO6.out.keep b9)
            clear hheld hstart b9
            have hzW : w5.heap.size ≤ w7.heap.size := D9.out.size
            go_wp2_with (at_builtin; refine wpList_append_own _ rfl _ _ 26 rfl w5.heap.size 3 i0 (.int .i64 0) 1 8 Try.underlying26 HI.out HZ0.out HZ1.out HZ2.out rfl (by decide) _ Lj.length (rowI Lj) rfl (HO9.out.alloc _) ⟨w7.heap.size, 0, none⟩ 1 1 [.int .i64 (k : Int)] rfl rfl (fun j u hu => cells_new j u hu) (by simp [Value.oneCell']) (by unfold maxLen; omega) (by omega) (by simp; omega) ?_; intro v8 w8 hown8 hgrow _)
            have hb8 : Below w5.heap.size w7 w8 := ((Below.refl _ _).alloc hzW _).trans (own_below hgrow (by simp; omega) (fun k' hk' => (own_lt HO9.out k' hk').1))
            have HO8 := Lib.hid (show OwnI w5.heap.size w8 v8 (Lj ++ [(k : Int)]) from own_put hown8)
            have D8 := Lib.hid (D9.out.trans hb8)
            clear hgrow hown8 hb8
            go_wp2_with fail
            go_roundw
            case rel => exact ⟨j + 1, by omega, by go_num, by rw [HP2.out]; exact HO8, D8⟩
            case measure => simp [intOf]; omega
          · rw [decide_eq_false hgt, if_neg (by simp)] at HNj
            have HP2 := Lib.hid HNj
            have g1 : decide (wk > wi) = false := decide_eq_false hgt
            have g2 : decide (wi < wk) = false := g1
            clear HNj hgt
            go_wp2_with fail
            go_region_held3 (fun w' => w'.cell? ⟨pb, po + k, none⟩ = some (.int .i64 xk) ∧ w'.cell? ⟨pb, po + i, none⟩ = some (.int .i64 xi) ∧ Since w6 w')
              (first | exact hstart | exact HK2.out _ s7 | exact HK2.out _ (by exact (‹_ ∧ _› : _ ∧ _ ∧ Since w6 _).2.2) | fail)
              (first
                | (go_at_call 45; ((with_reducible refine (HWk.out _ (by exact (‹_ ∧ _› : _ ∧ _ ∧ Since w6 _).2.2)).mono ?_); rintro e w7 ⟨rfl, d7⟩; have s7 : Since w6 w7 := Since.call (by exact (‹_ ∧ _› : _ ∧ _ ∧ Since w6 _).2.2) d7; clear d7))
                | (go_at_call 45; ((with_reducible refine (HWi.out _ (by exact (‹_ ∧ _› : _ ∧ _ ∧ Since w6 _).2.2)).mono ?_); rintro e w7 ⟨rfl, d7⟩; have s7 : Since w6 w7 := Since.call (by exact (‹_ ∧ _› : _ ∧ _ ∧ Since w6 _).2.2) d7; clear d7))
                | fail)
            rename_i hheld
            have b9 : Below w6.heap.size w6 w7 := hheld.2.2
            have D9 := Lib.hid (D6.out.trans (b9.mono D6.out.size))
            have HO9 := Lib.hid (HO6.out.keep b9)
            clear hheld hstart b9
            go_wp2_with fail
            go_roundw
            case rel => exact ⟨j + 1, by omega, by go_num, by rw [HP2.out]; exact HO9, D9⟩
            case measure => simp [intOf]; omega
      · obtain rfl : j = N := by omega
        have C9 := HB.out.trans (DR.out.mono (by omega))
        have O9 := HOW.out.freeE.from_ (show w.heap.size ≤ w5.heap.size by omega)
        rw [HE.out] at O9
        go_wp2_with fail
        go_ret
        exact ⟨_, rfl, O9, C9⟩

end Go.Proofs.Ytmgnbkiphdlooab
