/-
  The program's chapter 10, second part: Overstows, PortMoves, AfterPort, VoyageMoves.
-/
import Derived.Test.YtfeobdgdhgcgoaaOvIa
import Derived.Test.YtfeobdgdhgcgoaaOvF
import Derived.Test.YtfeobdgdhgcgoaaPlI
import Derived.Test.YtfeobdgdhgcgoaaGBl
import Derived.Laws.AppendOwnNone
import Derived.Deep.RegionHeld3
namespace Go.Proofs.Ytfeobdgdhgcgoaa
open Go.RowKit
set_option linter.unusedVariables false

theorem rows_two {h : Hl} {bok : Bool} {ids p : List Int} (hk : plOk h bok ids p = true) : ∃ R T : Nat, h.t = (T : Int) ∧ h.b * h.r = (R : Int) ∧ 0 < T ∧ T ≤ 3 ∧ p.length = R * T ∧ p.length ≤ 36 ∧ R ≤ 36 := by
  obtain ⟨q1, q2, q3, q4⟩ := plOk_iff.1 hk
  obtain ⟨g1, g2, g3, g4, g5, g6⟩ := hlOk_iff.1 q1
  obtain ⟨m1, m2, m3⟩ := slMany_bd q1
  have h0 : 0 ≤ h.b * h.r := Int.mul_nonneg (by omega) (by omega)
  obtain ⟨R, hR⟩ : ∃ R : Nat, h.b * h.r = (R : Int) := ⟨(h.b * h.r).toNat, by omega⟩
  obtain ⟨T, hT⟩ : ∃ T : Nat, h.t = (T : Int) := ⟨h.t.toNat, by omega⟩
  have hn : p.length = R * T := by
    rw [m3, hR, hT] at q3
    have e : ((R * T : Nat) : Int) = (R : Int) * (T : Int) := Int.natCast_mul R T
    omega
  have h1 : R * 1 ≤ R * T := Nat.mul_le_mul_left R (by omega)
  exact ⟨R, T, hT, hR, by omega, by omega, hn, by omega, by omega⟩
/-- What the rows of a valid plan hold. -/
theorem rows_hold {h : Hl} {bok : Bool} {ids p : List Int} (hk : plOk h bok ids p = true) {T R : Nat} (hT : h.t = (T : Int)) (hT0 : 0 < T) (hn : p.length = R * T) {r : Nat} (hr : r < R) :
    (rowAt (rowsL T p R) r).length = hgtR T p r ∧ (∀ t, t < hgtR T p r → (rowAt (rowsL T p R) r).getD t 0 = ((r * T + t : Nat) : Int)) ∧ hgtR T p r ≤ T ∧ (∀ t, t < hgtR T p r → pAt p (r * T + t) ≠ 0) ∧ (∀ t, hgtR T p r ≤ t → t < T → pAt p (r * T + t) = 0) ∧ r * T + T ≤ p.length := by
  obtain ⟨f1, f2, f3, f4⟩ := row_form hk hT.symm hT0 hn hr
  refine ⟨by rw [rowsL_at hr, rowJ_len], fun t ht => by rw [rowsL_at hr]; exact rowJ_get hk hT.symm hT0 hn hr ht, f2, f3, f4, ?_⟩
  rw [hn]
  have : (r + 1) * T ≤ R * T := Nat.mul_le_mul_right T hr
  rw [Nat.succ_mul] at this
  omega
theorem cnt_rest {T : Nat} {g : Nat → Bool} {r m : Nat} (hm : m ≤ T) (hz : ∀ t, m ≤ t → t < T → g (r * T + t) = false) : cnt g ((r + 1) * T) = cnt g (r * T + m) := by
  have e : (r + 1) * T = (r * T + m) + (T - m) := by rw [Nat.succ_mul]; omega
  rw [e]
  exact cnt_skip fun k h1 h2 => by
    have := hz (k - r * T) (by omega) (by omega)
    rwa [show r * T + (k - r * T) = k by omega] at this
theorem filI_rest {T : Nat} {g : Nat → Bool} {r m : Nat} (hm : m ≤ T) (hz : ∀ t, m ≤ t → t < T → g (r * T + t) = false) : filI g ((r + 1) * T) = filI g (r * T + m) := by
  have e : (r + 1) * T = (r * T + m) + (T - m) := by rw [Nat.succ_mul]; omega
  rw [e]
  have : ∀ d, d ≤ T - m → filI g (r * T + m + d) = filI g (r * T + m) := by
    intro d
    induction d with
    | zero => intro _; rfl
    | succ d ih =>
      intro hd
      rw [← Nat.add_assoc, filI_next, if_neg, ih (by omega)]
      rw [show r * T + m + d = r * T + (m + d) by omega, hz (m + d) (by omega) (by omega)]
      simp
  exact this _ (Nat.le_refl _)

set_option maxRecDepth 10000 in
set_option maxHeartbeats 4000000 in
theorem implOverstows_any (h : Hl) (u v : Value) (l : List Bx) (p : List Int) (w : World) (hb : HoldsBx w u l) (hp : HoldsI w v p) :
    Calls Try.prog 22 #[.agg #[.int .i64 h.b, .int .i64 h.r, .int .i64 h.t], u, v] w fun e w' => e = .returned (.int .i64 (overO h l p)) ∧ Below w.heap.size w w' := by
  have hb1 := (Below.refl w.heap.size w).alloc (Nat.le_refl _) (.cells #[.int .i64 h.b, .int .i64 h.r, .int .i64 h.t] 36)
  have hx1 := BoxH.new w h
  obtain ⟨W1, hW1⟩ : ∃ W1, W1 = w.alloc (.cells #[.int .i64 h.b, .int .i64 h.r, .int .i64 h.t] 36) := ⟨_, rfl⟩
  rw [← hW1] at hb1 hx1
  have HW := Lib.hid hW1
  have HB := Lib.hid hb1
  have y0 := hx1.c0
  have y1 := hx1.c1
  have y2 := hx1.c2
  have HX := Lib.hid fun (w' : World) (hs : Below W1.heap.size W1 w') => hx1.keep hs
  clear hW1 hb1 hx1
  have PK := Lib.hid fun (w' : World) (hs : Below w.heap.size w w') => hp.keep hs
  have HPV := Lib.hid fun (w' : World) (hs : Below w.heap.size w w') => implPlanValid_any h u v l p w' (hb.keep hs) (hp.keep hs)
  cases hok : plOk h (bxsOk l) (bxIds l) p
  · have HE := Lib.hid (show overO h l p = -1 from by unfold overO; rw [hok]; rfl)
    rw [hok] at HPV
    clear hok hb hp
    go_enter Try.func22, Try.ntmps22
    go_wp2_with fail
    rw [← HW.out]
    go_wp2_with fail
    refine (HPV.out _ HB.out).mono ?_
    rintro e w2 ⟨rfl, b2⟩
    go_wp2_with fail
    go_ret
    exact ⟨by rw [HE.out]; rfl, HB.out.trans (b2.mono HB.out.size)⟩
  · obtain ⟨R, T, hT, hR, hT0, hT3, hn0, hn36, hR36⟩ := rows_two hok
    have HLR := Lib.hid fun (w' : World) (hs : Below w.heap.size w w') => loadedRows_any h v p T R w' (hp.keep hs) (plOk_iff.1 hok).1 (plOk_iff.1 hok).2.2.1 hT hR
    have HRW := Lib.hid fun r (hr : r < R) => rows_hold hok hT hT0 hn0 hr
    have HPT := Lib.hid fun k (hl : k < p.length) (hz : pAt p k ≠ 0) (w' : World) (hs : Below w.heap.size w w') => implPortOf_any u l (pAt p k) w' (hb.keep hs) (pl_find hok hl hz)
    have HP6 := Lib.hid fun k (hl : k < p.length) (hz : pAt p k ≠ 0) => (ptB_pl hok hl hz).2
    have hTN : h.t.toNat = T := by omega
    have hss := rowsL_len T p R
    have HE := Lib.hid (show overO h l p = (cnt (overS T (ptB l) p) (R * T) : Int) from by unfold overO; rw [if_pos hok, hTN, hn0])
    rw [hok] at HPV
    generalize ptB l = f at HPT HP6 HE
    obtain ⟨g, hg⟩ : ∃ g, g = overS T f p := ⟨_, rfl⟩
    rw [← hg] at HE
    have HCN := Lib.hid fun k => cnt_next g k
    have HCL := Lib.hid fun k => cnt_le g k
    have HOV := Lib.hid fun r t (hr : r < R) (ht : t < hgtR T p r) (h6 : f (pAt p (r * T + t)) ≤ 6) => (show g (r * T + t) = decide (lowR f (colT T p r t) < f (pAt p (r * T + t))) from by
      obtain ⟨-, -, f2, f3, -, -⟩ := HRW.out r hr
      rw [hg]
      exact over_low f3 ht f2 h6)
    have HSK := Lib.hid fun r (hr : r < R) => (show cnt g ((r + 1) * T) = cnt g (r * T + hgtR T p r) from by
      obtain ⟨-, -, f2, -, f4, -⟩ := HRW.out r hr
      exact cnt_rest f2 fun t h1 h2 => by rw [hg, overS_zero (f4 t h1 h2)])
    obtain ⟨ss, hsv⟩ : ∃ ss, ss = rowsL T p R := ⟨_, rfl⟩
    rw [← hsv] at HLR HRW hss
    obtain ⟨pa, pc, rfl⟩ := hp.form
    obtain ⟨n, hn⟩ : ∃ n, n = p.length := ⟨_, rfl⟩
    rw [← hn] at HPV PK HPT HP6 HLR HRW hn0 hn36 ⊢
    have hz0 : cnt g (0 * T) = 0 := by rw [Nat.zero_mul]; rfl
    have HN0 := Lib.hid hn0
    clear hok hb hp hn hg hsv hT hR hTN hn0
    go_enter Try.func22, Try.ntmps22
    go_wp2_with fail
    rw [← HW.out]
    go_wp2_with fail
    refine (HPV.out _ HB.out).mono ?_
    rintro e w3 ⟨rfl, b3⟩
    have C3 := HB.out.trans (b3.mono HB.out.size)
    have y3 := HX.out w3 b3
    have c0 := y3.c0
    have c1 := y3.c1
    have c2 := y3.c2
    clear b3 y3 y0 y1 y2
    go_wp2_with fail
    refine (HLR.out w3 C3).mono ?_
    rintro e w5 ⟨v5, rfl, N5, b5⟩
    obtain ⟨a5, c5, rfl⟩ := N5.form
    have NY := Lib.hid fun (w' : World) (hs : Below w5.heap.size w5 w') => N5.holds.keep hs
    have C5 := Lib.hid (C3.trans (b5.mono C3.size))
    rw [hss] at NY ⊢
    clear N5 hss HLR HPV
    clear c0 c1 c2 b5 C3
    go_wp2_with fail
    go_loopw [7, 23] (fun mv i wr => ∃ r : Nat, r ≤ R ∧ mv = .int .i64 ((cnt g (r * T) : Nat) : Int) ∧ i = .int .i64 r ∧ Hid (Below w5.heap.size w5 wr)) (fun _ i _ => R - (intOf i).toNat)
    case atStart => exact ⟨0, by omega, by rw [hz0]; rfl, rfl, Lib.hid (Below.refl _ _)⟩
    case round =>
      clear hz0
      obtain ⟨r, hrR, rfl, rfl, DR⟩ := hrel
      obtain ⟨wo, rfl⟩ : ∃ wo : World, wo = wr := ⟨_, rfl⟩
      by_cases hlt : r < R
      · obtain ⟨yb, yo, rx, rc, rfl, hyb, s0, hl1, hl2, -, HRow⟩ := (NY.out wo DR.out).at_ hlt
        obtain ⟨hrl, hrg, hmT, hfull, hempty, hrn⟩ := HRW.out r hlt
        rw [hrl] at s0 hl1 HRow
        have HRK := Lib.hid fun (w' : World) (hs : Below wo.heap.size wo w') => HRow.keep hs
        have ir : (r : Int) < (R : Int) := by omega
        have i0r : (0 : Int) ≤ (r : Int) := by omega
        have HSKr := Lib.hid (HSK.out r hlt)
        have HOVr := Lib.hid fun t (ht : t < hgtR T p r) h6 => HOV.out r t hlt ht h6
        obtain ⟨m, hm⟩ : ∃ m, m = hgtR T p r := ⟨_, rfl⟩
        rw [← hm] at s0 hl1 HRK hrg hmT hfull HSKr HOVr
        have HG := Lib.hid hrg
        have HFU := Lib.hid hfull
        have hl0 : lowR f (colT T p r 0) = 6 := rfl
        clear hrl hrg hfull hempty hm HRow
        go_wp2_with fail
        clear s0
        go_loopw [7, 10, 29] (fun mv lo jv w2 => ∃ t : Nat, t ≤ m ∧ mv = .int .i64 ((cnt g (r * T + t) : Nat) : Int) ∧ lo = .int .i64 (lowR f (colT T p r t)) ∧ jv = .int .i64 t ∧ Hid (Below wo.heap.size wo w2)) (fun _ _ jv _ => m - (intOf jv).toNat)
        case atStart => exact ⟨0, by omega, rfl, by rw [hl0], rfl, Lib.hid (Below.refl _ _)⟩
        case round =>
          clear hl0
          obtain ⟨t, htm, rfl, rfl, rfl, DJ⟩ := hrel
          have E5 := DR.out.trans (DJ.out.mono DR.out.size)
          have EW := C5.out.trans (E5.mono C5.out.size)
          by_cases hltt : t < m
          · have it : (t : Int) < (m : Int) := by omega
            have i0t : (0 : Int) ≤ (t : Int) := by omega
            obtain ⟨kb, ko, rfl, hkb, t0⟩ := (HRK.out wr DJ.out).at_ hltt
            rw [HG.out t hltt] at t0
            have hz := HFU.out t hltt
            have hkn : r * T + t < n := by omega
            obtain ⟨pb, po, rfl, hpb, u0⟩ := (PK.out wr EW).at_ hkn
            have e1 : p.getD (r * T + t) 0 = pAt p (r * T + t) := rfl
            rw [e1] at u0
            have HPk := Lib.hid (HPT.out _ hkn hz wr EW)
            have hov0 := HOVr.out t hltt (HP6.out _ hkn hz)
            have HLO := Lib.hid (show lowR f (colT T p r (t + 1)) = min (lowR f (colT T p r t)) (f (pAt p (r * T + t))) from rfl)
            have hcn := HCN.out (r * T + t)
            rw [hov0] at hcn
            have hle := HCL.out (r * T + t)
            obtain ⟨k, hk⟩ : ∃ k, k = r * T + t := ⟨_, rfl⟩
            rw [← hk] at t0 u0 hkn hcn hle HPk HLO ⊢
            obtain ⟨x, hx⟩ : ∃ x, x = pAt p k := ⟨_, rfl⟩
            rw [← hx] at u0 HPk hcn HLO
            obtain ⟨fk, hfk⟩ : ∃ fk, fk = f x := ⟨_, rfl⟩
            rw [← hfk] at HPk hcn HLO
            obtain ⟨lo, hlo⟩ : ∃ lo, lo = lowR f (colT T p r t) := ⟨_, rfl⟩
            rw [← hlo] at hcn HLO ⊢
            obtain ⟨cN, hcN⟩ : ∃ cN, cN = cnt g k := ⟨_, rfl⟩
            rw [← hcN] at hcn hle ⊢
            obtain ⟨mn, hmn⟩ : ∃ mn, mn = min lo fk := ⟨_, rfl⟩
            rw [← hmn] at HLO
            have hmi : (if fk < lo then fk else lo) = mn := by rw [hmn]; split <;> omega
            have hmin : ∀ W : World, Sem.run Try.prog (Builtin.min_ #[3, 3] 3 #[.int .i64 lo, .int .i64 fk]) W = .ok (.int .i64 mn) W := fun W => by
              rw [← hmi]
              simp [Builtin.min_, Builtin.min2, List.foldlM, Sem.run_pure]
            have ik : (k : Int) < (n : Int) := by omega
            have i0k : (0 : Int) ≤ (k : Int) := by omega
            have zc : IntKind.i64.wrap ((cN : Int) + 1) = ((cN + 1 : Nat) : Int) := by rw [IntWalk.i64_in _ (by omega)]; omega
            have HK := Lib.hid hk
            clear E5 EW hz hov0 hx hfk hlo hcN hmn hmi e1 hk
            by_cases hov : lo < fk
            · have HC2 := Lib.hid (show cnt g (r * T + (t + 1)) = cN + 1 from by rw [← Nat.add_assoc, ← HK.out, hcn, if_pos (decide_eq_true hov)])
              have hg1 : decide (fk > lo) = true := decide_eq_true (by omega)
              have hg2 : decide (lo < fk) = true := hg1
              clear hcn hov
              go_wp2_with fail
              refine HPk.out.mono ?_
              rintro e w6 ⟨rfl, b6⟩
              have D6 := Lib.hid (DJ.out.trans (b6.mono DJ.out.size))
              clear b6 t0 u0
              go_wp2_with fail
              go_roundw
              case rel => exact ⟨t + 1, by omega, by rw [HC2.out] <;> first | rfl | go_num, by rw [HLO.out], by go_num, D6⟩
              case measure => simp [intOf]; omega
            · have HC2 := Lib.hid (show cnt g (r * T + (t + 1)) = cN from by rw [← Nat.add_assoc, ← HK.out, hcn, if_neg (by simpa using hov)]; rfl)
              have hg1 : decide (fk > lo) = false := decide_eq_false (by omega)
              have hg2 : decide (lo < fk) = false := hg1
              clear hcn hov
              go_wp2_with fail
              refine HPk.out.mono ?_
              rintro e w6 ⟨rfl, b6⟩
              have D6 := Lib.hid (DJ.out.trans (b6.mono DJ.out.size))
              clear b6 t0 u0
              go_wp2_with fail
              go_roundw
              case rel => exact ⟨t + 1, by omega, by rw [HC2.out] <;> first | rfl | go_num, by rw [HLO.out], by go_num, D6⟩
              case measure => simp [intOf]; omega
          · obtain rfl : t = m := by omega
            have D9 := Lib.hid E5
            clear EW E5
            go_wp2_with fail
            go_roundw
            case rel => exact ⟨r + 1, by omega, by rw [HSKr.out], by go_num, D9⟩
            case measure => simp [intOf]; omega
      · obtain rfl : r = R := by omega
        have C9 := C5.out.trans (DR.out.mono C5.out.size)
        go_wp2_with fail
        go_ret
        exact ⟨by rw [HE.out]; rfl, C9⟩

set_option maxRecDepth 10000 in
set_option maxHeartbeats 4000000 in
theorem implPortMoves_any (h : Hl) (u v : Value) (l : List Bx) (p : List Int) (q : Int) (w : World) (hb : HoldsBx w u l) (hp : HoldsI w v p) :
    Calls Try.prog 63 #[.agg #[.int .i64 h.b, .int .i64 h.r, .int .i64 h.t], u, v, .int .i64 q] w fun e w' => ∃ v', e = .returned v' ∧ FreeE w.heap.size w' v' (moveO h l p q) ∧ Below w.heap.size w w' := by
  have hb1 := (Below.refl w.heap.size w).alloc (Nat.le_refl _) (.cells #[.int .i64 h.b, .int .i64 h.r, .int .i64 h.t] 36)
  have hx1 := BoxH.new w h
  obtain ⟨W1, hW1⟩ : ∃ W1, W1 = w.alloc (.cells #[.int .i64 h.b, .int .i64 h.r, .int .i64 h.t] 36) := ⟨_, rfl⟩
  rw [← hW1] at hb1 hx1
  have HW := Lib.hid hW1
  have HB := Lib.hid hb1
  have y0 := hx1.c0
  have y1 := hx1.c1
  have y2 := hx1.c2
  have HX := Lib.hid fun (w' : World) (hs : Below W1.heap.size W1 w') => hx1.keep hs
  clear hW1 hb1 hx1
  have PK := Lib.hid fun (w' : World) (hs : Below w.heap.size w w') => hp.keep hs
  have HPV := Lib.hid fun (w' : World) (hs : Below w.heap.size w w') => implPlanValid_any h u v l p w' (hb.keep hs) (hp.keep hs)
  obtain ⟨i0, hi, hz0, hz1, hz2⟩ := info_parts infoInt
  have HI := Lib.hid hi
  have HZ0 := Lib.hid hz0
  have HZ1 := Lib.hid hz1
  have HZ2 := Lib.hid hz2
  clear hi hz0 hz1 hz2
  by_cases hq : ¬ (0 ≤ q ∧ q ≤ 6)
  · have HE := Lib.hid (show moveO h l p q = [] from by unfold moveO; rw [if_neg (fun hc => hq hc.2)])
    have HQ := Lib.hid hq
    cases hok : plOk h (bxsOk l) (bxIds l) p
    · rw [hok] at HPV
      clear hok hb hp hq
      go_enter Try.func63, Try.ntmps63
      go_wp2_with fail
      rw [← HW.out]
      go_wp2_with fail
      refine (HPV.out _ HB.out).mono ?_
      rintro e w2 ⟨rfl, b2⟩
      go_wp2_with fail
      go_ret
      exact ⟨_, rfl, by rw [HE.out]; exact FreeE.zero, HB.out.trans (b2.mono HB.out.size)⟩
    · rw [hok] at HPV
      clear hok hb hp hq
      go_enter Try.func63, Try.ntmps63
      go_wp2_with fail
      rw [← HW.out]
      go_wp2_with fail
      refine (HPV.out _ HB.out).mono ?_
      rintro e w2 ⟨rfl, b2⟩
      have C2 := HB.out.trans (b2.mono HB.out.size)
      go_wp2_with fail
      refine (implPortValid_no q _ HQ.out).mono ?_
      rintro e w' ⟨rfl, rfl⟩
      go_wp2_with fail
      go_ret
      exact ⟨_, rfl, by rw [HE.out]; exact FreeE.zero, C2⟩
  replace hq := Decidable.not_not.1 hq
  cases hok : plOk h (bxsOk l) (bxIds l) p
  · have HE := Lib.hid (show moveO h l p q = [] from by unfold moveO; rw [if_neg (fun hc => by rw [hok] at hc; cases hc.1)])
    rw [hok] at HPV
    clear hok hb hp hq
    go_enter Try.func63, Try.ntmps63
    go_wp2_with fail
    rw [← HW.out]
    go_wp2_with fail
    refine (HPV.out _ HB.out).mono ?_
    rintro e w2 ⟨rfl, b2⟩
    go_wp2_with fail
    go_ret
    exact ⟨_, rfl, by rw [HE.out]; exact FreeE.zero, HB.out.trans (b2.mono HB.out.size)⟩
  · obtain ⟨R, T, hT, hR, hT0, hT3, hn0, hn36, hR36⟩ := rows_two hok
    have HLR := Lib.hid fun (w' : World) (hs : Below w.heap.size w w') => loadedRows_any h v p T R w' (hp.keep hs) (plOk_iff.1 hok).1 (plOk_iff.1 hok).2.2.1 hT hR
    have HRW := Lib.hid fun r (hr : r < R) => rows_hold hok hT hT0 hn0 hr
    have HPT := Lib.hid fun k (hl : k < p.length) (hz : pAt p k ≠ 0) (w' : World) (hs : Below w.heap.size w w') => implPortOf_any u l (pAt p k) w' (hb.keep hs) (pl_find hok hl hz)
    have HP6 := Lib.hid fun k (hl : k < p.length) (hz : pAt p k ≠ 0) => (ptB_pl hok hl hz).2
    have hTN : h.t.toNat = T := by omega
    have hss := rowsL_len T p R
    have HE := Lib.hid (show moveO h l p q = filI (moveS T (ptB l) q p) (R * T) from by unfold moveO filI; rw [if_pos ⟨hok, hq.1, hq.2⟩, hTN, hn0])
    rw [hok] at HPV
    generalize ptB l = f at HPT HP6 HE
    obtain ⟨g, hg⟩ : ∃ g, g = moveS T f q p := ⟨_, rfl⟩
    rw [← hg] at HE
    have HCN := Lib.hid fun k => filI_next g k
    have HCL := Lib.hid fun k => filI_len g k
    have HOV := Lib.hid fun r t (hr : r < R) (ht : t < hgtR T p r) => (show offR f q (colT T p r (t + 1)) = (offR f q (colT T p r t) || decide (f (pAt p (r * T + t)) = q)) ∧ g (r * T + t) = offR f q (colT T p r (t + 1)) from by
      obtain ⟨-, -, f2, f3, -, -⟩ := HRW.out r hr
      rw [hg]
      exact off_next f3 ht f2)
    have HSK := Lib.hid fun r (hr : r < R) => (show filI g ((r + 1) * T) = filI g (r * T + hgtR T p r) from by
      obtain ⟨-, -, f2, -, f4, -⟩ := HRW.out r hr
      exact filI_rest f2 fun t h1 h2 => by rw [hg, moveS_zero (f4 t h1 h2)])
    obtain ⟨ss, hsv⟩ : ∃ ss, ss = rowsL T p R := ⟨_, rfl⟩
    rw [← hsv] at HLR HRW hss
    obtain ⟨pa, pc, rfl⟩ := hp.form
    obtain ⟨n, hn⟩ : ∃ n, n = p.length := ⟨_, rfl⟩
    rw [← hn] at HPV PK HPT HP6 HLR HRW hn0 hn36 ⊢
    have hz0 : filI g (0 * T) = [] := by rw [Nat.zero_mul]; rfl
    have HN0 := Lib.hid hn0
    have HQ := Lib.hid hq
    clear hok hb hp hn hg hsv hT hR hTN hn0 hq
    go_enter Try.func63, Try.ntmps63
    go_wp2_with fail
    rw [← HW.out]
    go_wp2_with fail
    refine (HPV.out _ HB.out).mono ?_
    rintro e w3 ⟨rfl, b3⟩
    have C3 := HB.out.trans (b3.mono HB.out.size)
    have y3 := HX.out w3 b3
    have c0 := y3.c0
    have c1 := y3.c1
    have c2 := y3.c2
    clear b3 y3 y0 y1 y2
    go_wp2_with fail
    refine (implPortValid_yes q _ HQ.out).mono ?_
    rintro e w' ⟨rfl, rfl⟩
    go_wp2_with fail
    refine (HLR.out w3 C3).mono ?_
    rintro e w5 ⟨v5, rfl, N5, b5⟩
    obtain ⟨a5, c5, rfl⟩ := N5.form
    have NY := Lib.hid fun (w' : World) (hs : Below w5.heap.size w5 w') => N5.holds.keep hs
    have C5 := Lib.hid (C3.trans (b5.mono C3.size))
    rw [hss] at NY ⊢
    clear N5 hss HLR HPV
    clear c0 c1 c2 b5 C3
    go_wp2_with fail
    go_loopw [9, 29] (fun va i wr => ∃ r : Nat, r ≤ R ∧ i = .int .i64 r ∧ Hid (OwnI w5.heap.size wr va (filI g (r * T))) ∧ Hid (Below w5.heap.size w5 wr)) (fun _ i _ => R - (intOf i).toNat)
    case atStart => exact ⟨0, by omega, rfl, by rw [hz0]; exact Lib.hid OwnI.nil, Lib.hid (Below.refl _ _)⟩
    case round =>
      clear hz0
      obtain ⟨r, hrR, rfl, HOO, DR⟩ := hrel
      obtain ⟨wo, rfl⟩ : ∃ wo : World, wo = wr := ⟨_, rfl⟩
      by_cases hlt : r < R
      · obtain ⟨yb, yo, rx, rc, rfl, hyb, s0', hl1, hl2, -, HRow⟩ := (NY.out w5 (Below.refl _ _)).at_ hlt
        have s0 := (DR.out.cell (p := ⟨yb, yo + r, none⟩) hyb).trans s0'
        obtain ⟨hrl, hrg, hmT, hfull, hempty, hrn⟩ := HRW.out r hlt
        rw [hrl] at s0 hl1 HRow
        have HRK := Lib.hid fun (w' : World) (hs : Below w5.heap.size w5 w') => HRow.keep hs
        have ir : (r : Int) < (R : Int) := by omega
        have i0r : (0 : Int) ≤ (r : Int) := by omega
        have HSKr := Lib.hid (HSK.out r hlt)
        have HOVr := Lib.hid fun t (ht : t < hgtR T p r) => HOV.out r t hlt ht
        obtain ⟨m, hm⟩ : ∃ m, m = hgtR T p r := ⟨_, rfl⟩
        rw [← hm] at s0 hl1 HRK hrg hmT hfull HSKr HOVr
        have HG := Lib.hid hrg
        have HFU := Lib.hid hfull
        have hl0 : offR f q (colT T p r 0) = false := rfl
        clear hrl hrg hfull hempty hm HRow s0'
        go_wp2_with fail
        clear s0
        go_loopw [9, 12, 35] (fun va ov jv w2 => ∃ t : Nat, t ≤ m ∧ ov = .bool (offR f q (colT T p r t)) ∧ jv = .int .i64 t ∧ Hid (OwnI w5.heap.size w2 va (filI g (r * T + t))) ∧ Hid (Below w5.heap.size w5 w2)) (fun _ _ jv _ => m - (intOf jv).toNat)
        case atStart => exact ⟨0, by omega, by rw [hl0], rfl, HOO, DR⟩
        case round =>
          clear hl0 HOO DR
          obtain ⟨t, htm, rfl, rfl, HO, DJ⟩ := hrel
          have EW := C5.out.trans (DJ.out.mono C5.out.size)
          by_cases hltt : t < m
          · have it : (t : Int) < (m : Int) := by omega
            have i0t : (0 : Int) ≤ (t : Int) := by omega
            obtain ⟨kb, ko, rfl, hkb, t0⟩ := (HRK.out wr DJ.out).at_ hltt
            rw [HG.out t hltt] at t0
            have hz := HFU.out t hltt
            have hkn : r * T + t < n := by omega
            obtain ⟨pb, po, rfl, hpb, u0⟩ := (PK.out wr EW).at_ hkn
            have e1 : p.getD (r * T + t) 0 = pAt p (r * T + t) := rfl
            rw [e1] at u0
            have HPk := Lib.hid (HPT.out _ hkn hz wr EW)
            obtain ⟨hon, hgk⟩ := HOVr.out t hltt
            have hcn := HCN.out (r * T + t)
            have hle := HCL.out (r * T + t)
            obtain ⟨k, hk⟩ : ∃ k, k = r * T + t := ⟨_, rfl⟩
            rw [Nat.add_assoc, hgk] at hcn
            rw [← hk] at t0 u0 hkn hcn hle HPk hon HO
            obtain ⟨x, hx⟩ : ∃ x, x = pAt p k := ⟨_, rfl⟩
            rw [← hx] at u0 HPk hon
            obtain ⟨fk, hfk⟩ : ∃ fk, fk = f x := ⟨_, rfl⟩
            rw [← hfk] at HPk hon
            obtain ⟨L, hL⟩ : ∃ L, L = filI g k := ⟨_, rfl⟩
            rw [← hL] at hcn hle HO
            have ik : (k : Int) < (n : Int) := by omega
            have i0k : (0 : Int) ≤ (k : Int) := by omega
            generalize offR f q (colT T p r t) = b at hon ⊢
            have HK := Lib.hid hk
            clear EW hz hx hfk hL e1 hk hgk
            cases b
            · by_cases hfq : fk = q
              · rw [Bool.false_or, decide_eq_true hfq] at hon
                rw [hon, if_pos rfl] at hcn
                have HFN := Lib.hid hcn
                have HON := Lib.hid hon
                have hb1 : (fk == q) = true := by simpa using hfq
                clear hcn hon hfq
                go_wp2_with fail
                refine HPk.out.mono ?_
                rintro e w6 ⟨rfl, b6⟩
                have D6 := Lib.hid (DJ.out.trans (b6.mono DJ.out.size))
                have HO6 := Lib.hid (HO.out.keep b6)
                clear b6 t0 u0
                have hzW : w5.heap.size ≤ w6.heap.size := D6.out.size
                go_wp2_with (at_builtin; refine wpList_append_own _ rfl _ _ 25 rfl w5.heap.size 3 i0 (.int .i64 0) 1 8 Try.underlying25 HI.out HZ0.out HZ1.out HZ2.out rfl (by decide) _ L.length (rowI L) rfl (HO6.out.alloc _) ⟨w6.heap.size, 0, none⟩ 1 1 [.int .i64 (k : Int)] rfl rfl (fun j u hu => cells_new j u hu) (by simp [Value.oneCell']) (by unfold maxLen; omega) (by omega) (by simp; omega) ?_; intro v8 w8 hown8 hgrow _)
                have hb8 : Below w5.heap.size w6 w8 := ((Below.refl _ _).alloc hzW _).trans (own_below hgrow (by simp; omega) (fun k' hk' => (own_lt HO6.out k' hk').1))
                have HO8 := Lib.hid (show OwnI w5.heap.size w8 v8 (L ++ [(k : Int)]) from own_put hown8)
                have D8 := Lib.hid (D6.out.trans hb8)
                clear hgrow hown8 hb8
                go_roundw
                case rel => exact ⟨t + 1, by omega, by rw [HON.out], by go_num, by rw [HFN.out]; exact HO8, D8⟩
                case measure => simp [intOf]; omega
              · rw [Bool.false_or, decide_eq_false hfq] at hon
                rw [hon, if_neg (by simp)] at hcn
                have HFN := Lib.hid hcn
                have HON := Lib.hid hon
                have hb1 : (fk == q) = false := by simpa using hfq
                clear hcn hon hfq
                go_wp2_with fail
                refine HPk.out.mono ?_
                rintro e w6 ⟨rfl, b6⟩
                have D6 := Lib.hid (DJ.out.trans (b6.mono DJ.out.size))
                have HO6 := Lib.hid (HO.out.keep b6)
                clear b6 t0 u0
                go_wp2_with fail
                go_roundw
                case rel => exact ⟨t + 1, by omega, by rw [HON.out], by go_num, by rw [HFN.out]; exact HO6, D6⟩
                case measure => simp [intOf]; omega
            · rw [Bool.true_or] at hon
              rw [hon, if_pos rfl] at hcn
              have HFN := Lib.hid hcn
              have HON := Lib.hid hon
              clear hcn hon
              have hzW : w5.heap.size ≤ wr.heap.size := DJ.out.size
              go_wp2_with (at_builtin; refine wpList_append_own _ rfl _ _ 25 rfl w5.heap.size 3 i0 (.int .i64 0) 1 8 Try.underlying25 HI.out HZ0.out HZ1.out HZ2.out rfl (by decide) _ L.length (rowI L) rfl (HO.out.alloc _) ⟨wr.heap.size, 0, none⟩ 1 1 [.int .i64 (k : Int)] rfl rfl (fun j u hu => cells_new j u hu) (by simp [Value.oneCell']) (by unfold maxLen; omega) (by omega) (by simp; omega) ?_; intro v8 w8 hown8 hgrow _)
              have hb8 : Below w5.heap.size wr w8 := ((Below.refl _ _).alloc hzW _).trans (own_below hgrow (by simp; omega) (fun k' hk' => (own_lt HO.out k' hk').1))
              have HO8 := Lib.hid (show OwnI w5.heap.size w8 v8 (L ++ [(k : Int)]) from own_put hown8)
              have D8 := Lib.hid (DJ.out.trans hb8)
              clear hgrow hown8 hb8
              go_roundw
              case rel => exact ⟨t + 1, by omega, by rw [HON.out], by go_num, by rw [HFN.out]; exact HO8, D8⟩
              case measure => simp [intOf]; omega
          · obtain rfl : t = m := by omega
            clear EW
            go_wp2_with fail
            go_roundw
            case rel => exact ⟨r + 1, by omega, by go_num, by rw [HSKr.out]; exact HO, DJ⟩
            case measure => simp [intOf]; omega
      · obtain rfl : r = R := by omega
        have C9 := C5.out.trans (DR.out.mono C5.out.size)
        have O9 := HOO.out.freeE.from_ C5.out.size
        go_wp2_with fail
        go_ret
        exact ⟨_, rfl, by rw [HE.out]; exact O9, C9⟩

theorem AftAt.rest {T : Nat} {f : Int → Int} {q : Int} {p : List Int} {r m : Nat} {out : List Int} (h : AftAt T f q p r m out) (hm : m ≤ T) (hz : ∀ t, m ≤ t → t < T → pAt p (r * T + t) = 0) : AftAt T f q p (r + 1) 0 out := by
  have : ∀ d, m + d ≤ T → AftAt T f q p r (m + d) out := by
    intro d
    induction d with
    | zero => intro _; exact h
    | succ d ih =>
      intro hd
      rw [← Nat.add_assoc]
      exact (AftAt.skip (ih (by omega)) (.inl (hz (m + d) (by omega) (by omega)))).1
  have h1 := this (T - m) (by omega)
  rw [show m + (T - m) = T by omega] at h1
  exact AftAt.row h1
theorem NewY.rowAt_ {K : Nat} {w : World} {a : Option Addr} {n cap : Nat} {ss : List (List Int)} (h : NewY K w (.slice a n cap) ss) {k : Nat} (hk : k < n) :
    ∃ b off x c, a = some ⟨b, off, none⟩ ∧ K ≤ b ∧ b < w.heap.size ∧ w.cell? ⟨b, off + k, none⟩ = some (.slice x (rowAt ss k).length c) ∧ (rowAt ss k).length ≤ c ∧ c ≤ 9223372036854775807 ∧ NewI K w (.slice x (rowAt ss k).length c) (rowAt ss k) := by
  obtain ⟨a', cap', e, _, _, _, h4⟩ := h
  simp only [Value.slice.injEq] at e
  obtain ⟨rfl, rfl, rfl⟩ := e
  rcases h4 with h4 | ⟨b, off, h5, h6, h7, h8⟩
  · omega
  · obtain ⟨u, q1, q2, q3⟩ := h8 k hk
    have q2' := q2
    obtain ⟨x, c, e, hc1, hc2, _⟩ := q2
    subst e
    exact ⟨b, off, x, c, h5, h6, h7, q1, hc1, by unfold maxLen at hc2; omega, q2'⟩

set_option maxRecDepth 10000 in
set_option maxHeartbeats 8000000 in
theorem implAfterPort_any (h : Hl) (u v : Value) (l : List Bx) (p : List Int) (q : Int) (w : World) (hb : HoldsBx w u l) (hp : HoldsI w v p) :
    Calls Try.prog 64 #[.agg #[.int .i64 h.b, .int .i64 h.r, .int .i64 h.t], u, v, .int .i64 q] w fun e w' => ∃ v', e = .returned v' ∧ FreeE w.heap.size w' v' (aftO h l p q) ∧ Below w.heap.size w w' := by
  have hb1 := (Below.refl w.heap.size w).alloc (Nat.le_refl _) (.cells #[.int .i64 h.b, .int .i64 h.r, .int .i64 h.t] 36)
  have hx1 := BoxH.new w h
  obtain ⟨W1, hW1⟩ : ∃ W1, W1 = w.alloc (.cells #[.int .i64 h.b, .int .i64 h.r, .int .i64 h.t] 36) := ⟨_, rfl⟩
  rw [← hW1] at hb1 hx1
  have HW := Lib.hid hW1
  have HB := Lib.hid hb1
  have y0 := hx1.c0
  have y1 := hx1.c1
  have y2 := hx1.c2
  have HX := Lib.hid fun (w' : World) (hs : Below W1.heap.size W1 w') => hx1.keep hs
  clear hW1 hb1 hx1
  have PK := Lib.hid fun (w' : World) (hs : Below w.heap.size w w') => hp.keep hs
  have HPV := Lib.hid fun (w' : World) (hs : Below w.heap.size w w') => implPlanValid_any h u v l p w' (hb.keep hs) (hp.keep hs)
  by_cases hq : ¬ (0 ≤ q ∧ q ≤ 6)
  · have HE := Lib.hid (show aftO h l p q = [] from by unfold aftO; rw [if_neg (fun hc => hq hc.2)])
    have HQ := Lib.hid hq
    cases hok : plOk h (bxsOk l) (bxIds l) p
    · rw [hok] at HPV
      clear hok hb hp hq
      go_enter Try.func64, Try.ntmps64
      go_wp2_with fail
      rw [← HW.out]
      go_wp2_with fail
      refine (HPV.out _ HB.out).mono ?_
      rintro e w2 ⟨rfl, b2⟩
      go_wp2_with fail
      go_ret
      exact ⟨_, rfl, by rw [HE.out]; exact FreeE.zero, HB.out.trans (b2.mono HB.out.size)⟩
    · rw [hok] at HPV
      clear hok hb hp hq
      go_enter Try.func64, Try.ntmps64
      go_wp2_with fail
      rw [← HW.out]
      go_wp2_with fail
      refine (HPV.out _ HB.out).mono ?_
      rintro e w2 ⟨rfl, b2⟩
      have C2 := HB.out.trans (b2.mono HB.out.size)
      go_wp2_with fail
      refine (implPortValid_no q _ HQ.out).mono ?_
      rintro e w' ⟨rfl, rfl⟩
      go_wp2_with fail
      go_ret
      exact ⟨_, rfl, by rw [HE.out]; exact FreeE.zero, C2⟩
  replace hq := Decidable.not_not.1 hq
  cases hok : plOk h (bxsOk l) (bxIds l) p
  · have HE := Lib.hid (show aftO h l p q = [] from by unfold aftO; rw [if_neg (fun hc => by rw [hok] at hc; cases hc.1)])
    rw [hok] at HPV
    clear hok hb hp hq
    go_enter Try.func64, Try.ntmps64
    go_wp2_with fail
    rw [← HW.out]
    go_wp2_with fail
    refine (HPV.out _ HB.out).mono ?_
    rintro e w2 ⟨rfl, b2⟩
    go_wp2_with fail
    go_ret
    exact ⟨_, rfl, by rw [HE.out]; exact FreeE.zero, HB.out.trans (b2.mono HB.out.size)⟩
  · obtain ⟨R, T, hT, hR, hT0, hT3, hn0, hn36, hR36⟩ := rows_two hok
    have HLR := Lib.hid fun (w' : World) (hs : Below w.heap.size w w') => loadedRows_any h v p T R w' (hp.keep hs) (plOk_iff.1 hok).1 (plOk_iff.1 hok).2.2.1 hT hR
    have HRW := Lib.hid fun r (hr : r < R) => rows_hold hok hT hT0 hn0 hr
    have HPT := Lib.hid fun k (hl : k < p.length) (hz : pAt p k ≠ 0) (w' : World) (hs : Below w.heap.size w w') => implPortOf_any u l (pAt p k) w' (hb.keep hs) (pl_find hok hl hz)
    have HP6 := Lib.hid fun k (hl : k < p.length) (hz : pAt p k ≠ 0) => (ptB_pl hok hl hz).2
    have hTN : h.t.toNat = T := by omega
    have hss := rowsL_len T p R
    have HE := Lib.hid (show aftO h l p q = aftP T (ptB l) q p from by unfold aftO; rw [if_pos ⟨hok, hq.1, hq.2⟩, hTN])
    have HEM := Lib.hid (show emptyP h = List.replicate p.length 0 from by
      have h1 := (plOk_iff.1 hok).2.2.1
      unfold emptyP
      rw [if_pos (plOk_iff.1 hok).1, ← h1]
      rfl)
    have HEP := Lib.hid fun (w' : World) => implPlanEmpty_own h w'
    rw [hok] at HPV
    generalize ptB l = f at HPT HP6 HE
    have HZ := Lib.hid (AftAt.zero T f q p)
    have HEND := Lib.hid fun out (ho : AftAt T f q p R 0 out) => AftAt.end_ hT0 hn0 ho
    have HKP := Lib.hid fun r t out (ho : AftAt T f q p r t out) (ht : t < T) (hl : r * T + t < p.length) hz hf => AftAt.keep ho ht hl hz hf
    have HLN := Lib.hid fun r t out (ho : AftAt T f q p r t out) => ho.1
    have hpl : 1 ≤ p.length := by
      obtain ⟨m1, _, _⟩ := slMany_bd (plOk_iff.1 hok).1
      have h1 := (plOk_iff.1 hok).2.2.1
      omega
    obtain ⟨ss, hsv⟩ : ∃ ss, ss = rowsL T p R := ⟨_, rfl⟩
    rw [← hsv] at HLR HRW hss
    obtain ⟨pa, pc, rfl⟩ := hp.form
    obtain ⟨n, hn⟩ : ∃ n, n = p.length := ⟨_, rfl⟩
    rw [← hn] at HPV PK HPT HP6 HLR HRW hn0 hn36 HEM HZ HKP HLN hpl ⊢
    have HN0 := Lib.hid hn0
    have HQ := Lib.hid hq
    clear hok hb hp hn hsv hT hR hTN hn0 hq
    go_enter Try.func64, Try.ntmps64
    go_wp2_with fail
    rw [← HW.out]
    go_wp2_with fail
    refine (HPV.out _ HB.out).mono ?_
    rintro e w3 ⟨rfl, b3⟩
    have C3 := HB.out.trans (b3.mono HB.out.size)
    have y3 := HX.out w3 b3
    have c0 := y3.c0
    have c1 := y3.c1
    have c2 := y3.c2
    have D3 := b3
    clear b3 y3 y0 y1 y2
    go_wp2_with fail
    refine (implPortValid_yes q _ HQ.out).mono ?_
    rintro e w' ⟨rfl, rfl⟩
    go_wp2_with fail
    refine (HEP.out _).mono ?_
    rintro e w4 ⟨v4, rfl, O4, b4⟩
    rw [HEM.out] at O4
    obtain ⟨g, cap, cur, rfl, hKg, hg4, hcur, hcp1, hcp2, -⟩ := O4.form (by rw [List.length_replicate]; omega)
    rw [List.length_replicate] at O4 ⊢
    have hwg : w.heap.size ≤ g := Nat.le_trans C3.size hKg
    have HO4 := Lib.hid (O4.from_ C3.size)
    have C4 := Lib.hid (C3.trans (b4.mono C3.size))
    have y4 := HX.out w4 (D3.trans (b4.mono D3.size))
    have d0 := y4.c0
    have d1 := y4.c1
    have d2 := y4.c2
    clear hcur hcp1 hcp2 O4 c0 c1 c2 y4 b4 D3 C3 hKg
    go_wp2_with fail
    refine (HLR.out w4 C4.out).mono ?_
    rintro e w5 ⟨v5, rfl, N5, b5⟩
    obtain ⟨a5, c5, rfl⟩ := N5.form
    rw [hss] at N5 ⊢
    have NY := Lib.hid N5
    have C5 := Lib.hid (C4.out.trans (b5.mono C4.out.size))
    have O5 := Lib.hid (HO4.out.keep b5)
    have hg5 := hg4
    have h45 := b5.size
    clear N5 hss HLR HPV HO4 C4 b5 hg4
    clear d0 d1 d2
    go_wp2_with fail
    go_loopw [31] (fun i wr => ∃ (r : Nat) (out : List Int), r ≤ R ∧ i = .int .i64 r ∧ Hid (AftAt T f q p r 0 out) ∧ Hid (OwnI w.heap.size wr (.slice (some ⟨g, 0, none⟩) n cap) out) ∧ Hid (MostB g w5 wr) ∧ Hid (Below w.heap.size w wr)) (fun i _ => R - (intOf i).toNat)
    case atStart => exact ⟨0, _, by omega, rfl, HZ, O5, Lib.hid (MostB.refl _ _), C5⟩
    case round =>
      clear O5 HZ C5
      obtain ⟨r, out, hrR, rfl, HA, HOW, MM, DR⟩ := hrel
      obtain ⟨wo, rfl⟩ : ∃ wo : World, wo = wr := ⟨_, rfl⟩
      by_cases hlt : r < R
      · obtain ⟨yb, yo, rx, rc, rfl, hKy, hyb, s0', hl1, hl2, HRow⟩ := NY.out.rowAt_ hlt
        have s0 := (World.cell?_of_block (w := w5) (a := ⟨yb, yo + r, none⟩) (MM.out.block yb (by omega) hyb)).trans s0'
        obtain ⟨hrl, hrg, hmT, hfull, hempty, hrn⟩ := HRW.out r hlt
        rw [hrl] at s0 hl1 HRow
        have HRK := Lib.hid fun (w' : World) (hs : MostB g w5 w') => (HRow.most hs hg5).holds
        have ir : (r : Int) < (R : Int) := by omega
        have i0r : (0 : Int) ≤ (r : Int) := by omega
        obtain ⟨m, hm⟩ : ∃ m, m = hgtR T p r := ⟨_, rfl⟩
        rw [← hm] at s0 hl1 HRK hrg hmT hfull hempty
        have HG := Lib.hid hrg
        have HFU := Lib.hid hfull
        have HEY := Lib.hid hempty
        have hl0 : (kpR f q (colT T p r 0)).length = 0 := rfl
        clear hrl hrg hfull hempty hm HRow s0'
        go_wp2_with fail
        clear s0
        go_loopw [12, 37] (fun sv jv w2 => ∃ (t : Nat) (out : List Int), t ≤ m ∧ sv = .int .i64 ((kpR f q (colT T p r t)).length : Nat) ∧ jv = .int .i64 t ∧ Hid (AftAt T f q p r t out) ∧ Hid (OwnI w.heap.size w2 (.slice (some ⟨g, 0, none⟩) n cap) out) ∧ Hid (MostB g w5 w2) ∧ Hid (Below w.heap.size w w2)) (fun _ jv _ => m - (intOf jv).toNat)
        case atStart => exact ⟨0, out, by omega, by rw [hl0]; rfl, rfl, HA, HOW, MM, DR⟩
        case round =>
          clear hl0 HA HOW MM DR
          obtain ⟨t, out, htm, rfl, rfl, HA, HOW, MM, DR⟩ := hrel
          have EW := DR.out
          by_cases hltt : t < m
          · have it : (t : Int) < (m : Int) := by omega
            have i0t : (0 : Int) ≤ (t : Int) := by omega
            obtain ⟨kb, ko, rfl, hkb, t0⟩ := (HRK.out wr MM.out).at_ hltt
            rw [HG.out t hltt] at t0
            have hz := HFU.out t hltt
            have hkn : r * T + t < n := by omega
            obtain ⟨pb, po, rfl, hpb, u0⟩ := (PK.out wr EW).at_ hkn
            have e1 : p.getD (r * T + t) 0 = pAt p (r * T + t) := rfl
            rw [e1] at u0
            have HPk := Lib.hid (HPT.out _ hkn hz wr EW)
            have hml := kpR_at (T := T) (f := f) (q := q) (p := p) (r := r) (t := t)
            have hkeep := HKP.out r t out HA.out (by omega) hkn hz
            have hskip := fun hf => AftAt.skip HA.out (.inr hf)
            have hon := HLN.out r t out HA.out
            obtain ⟨k, hk⟩ : ∃ k, k = r * T + t := ⟨_, rfl⟩
            rw [← hk] at t0 u0 hkn HPk hkeep hskip
            obtain ⟨x, hx⟩ : ∃ x, x = pAt p k := ⟨_, rfl⟩
            rw [← hx] at u0 HPk hkeep hskip
            obtain ⟨fk, hfk⟩ : ∃ fk, fk = f x := ⟨_, rfl⟩
            rw [← hfk] at HPk hkeep hskip
            obtain ⟨st, hst⟩ : ∃ st, st = (kpR f q (colT T p r t)).length := ⟨_, rfl⟩
            rw [← hst] at hkeep hskip hml ⊢
            have ik : (k : Int) < (n : Int) := by omega
            have i0k : (0 : Int) ≤ (k : Int) := by omega
            by_cases hfq : fk = q
            · have HSK9 := Lib.hid (hskip hfq)
              have hb1 : (fk != q) = false := by simpa using hfq
              clear hkeep hskip hfq hx hfk hst e1 hk hz
              go_wp2_with fail
              refine HPk.out.mono ?_
              rintro e w6 ⟨rfl, b6⟩
              have hz6 := b6.size
              have HO6 := Lib.hid (HOW.out.keep b6)
              have M6 := Lib.hid (MM.out.below_ (b6.mono MM.out.size))
              have D6 := Lib.hid (DR.out.trans (b6.mono DR.out.size))
              clear b6 t0 u0
              go_wp2_with fail
              go_roundw
              case rel => exact ⟨t + 1, out, by omega, by rw [HSK9.out.2], by go_num, Lib.hid HSK9.out.1, HO6, M6, D6⟩
              case measure => simp [intOf]; omega
            · have hks := hkeep hfq
              have hbn : (fk != q) = true := by simpa using hfq
              have hstm : st < m := by omega
              obtain ⟨kb2, ko2, he2, hkb2, t9⟩ := (HRK.out wr MM.out).at_ hstm
              simp only [Option.some.injEq, Addr.mk.injEq, and_true] at he2
              obtain ⟨rfl, rfl⟩ := he2
              rw [HG.out st hstm] at t9
              obtain ⟨a, ha⟩ : ∃ a, a = r * T + st := ⟨_, rfl⟩
              rw [← ha] at t9 hks
              have han : a < n := by omega
              have ist : (st : Int) < (m : Int) := by omega
              have i0st : (0 : Int) ≤ (st : Int) := by omega
              have ia : (a : Int) < (n : Int) := by omega
              have i0a : (0 : Int) ≤ (a : Int) := by omega
              have HSK9 := Lib.hid hks
              have hdl : kb < wr.heap.size := hkb
              have hpl9 : pb < wr.heap.size := hpb
              have za : IntKind.i64.wrap ((st : Int) + 1) = (st : Int) + 1 := IntWalk.i64_in _ (by omega)
              clear hkeep hskip hks hfq hx hfk hst e1 hk hz ha
              go_wp2_with fail
              refine HPk.out.mono ?_
              rintro e w6 ⟨rfl, b6⟩
              have hz6 := b6.size
              have HO6 := HOW.out.keep b6
              have M6 := MM.out.below_ (b6.mono MM.out.size)
              have D6 := DR.out.trans (b6.mono DR.out.size)
              have q0 : w6.cell? ⟨pb, po + k, none⟩ = some (.int .i64 x) := (b6.cell (p := ⟨pb, po + k, none⟩) hpl9).trans u0
              have q1 : w6.cell? ⟨kb, ko + st, none⟩ = some (.int .i64 (a : Int)) := (b6.cell (p := ⟨kb, ko + st, none⟩) hdl).trans t9
              have hol : a < out.length := by rw [hon]; exact han
              have h8 : OwnI w.heap.size w6 (.slice (some ⟨g, 0, none⟩) out.length cap) out := by rw [hon]; exact HO6
              have h9 := h8.set hol x
              obtain ⟨-, -, -, ⟨z9, q2⟩, q3⟩ := h8.slot hol
              rw [hon] at h9
              have HO9 := Lib.hid (h9.keep (Below.refl _ _).drew)
              have M9 := Lib.hid ((M6.set_ a (.int .i64 x)).below_ ((Below.refl _ _).drew))
              have D9 := Lib.hid ((D6.setCell (p := ⟨g, a, none⟩) hwg (.int .i64 x)).drew)
              clear b6 t0 u0 t9 h8 h9 hol HO6 M6 D6 hdl hpl9
              go_wp2_with fail
              go_region
              go_wp2_with fail
              go_roundw
              case rel => exact ⟨t + 1, _, by omega, by rw [HSK9.out.2]; go_num, by go_num, Lib.hid HSK9.out.1, HO9, M9, D9⟩
              case measure => simp [intOf]; omega
          · obtain rfl : t = m := by omega
            have HA2 := Lib.hid (AftAt.rest HA.out (by omega) HEY.out)
            clear EW
            go_wp2_with fail
            go_roundw
            case rel => exact ⟨r + 1, out, by omega, by go_num, HA2, HOW, MM, DR⟩
            case measure => simp [intOf]; omega
      · obtain rfl : r = R := by omega
        have hfin := HEND.out out HA.out
        rw [hfin] at HOW
        have C9 := DR.out
        have O9 := HOW.out.freeE
        clear hfin
        go_wp2_with fail
        go_ret
        exact ⟨_, rfl, by rw [HE.out]; exact O9, C9⟩

set_option maxRecDepth 10000 in
set_option maxHeartbeats 8000000 in
theorem implVoyageMoves_any (h : Hl) (u v : Value) (l : List Bx) (p : List Int) (w : World) (hb : HoldsBx w u l) (hp : HoldsI w v p) :
    Calls Try.prog 23 #[.agg #[.int .i64 h.b, .int .i64 h.r, .int .i64 h.t], u, v] w fun e w' => e = .returned (.int .i64 (vyO h l p)) ∧ Below w.heap.size w w' := by
  have hb1 := (Below.refl w.heap.size w).alloc (Nat.le_refl _) (.cells #[.int .i64 h.b, .int .i64 h.r, .int .i64 h.t] 36)
  have hx1 := BoxH.new w h
  obtain ⟨W1, hW1⟩ : ∃ W1, W1 = w.alloc (.cells #[.int .i64 h.b, .int .i64 h.r, .int .i64 h.t] 36) := ⟨_, rfl⟩
  rw [← hW1] at hb1 hx1
  have HW := Lib.hid hW1
  have HB := Lib.hid hb1
  have y0 := hx1.c0
  have y1 := hx1.c1
  have y2 := hx1.c2
  have HX := Lib.hid fun (w' : World) (hs : Below W1.heap.size W1 w') => hx1.keep hs
  clear hW1 hb1 hx1
  have HPV := Lib.hid fun (w' : World) (hs : Below w.heap.size w w') => implPlanValid_any h u v l p w' (hb.keep hs) (hp.keep hs)
  cases hok : plOk h (bxsOk l) (bxIds l) p
  · have HE := Lib.hid (show vyO h l p = -1 from by unfold vyO; rw [hok]; rfl)
    rw [hok] at HPV
    clear hok hb hp
    go_enter Try.func23, Try.ntmps23
    go_wp2_with fail
    rw [← HW.out]
    go_wp2_with fail
    refine (HPV.out _ HB.out).mono ?_
    rintro e w2 ⟨rfl, b2⟩
    go_wp2_with fail
    go_ret
    exact ⟨by rw [HE.out]; rfl, HB.out.trans (b2.mono HB.out.size)⟩
  · have hlen := pl_len hok
    obtain ⟨T, hT⟩ : ∃ T : Nat, T = h.t.toNat := ⟨_, rfl⟩
    have HE := Lib.hid (show vyO h l p = (vyN T (ptB l) p 7 : Int) from by unfold vyO; rw [if_pos hok, hT])
    have HPM := Lib.hid fun (P : Nat) (hP : P ≤ 6) (pv : Value) (w' : World) (hs : Below w.heap.size w w') (hq : HoldsI w' pv (aftN T (ptB l) p P)) => (implPortMoves_any h u pv l (aftN T (ptB l) p P) (P : Int) w' (hb.keep hs) hq).mono (R' := fun e w'' => ∃ v', e = .returned v' ∧ FreeE w'.heap.size w'' v' (moveO h l (aftN T (ptB l) p P) (P : Int)) ∧ (moveO h l (aftN T (ptB l) p P) (P : Int)).length = cnt (moveS T (ptB l) (P : Int) (aftN T (ptB l) p P)) p.length ∧ Below w'.heap.size w' w'') (fun e w'' ⟨v', he, ho, hb⟩ => ⟨v', he, ho, by rw [hT]; exact moveO_len hok hP, hb⟩)
    have HAP := Lib.hid fun (P : Nat) (hP : P ≤ 6) (pv : Value) (w' : World) (hs : Below w.heap.size w w') (hq : HoldsI w' pv (aftN T (ptB l) p P)) => (show Calls Try.prog 64 #[.agg #[.int .i64 h.b, .int .i64 h.r, .int .i64 h.t], u, pv, .int .i64 (P : Int)] w' fun e w'' => ∃ v', e = .returned v' ∧ FreeE w'.heap.size w'' v' (aftN T (ptB l) p (P + 1)) ∧ Below w'.heap.size w' w'' from by
      have := implAfterPort_any h u pv l (aftN T (ptB l) p P) (P : Int) w' (hb.keep hs) hq
      rw [hT, aftO_next hok hP] at this
      rw [hT]
      exact this)
    have HVB := Lib.hid fun (P : Nat) => (show vyN T (ptB l) p (P + 1) = vyN T (ptB l) p P + cnt (moveS T (ptB l) (P : Int) (aftN T (ptB l) p P)) p.length from rfl)
    have HCB := Lib.hid fun (P : Nat) => cnt_le (moveS T (ptB l) (P : Int) (aftN T (ptB l) p P)) p.length
    have HP0 := Lib.hid fun (w' : World) (hs : Below w.heap.size w w') => (show HoldsI w' v (aftN T (ptB l) p 0) from hp.keep hs)
    have HVL : ∀ P, vyN T (ptB l) p P ≤ 36 * P := by
      intro P
      induction P with
      | zero => exact Nat.le_refl 0
      | succ P ih => have h1 := HVB.out P; have h2 := HCB.out P; omega
    have HVL := Lib.hid HVL
    rw [hok] at HPV
    generalize ptB l = f at HE HPM HAP HVB HCB HP0 HVL
    clear hok hb hp hT
    go_enter Try.func23, Try.ntmps23
    go_wp2_with fail
    rw [← HW.out]
    go_wp2_with fail
    refine (HPV.out _ HB.out).mono ?_
    rintro e w2 ⟨rfl, b2⟩
    have D2 := Lib.hid b2
    clear b2 y0 y1 y2 HPV
    go_wp2_with fail
    go_loopw [7, 8, 16] (fun sm va i wr => ∃ (P : Nat) (pv : Value), P ≤ 7 ∧ pv = va ∧ sm = .int .i64 (vyN T f p P : Int) ∧ i = .int .i64 (P : Int) ∧ Hid (HoldsI wr pv (aftN T f p P)) ∧ Hid (Below W1.heap.size W1 wr)) (fun _ _ i _ => 7 - (intOf i).toNat)
    case atStart => exact ⟨0, v, by omega, rfl, rfl, rfl, Lib.hid (HP0.out _ (HB.out.trans (D2.out.mono HB.out.size))), D2⟩
    case round =>
      clear D2
      obtain ⟨P, pv, hP7, rfl, rfl, rfl, HV, DR⟩ := hrel
      have ER := Lib.hid (HB.out.trans (DR.out.mono HB.out.size))
      have y := HX.out wr DR.out
      have c0 := y.c0
      have c1 := y.c1
      have c2 := y.c2
      by_cases hlt : P ≤ 6
      · have iP : (P : Int) < 7 := by omega
        have iP' : decide ((P : Int) < 7) = true := decide_eq_true iP
        have HM := Lib.hid (HPM.out P hlt pv wr ER.out HV.out)
        have hvb := HVB.out P
        have hvl := HVL.out P
        have hcb := HCB.out P
        clear y
        go_wp2_with fail
        refine HM.out.mono ?_
        rintro e w5 ⟨v5, rfl, O5, hl5, b5⟩
        obtain ⟨a5, c5, rfl⟩ := O5.holds.form
        rw [hl5]
        have D5 := Lib.hid (DR.out.trans (b5.mono DR.out.size))
        have E5 := HB.out.trans (D5.out.mono HB.out.size)
        have HV5 := Lib.hid (HV.out.keep b5)
        have HA := Lib.hid (HAP.out P hlt pv w5 E5 HV5.out)
        have y5 := HX.out w5 D5.out
        have d0 := y5.c0
        have d1 := y5.c1
        have d2 := y5.c2
        obtain ⟨cc, hcc⟩ : ∃ cc, cc = cnt (moveS T f (P : Int) (aftN T f p P)) p.length := ⟨_, rfl⟩
        rw [← hcc] at hvb hcb ⊢
        obtain ⟨vv, hvv⟩ : ∃ vv, vv = vyN T f p P := ⟨_, rfl⟩
        rw [← hvv] at hvb hvl ⊢
        have zc : IntKind.i64.wrap ((vv : Int) + (cc : Int)) = ((vv + cc : Nat) : Int) := by rw [IntWalk.i64_in _ (by omega)]; omega
        have HVV := Lib.hid hvb
        clear b5 O5 hl5 y5 c0 c1 c2 hcc hvv hvb E5
        go_wp2_with fail
        refine HA.out.mono ?_
        rintro e w6 ⟨v6, rfl, O6, b6⟩
        have D6 := Lib.hid (D5.out.trans (b6.mono D5.out.size))
        have HV6 := Lib.hid O6.holds
        clear b6 O6 d0 d1 d2
        go_wp2_with fail
        go_roundw
        case rel => exact ⟨P + 1, v6, by omega, rfl, by rw [HVV.out]; first | rfl | go_num, by go_num, HV6, D6⟩
        case measure => simp [intOf]; omega
      · obtain rfl : P = 7 := by omega
        have C9 := ER.out
        clear y
        go_wp2_with fail
        go_ret
        exact ⟨by rw [HE.out]; rfl, C9⟩

end Go.Proofs.Ytfeobdgdhgcgoaa
