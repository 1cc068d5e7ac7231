/-
  The contract of the model's YardRun.
-/
import Derived.Test.YtlcfldmiibjboabYsM
import Derived.Test.YtlcfldmiibjboabYmM
import Derived.Deep.CutRange
import Derived.Deep.RegionWith
namespace Go.Proofs.Ytlcfldmiibjboab
open Go.RowKit
set_option linter.unusedVariables false

theorem cutA {wr w6 : World} {h' : Int} {t' : List (List Int)} {u : Value} {ok : Bool} (n6 : NewY wr.heap.size w6 u t') (b6 : Below wr.heap.size wr w6) :
    ∃ (Bn : Nat) (u' : Value), Value.pointer (some ⟨w6.heap.size, 0, none⟩) = .pointer (some ⟨Bn, 0, none⟩) ∧ Value.bool ok = .bool ok ∧ Hid (BoxY Bn (w6.alloc (.cells #[.int .i64 h', u] 29)) h' u') ∧ Hid (NewY wr.heap.size (w6.alloc (.cells #[.int .i64 h', u] 29)) u' t') ∧ Hid (wr.heap.size ≤ Bn) ∧ Hid (Below wr.heap.size wr (w6.alloc (.cells #[.int .i64 h', u] 29))) :=
  ⟨w6.heap.size, u, rfl, rfl, Lib.hid (BoxY.new _ _ _), Lib.hid (n6.keep ((Below.refl _ _).alloc (Nat.le_refl _) _)), Lib.hid b6.size, Lib.hid (b6.alloc b6.size _)⟩
theorem cutB {wr w6 : World} {h' h0 : Int} {t' : List (List Int)} {u v0 : Value} {ok : Bool} (n6 : NewY (wr.heap.size + 1) w6 u t') (g6 : BoxY wr.heap.size w6 h0 v0) (b6 : Below wr.heap.size wr w6) :
    ∃ (Bn : Nat) (u' : Value), Value.pointer (some ⟨wr.heap.size, 0, none⟩) = .pointer (some ⟨Bn, 0, none⟩) ∧ Value.bool ok = .bool ok ∧ Hid (BoxY Bn ((w6.setCell ⟨wr.heap.size, 0, none⟩ (.int .i64 h')).setCell ⟨wr.heap.size, 1, none⟩ u) h' u') ∧ Hid (NewY wr.heap.size ((w6.setCell ⟨wr.heap.size, 0, none⟩ (.int .i64 h')).setCell ⟨wr.heap.size, 1, none⟩ u) u' t') ∧ Hid (wr.heap.size ≤ Bn) ∧ Hid (Below wr.heap.size wr ((w6.setCell ⟨wr.heap.size, 0, none⟩ (.int .i64 h')).setCell ⟨wr.heap.size, 1, none⟩ u)) :=
  ⟨wr.heap.size, u, rfl, rfl, Lib.hid ((g6.set0 h').set1 u), Lib.hid (((n6.setLow (Nat.lt_succ_self _) 0 _).setLow (Nat.lt_succ_self _) 1 _).from_ (Nat.le_succ _)), Lib.hid (Nat.le_refl _), Lib.hid ((b6.setCell (p := ⟨wr.heap.size, 0, none⟩) (Nat.le_refl _) _).setCell (p := ⟨wr.heap.size, 1, none⟩) (Nat.le_refl _) _)⟩

/-- What a call gives that runs moves in a yard. -/
def RunYGives (h : Int) (ss : List (List Int)) (ms : List (Int × Int)) (w : World) (e : Ending) (w' : World) : Prop :=
  ∃ u, e = .returned (.tuple #[.agg #[.int .i64 (runY h ss ms).1.1, u], .int .i64 (runY h ss ms).2]) ∧ NewY w.heap.size w' u (runY h ss ms).1.2 ∧ Below w.heap.size w w'

set_option maxRecDepth 10000 in
set_option maxHeartbeats 2000000 in
theorem specYardRun_bad (h : Int) (v lv : Value) (ss : List (List Int)) (ms : List (Int × Int)) (w : World) (hh : HoldsY w v ss) (hl : HoldsM w lv ms) (hbd : ss.flatten.length ≤ 1048577) (hok : ydOk h ss = false ∨ 40 < ms.length) :
    Calls Try.prog 14 #[.agg #[.int .i64 h, v], lv] w (RunYGives h ss ms w) := by
  have hb2 := ((Below.refl w.heap.size w).alloc (Nat.le_refl _) (.cells #[.int .i64 h, v] 29)).alloc (by simp) (.cells #[.int .i64 0, .slice none 0 0] 29)
  have HV := Lib.hid (specYardValid_any h v ss _ (hh.keep hb2) hbd)
  have hR0 : BoxY (w.heap.size + 1) ((w.alloc (.cells #[.int .i64 h, v] 29)).alloc (.cells #[.int .i64 0, .slice none 0 0] 29)) 0 (.slice none 0 0) := two_hi _ _ _
  have HR := Lib.hid hR0
  have HB := Lib.hid hb2
  unfold RunYGives
  rw [runY_bad hok]
  obtain ⟨a, cap, rfl, h2, h3, -⟩ := hl
  have hml : ms.length ≤ 9223372036854775807 := by unfold maxLen at h3; omega
  clear hh hb2 hR0 h2 h3
  cases hok2 : ydOk h ss
  · rw [hok2] at HV
    clear hok hok2
    go_enter Try.func14, Try.ntmps14
    go_wp2_with fail
    refine HV.out.mono ?_
    rintro e w3 ⟨rfl, b3⟩
    have g3 := HR.out.keep b3
    have c0 := g3.c0
    have c1 := g3.c1
    have e0 := g3.frozen 0
    have e1 := g3.frozen 1
    have B3 := Lib.hid (HB.out.trans (b3.mono HB.out.size))
    clear b3 g3 HR HB HV
    go_wp2_with fail
    have hB := (B3.out.setCell (p := ⟨w.heap.size + 1, 0, none⟩) (Nat.le_add_right _ _) (.int .i64 0)).setCell (p := ⟨w.heap.size + 1, 1, none⟩) (Nat.le_add_right _ _) (.slice none 0 0)
    exact bodyPost_ret (v := .tuple #[.agg #[.int .i64 0, .slice none 0 0], .int .i64 0]) (by simp [results, Try.results14, go_sem, c0, c1]) rfl ⟨_, rfl, NewY.zero, hB⟩
  · rw [hok2] at HV
    have h40 : 40 < (ms.length : Int) := by
      rcases hok with hc | hc
      · rw [hok2] at hc; cases hc
      · omega
    clear hok hok2
    go_enter Try.func14, Try.ntmps14
    go_wp2_with fail
    refine HV.out.mono ?_
    rintro e w3 ⟨rfl, b3⟩
    have g3 := HR.out.keep b3
    have c0 := g3.c0
    have c1 := g3.c1
    have e0 := g3.frozen 0
    have e1 := g3.frozen 1
    have B3 := Lib.hid (HB.out.trans (b3.mono HB.out.size))
    clear b3 g3 HR HB HV
    go_wp2_with fail
    have hB := (B3.out.setCell (p := ⟨w.heap.size + 1, 0, none⟩) (Nat.le_add_right _ _) (.int .i64 0)).setCell (p := ⟨w.heap.size + 1, 1, none⟩) (Nat.le_add_right _ _) (.slice none 0 0)
    exact bodyPost_ret (v := .tuple #[.agg #[.int .i64 0, .slice none 0 0], .int .i64 0]) (by simp [results, Try.results14, go_sem, c0, c1]) rfl ⟨_, rfl, NewY.zero, hB⟩

set_option maxRecDepth 10000 in
set_option maxHeartbeats 4000000 in
theorem specYardRun_good (h : Int) (v lv : Value) (ss : List (List Int)) (ms : List (Int × Int)) (w : World) (hh : HoldsY w v ss) (hl : HoldsM w lv ms) (hok : ydOk h ss = true) (h40 : ms.length ≤ 40) :
    Calls Try.prog 14 #[.agg #[.int .i64 h, v], lv] w (RunYGives h ss ms w) := by
  have hfl25 := ydOk_size hok
  have hbd : ss.flatten.length ≤ 1048577 := by omega
  have hb2 := ((Below.refl w.heap.size w).alloc (Nat.le_refl _) (.cells #[.int .i64 h, v] 29)).alloc (by simp) (.cells #[.int .i64 0, .slice none 0 0] 29)
  have hV0 := specYardValid_any h v ss _ (hh.keep hb2) hbd
  have hY0 : BoxY w.heap.size ((w.alloc (.cells #[.int .i64 h, v] 29)).alloc (.cells #[.int .i64 0, .slice none 0 0] 29)) h v := two_lo _ _ _
  have hR0 : BoxY (w.heap.size + 1) ((w.alloc (.cells #[.int .i64 h, v] 29)).alloc (.cells #[.int .i64 0, .slice none 0 0] 29)) 0 (.slice none 0 0) := two_hi _ _ _
  obtain ⟨W2, hW2⟩ : ∃ W2, W2 = (w.alloc (.cells #[.int .i64 h, v] 29)).alloc (.cells #[.int .i64 0, .slice none 0 0] 29) := ⟨_, rfl⟩
  rw [← hW2] at hb2 hV0 hY0 hR0
  have hz2 : W2.heap.size = w.heap.size + 2 := by rw [hW2]; simp
  have HX2 := Lib.hid hW2
  have H0 := Lib.hid (And.intro hb2 (And.intro hY0 (And.intro hR0 hz2)))
  have HV := Lib.hid hV0
  rw [hok] at HV
  have HC := Lib.hid fun w' (hb : Below w.heap.size w w') => l4Copy_any h v ss w' (hh.keep hb) hok
  unfold CopyGives at HC
  have HL := Lib.hid fun w' (hb : Below w.heap.size w w') => hl.keep hb
  have HSTOP := Lib.hid fun tt k hk' hd hm => runY_stop (tt := tt) (k := k) hok h40 hk' hd hm
  have HFULL := Lib.hid fun tt hd => runY_full (tt := tt) hok h40 hd
  have HOK := Lib.hid hok
  obtain ⟨a, cap, rfl⟩ : ∃ a cap, v = .slice a ss.length cap := by obtain ⟨a, cap, h1, _⟩ := hh; exact ⟨a, cap, h1⟩
  obtain ⟨la, lc, rfl⟩ : ∃ a cap, lv = .slice a ms.length cap := by obtain ⟨a, cap, h1, _⟩ := hl; exact ⟨a, cap, h1⟩
  obtain ⟨n, hn⟩ : ∃ n, n = ms.length := ⟨_, rfl⟩
  have HN := Lib.hid hn.symm
  unfold RunYGives
  rw [← hn] at HL h40 HFULL ⊢
  clear hh hl hok hb2 hV0 hY0 hR0 hW2 hz2 hbd hfl25 hn
  have h40i : ¬ 40 < (n : Int) := by omega
  go_enter Try.func14, Try.ntmps14
  go_wp2_with fail
  rw [← HX2.out]
  refine HV.out.mono ?_
  rintro e w3 ⟨rfl, b3⟩
  obtain ⟨hb2, hY0, hR0, hz2⟩ := H0.out
  have y3 := hY0.keep b3
  have q3 := hR0.keep b3
  have d0 := y3.c0
  have d1 := y3.c1
  have B3 := Lib.hid (hb2.trans (b3.mono hb2.size))
  have s3 := b3.size
  have HS3 := Lib.hid (show w.heap.size + 2 ≤ w3.heap.size by omega)
  have Q3 := Lib.hid q3
  clear hb2 hY0 hR0 hz2 b3 s3 HX2 H0 HV y3 q3
  go_wp2_with fail
  refine (HC.out _ B3.out).mono ?_
  rintro e w4 ⟨u, us, rfl, o4, b4⟩
  obtain ⟨ua, uc, rfl⟩ := own_slice o4.out
  have hb5 := (Below.refl w4.heap.size w4).alloc (Nat.le_refl _) (.cells #[.int .i64 h, .slice ua ss.length uc] 29)
  have x5 := BoxY.new w4 h (.slice ua ss.length uc)
  obtain ⟨w5, hw5⟩ : ∃ w5, w5 = w4.alloc (.cells #[.int .i64 h, .slice ua ss.length uc] 29) := ⟨_, rfl⟩
  rw [← hw5] at hb5 x5
  have hs5 : w5.heap.size = w4.heap.size + 1 := by rw [hw5]; simp
  have q5 := (Q3.out.keep b4).keep hb5
  have HX5 := Lib.hid hw5
  have B5 := Lib.hid (B3.out.trans ((b4.trans (hb5.mono b4.size)).mono B3.out.size))
  have N5 := Lib.hid ((o4.newY.keep hb5).from_ HS3.out)
  have X5 := Lib.hid x5
  have Q5 := Lib.hid q5
  have HS5 := Lib.hid (show w.heap.size + 2 ≤ w4.heap.size ∧ w5.heap.size = w4.heap.size + 1 from ⟨Nat.le_trans HS3.out b4.size, hs5⟩)
  clear hb5 x5 hw5 hs5 q5 b4 o4 HC d0 d1 B3 Q3 HS3
  go_wp2_with fail
  go_loopw [7] (fun i wr => ∃ (k : Nat) (x : Value) (tt : List (List Int)), k ≤ n ∧ i = .int .i64 k ∧ Hid (BoxY w4.heap.size wr h x) ∧ Hid (NewY (w.heap.size + 2) wr x tt) ∧ Hid (Done h ss (ms.take k) tt) ∧ Hid (MostB w4.heap.size w5 wr)) (fun i _ => n - (intOf i).toNat)
  case atStart =>
    rw [← HX5.out]
    exact ⟨0, _, ss, by omega, rfl, X5, N5, Lib.hid (.nil _), Lib.hid (MostB.refl _ _)⟩
  case round =>
    obtain ⟨k, x, tt, hk, rfl, HBX, HNY, HD, HM⟩ := hrel
    obtain ⟨xa, xc, rfl⟩ := HNY.out.form
    have hHS := HS5.out
    have hMs := HM.out.size
    have hbw : Below w.heap.size w wr := B5.out.trans (HM.out.under (by omega) (by omega))
    have q0 : BoxY (w.heap.size + 1) wr 0 (.slice none 0 0) := Q5.out.at_ (HM.out.block _ (by omega) Q5.out.lt)
    have x0 := HBX.out.c0
    have x1 := HBX.out.c1
    by_cases hlt : k < n
    · obtain ⟨b, off, hkl, rfl, hbl, m0, m1⟩ := (HL.out wr hbw).at_ hlt
      have ik : (k : Int) < (n : Int) := by omega
      have hokt := (HD.out.ok HOK.out).1
      have hbdt : tt.flatten.length ≤ 1048577 := by have := ydOk_size hokt; omega
      have HMC := Lib.hid fun w' (hb : Below wr.heap.size wr w') => specYardMove_any h (.slice xa tt.length xc) tt ms[k].1 ms[k].2 w' (HNY.out.holds.keep hb) hbdt
      unfold MoveYGives at HMC
      have HME := Lib.hid (show moveY h tt ms[k].1 ms[k].2 = moveY h tt ms[k].1 ms[k].2 from rfl)
      generalize hmf : moveY h tt ms[k].1 ms[k].2 = mv at HMC HME
      obtain ⟨⟨h', t'⟩, ok⟩ := mv
      have HMV := Lib.hid hmf
      clear hmf HME
      have HMS := Lib.hid (show ms[k] = ms[k] from rfl)
      generalize ms[k].1 = f at m0 HMC
      generalize ms[k].2 = g at m1 HMC
      have hd1 : Below wr.heap.size wr wr.drew := (Below.refl _ _).drew
      have hd2 : Below wr.heap.size wr (wr.alloc (.cells #[.int .i64 0, .slice none 0 0] 29)).drew := ((Below.refl _ _).alloc (Nat.le_refl _) _).drew
      have HM1 := Lib.hid (HMC.out _ hd1)
      have HM2 := Lib.hid (HMC.out _ hd2)
      have hN6 : w4.heap.size < wr.heap.size := HBX.out.lt
      have x0a : ∀ o : Obj, (wr.alloc o).cell? ⟨w4.heap.size, 0, none⟩ = some (.int .i64 h) := fun o => (((Below.refl wr.heap.size wr).alloc (Nat.le_refl _) o).cell (p := ⟨w4.heap.size, 0, none⟩) hN6).trans x0
      have x1a : ∀ o : Obj, (wr.alloc o).cell? ⟨w4.heap.size, 1, none⟩ = some (.slice xa tt.length xc) := fun o => (((Below.refl wr.heap.size wr).alloc (Nat.le_refl _) o).cell (p := ⟨w4.heap.size, 1, none⟩) hN6).trans x1
      have m0a : ∀ o : Obj, (wr.alloc o).cell? ⟨b, off + k * 2, none⟩ = some (.int .i64 f) := fun o => (((Below.refl wr.heap.size wr).alloc (Nat.le_refl _) o).cell (p := ⟨b, off + k * 2, none⟩) hbl).trans m0
      have m1a : ∀ o : Obj, (wr.alloc o).cell? ⟨b, off + k * 2 + 1, none⟩ = some (.int .i64 g) := fun o => (((Below.refl wr.heap.size wr).alloc (Nat.le_refl _) o).cell (p := ⟨b, off + k * 2 + 1, none⟩) hbl).trans m1
      have BW := Lib.hid hbw
      have Q0 := Lib.hid q0
      have N6 := Lib.hid hN6
      clear HMC hd1 hd2 q0 hbw hMs
      go_upto_region 7 with fail
      go_cut [8, 9] from 21 to 40 (fun pv okv wx => ∃ (Bn : Nat) (u' : Value), pv = .pointer (some ⟨Bn, 0, none⟩) ∧ okv = .bool ok ∧ Hid (BoxY Bn wx h' u') ∧ Hid (NewY wr.heap.size wx u' t') ∧ Hid (wr.heap.size ≤ Bn) ∧ Hid (Below wr.heap.size wr wx))
      case first =>
        (first | go_region_with (first
          | (go_at_call 29; (with_reducible refine HM1.out.mono ?_); rintro e w6 ⟨u6, rfl, n6, b6⟩; obtain ⟨a6, c6, rfl⟩ := NewY.form n6; have HCA := Lib.hid n6; have HB6 := Lib.hid b6; clear n6 b6)
          | (go_at_call 29; (with_reducible refine HM2.out.mono ?_); rintro e w6 ⟨u6, rfl, n6, b6⟩; obtain ⟨a6, c6, rfl⟩ := NewY.form n6; have HCB := Lib.hid n6; have HB6 := Lib.hid b6; have g6 := ((BoxY.new wr 0 (.slice none 0 0)).drew_).keep b6; have HG6 := Lib.hid g6; have c0 := g6.c0; have c1 := g6.c1; have e0 := g6.frozen 0; have e1 := g6.frozen 1; clear n6 b6 g6)) | fail)
        all_goals
          go_wp2_with fail
          go_meet
          first
            | exact cutA HCA.out ((Below.refl _ _).drew.trans HB6.out)
            | exact cutB (by have := HCB.out; simpa using this) HG6.out (((Below.refl _ _).alloc (Nat.le_refl _) _).drew.trans (Below.mono HB6.out (by simp)))
      case rest =>
        obtain ⟨Bn, u', rfl, rfl, HBN, HNN, HLE, HBB⟩ := hcut
        clear x0a x1a m0a m1a m0 m1 HM1 HM2
        obtain ⟨a', c', rfl⟩ := HNN.out.form
        have hBN := HBN.out
        have z0 := hBN.c0
        have z1 := hBN.c1
        have hx := HBX.out.keep HBB.out
        have w0 := hx.c0
        have w1 := hx.c1
        have fx0 := hx.frozen 0
        have fx1 := hx.frozen 1
        have q0 := Q0.out.keep HBB.out
        have hn6 := N6.out
        have hle := HLE.out
        have hne : Bn ≠ w4.heap.size := by omega
        have BWC := Lib.hid (BW.out.trans (HBB.out.mono BW.out.size))
        have hw1 : w.heap.size + 1 < wr.heap.size := Q0.out.lt
        cases ok
        · have hmv := HMV.out
          have htt : h' = h ∧ t' = tt := by
            rcases moveY_cases h tt ms[k].1 ms[k].2 with ⟨hc, _⟩ | ⟨_, e⟩ | ⟨_, uu, e, _⟩
            · rw [hokt] at hc; cases hc
            · rw [e] at hmv
              simp only [Prod.mk.injEq, and_true] at hmv
              exact ⟨hmv.1.symm, hmv.2.symm⟩
            · rw [e] at hmv; simp at hmv
          have HE := Lib.hid (HSTOP.out tt k hkl HD.out (by rw [hmv]))
          have c0 := q0.c0
          have c1 := q0.c1
          have e0 := q0.frozen 0
          have e1 := q0.frozen 1
          have HX := Lib.hid (HNY.out.keep HBB.out)
          clear hmv htt hBN hx q0 HBX HNY HD HM HMV HMS HSTOP HFULL z0 z1 hkl
          go_wp2_with fail
          have hB := (BWC.out.setCell (p := ⟨w.heap.size + 1, 0, none⟩) (Nat.le_add_right _ _) (.int .i64 h)).setCell (p := ⟨w.heap.size + 1, 1, none⟩) (Nat.le_add_right _ _) (.slice xa tt.length xc)
          have hF := ((HX.out.setLow (N := w.heap.size + 1) (Nat.lt_succ_self _) 0 (.int .i64 h)).setLow (N := w.heap.size + 1) (Nat.lt_succ_self _) 1 (.slice xa tt.length xc)).from_ (show w.heap.size ≤ w.heap.size + 2 by omega)
          exact bodyPost_ret (v := .tuple #[.agg #[.int .i64 h, .slice xa tt.length xc], .int .i64 (k : Int)]) (by simp [results, Try.results14, go_sem, c0, c1]) rfl ⟨_, by rw [HE.out], by rw [HE.out]; exact hF, hB⟩
        · have hmv := HMV.out
          have hh' : h' = h := by
            rcases moveY_cases h tt ms[k].1 ms[k].2 with ⟨hc, _⟩ | ⟨_, e⟩ | ⟨_, uu, e, _⟩
            · rw [hokt] at hc; cases hc
            · rw [e] at hmv; simp at hmv
            · rw [e] at hmv
              simp only [Prod.mk.injEq, and_true] at hmv
              exact hmv.1.symm
          subst hh'
          have HD2 := Lib.hid (HD.out.step hkl hmv)
          have HX := Lib.hid hx
          have HM2 := Lib.hid (HM.out.below_ (HBB.out.mono HM.out.size))
          clear hmv hBN hx q0 HBX HNY HD HM HMV HMS HSTOP HFULL
          go_wp2_with fail
          go_roundw
          case rel => exact ⟨k + 1, _, t', by omega, by go_num, Lib.hid ((HX.out.set0 h').set1 _), Lib.hid (((HNN.out.setLow hn6 0 _).setLow hn6 1 _).from_ (by omega)), HD2, Lib.hid ((HM2.out.set_ _ _).set_ _ _)⟩
          case measure => simp [intOf]; omega
    · have hkn : k = n := by omega
      subst hkn
      have HE := Lib.hid (HFULL.out tt (by have := HD.out; rwa [List.take_of_length_le (Nat.le_of_eq HN.out)] at this))
      have c0 := q0.c0
      have c1 := q0.c1
      have e0 := q0.frozen 0
      have e1 := q0.frozen 1
      have BWC := Lib.hid hbw
      clear q0 hbw hMs HD HM HSTOP HFULL HBX
      go_wp2_with fail
      have hB := (BWC.out.setCell (p := ⟨w.heap.size + 1, 0, none⟩) (Nat.le_add_right _ _) (.int .i64 h)).setCell (p := ⟨w.heap.size + 1, 1, none⟩) (Nat.le_add_right _ _) (.slice xa tt.length xc)
      have hF := ((HNY.out.setLow (N := w.heap.size + 1) (Nat.lt_succ_self _) 0 (.int .i64 h)).setLow (N := w.heap.size + 1) (Nat.lt_succ_self _) 1 (.slice xa tt.length xc)).from_ (show w.heap.size ≤ w.heap.size + 2 by omega)
      exact bodyPost_ret (v := .tuple #[.agg #[.int .i64 h, .slice xa tt.length xc], .int .i64 (k : Int)]) (by simp [results, Try.results14, go_sem, c0, c1]) rfl ⟨_, by rw [HE.out], by rw [HE.out]; exact hF, hB⟩
theorem specYardRun_any (h : Int) (v lv : Value) (ss : List (List Int)) (ms : List (Int × Int)) (w : World) (hh : HoldsY w v ss) (hl : HoldsM w lv ms) (hbd : ss.flatten.length ≤ 1048577) :
    Calls Try.prog 14 #[.agg #[.int .i64 h, v], lv] w (RunYGives h ss ms w) := by
  by_cases hok : ydOk h ss = true ∧ ms.length ≤ 40
  · exact specYardRun_good h v lv ss ms w hh hl hok.1 hok.2
  · refine specYardRun_bad h v lv ss ms w hh hl hbd ?_
    cases h1 : ydOk h ss
    · exact .inl rfl
    · exact .inr (by have : ¬ ms.length ≤ 40 := fun h2 => hok ⟨h1, h2⟩; omega)
end Go.Proofs.Ytlcfldmiibjboab
