/-
  The contract of the program's YardRun.
-/
import Derived.Test.YtlcfldmiibjboabYiM
import Derived.Test.YtlcfldmiibjboabYmM
namespace Go.Proofs.Ytlcfldmiibjboab
open Go.RowKit
set_option linter.unusedVariables false

/-- What the program's call gives that runs moves in a yard: memory of the call's own. -/
def RunYGivesF (h : Int) (ss : List (List Int)) (ms : List (Int × Int)) (w : World) (e : Ending) (w' : World) : Prop :=
  ∃ u, e = .returned (.tuple #[.agg #[.int .i64 (runY h ss ms).1.1, u], .int .i64 (runY h ss ms).2]) ∧ FreeY w.heap.size w'.heap.size w' u (runY h ss ms).1.2.length (rowAt (runY h ss ms).1.2) ∧ Below w.heap.size w w'

set_option maxRecDepth 10000 in
set_option maxHeartbeats 2000000 in
theorem implYardRun_bad (h : Int) (v lv : Value) (ss : List (List Int)) (ms : List (Int × Int)) (w : World) (hh : HoldsY w v ss) (hl : HoldsM w lv ms) (hok : ydOk h ss = false ∨ 40 < ms.length) :
    Calls Try.prog 20 #[.agg #[.int .i64 h, v], lv] w (RunYGivesF h ss ms w) := by
  have hb2 := ((Below.refl w.heap.size w).alloc (Nat.le_refl _) (.cells #[.int .i64 h, v] 29)).alloc (by simp) (.cells #[.int .i64 0, .slice none 0 0] 29)
  have HV := Lib.hid (implYardValid_any h v ss _ (hh.keep hb2))
  have hR0 : BoxY (w.heap.size + 1) ((w.alloc (.cells #[.int .i64 h, v] 29)).alloc (.cells #[.int .i64 0, .slice none 0 0] 29)) 0 (.slice none 0 0) := two_hi _ _ _
  have HR := Lib.hid hR0
  have HB := Lib.hid hb2
  unfold RunYGivesF
  rw [runY_bad hok]
  obtain ⟨a, cap, rfl, h2, h3, -⟩ := hl
  have hml : ms.length ≤ 9223372036854775807 := by unfold maxLen at h3; omega
  clear hh hb2 hR0 h2 h3
  cases hok2 : ydOk h ss
  · rw [hok2] at HV
    clear hok hok2
    go_enter Try.func20, Try.ntmps20
    go_wp2_with fail
    refine HV.out.mono ?_
    rintro e w3 ⟨rfl, b3⟩
    have g3 := HR.out.keep b3
    have c0 := g3.c0
    have c1 := g3.c1
    have e0 := g3.frozen 0
    have e1 := g3.frozen 1
    have B3 := Lib.hid (HB.out.trans (b3.mono HB.out.size))
    clear b3 g3 HR HB HV
    go_wp2_with fail
    have hB := (B3.out.setCell (p := ⟨w.heap.size + 1, 0, none⟩) (Nat.le_add_right _ _) (.int .i64 0)).setCell (p := ⟨w.heap.size + 1, 1, none⟩) (Nat.le_add_right _ _) (.slice none 0 0)
    exact bodyPost_ret (v := .tuple #[.agg #[.int .i64 0, .slice none 0 0], .int .i64 0]) (by simp [results, Try.results20, go_sem, c0, c1]) rfl ⟨_, rfl, FreeY.zero, hB⟩
  · rw [hok2] at HV
    have h40 : 40 < (ms.length : Int) := by
      rcases hok with hc | hc
      · rw [hok2] at hc; cases hc
      · omega
    clear hok hok2
    go_enter Try.func20, Try.ntmps20
    go_wp2_with fail
    refine HV.out.mono ?_
    rintro e w3 ⟨rfl, b3⟩
    have g3 := HR.out.keep b3
    have c0 := g3.c0
    have c1 := g3.c1
    have e0 := g3.frozen 0
    have e1 := g3.frozen 1
    have B3 := Lib.hid (HB.out.trans (b3.mono HB.out.size))
    clear b3 g3 HR HB HV
    go_wp2_with fail
    have hB := (B3.out.setCell (p := ⟨w.heap.size + 1, 0, none⟩) (Nat.le_add_right _ _) (.int .i64 0)).setCell (p := ⟨w.heap.size + 1, 1, none⟩) (Nat.le_add_right _ _) (.slice none 0 0)
    exact bodyPost_ret (v := .tuple #[.agg #[.int .i64 0, .slice none 0 0], .int .i64 0]) (by simp [results, Try.results20, go_sem, c0, c1]) rfl ⟨_, rfl, FreeY.zero, hB⟩

set_option maxRecDepth 10000 in
set_option maxHeartbeats 4000000 in
theorem implYardRun_good (h : Int) (v lv : Value) (ss : List (List Int)) (ms : List (Int × Int)) (w : World) (hh : HoldsY w v ss) (hl : HoldsM w lv ms) (hok : ydOk h ss = true) (h40 : ms.length ≤ 40) :
    Calls Try.prog 20 #[.agg #[.int .i64 h, v], lv] w (RunYGivesF h ss ms w) := by
  have hb2 := ((Below.refl w.heap.size w).alloc (Nat.le_refl _) (.cells #[.int .i64 h, v] 29)).alloc (by simp) (.cells #[.int .i64 0, .slice none 0 0] 29)
  have hV0 := implYardValid_any h v ss _ (hh.keep hb2)
  have hY0 : BoxY w.heap.size ((w.alloc (.cells #[.int .i64 h, v] 29)).alloc (.cells #[.int .i64 0, .slice none 0 0] 29)) h v := two_lo _ _ _
  have hR0 : BoxY (w.heap.size + 1) ((w.alloc (.cells #[.int .i64 h, v] 29)).alloc (.cells #[.int .i64 0, .slice none 0 0] 29)) 0 (.slice none 0 0) := two_hi _ _ _
  obtain ⟨W2, hW2⟩ : ∃ W2, W2 = (w.alloc (.cells #[.int .i64 h, v] 29)).alloc (.cells #[.int .i64 0, .slice none 0 0] 29) := ⟨_, rfl⟩
  rw [← hW2] at hb2 hV0 hY0 hR0
  have hz2 : W2.heap.size = w.heap.size + 2 := by rw [hW2]; simp
  have HX2 := Lib.hid hW2
  have H0 := Lib.hid (And.intro hb2 (And.intro hY0 (And.intro hR0 hz2)))
  have HV := Lib.hid hV0
  rw [hok] at HV
  have HC := Lib.hid fun w' (hb : Below w.heap.size w w') => copyYard_any h v ss w' (hh.keep hb) hok
  unfold CopyGivesF at HC
  have HL := Lib.hid fun w' (hb : Below w.heap.size w w') => hl.keep hb
  have HSTOP := Lib.hid fun tt k hk' hd hm => runY_stop (tt := tt) (k := k) hok h40 hk' hd hm
  have HFULL := Lib.hid fun tt hd => runY_full (tt := tt) hok h40 hd
  have HOK := Lib.hid hok
  obtain ⟨a, cap, rfl⟩ : ∃ a cap, v = .slice a ss.length cap := by obtain ⟨a, cap, h1, _⟩ := hh; exact ⟨a, cap, h1⟩
  obtain ⟨la, lc, rfl⟩ : ∃ a cap, lv = .slice a ms.length cap := by obtain ⟨a, cap, h1, _⟩ := hl; exact ⟨a, cap, h1⟩
  obtain ⟨n, hn⟩ : ∃ n, n = ms.length := ⟨_, rfl⟩
  have HN := Lib.hid hn.symm
  unfold RunYGivesF
  rw [← hn] at HL h40 HFULL ⊢
  clear hh hl hok hb2 hV0 hY0 hR0 hW2 hz2 hn
  have h40i : ¬ 40 < (n : Int) := by omega
  go_enter Try.func20, Try.ntmps20
  go_wp2_with fail
  rw [← HX2.out]
  refine HV.out.mono ?_
  rintro e w3 ⟨rfl, b3⟩
  obtain ⟨hb2, hY0, hR0, hz2⟩ := H0.out
  have y3 := hY0.keep b3
  have q3 := hR0.keep b3
  have d0 := y3.c0
  have d1 := y3.c1
  have B3 := Lib.hid (hb2.trans (b3.mono hb2.size))
  have s3 := b3.size
  have HS3 := Lib.hid (show w.heap.size + 2 ≤ w3.heap.size by omega)
  have Q3 := Lib.hid q3
  clear hb2 hY0 hR0 hz2 b3 s3 HX2 H0 HV y3 q3
  go_wp2_with fail
  refine (HC.out _ B3.out).mono ?_
  rintro e w4 ⟨u, rfl, o4, b4⟩
  obtain ⟨ua, uc, rfl⟩ := o4.form
  have hb5 := (Below.refl w4.heap.size w4).alloc (Nat.le_refl _) (.cells #[.int .i64 h, .slice ua ss.length uc] 29)
  have x5 := BoxY.new w4 h (.slice ua ss.length uc)
  obtain ⟨w5, hw5⟩ : ∃ w5, w5 = w4.alloc (.cells #[.int .i64 h, .slice ua ss.length uc] 29) := ⟨_, rfl⟩
  rw [← hw5] at hb5 x5
  have hs5 : w5.heap.size = w4.heap.size + 1 := by rw [hw5]; simp
  have q5 := (Q3.out.keep b4).keep hb5
  have HX5 := Lib.hid hw5
  have B5 := Lib.hid (B3.out.trans ((b4.trans (hb5.mono b4.size)).mono B3.out.size))
  have N5 := Lib.hid ((o4.stay hb5 (Nat.le_refl _)).wide HS3.out (Nat.le_refl _))
  have X5 := Lib.hid x5
  have Q5 := Lib.hid q5
  have HS5 := Lib.hid (show w.heap.size + 2 ≤ w4.heap.size ∧ w5.heap.size = w4.heap.size + 1 from ⟨Nat.le_trans HS3.out b4.size, hs5⟩)
  clear hb5 x5 hw5 hs5 q5 b4 o4 HC d0 d1 B3 Q3 HS3
  go_wp2_with fail
  go_loopw [24] (fun i wr => ∃ (k : Nat) (x : Value) (tt : List (List Int)), k ≤ n ∧ i = .int .i64 k ∧ Hid (BoxY w4.heap.size wr h x) ∧ Hid (FreeY (w.heap.size + 2) wr.heap.size wr x tt.length (rowAt tt)) ∧ Hid (Done h ss (ms.take k) tt) ∧ Hid (MostB w4.heap.size w5 wr)) (fun i _ => n - (intOf i).toNat)
  case atStart =>
    rw [← HX5.out]
    exact ⟨0, _, ss, by omega, rfl, X5, N5, Lib.hid (.nil _), Lib.hid (MostB.refl _ _)⟩
  case round =>
    obtain ⟨k, x, tt, hk, rfl, HBX, HNY, HD, HM⟩ := hrel
    obtain ⟨xa, xc, rfl⟩ := HNY.out.form
    have hHS := HS5.out
    have hMs := HM.out.size
    have hbw : Below w.heap.size w wr := B5.out.trans (HM.out.under (by omega) (by omega))
    have q0 : BoxY (w.heap.size + 1) wr 0 (.slice none 0 0) := Q5.out.at_ (HM.out.block _ (by omega) Q5.out.lt)
    have x0 := HBX.out.c0
    have x1 := HBX.out.c1
    by_cases hlt : k < n
    · obtain ⟨b, off, hkl, rfl, hbl, m0, m1⟩ := (HL.out wr hbw).at_ hlt
      have ik : (k : Int) < (n : Int) := by omega
      have i0k : (0 : Int) ≤ (k : Int) := by omega
      have hokt := (HD.out.ok HOK.out).1
      have hN6 : w4.heap.size < wr.heap.size := HBX.out.lt
      have hb6 := (Below.refl wr.heap.size wr).alloc (Nat.le_refl _) (.cells #[.int .i64 ms[k].1, .int .i64 ms[k].2] 51)
      have HMC := implYardMove_any h (.slice xa tt.length xc) tt ms[k].1 ms[k].2 _ (HNY.out.holdsY.keep hb6)
      unfold MoveYGivesF at HMC
      have HMV : Hid (moveY h tt ms[k].1 ms[k].2 = moveY h tt ms[k].1 ms[k].2) := rfl
      generalize hmf : moveY h tt ms[k].1 ms[k].2 = mv at HMC HMV
      obtain ⟨⟨h', t'⟩, ok⟩ := mv
      have HMV := Lib.hid hmf
      clear hmf
      generalize ms[k].1 = f at m0 HMC hb6
      generalize ms[k].2 = g at m1 HMC hb6
      have x0a : ∀ o : Obj, (wr.alloc o).cell? ⟨w4.heap.size, 0, none⟩ = some (.int .i64 h) := fun o => (((Below.refl wr.heap.size wr).alloc (Nat.le_refl _) o).cell (p := ⟨w4.heap.size, 0, none⟩) hN6).trans x0
      have x1a : ∀ o : Obj, (wr.alloc o).cell? ⟨w4.heap.size, 1, none⟩ = some (.slice xa tt.length xc) := fun o => (((Below.refl wr.heap.size wr).alloc (Nat.le_refl _) o).cell (p := ⟨w4.heap.size, 1, none⟩) hN6).trans x1
      obtain ⟨W6, hW6⟩ : ∃ W6, W6 = wr.alloc (.cells #[.int .i64 f, .int .i64 g] 51) := ⟨_, rfl⟩
      rw [← hW6] at hb6 HMC
      have hs6 : W6.heap.size = wr.heap.size + 1 := by rw [hW6]; simp
      have HX6 := Lib.hid hW6
      have HM1 := Lib.hid HMC
      have HB6 := Lib.hid hb6
      have BW := Lib.hid hbw
      have Q0 := Lib.hid q0
      have N6 := Lib.hid hN6
      clear HMC q0 hbw hb6 hW6
      go_wp2_with fail
      rw [← HX6.out]
      refine HM1.out.mono ?_
      rintro e w7 ⟨u7, rfl, n7', b7⟩
      have n7 : FreeY W6.heap.size w7.heap.size w7 u7 t'.length (rowAt t') := n7'
      obtain ⟨a', c', rfl⟩ := n7.form
      have hs7 := b7.size
      have bwr7 : Below wr.heap.size wr w7 := HB6.out.trans (b7.mono (by omega))
      have hb8 := (Below.refl w7.heap.size w7).alloc (Nat.le_refl _) (.cells #[.int .i64 h', .slice a' t'.length c'] 29)
      have bwr8 := bwr7.trans (hb8.mono (by omega))
      have x7 := HBX.out.keep bwr7
      have q7 := Q0.out.keep bwr7
      have w0 : ∀ o : Obj, (w7.alloc o).cell? ⟨w4.heap.size, 0, none⟩ = some (.int .i64 h) := fun o => (x7.keep ((Below.refl w7.heap.size w7).alloc (Nat.le_refl _) o)).c0
      have w1 : ∀ o : Obj, (w7.alloc o).cell? ⟨w4.heap.size, 1, none⟩ = some (.slice xa tt.length xc) := fun o => (x7.keep ((Below.refl w7.heap.size w7).alloc (Nat.le_refl _) o)).c1
      have fx0 : ∀ o : Obj, (w7.alloc o).frozen? ⟨w4.heap.size, 0, none⟩ = false := fun o => (x7.keep ((Below.refl w7.heap.size w7).alloc (Nat.le_refl _) o)).frozen 0
      have fx1 : ∀ o : Obj, (w7.alloc o).frozen? ⟨w4.heap.size, 1, none⟩ = false := fun o => (x7.keep ((Below.refl w7.heap.size w7).alloc (Nat.le_refl _) o)).frozen 1
      have hw1 : w.heap.size + 1 < wr.heap.size := Q0.out.lt
      have BWC := Lib.hid (BW.out.trans (bwr8.mono BW.out.size))
      have HN8 := Lib.hid (n7.keep hb8)
      have HX8 := Lib.hid (x7.keep hb8)
      have HB8 := Lib.hid bwr8
      have HBX8 := Lib.hid (HNY.out.stay bwr8 (Nat.le_refl _))
      have hne4 : w7.heap.size ≠ w4.heap.size := by omega
      have hne1 : w7.heap.size ≠ w.heap.size + 1 := by omega
      cases ok
      · have hmv := HMV.out
        have htt : h' = h ∧ t' = tt := by
          rcases moveY_cases h tt ms[k].1 ms[k].2 with ⟨hc, _⟩ | ⟨_, e⟩ | ⟨_, uu, e, _⟩
          · rw [hokt] at hc; cases hc
          · rw [e] at hmv
            simp only [Prod.mk.injEq, and_true] at hmv
            exact ⟨hmv.1.symm, hmv.2.symm⟩
          · rw [e] at hmv; simp at hmv
        have HE := Lib.hid (HSTOP.out tt k hkl HD.out (by rw [hmv]))
        have c0 : ∀ o : Obj, (w7.alloc o).cell? ⟨w.heap.size + 1, 0, none⟩ = some (.int .i64 0) := fun o => (q7.keep ((Below.refl w7.heap.size w7).alloc (Nat.le_refl _) o)).c0
        have c1 : ∀ o : Obj, (w7.alloc o).cell? ⟨w.heap.size + 1, 1, none⟩ = some (.slice none 0 0) := fun o => (q7.keep ((Below.refl w7.heap.size w7).alloc (Nat.le_refl _) o)).c1
        have e0 : ∀ o : Obj, (w7.alloc o).frozen? ⟨w.heap.size + 1, 0, none⟩ = false := fun o => (q7.keep ((Below.refl w7.heap.size w7).alloc (Nat.le_refl _) o)).frozen 0
        have e1 : ∀ o : Obj, (w7.alloc o).frozen? ⟨w.heap.size + 1, 1, none⟩ = false := fun o => (q7.keep ((Below.refl w7.heap.size w7).alloc (Nat.le_refl _) o)).frozen 1
        clear hmv htt HD HM HMV HSTOP HFULL hkl x0 x1 x0a x1a m0 m1 b7 bwr7 bwr8 hb8 x7 q7 n7 n7' HM1 HX8 HN8 HBX HNY
        go_wp2_with fail
        have hB := (BWC.out.setCell (p := ⟨w.heap.size + 1, 0, none⟩) (Nat.le_add_right _ _) (.int .i64 h)).setCell (p := ⟨w.heap.size + 1, 1, none⟩) (Nat.le_add_right _ _) (.slice xa tt.length xc)
        have hF := HBX8.out.laid (N := w.heap.size + 1) (W := w.heap.size) (Nat.lt_succ_self _) (by omega) (Nat.le_refl _) (.int .i64 h) (.slice xa tt.length xc)
        exact bodyPost_ret (v := .tuple #[.agg #[.int .i64 h, .slice xa tt.length xc], .int .i64 (k : Int)]) (by simp [results, Try.results20, go_sem, c0, c1]) rfl ⟨_, by rw [HE.out], by rw [HE.out]; exact hF, hB⟩
      · have hmv := HMV.out
        have hh' : h' = h := by
          rcases moveY_cases h tt ms[k].1 ms[k].2 with ⟨hc, _⟩ | ⟨_, e⟩ | ⟨_, uu, e, _⟩
          · rw [hokt] at hc; cases hc
          · rw [e] at hmv; simp at hmv
          · rw [e] at hmv
            simp only [Prod.mk.injEq, and_true] at hmv
            exact hmv.1.symm
        subst hh'
        have HD2 := Lib.hid (HD.out.step hkl hmv)
        have HM2 := Lib.hid (HM.out.below_ (bwr8.mono hMs))
        clear hmv HD HM HMV HSTOP HFULL x0 x1 x0a x1a m0 m1 b7 bwr7 bwr8 hb8 x7 q7 n7 n7' HM1 HBX HNY HBX8
        go_wp2_with fail
        go_roundw
        case rel => exact ⟨k + 1, _, t', by omega, by go_num, Lib.hid ((HX8.out.set0 h').set1 _), Lib.hid (HN8.out.laid (N := w4.heap.size) (W := w.heap.size + 2) (by omega) (by omega) (by simp) _ _), HD2, Lib.hid ((HM2.out.set_ _ _).set_ _ _)⟩
        case measure => simp [intOf]; omega
    · have hkn : k = n := by omega
      subst hkn
      have HE := Lib.hid (HFULL.out tt (by have := HD.out; rwa [List.take_of_length_le (Nat.le_of_eq HN.out)] at this))
      have c0 := q0.c0
      have c1 := q0.c1
      have e0 := q0.frozen 0
      have e1 := q0.frozen 1
      have BWC := Lib.hid hbw
      clear q0 hbw hMs HD HM HSTOP HFULL HBX
      go_wp2_with fail
      have hB := (BWC.out.setCell (p := ⟨w.heap.size + 1, 0, none⟩) (Nat.le_add_right _ _) (.int .i64 h)).setCell (p := ⟨w.heap.size + 1, 1, none⟩) (Nat.le_add_right _ _) (.slice xa tt.length xc)
      have hF := HNY.out.laid (N := w.heap.size + 1) (W := w.heap.size) (Nat.lt_succ_self _) (by omega) (Nat.le_refl _) (.int .i64 h) (.slice xa tt.length xc)
      exact bodyPost_ret (v := .tuple #[.agg #[.int .i64 h, .slice xa tt.length xc], .int .i64 (k : Int)]) (by simp [results, Try.results20, go_sem, c0, c1]) rfl ⟨_, by rw [HE.out], by rw [HE.out]; exact hF, hB⟩
theorem implYardRun_any (h : Int) (v lv : Value) (ss : List (List Int)) (ms : List (Int × Int)) (w : World) (hh : HoldsY w v ss) (hl : HoldsM w lv ms) :
    Calls Try.prog 20 #[.agg #[.int .i64 h, v], lv] w (RunYGivesF h ss ms w) := by
  by_cases hok : ydOk h ss = true ∧ ms.length ≤ 40
  · exact implYardRun_good h v lv ss ms w hh hl hok.1 hok.2
  · refine implYardRun_bad h v lv ss ms w hh hl ?_
    cases h1 : ydOk h ss
    · exact .inl rfl
    · exact .inr (by have : ¬ ms.length ≤ 40 := fun h2 => hok ⟨h1, h2⟩; omega)
end Go.Proofs.Ytlcfldmiibjboab
