/-
  The contract of the program's YardPut.
-/
import Derived.Test.YtlcfldmiibjboabYiF
import Derived.Test.YtlcfldmiibjboabYiC
import Derived.Test.YtlcfldmiibjboabGYh
import Derived.Test.YtlcfldmiibjboabGYd
import Derived.Test.YtlcfldmiibjboabGStk
import Derived.Deep.CutRange
import Derived.Deep.RegionWith
namespace Go.Proofs.Ytlcfldmiibjboab
open Go.RowKit
set_option linter.unusedVariables false

/-- What the program's call gives that puts onto a yard: memory of the call's own. -/
def PutYGivesF (h : Int) (ss : List (List Int)) (t id : Int) (w : World) (e : Ending) (w' : World) : Prop :=
  ∃ u, e = .returned (.tuple #[.agg #[.int .i64 (putY h ss t id).1.1, u], .bool (putY h ss t id).2]) ∧ FreeY w.heap.size w'.heap.size w' u (putY h ss t id).1.2.length (rowAt (putY h ss t id).1.2) ∧ Below w.heap.size w w'
theorem FreeY.stay {K B : Nat} {w w' : World} {v : Value} {n : Nat} {R : Nat → List Int} (h : FreeY K B w v n R) (hb : Below w.heap.size w w') (hB : B ≤ w.heap.size) : FreeY K w'.heap.size w' v n R := (h.keep hb).wide (Nat.le_refl _) (Nat.le_trans hB hb.size)

set_option maxRecDepth 10000 in
set_option maxHeartbeats 2000000 in
theorem implYardPut_bad (h : Int) (v : Value) (ss : List (List Int)) (t id : Int) (w : World) (hh : HoldsY w v ss) (hok : ydOk h ss = false) :
    Calls Try.prog 46 #[.agg #[.int .i64 h, v], .int .i64 t, .int .i64 id] w (PutYGivesF h ss t id w) := by
  have hb2 := ((Below.refl w.heap.size w).alloc (Nat.le_refl _) (.cells #[.int .i64 h, v] 29)).alloc (by simp) (.cells #[.int .i64 0, .slice none 0 0] 29)
  have HV := Lib.hid (implYardValid_any h v ss _ (hh.keep hb2))
  have hR0 : BoxY (w.heap.size + 1) ((w.alloc (.cells #[.int .i64 h, v] 29)).alloc (.cells #[.int .i64 0, .slice none 0 0] 29)) 0 (.slice none 0 0) := two_hi _ _ _
  have HR := Lib.hid hR0
  have HB := Lib.hid hb2
  unfold PutYGivesF
  rw [hok] at HV
  rw [putY_bad hok]
  clear hok hh hb2 hR0
  go_enter Try.func46, Try.ntmps46
  go_wp2_with fail
  refine HV.out.mono ?_
  rintro e w3 ⟨rfl, b3⟩
  have g3 := HR.out.keep b3
  have c0 := g3.c0
  have c1 := g3.c1
  have e0 := g3.frozen 0
  have e1 := g3.frozen 1
  have B3 := Lib.hid (HB.out.trans (b3.mono HB.out.size))
  clear b3 g3 HR HB HV
  go_wp2_with fail
  have hB := (B3.out.setCell (p := ⟨w.heap.size + 1, 0, none⟩) (Nat.le_add_right _ _) (.int .i64 0)).setCell (p := ⟨w.heap.size + 1, 1, none⟩) (Nat.le_add_right _ _) (.slice none 0 0)
  exact bodyPost_ret (v := .tuple #[.agg #[.int .i64 0, .slice none 0 0], .bool false]) (by simp [results, Try.results46, go_sem, c0, c1]) rfl ⟨_, rfl, FreeY.zero, hB⟩

set_option maxRecDepth 10000 in
set_option maxHeartbeats 4000000 in
theorem implYardPut_good (h : Int) (v : Value) (ss : List (List Int)) (t id : Int) (w : World) (hh : HoldsY w v ss) (hok : ydOk h ss = true) :
    Calls Try.prog 46 #[.agg #[.int .i64 h, v], .int .i64 t, .int .i64 id] w (PutYGivesF h ss t id w) := by
  have hb2 := ((Below.refl w.heap.size w).alloc (Nat.le_refl _) (.cells #[.int .i64 h, v] 29)).alloc (by simp) (.cells #[.int .i64 0, .slice none 0 0] 29)
  have hV0 := implYardValid_any h v ss _ (hh.keep hb2)
  have hY0 : BoxY w.heap.size ((w.alloc (.cells #[.int .i64 h, v] 29)).alloc (.cells #[.int .i64 0, .slice none 0 0] 29)) h v := two_lo _ _ _
  have hR0 : BoxY (w.heap.size + 1) ((w.alloc (.cells #[.int .i64 h, v] 29)).alloc (.cells #[.int .i64 0, .slice none 0 0] 29)) 0 (.slice none 0 0) := two_hi _ _ _
  obtain ⟨W2, hW2⟩ : ∃ W2, W2 = (w.alloc (.cells #[.int .i64 h, v] 29)).alloc (.cells #[.int .i64 0, .slice none 0 0] 29) := ⟨_, rfl⟩
  rw [← hW2] at hb2 hV0 hY0 hR0
  have hz2 : W2.heap.size = w.heap.size + 2 := by rw [hW2]; simp
  have HX2 := Lib.hid hW2
  have H0 := Lib.hid (And.intro hb2 (And.intro hY0 (And.intro hR0 hz2)))
  have HV := Lib.hid hV0
  rw [hok] at HV
  have HW := Lib.hid fun w' (hb : Below w.heap.size w w') => hh.keep hb
  have HC := Lib.hid fun w' (hb : Below w.heap.size w w') => copyYard_any h v ss w' (hh.keep hb) hok
  have HF := Lib.hid fun w' (hb : Below w.heap.size w w') => implYardFind_any h v ss id w' (hh.keep hb)
  unfold CopyGivesF at HC
  have hn5 : ss.length ≤ 5 := (ydOk_iff.1 hok).2.2.2.1
  have hn1 : 1 ≤ ss.length := (ydOk_iff.1 hok).2.2.1
  have HOK := Lib.hid hok
  obtain ⟨n, hn⟩ : ∃ n, n = ss.length := ⟨_, rfl⟩
  have HN := Lib.hid hn.symm
  obtain ⟨a, cap, rfl⟩ : ∃ a cap, v = .slice a ss.length cap := by obtain ⟨a, cap, h1, _⟩ := hh; exact ⟨a, cap, h1⟩
  have HH := Lib.hid fun w' => hasStack_any h a n cap t w' (by omega)
  unfold PutYGivesF
  rw [← hn] at HX2 H0 HV HW HC HF hn5 hn1 ⊢
  clear hn hh hok hb2 hV0 hY0 hR0 hW2 hz2
  go_enter Try.func46, Try.ntmps46
  go_wp2_with fail
  rw [← HX2.out]
  refine HV.out.mono ?_
  rintro e w3 ⟨rfl, b3⟩
  obtain ⟨hb2, hY0, hR0, hz2⟩ := H0.out
  have y3 := hY0.keep b3
  have q3 := hR0.keep b3
  have d0 := y3.c0
  have d1 := y3.c1
  have B3 := Lib.hid (hb2.trans (b3.mono hb2.size))
  have s3 := b3.size
  have HS3 := Lib.hid (show w.heap.size + 2 ≤ w3.heap.size by omega)
  have Y3 := Lib.hid y3
  have Q3 := Lib.hid q3
  clear hb2 hY0 hR0 hz2 b3 s3 HX2 H0 HV y3 q3
  go_wp2_with fail
  refine (HC.out _ B3.out).mono ?_
  rintro e w4 ⟨u, rfl, f4, b4⟩
  obtain ⟨ua, uc, rfl⟩ := f4.form
  have y4 := Y3.out.keep b4
  have hb5 := (Below.refl w4.heap.size w4).alloc (Nat.le_refl _) (.cells #[.int .i64 h, .slice ua n uc] 29)
  have x5 := BoxY.new w4 h (.slice ua n uc)
  have y50 : ∀ o : Obj, (w4.alloc o).cell? ⟨w.heap.size, 0, none⟩ = some (.int .i64 h) := fun o => (y4.keep ((Below.refl w4.heap.size w4).alloc (Nat.le_refl _) o)).c0
  have y51 : ∀ o : Obj, (w4.alloc o).cell? ⟨w.heap.size, 1, none⟩ = some (.slice a n cap) := fun o => (y4.keep ((Below.refl w4.heap.size w4).alloc (Nat.le_refl _) o)).c1
  obtain ⟨w5, hw5⟩ : ∃ w5, w5 = w4.alloc (.cells #[.int .i64 h, .slice ua n uc] 29) := ⟨_, rfl⟩
  rw [← hw5] at hb5 x5
  have hs5 : w5.heap.size = w4.heap.size + 1 := by rw [hw5]; simp
  have HX5 := Lib.hid hw5
  have X5 := Lib.hid x5
  have Y5 := Lib.hid (y4.keep hb5)
  have Q5 := Lib.hid ((Q3.out.keep b4).keep hb5)
  have F5 := Lib.hid (f4.keep hb5)
  have B5 := Lib.hid (B3.out.trans ((b4.trans (hb5.mono b4.size)).mono B3.out.size))
  have HS5 := Lib.hid (show w.heap.size + 2 ≤ w3.heap.size ∧ w3.heap.size ≤ w4.heap.size ∧ w5.heap.size = w4.heap.size + 1 from ⟨HS3.out, b4.size, hs5⟩)
  clear hb5 x5 hw5 hs5 b4 f4 y4 d0 d1 B3 Y3 Q3 HS3 HC
  go_wp2_with fail
  rw [← HX5.out]
  refine (HH.out _).mono ?_
  rintro e w6 ⟨rfl, b6⟩
  have X6 := Lib.hid (X5.out.keep b6)
  have Y6 := Lib.hid (Y5.out.keep b6)
  have Q6 := Lib.hid (Q5.out.keep b6)
  have F6 := Lib.hid (F5.out.keep b6)
  have B6 := Lib.hid (B5.out.trans (b6.mono B5.out.size))
  have hs6 : w4.heap.size + 1 ≤ w6.heap.size := by have := b6.size; have := HS5.out; omega
  have hs5 := HS5.out
  have x60 := X6.out.c0
  have x61 := X6.out.c1
  have y60 := Y6.out.c0
  have y61 := Y6.out.c1
  clear X5 Y5 Q5 F5 B5 b6 y50 y51 HX5 HH HS5
  by_cases hin : 0 ≤ t ∧ t < (n : Int)
  · rw [decide_eq_true hin]
    obtain ⟨ht0, ht1⟩ := hin
    obtain ⟨i, rfl⟩ := Int.eq_ofNat_of_zero_le ht0
    have hi : i < n := by omega
    have his : i < ss.length := by rw [HN.out]; exact hi
    have HF6 := Lib.hid (HF.out _ B6.out)
    by_cases hf : 0 ≤ findY h ss id
    · have HE := Lib.hid (putY_found (t := (i : Int)) HOK.out hf)
      generalize findY h ss id = fd at HF6 hf
      clear HF
      go_wp2_with fail
      refine HF6.out.mono ?_
      rintro e w7 ⟨rfl, b7⟩
      have x7 := X6.out.keep b7
      have x70 := x7.c0
      have x71 := x7.c1
      have q7 := Q6.out.keep b7
      have c0 := q7.c0
      have c1 := q7.c1
      have e0 := q7.frozen 0
      have e1 := q7.frozen 1
      have F7 := Lib.hid (F6.out.stay b7 (by omega))
      have B7 := Lib.hid (B6.out.trans (b7.mono B6.out.size))
      clear x7 q7 b7 x60 x61 y60 y61 HF6 X6 Y6 Q6 F6 B6
      go_wp2_with fail
      have hB := (B7.out.setCell (p := ⟨w.heap.size + 1, 0, none⟩) (Nat.le_add_right _ _) (.int .i64 h)).setCell (p := ⟨w.heap.size + 1, 1, none⟩) (Nat.le_add_right _ _) (.slice ua n uc)
      have hFF := ((F7.out.setLow (N := w.heap.size + 1) (by omega) 0 (.int .i64 h)).setLow (N := w.heap.size + 1) (by omega) 1 (.slice ua n uc)).wide (show w.heap.size ≤ w3.heap.size by omega) (Nat.le_refl _)
      exact bodyPost_ret (v := .tuple #[.agg #[.int .i64 h, .slice ua n uc], .bool false]) (by simp [results, Try.results46, go_sem, c0, c1]) rfl ⟨_, by rw [HE.out], by rw [HE.out]; simpa [World.setCell, HN.out] using hFF, hB⟩
    · have HE := Lib.hid (putY_stack HOK.out his (by omega : findY h ss id < 0))
      generalize findY h ss id = fd at HF6 hf
      clear HF
      go_wp2_with fail
      refine HF6.out.mono ?_
      rintro e w7 ⟨rfl, b7⟩
      have x7 := X6.out.keep b7
      have y7 := Y6.out.keep b7
      have q7 := Q6.out.keep b7
      have x70 := x7.c0
      have x71 := x7.c1
      have y70 := y7.c0
      have y71 := y7.c1
      have X7 := Lib.hid x7
      have Q7 := Lib.hid q7
      have F7 := Lib.hid (F6.out.keep b7)
      have B7 := Lib.hid (B6.out.trans (b7.mono B6.out.size))
      have hs7 : w4.heap.size + 1 ≤ w7.heap.size := Nat.le_trans hs6 b7.size
      clear x7 y7 q7 b7 x60 x61 y60 y61 HF6 X6 Y6 Q6 F6 B6 hs6
      obtain ⟨b, off, xa, c, rfl, hbl, s0, hc1, hc2, hnil, hrow⟩ := (HW.out w7 B7.out).at_ hi
      have hd7 : Below w7.heap.size w7 w7.drew := (Below.refl _ _).drew
      have HP := Lib.hid (implStackPut_any _ _ h id w7.drew (hrow.keep hd7))
      unfold PutGivesF at HP
      have ik : (i : Int) < (n : Int) := by omega
      clear hrow hd7
      generalize (rowAt ss i).length = r at s0 hc1 HP
      generalize putS (rowAt ss i) h id = pp at HP HE
      obtain ⟨l', ok'⟩ := pp
      go_upto_region 6 with fail
      go_cut [9, 10] from 28 (fun pv okv wx => ∃ (xa' : Option Addr) (xc' : Nat), pv = .slice xa' l'.length xc' ∧ okv = .bool ok' ∧ Hid (FreeE w7.heap.size wx (.slice xa' l'.length xc') l') ∧ Hid (Below w7.heap.size w7 wx))
      case first =>
        (first | go_region_with (go_at_call 54; (with_reducible refine HP.out.mono ?_); rintro e w8 ⟨u8, rfl, f8, b8⟩; obtain ⟨a8, c8, rfl⟩ := HoldsI.form (FreeE.holds f8); have F8 := Lib.hid f8; have B8 := Lib.hid b8; clear f8 b8) | fail)
        all_goals
          go_wp2_with fail
          go_meet
          exact ⟨a8, c8, rfl, rfl, F8, Lib.hid ((Below.refl _ _).drew.trans B8.out)⟩
      case rest =>
        obtain ⟨xa', xc', rfl, rfl, F8, B8⟩ := hcut
        have x8 := X7.out.keep B8.out
        have x80 := x8.c0
        have x81 := x8.c1
        have q8 := Q7.out.keep B8.out
        have c0 := q8.c0
        have c1 := q8.c1
        have e0 := q8.frozen 0
        have e1 := q8.frozen 1
        have FY := F7.out.stay B8.out (by omega)
        obtain ⟨g, ug, rfl, hKg, hgB, hgl, hgc, hgm, hg0, hgf, -⟩ := FY.row hi
        have hF9 := Lib.hid ((F7.out.keep B8.out).put hi (show w4.heap.size ≤ wc.heap.size by have := B8.out.size; omega) (F8.out.from_ (show w4.heap.size ≤ w7.heap.size by omega)))
        have hBW := Lib.hid (B7.out.trans (B8.out.mono B7.out.size))
        have hgN : g ≠ w4.heap.size := by
          obtain ⟨g', _, e, _, h2, _⟩ := (F7.out).row hi
          simp only [Option.some.injEq, Addr.mk.injEq, and_true] at e
          omega
        have hgN1 : g ≠ w.heap.size + 1 := by omega
        unfold maxLen at hgm
        clear x8 q8 FY HP x70 x71 y70 y71 s0 HW
        go_wp2_with fail
        have hB := ((hBW.out.setCell (p := ⟨g, i, none⟩) (show w.heap.size ≤ g by omega) (.slice xa' l'.length xc')).setCell (p := ⟨w.heap.size + 1, 0, none⟩) (Nat.le_add_right _ _) (.int .i64 h)).setCell (p := ⟨w.heap.size + 1, 1, none⟩) (Nat.le_add_right _ _) (.slice (some ⟨g, 0, none⟩) n uc)
        have hFF := (((hF9.out.setLow (N := w.heap.size + 1) (by omega) 0 (.int .i64 h)).setLow (N := w.heap.size + 1) (by omega) 1 (.slice (some ⟨g, 0, none⟩) n uc)).wide (show w.heap.size ≤ w3.heap.size by omega) (Nat.le_refl _)).congr (R' := rowAt (ss.set i l')) (fun k _ => upd_set his)
        exact bodyPost_ret (v := .tuple #[.agg #[.int .i64 h, .slice (some ⟨g, 0, none⟩) n uc], .bool ok']) (by simp [results, Try.results46, go_sem, c0, c1]) rfl ⟨_, by rw [HE.out], by rw [HE.out, List.length_set, HN.out]; simpa [World.setCell] using hFF, hB⟩
  · rw [decide_eq_false hin]
    have HE := Lib.hid (putY_out (t := t) (id := id) HOK.out (by rw [HN.out]; exact hin))
    have q6 := Q6.out
    have c0 := q6.c0
    have c1 := q6.c1
    have e0 := q6.frozen 0
    have e1 := q6.frozen 1
    clear hin HF q6
    go_wp2_with fail
    have hB := (B6.out.setCell (p := ⟨w.heap.size + 1, 0, none⟩) (Nat.le_add_right _ _) (.int .i64 h)).setCell (p := ⟨w.heap.size + 1, 1, none⟩) (Nat.le_add_right _ _) (.slice ua n uc)
    have hFF := ((F6.out.setLow (N := w.heap.size + 1) (by omega) 0 (.int .i64 h)).setLow (N := w.heap.size + 1) (by omega) 1 (.slice ua n uc)).wide (show w.heap.size ≤ w3.heap.size by omega) (show w4.heap.size ≤ w6.heap.size by omega)
    exact bodyPost_ret (v := .tuple #[.agg #[.int .i64 h, .slice ua n uc], .bool false]) (by simp [results, Try.results46, go_sem, c0, c1]) rfl ⟨_, by rw [HE.out], by rw [HE.out]; simpa [World.setCell, HN.out] using hFF, hB⟩
theorem implYardPut_any (h : Int) (v : Value) (ss : List (List Int)) (t id : Int) (w : World) (hh : HoldsY w v ss) :
    Calls Try.prog 46 #[.agg #[.int .i64 h, v], .int .i64 t, .int .i64 id] w (PutYGivesF h ss t id w) := by
  cases hok : ydOk h ss
  · exact implYardPut_bad h v ss t id w hh hok
  · exact implYardPut_good h v ss t id w hh hok
end Go.Proofs.Ytlcfldmiibjboab
