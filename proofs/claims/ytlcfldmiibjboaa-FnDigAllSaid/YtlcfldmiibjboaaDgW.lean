/-
  The draws of a yard and an order, and of a yard and an id to dig for.
-/
import Derived.Test.YtlcfldmiibjboaaDgV
import Derived.Test.YtlcfldmiibjboaaGYv
import Derived.Deep.CutRange
namespace Go.Proofs.Ytlcfldmiibjboaa
open Go.RowKit
set_option linter.unusedVariables false

/-- Nothing but the reader's block has turned since, or the answer's place was written at last. -/
def LaidO (R B : Nat) (h : Int) (u : Value) (W w' : World) : Prop := ∃ wm, MostB B W wm ∧ (w' = wm ∨ w' = (wm.setCell ⟨R, 0, none⟩ (.int .i64 h)).setCell ⟨R, 1, none⟩ u)
/-- What a draw of a yard and an order gives its law. -/
def DrewYO (w : World) (e : Ending) (w' : World) : Prop :=
  ∃ (h : Int) (u : Value) (ss : List (List Int)) (ov : Value) (os : List Int), ss.length ≤ 7 ∧ ss.flatten.length ≤ 100 ∧ os.length ≤ 26 ∧ e = .returned (.tuple #[.agg #[.int .i64 h, u], ov]) ∧ NewY w.heap.size w' u ss ∧ NewI w.heap.size w' ov os ∧ Below w.heap.size w w'
theorem NewI.setLow {K N : Nat} {w : World} {v : Value} {l : List Int} (h : NewI K w v l) (hN : N < K) (o : Nat) (x : Value) : NewI K (w.setCell ⟨N, o, none⟩ x) v l := by
  obtain ⟨a, cap, h1, h2, h3, h4⟩ := h
  refine ⟨a, cap, h1, h2, h3, h4.imp id fun ⟨b, off, h5, h6, h7, h8⟩ => ⟨b, off, h5, h6, by simpa [World.setCell] using h7, fun k hk => ?_⟩⟩
  exact (World.cell?_of_block (w := w) (Below.heap_setCell _ _ _ _ (by show b ≠ N; omega))).trans (h8 k hk)

set_option maxRecDepth 10000 in
set_option maxHeartbeats 4000000 in
theorem drawBlocking_any (a : Option Addr) (len cap : Nat) (w : World) (h : IsRow8 w a len cap) :
    Calls Try.prog 44 #[.slice a len cap] w (DrewYO w) := by
  have ba : Below w.heap.size w (w.alloc (.cells #[.int .i64 0, .slice none 0 0] 25)) := (Below.refl _ _).alloc (Nat.le_refl _) _
  have ra := BoxY.new w 0 (.slice none 0 0)
  have hz : (w.alloc (.cells #[.int .i64 0, .slice none 0 0] 25)).heap.size = w.heap.size + 1 := by simp
  go_enter Try.func44, Try.ntmps44
  go_wp2_with fail
  refine (open_any a len cap _ (row8_keep h ba)).mono ?_
  generalize (w.alloc (.cells #[.int .i64 0, .slice none 0 0] 25)) = wa at ba ra hz ⊢
  rintro e w1 ⟨rfl, hr, hb, hz1⟩
  generalize wa.heap.size = B at hz hr hb hz1 ⊢
  subst hz
  have r1 := ra.at_ (hb.block w.heap.size (Nat.lt_succ_self _))
  have b1 : Below w.heap.size w w1 := ba.trans (hb.mono (by omega))
  clear h hb ba ra
  go_wp2_with fail
  refine (l20Yard_any _ _ 0 12 w1 hr (by omega) (by omega) (by omega)).mono ?_
  rintro e w2 ⟨hh, u, ss, q, hq, hl, hf, rfl, hn, hr2, hm⟩
  obtain ⟨ua, uc, rfl⟩ := hn.form
  have b3 : Below w2.heap.size w2 (w2.alloc (.cells #[.int .i64 hh, .slice ua ss.length uc] 25)) := (Below.refl _ _).alloc (Nat.le_refl _) _
  have y3 := BoxY.new w2 hh (.slice ua ss.length uc)
  have hn3 := hn.keep b3
  have hm3 := hm.below_ (b3.mono hm.size)
  have hr3 := hr2.keepK b3 hr2.2.1
  have hYB : w.heap.size + 1 < w2.heap.size := hr2.2.1
  generalize hW3 : w2.alloc (.cells #[.int .i64 hh, .slice ua ss.length uc] 25) = W3 at y3 hn3 hm3 hr3
  have HW3 := Lib.hid hW3
  have hs3 : w.heap.size + 1 < W3.heap.size := by have := y3.lt; omega
  clear hW3 hr hm hn hr2 b3
  go_wp2_with fail
  rw [HW3.out]
  generalize w2.heap.size = Y at y3 hYB
  clear HW3
  have YL := Lib.hid y3.lt
  have CELL := Lib.hid fun (w' : World) (hs : MostB (w.heap.size + 1) W3 w') => (show w'.cell? ⟨Y, 0, none⟩ = some (.int .i64 hh) ∧ w'.cell? ⟨Y, 1, none⟩ = some (.slice ua ss.length uc) ∧ LaidO w.heap.size (w.heap.size + 1) hh (.slice ua ss.length uc) W3 w' from
    ⟨(y3.at_ (hs.block Y (by omega) y3.lt)).c0, (y3.at_ (hs.block Y (by omega) y3.lt)).c1, w', hs, .inl rfl⟩)
  have CEL2 := Lib.hid fun (wm : World) (hs : MostB (w.heap.size + 1) W3 wm) => (show ((wm.setCell ⟨w.heap.size, 0, none⟩ (.int .i64 hh)).setCell ⟨w.heap.size, 1, none⟩ (.slice ua ss.length uc)).cell? ⟨Y, 0, none⟩ = some (.int .i64 hh) ∧ ((wm.setCell ⟨w.heap.size, 0, none⟩ (.int .i64 hh)).setCell ⟨w.heap.size, 1, none⟩ (.slice ua ss.length uc)).cell? ⟨Y, 1, none⟩ = some (.slice ua ss.length uc) ∧ LaidO w.heap.size (w.heap.size + 1) hh (.slice ua ss.length uc) W3 ((wm.setCell ⟨w.heap.size, 0, none⟩ (.int .i64 hh)).setCell ⟨w.heap.size, 1, none⟩ (.slice ua ss.length uc)) from
    ⟨(((y3.at_ (hs.block Y (by omega) y3.lt)).other (by omega) 0 _).other (by omega) 1 _).c0, (((y3.at_ (hs.block Y (by omega) y3.lt)).other (by omega) 0 _).other (by omega) 1 _).c1, wm, hs, .inr rfl⟩)
  have r3 : BoxY w.heap.size W3 0 (.slice none 0 0) := r1.at_ (hm3.block _ (by omega) r1.lt)
  have RES := Lib.hid fun (w' : World) (hs : MostB (w.heap.size + 1) W3 w') => (show BoxY w.heap.size w' 0 (.slice none 0 0) from r3.at_ (hs.block _ (by omega) r3.lt))
  have hmd : MostB (w.heap.size + 1) W3 W3.drew := (MostB.refl _ _).below_ ((Below.refl _ _).drew)
  have HMD := Lib.hid hmd
  have hstart := CELL.out _ hmd
  have hrd := hr3.keepK (Below.refl W3.heap.size W3).drew hr3.2.1
  have hyd := (hn3.keep ((Below.refl _ _).drew)).holds
  have P1 := Lib.hid (l20Leaving_any _ _ q hh (.slice ua ss.length uc) ss 12 W3.drew hrd (by omega) hyd (by omega) (by omega) (by omega))
  unfold DrewOrd at P1
  have D := Lib.hid (And.intro r1 (And.intro b1 (And.intro hm3 hn3)))
  clear hmd hrd r1 r3 b1 hm3 hn3 y3 hr3 hYB hyd
  go_region_held3 (fun w' => w'.cell? ⟨Y, 0, none⟩ = some (.int .i64 hh) ∧ w'.cell? ⟨Y, 1, none⟩ = some (.slice ua ss.length uc) ∧ LaidO w.heap.size (w.heap.size + 1) hh (.slice ua ss.length uc) W3 w')
    (first | exact hstart | exact CELL.out _ m5.out | exact CEL2.out _ m5.out)
    (first
      | (go_at_call 83; ((with_reducible refine P1.out.mono ?_); rintro e w5 ⟨ov, os, q5, hq5, ho5, rfl, n5, hr5, mb5⟩; obtain ⟨oa, oc, rfl⟩ := HoldsI.form (NewI.holds n5); have m5 := Lib.hid (HMD.out.trans mb5); have N5 := Lib.hid n5; have d0 := (RES.out _ m5.out).c0; have d1 := (RES.out _ m5.out).c1; have e0 := (RES.out _ m5.out).frozen 0; have e1 := (RES.out _ m5.out).frozen 1; clear n5 hr5 mb5))
      | fail)
  obtain ⟨r1, b1, hm3, hn3⟩ := D.out
  have R := Lib.hid (yard_res (h := hh) r1 b1 (Nat.lt_succ_self _) (hm3.trans m5.out) (hn3.most m5.out (by omega)))
  have NY := Lib.hid ((((hn3.most m5.out (by omega)).setLow (N := w.heap.size) r1.lt 0 (.int .i64 hh)).setLow (N := w.heap.size) r1.lt 1 (.slice ua ss.length uc)).from_ (K' := w.heap.size) (Nat.le_of_lt r1.lt))
  have RO := Lib.hid (((N5.out.setLow (N := w.heap.size) (by show w.heap.size < W3.heap.size; omega) 0 (.int .i64 hh)).setLow (N := w.heap.size) (by show w.heap.size < W3.heap.size; omega) 1 (.slice ua ss.length uc)).from_ (K' := w.heap.size) (by show w.heap.size ≤ W3.heap.size; omega))
  have y9 := ((RES.out _ m5.out).set0 hh).set1 (.slice ua ss.length uc)
  have f0 := y9.c0
  have f1 := y9.c1
  clear r1 b1 hm3 hn3 D m5 N5 y9
  go_wp2_with fail
  exact bodyPost_ret (v := .tuple #[.agg #[.int .i64 hh, .slice ua ss.length uc], .slice oa os.length oc]) (by simp [results, Try.results44, go_sem, f0, f1]) rfl ⟨hh, _, ss, _, os, hl, hf, ho5, rfl, NY.out, RO.out, R.out.2.2⟩

set_option maxRecDepth 10000 in
set_option maxHeartbeats 4000000 in
theorem drawDigAll_any (a : Option Addr) (len cap : Nat) (w : World) (h : IsRow8 w a len cap) :
    Calls Try.prog 53 #[.slice a len cap] w (DrewYO w) := by
  have ba : Below w.heap.size w (w.alloc (.cells #[.int .i64 0, .slice none 0 0] 25)) := (Below.refl _ _).alloc (Nat.le_refl _) _
  have ra := BoxY.new w 0 (.slice none 0 0)
  have hz : (w.alloc (.cells #[.int .i64 0, .slice none 0 0] 25)).heap.size = w.heap.size + 1 := by simp
  have HD := Lib.hid (drawBlocking_any a len cap _ (row8_keep h ba))
  unfold DrewYO at HD
  clear h
  go_enter Try.func53, Try.ntmps53
  go_wp2_with fail
  refine HD.out.mono ?_
  rintro e w5 ⟨hh, u, ss, ov, os, hl, hf, ho, rfl, nY, nO, b5⟩
  obtain ⟨ua, uc, rfl⟩ := nY.form
  obtain ⟨oa, oc, rfl⟩ := nO.holds.form
  have r5 := ra.keep b5
  have d0 := r5.c0
  have d1 := r5.c1
  have e0 := r5.frozen 0
  have e1 := r5.frozen 1
  have NY := Lib.hid (((nY.setLow (N := w.heap.size) (by rw [hz]; omega) 0 (.int .i64 hh)).setLow (N := w.heap.size) (by rw [hz]; omega) 1 (.slice ua ss.length uc)).from_ (K' := w.heap.size) (by rw [hz]; omega))
  have NO := Lib.hid (((nO.setLow (N := w.heap.size) (by rw [hz]; omega) 0 (.int .i64 hh)).setLow (N := w.heap.size) (by rw [hz]; omega) 1 (.slice ua ss.length uc)).from_ (K' := w.heap.size) (by rw [hz]; omega))
  have hB := Lib.hid (((ba.trans (b5.mono (by rw [hz]; omega))).setCell (p := ⟨w.heap.size, 0, none⟩) (Nat.le_refl _) (.int .i64 hh)).setCell (p := ⟨w.heap.size, 1, none⟩) (Nat.le_refl _) (.slice ua ss.length uc))
  have y9 := (r5.set0 hh).set1 (.slice ua ss.length uc)
  have f0 := y9.c0
  have f1 := y9.c1
  clear r5 y9 nY nO b5 ba ra hz HD
  go_wp2_with fail
  exact bodyPost_ret (v := .tuple #[.agg #[.int .i64 hh, .slice ua ss.length uc], .slice oa os.length oc]) (by simp [results, Try.results53, go_sem, f0, f1]) rfl ⟨hh, _, ss, _, os, hl, hf, ho, rfl, NY.out, NO.out, hB.out⟩

set_option maxRecDepth 10000 in
set_option maxHeartbeats 8000000 in
theorem drawDigMoves_any (a : Option Addr) (len cap : Nat) (w : World) (h : IsRow8 w a len cap) :
    Calls Try.prog 49 #[.slice a len cap] w (DrewYId w) := by
  have ba : Below w.heap.size w (w.alloc (.cells #[.int .i64 0, .slice none 0 0] 25)) := (Below.refl _ _).alloc (Nat.le_refl _) _
  have ra := BoxY.new w 0 (.slice none 0 0)
  have hz : (w.alloc (.cells #[.int .i64 0, .slice none 0 0] 25)).heap.size = w.heap.size + 1 := by simp
  go_enter Try.func49, Try.ntmps49
  go_wp2_with fail
  refine (open_any a len cap _ (row8_keep h ba)).mono ?_
  generalize (w.alloc (.cells #[.int .i64 0, .slice none 0 0] 25)) = wa at ba ra hz ⊢
  rintro e w1 ⟨rfl, hr, hb, hz1⟩
  generalize wa.heap.size = B at hz hr hb hz1 ⊢
  subst hz
  have r1 := ra.at_ (hb.block w.heap.size (Nat.lt_succ_self _))
  have b1 : Below w.heap.size w w1 := ba.trans (hb.mono (by omega))
  clear h hb ba ra
  go_wp2_with fail
  refine (l20Yard_any _ _ 0 12 w1 hr (by omega) (by omega) (by omega)).mono ?_
  rintro e w2 ⟨hh, u, ss, q, hq, hl, hf, rfl, hn, hr2, hm⟩
  obtain ⟨ua, uc, rfl⟩ := hn.form
  have b3 : Below w2.heap.size w2 (w2.alloc (.cells #[.int .i64 hh, .slice ua ss.length uc] 25)) := (Below.refl _ _).alloc (Nat.le_refl _) _
  have y3 := BoxY.new w2 hh (.slice ua ss.length uc)
  have hn3 := hn.keep b3
  have hm3 := hm.below_ (b3.mono hm.size)
  have hr3 := hr2.keepK b3 hr2.2.1
  have hYB : w.heap.size + 1 < w2.heap.size := hr2.2.1
  generalize hW3 : w2.alloc (.cells #[.int .i64 hh, .slice ua ss.length uc] 25) = W3 at y3 hn3 hm3 hr3
  have HW3 := Lib.hid hW3
  have hs3 : w.heap.size + 1 < W3.heap.size := by have := y3.lt; omega
  have y30 := y3.c0
  have y31 := y3.c1
  clear hW3 hr hm hn hr2 b3
  go_upto_region 3 with fail
  rw [HW3.out]
  generalize w2.heap.size = Y at y3 hYB y30 y31 ⊢
  clear HW3
  have HI := Lib.hid (specYardIds_any hh (.slice ua ss.length uc) ss W3 hn3.holds (by omega))
  have hl25 : (idsY hh ss).length ≤ 25 := by
    cases hok : ydOk hh ss
    · rw [idsY_bad hok]; simp
    · rw [idsY_len hok]; exact ydOk_size hok
  have r3 : BoxY w.heap.size W3 0 (.slice none 0 0) := r1.at_ (hm3.block _ (by omega) r1.lt)
  have RES := Lib.hid fun (w' : World) (hs : MostB (w.heap.size + 1) W3 w') => (show BoxY w.heap.size w' 0 (.slice none 0 0) from r3.at_ (hs.block _ (by omega) r3.lt))
  have D := Lib.hid (And.intro r1 (And.intro b1 (And.intro hm3 hn3)))
  generalize idsY hh ss = ids at HI hl25
  clear r1 b1 hm3 hn3 r3
  go_wp2_with fail
  refine HI.out.mono ?_
  rintro e w4 ⟨iv, rfl, n4, b4⟩
  obtain ⟨ia, ic, rfl⟩ := n4.holds.form
  have M4 := Lib.hid ((MostB.refl (w.heap.size + 1) W3).below_ b4)
  have R4 := Lib.hid (hr3.keepK b4 hr3.2.1)
  have y4 := y3.keep b4
  have YL4 := Lib.hid y4
  have IDS := Lib.hid fun (w' : World) (hs : MostB (w.heap.size + 1) w4 w') => n4.most hs (by omega)
  have hs4 := b4.size
  obtain ⟨m, hm⟩ : ∃ m, m = ids.length := ⟨_, rfl⟩
  rw [← hm] at hl25 ⊢
  have HM := Lib.hid hm.symm
  clear hm y3 y30 y31 hr3 n4 b4 HI y4
  rcases (by omega : m = 0 ∨ 0 < m) with h0 | h0
  · subst h0
    have yk := YL4.out
    have P1 := Lib.hid (pick_any _ _ q 40 w4.drew ((R4.out).keepK (Below.refl w4.heap.size w4).drew (R4.out).2.1) (by omega) (by omega))
    go_wp2_with fail
    have CELL := Lib.hid fun (w' : World) (hs : MostB (w.heap.size + 1) w4 w') => (show w'.cell? ⟨Y, 0, none⟩ = some (.int .i64 hh) ∧ w'.cell? ⟨Y, 1, none⟩ = some (.slice ua ss.length uc) ∧ LaidO w.heap.size (w.heap.size + 1) hh (.slice ua ss.length uc) w4 w' from
      ⟨(yk.at_ (hs.block Y (by omega) yk.lt)).c0, (yk.at_ (hs.block Y (by omega) yk.lt)).c1, ⟨w', hs, .inl rfl⟩⟩)
    have CEL2 := Lib.hid fun (wm : World) (hs : MostB (w.heap.size + 1) w4 wm) => (show ((wm.setCell ⟨w.heap.size, 0, none⟩ (.int .i64 hh)).setCell ⟨w.heap.size, 1, none⟩ (.slice ua ss.length uc)).cell? ⟨Y, 0, none⟩ = some (.int .i64 hh) ∧ ((wm.setCell ⟨w.heap.size, 0, none⟩ (.int .i64 hh)).setCell ⟨w.heap.size, 1, none⟩ (.slice ua ss.length uc)).cell? ⟨Y, 1, none⟩ = some (.slice ua ss.length uc) ∧ LaidO w.heap.size (w.heap.size + 1) hh (.slice ua ss.length uc) w4 ((wm.setCell ⟨w.heap.size, 0, none⟩ (.int .i64 hh)).setCell ⟨w.heap.size, 1, none⟩ (.slice ua ss.length uc)) from
      ⟨(((yk.at_ (hs.block Y (by omega) yk.lt)).other (by omega) 0 _).other (by omega) 1 _).c0, (((yk.at_ (hs.block Y (by omega) yk.lt)).other (by omega) 0 _).other (by omega) 1 _).c1, ⟨wm, hs, .inr rfl⟩⟩)
    have hmd : MostB (w.heap.size + 1) w4 w4.drew := (MostB.refl _ _).below_ ((Below.refl _ _).drew)
    have HMD := Lib.hid hmd
    have hstart := CELL.out _ hmd
    have MK := Lib.hid M4.out
    go_region_held3 (fun w' => w'.cell? ⟨Y, 0, none⟩ = some (.int .i64 hh) ∧ w'.cell? ⟨Y, 1, none⟩ = some (.slice ua ss.length uc) ∧ LaidO w.heap.size (w.heap.size + 1) hh (.slice ua ss.length uc) w4 w')
      (first | exact hstart | exact CELL.out _ m5.out | exact CEL2.out _ m5.out)
      (first
        | (go_at_call 60; ((with_reducible refine P1.out.mono ?_); rintro e w5 ⟨x, x0, x1, rfl, hr5, ho5⟩; have m5 := Lib.hid (HMD.out.trans ho5.mostB); have d0 := (RES.out _ (MK.out.trans m5.out)).c0; have d1 := (RES.out _ (MK.out.trans m5.out)).c1; have e0 := (RES.out _ (MK.out.trans m5.out)).frozen 0; have e1 := (RES.out _ (MK.out.trans m5.out)).frozen 1; clear hr5 ho5))
        | fail)
    obtain ⟨r1, b1, hm3, hn3⟩ := D.out
    have m9 := MK.out.trans m5.out
    have R := Lib.hid (yard_res (h := hh) r1 b1 (Nat.lt_succ_self _) (hm3.trans m9) (hn3.most m9 (by omega)))
    have y9 := ((RES.out _ m9).set0 hh).set1 (.slice ua ss.length uc)
    have f0 := y9.c0
    have f1 := y9.c1
    clear r1 b1 hm3 hn3 D m5 m9 y9 RES
    go_wp2_with fail
    exact bodyPost_ret (v := .tuple #[.agg #[.int .i64 hh, .slice ua ss.length uc], .int .i64 x]) (by simp [results, Try.results49, go_sem, f0, f1]) rfl ⟨hh, _, ss, x, hl, hf, rfl, R.out.2.1, R.out.2.2⟩
  · have h0i : (0 : Int) < (m : Int) := by omega
    go_wp2_with fail
    refine (pick_any _ _ q 8 w4 R4.out (by omega) (by omega)).mono ?_
    rintro e w6 ⟨z, z0, z1, rfl, hr6, ho6⟩
    have M6 := Lib.hid (M4.out.trans ho6.mostB)
    have R6 := Lib.hid hr6
    have yk := YL4.out.at_ (ho6.block Y (by omega))
    have IDS6 := Lib.hid fun (w' : World) (hs : MostB (w.heap.size + 1) w6 w') => IDS.out w' (ho6.mostB.trans hs)
    clear hr6 ho6 IDS M4 R4 YL4
    by_cases hz0 : 0 < z
    · have P1 := Lib.hid ((pick_any (w.heap.size + 1) (w.heap.size + 1) (q + 1) (m : Int) w6.drew (R6.out.keepK (Below.refl w6.heap.size w6).drew R6.out.2.1) (by omega) (by omega)).mono (R' := fun e w' => ∃ j : Nat, j < m ∧ e = .returned (.int .i64 (j : Int)) ∧ Rdr (w.heap.size + 1) (w.heap.size + 1) (q + 1 + 1) w' ∧ Only (w.heap.size + 1) w6.drew w') (fun e w' ⟨x, x0, x1, he, hr, ho⟩ => by
        obtain ⟨j, rfl⟩ := Int.eq_ofNat_of_zero_le x0
        exact ⟨j, by omega, he, hr, ho⟩))
      obtain ⟨bi, offi, rfl, -, -⟩ := (IDS6.out w6 (MostB.refl _ _)).holds.at_ (show 0 < ids.length by rw [HM.out]; exact h0)
      obtain ⟨hb1, hb2⟩ : W3.heap.size ≤ bi ∧ bi < w6.heap.size := by
        obtain ⟨a', c', e', _, _, h4⟩ := IDS6.out w6 (MostB.refl _ _)
        simp only [Value.slice.injEq] at e'
        rcases h4 with h4 | ⟨b, off, h5, h6, h7, _⟩
        · have := HM.out; omega
        · rw [← e'.1] at h5
          simp only [Option.some.injEq, Addr.mk.injEq] at h5
          obtain ⟨rfl, _⟩ := h5
          exact ⟨h6, h7⟩
      obtain ⟨cv, hcv⟩ : ∃ f : Nat → Option Value, f = fun i => w6.cell? ⟨bi, offi + i, none⟩ := ⟨_, rfl⟩
      obtain ⟨vals, hvals⟩ : ∃ f : Nat → Int, f = fun j => ids.getD j 0 := ⟨_, rfl⟩
      have HV := Lib.hid fun (j : Nat) (hj : j < m) => (show cv j = some (.int .i64 (vals j)) by
        rw [hvals, hcv]
        obtain ⟨b', off', e', _, c⟩ := (IDS6.out w6 (MostB.refl _ _)).holds.at_ (show j < ids.length by rw [HM.out]; exact hj)
        simp only [Option.some.injEq, Addr.mk.injEq, and_true] at e'
        obtain ⟨rfl, rfl⟩ := e'
        exact c)
      have HCV := Lib.hid fun (w' : World) (i : Nat) (hs : MostB (w.heap.size + 1) w6 w') => (show w'.cell? ⟨bi, offi + i, none⟩ = cv i by
        rw [hcv]; exact World.cell?_of_block (w := w6) (hs.block bi (by omega) hb2))
      have HCV2 := Lib.hid fun (wm : World) (i : Nat) (hs : MostB (w.heap.size + 1) w6 wm) => (show ((wm.setCell ⟨w.heap.size, 0, none⟩ (.int .i64 hh)).setCell ⟨w.heap.size, 1, none⟩ (.slice ua ss.length uc)).cell? ⟨bi, offi + i, none⟩ = cv i by
        rw [hcv]
        refine World.cell?_of_block (w := w6) ?_
        rw [Below.heap_setCell _ _ _ _ (by show bi ≠ w.heap.size; omega), Below.heap_setCell _ _ _ _ (by show bi ≠ w.heap.size; omega)]
        exact hs.block bi (by omega) hb2)
      clear hcv
      have hall : ∀ w', LaidO w.heap.size (w.heap.size + 1) hh (.slice ua ss.length uc) w6 w' → ∀ i, w'.cell? ⟨bi, offi + i, none⟩ = cv i := by
        rintro w' ⟨wm, hm, rfl | rfl⟩ i
        · exact HCV.out _ i hm
        · exact HCV2.out _ i hm
      clear hvals
      go_wp2_with fail
      have CELL := Lib.hid fun (w' : World) (hs : MostB (w.heap.size + 1) w6 w') => (show w'.cell? ⟨Y, 0, none⟩ = some (.int .i64 hh) ∧ w'.cell? ⟨Y, 1, none⟩ = some (.slice ua ss.length uc) ∧ LaidO w.heap.size (w.heap.size + 1) hh (.slice ua ss.length uc) w6 w' from
        ⟨(yk.at_ (hs.block Y (by omega) yk.lt)).c0, (yk.at_ (hs.block Y (by omega) yk.lt)).c1, ⟨w', hs, .inl rfl⟩⟩)
      have CEL2 := Lib.hid fun (wm : World) (hs : MostB (w.heap.size + 1) w6 wm) => (show ((wm.setCell ⟨w.heap.size, 0, none⟩ (.int .i64 hh)).setCell ⟨w.heap.size, 1, none⟩ (.slice ua ss.length uc)).cell? ⟨Y, 0, none⟩ = some (.int .i64 hh) ∧ ((wm.setCell ⟨w.heap.size, 0, none⟩ (.int .i64 hh)).setCell ⟨w.heap.size, 1, none⟩ (.slice ua ss.length uc)).cell? ⟨Y, 1, none⟩ = some (.slice ua ss.length uc) ∧ LaidO w.heap.size (w.heap.size + 1) hh (.slice ua ss.length uc) w6 ((wm.setCell ⟨w.heap.size, 0, none⟩ (.int .i64 hh)).setCell ⟨w.heap.size, 1, none⟩ (.slice ua ss.length uc)) from
        ⟨(((yk.at_ (hs.block Y (by omega) yk.lt)).other (by omega) 0 _).other (by omega) 1 _).c0, (((yk.at_ (hs.block Y (by omega) yk.lt)).other (by omega) 0 _).other (by omega) 1 _).c1, ⟨wm, hs, .inr rfl⟩⟩)
      have hmd : MostB (w.heap.size + 1) w6 w6.drew := (MostB.refl _ _).below_ ((Below.refl _ _).drew)
      have HMD := Lib.hid hmd
      have hstart := CELL.out _ hmd
      have MK := Lib.hid M6.out
      go_region_held3 (fun w' => w'.cell? ⟨Y, 0, none⟩ = some (.int .i64 hh) ∧ w'.cell? ⟨Y, 1, none⟩ = some (.slice ua ss.length uc) ∧ LaidO w.heap.size (w.heap.size + 1) hh (.slice ua ss.length uc) w6 w')
        (first | exact hstart | exact CELL.out _ m5.out | exact CEL2.out _ m5.out)
        (first
          | (go_at_call 60; ((with_reducible refine P1.out.mono ?_); rintro e w5 ⟨j, hjm, rfl, hr5, ho5⟩; have ij : (j : Int) < (m : Int) := Int.ofNat_lt.2 hjm; have i0j : (0 : Int) ≤ (j : Int) := Int.natCast_nonneg j; have hvj := HV.out j hjm; have m5 := Lib.hid (HMD.out.trans ho5.mostB); have d0 := (RES.out _ (MK.out.trans m5.out)).c0; have d1 := (RES.out _ (MK.out.trans m5.out)).c1; have e0 := (RES.out _ (MK.out.trans m5.out)).frozen 0; have e1 := (RES.out _ (MK.out.trans m5.out)).frozen 1; clear hr5 ho5))
          | fail)
      generalize hgx : vals j = x
      clear hgx hvj hall
      obtain ⟨r1, b1, hm3, hn3⟩ := D.out
      have m9 := MK.out.trans m5.out
      have R := Lib.hid (yard_res (h := hh) r1 b1 (Nat.lt_succ_self _) (hm3.trans m9) (hn3.most m9 (by omega)))
      have y9 := ((RES.out _ m9).set0 hh).set1 (.slice ua ss.length uc)
      have f0 := y9.c0
      have f1 := y9.c1
      clear r1 b1 hm3 hn3 D m5 m9 y9 RES
      go_wp2_with fail
      exact bodyPost_ret (v := .tuple #[.agg #[.int .i64 hh, .slice ua ss.length uc], .int .i64 x]) (by simp [results, Try.results49, go_sem, f0, f1]) rfl ⟨hh, _, ss, x, hl, hf, rfl, R.out.2.1, R.out.2.2⟩
    · go_wp2_with fail
      have P1 := Lib.hid (pick_any _ _ (q + 1) 40 w6.drew ((R6.out).keepK (Below.refl w6.heap.size w6).drew (R6.out).2.1) (by omega) (by omega))
      have CELL := Lib.hid fun (w' : World) (hs : MostB (w.heap.size + 1) w6 w') => (show w'.cell? ⟨Y, 0, none⟩ = some (.int .i64 hh) ∧ w'.cell? ⟨Y, 1, none⟩ = some (.slice ua ss.length uc) ∧ LaidO w.heap.size (w.heap.size + 1) hh (.slice ua ss.length uc) w6 w' from
        ⟨(yk.at_ (hs.block Y (by omega) yk.lt)).c0, (yk.at_ (hs.block Y (by omega) yk.lt)).c1, ⟨w', hs, .inl rfl⟩⟩)
      have CEL2 := Lib.hid fun (wm : World) (hs : MostB (w.heap.size + 1) w6 wm) => (show ((wm.setCell ⟨w.heap.size, 0, none⟩ (.int .i64 hh)).setCell ⟨w.heap.size, 1, none⟩ (.slice ua ss.length uc)).cell? ⟨Y, 0, none⟩ = some (.int .i64 hh) ∧ ((wm.setCell ⟨w.heap.size, 0, none⟩ (.int .i64 hh)).setCell ⟨w.heap.size, 1, none⟩ (.slice ua ss.length uc)).cell? ⟨Y, 1, none⟩ = some (.slice ua ss.length uc) ∧ LaidO w.heap.size (w.heap.size + 1) hh (.slice ua ss.length uc) w6 ((wm.setCell ⟨w.heap.size, 0, none⟩ (.int .i64 hh)).setCell ⟨w.heap.size, 1, none⟩ (.slice ua ss.length uc)) from
        ⟨(((yk.at_ (hs.block Y (by omega) yk.lt)).other (by omega) 0 _).other (by omega) 1 _).c0, (((yk.at_ (hs.block Y (by omega) yk.lt)).other (by omega) 0 _).other (by omega) 1 _).c1, ⟨wm, hs, .inr rfl⟩⟩)
      have hmd : MostB (w.heap.size + 1) w6 w6.drew := (MostB.refl _ _).below_ ((Below.refl _ _).drew)
      have HMD := Lib.hid hmd
      have hstart := CELL.out _ hmd
      have MK := Lib.hid M6.out
      go_region_held3 (fun w' => w'.cell? ⟨Y, 0, none⟩ = some (.int .i64 hh) ∧ w'.cell? ⟨Y, 1, none⟩ = some (.slice ua ss.length uc) ∧ LaidO w.heap.size (w.heap.size + 1) hh (.slice ua ss.length uc) w6 w')
        (first | exact hstart | exact CELL.out _ m5.out | exact CEL2.out _ m5.out)
        (first
          | (go_at_call 60; ((with_reducible refine P1.out.mono ?_); rintro e w5 ⟨x, x0, x1, rfl, hr5, ho5⟩; have m5 := Lib.hid (HMD.out.trans ho5.mostB); have d0 := (RES.out _ (MK.out.trans m5.out)).c0; have d1 := (RES.out _ (MK.out.trans m5.out)).c1; have e0 := (RES.out _ (MK.out.trans m5.out)).frozen 0; have e1 := (RES.out _ (MK.out.trans m5.out)).frozen 1; clear hr5 ho5))
          | fail)
      obtain ⟨r1, b1, hm3, hn3⟩ := D.out
      have m9 := MK.out.trans m5.out
      have R := Lib.hid (yard_res (h := hh) r1 b1 (Nat.lt_succ_self _) (hm3.trans m9) (hn3.most m9 (by omega)))
      have y9 := ((RES.out _ m9).set0 hh).set1 (.slice ua ss.length uc)
      have f0 := y9.c0
      have f1 := y9.c1
      clear r1 b1 hm3 hn3 D m5 m9 y9 RES
      go_wp2_with fail
      exact bodyPost_ret (v := .tuple #[.agg #[.int .i64 hh, .slice ua ss.length uc], .int .i64 x]) (by simp [results, Try.results49, go_sem, f0, f1]) rfl ⟨hh, _, ss, x, hl, hf, rfl, R.out.2.1, R.out.2.2⟩
end Go.Proofs.Ytlcfldmiibjboaa
