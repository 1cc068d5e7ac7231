/-
  Draws of two classes; of a ship and two of its slots.
-/
import Derived.Test.YtlccmgdmfchmnaaGPw
import Derived.Test.YtlccmgdmfchmnaaDaS
namespace Go.Proofs.Ytlccmgdmfchmnaa
open Go.RowKit
set_option linter.unusedVariables false

/-- Two small numbers. -/
def DrewAB (w : World) (e : Ending) (w' : World) : Prop := ∃ x y : Int, e = .returned (.tuple #[.int .i64 x, .int .i64 y]) ∧ Below w.heap.size w w'
/-- A ship and two numbers. -/
def DrewH2 (w : World) (e : Ending) (w' : World) : Prop := ∃ (h : Hl) (x y : Int), e = .returned (.tuple #[.agg #[.int .i64 h.b, .int .i64 h.r, .int .i64 h.t], .int .i64 x, .int .i64 y]) ∧ Below w.heap.size w w'
set_option maxRecDepth 10000 in
set_option maxHeartbeats 4000000 in
theorem drawApartOf_any (a : Option Addr) (len cap : Nat) (w : World) (h : IsRow8 w a len cap) :
    Calls Try.prog 5 #[.slice a len cap] w (DrewH2 w) := by
  have ba : Below w.heap.size w (w.alloc (.cells Hl.zero.cells.toArray 24)) := (Below.refl _ _).alloc (Nat.le_refl _) _
  have ra : BoxH w.heap.size (w.alloc (.cells Hl.zero.cells.toArray 24)) ⟨0, 0, 0⟩ := BoxH.new w ⟨0, 0, 0⟩
  have hz : (w.alloc (.cells Hl.zero.cells.toArray 24)).heap.size = w.heap.size + 1 := by simp
  unfold Hl.cells Hl.zero at ba ra hz
  go_enter Try.func5, Try.ntmps5
  go_wp2_with fail
  refine (open_any a len cap _ (row8_keepS h ba)).mono ?_
  generalize (w.alloc (.cells [Value.int .i64 0, .int .i64 0, .int .i64 0].toArray 24)) = wa at ba ra hz ⊢
  rintro e w1 ⟨rfl, hr, hb, hz1⟩
  generalize wa.heap.size = B at hz hr hb hz1 ⊢
  subst hz
  have r1 := ra.at_ (hb.block w.heap.size (Nat.lt_succ_self _))
  have b1 : Below w.heap.size w w1 := ba.trans (hb.mono (by omega))
  clear h hb ba ra
  go_wp2_with fail
  refine (l20Hull_any _ _ 0 9 w1 hr (by omega) (by omega) (by omega)).mono ?_
  rintro e w2 ⟨hh, q, hq, rfl, hr2, hm⟩
  have r2 := r1.at_ (hm.block w.heap.size (by omega) r1.lt)
  have b2 : Below w.heap.size w w2 := b1.trans (hm.under (by omega) (by have := b1.size; omega))
  clear r1 b1 hr hm
  have b3 : Below w2.heap.size w2 (w2.alloc (.cells #[.int .i64 hh.b, .int .i64 hh.r, .int .i64 hh.t] 24)) := (Below.refl _ _).alloc (Nat.le_refl _) _
  have y3 := BoxH.new w2 hh
  have r3 := r2.at_ (b3.block _ r2.lt)
  have c3 := b2.trans (b3.mono b2.size)
  have hr3 := hr2.keepK b3 hr2.2.1
  have hz2 : w2.heap.size + 1 = (w2.alloc (.cells #[.int .i64 hh.b, .int .i64 hh.r, .int .i64 hh.t] 24)).heap.size := by simp
  have hYB : w.heap.size + 1 < w2.heap.size := hr2.2.1
  generalize hW3 : w2.alloc (.cells #[.int .i64 hh.b, .int .i64 hh.r, .int .i64 hh.t] 24) = W3 at y3 r3 c3 hr3 hz2
  have HW3 := Lib.hid hW3
  clear hW3 hr2 b3 r2 b2
  have y0 := y3.c0
  have y1 := y3.c1
  have y2 := y3.c2
  go_wp2_with fail
  rw [HW3.out]
  generalize w2.heap.size = Y at y3 hYB hz2 y0 y1 y2
  clear HW3
  have hsm : -1 ≤ slMany hh ∧ slMany hh ≤ 36 := by
    cases hk : hlOk hh
    · rw [slMany_bad hk]; omega
    · have := slMany_bd hk; omega
  go_wp2_with fail
  refine (specSlotMany_any hh W3).mono ?_
  rintro e w4 ⟨rfl, d4⟩
  have y4 := y3.keep d4
  have r4 := r3.keep d4
  have c4 := c3.trans (d4.mono c3.size)
  have hr4 := hr3.keep d4
  have hz4 := d4.size
  clear y3 r3 c3 hr3 y0 y1 y2 d4
  generalize slMany hh = sm at hsm ⊢
  obtain ⟨m, hm⟩ : ∃ m, m = max sm 1 := ⟨_, rfl⟩
  have hmx := run_max sm 1 m hm
  have hm1 : 1 ≤ m ∧ m ≤ 36 := by omega
  clear hm hsm
  have YK := Lib.hid fun (w' : World) (hs : MostB (w.heap.size + 1) w4 w') => (show w'.cell? ⟨Y, 0, none⟩ = some (.int .i64 hh.b) ∧ w'.cell? ⟨Y, 1, none⟩ = some (.int .i64 hh.r) ∧ w'.cell? ⟨Y, 2, none⟩ = some (.int .i64 hh.t) ∧ LaidH w.heap.size (w.heap.size + 1) hh w4 w' from
    have q := y4.at_ (hs.block Y (by omega) y4.lt); ⟨q.c0, q.c1, q.c2, w', hs, .inl rfl⟩)
  have YL := Lib.hid fun (wm : World) (hs : MostB (w.heap.size + 1) w4 wm) => (show (((wm.setCell ⟨w.heap.size, 0, none⟩ (.int .i64 hh.b)).setCell ⟨w.heap.size, 1, none⟩ (.int .i64 hh.r)).setCell ⟨w.heap.size, 2, none⟩ (.int .i64 hh.t)).cell? ⟨Y, 0, none⟩ = some (.int .i64 hh.b) ∧ (((wm.setCell ⟨w.heap.size, 0, none⟩ (.int .i64 hh.b)).setCell ⟨w.heap.size, 1, none⟩ (.int .i64 hh.r)).setCell ⟨w.heap.size, 2, none⟩ (.int .i64 hh.t)).cell? ⟨Y, 1, none⟩ = some (.int .i64 hh.r) ∧ (((wm.setCell ⟨w.heap.size, 0, none⟩ (.int .i64 hh.b)).setCell ⟨w.heap.size, 1, none⟩ (.int .i64 hh.r)).setCell ⟨w.heap.size, 2, none⟩ (.int .i64 hh.t)).cell? ⟨Y, 2, none⟩ = some (.int .i64 hh.t) ∧ LaidH w.heap.size (w.heap.size + 1) hh w4 (((wm.setCell ⟨w.heap.size, 0, none⟩ (.int .i64 hh.b)).setCell ⟨w.heap.size, 1, none⟩ (.int .i64 hh.r)).setCell ⟨w.heap.size, 2, none⟩ (.int .i64 hh.t)) from
    have q := (((y4.at_ (hs.block Y (by omega) y4.lt)).other (by omega) 0 _).other (by omega) 1 _).other (by omega) 2 _; ⟨q.c0, q.c1, q.c2, wm, hs, .inr rfl⟩)
  have RK := Lib.hid fun (w' : World) (hs : MostB (w.heap.size + 1) w4 w') => r4.at_ (hs.block w.heap.size (by omega) r4.lt)
  have CK := Lib.hid fun (w' : World) (hs : MostB (w.heap.size + 1) w4 w') => c4.trans (hs.under (by omega) c4.size)
  have hmd : MostB (w.heap.size + 1) w4 w4.drew := (MostB.refl _ _).below_ ((Below.refl _ _).drew)
  have HMD := Lib.hid hmd
  have hstart := YK.out _ hmd
  have HR := Lib.hid (hr4.keepK (Below.refl w4.heap.size w4).drew hr4.2.1)
  have P0 := Lib.hid fun w' (n : Int) (hn : 1 ≤ n) (hr : Rdr (w.heap.size + 1) (w.heap.size + 1) (q) w') => pick_any (w.heap.size + 1) (w.heap.size + 1) (q) n w' hr (by omega) hn
  have P1 := Lib.hid fun w' (n : Int) (hn : 1 ≤ n) (hr : Rdr (w.heap.size + 1) (w.heap.size + 1) (q + 1) w') => pick_any (w.heap.size + 1) (w.heap.size + 1) (q + 1) n w' hr (by omega) hn
  have P2 := Lib.hid fun w' (n : Int) (hn : 1 ≤ n) (hr : Rdr (w.heap.size + 1) (w.heap.size + 1) (q + 1 + 1) w') => pick_any (w.heap.size + 1) (w.heap.size + 1) (q + 1 + 1) n w' hr (by omega) hn
  have P3 := Lib.hid fun w' (n : Int) (hn : 1 ≤ n) (hr : Rdr (w.heap.size + 1) (w.heap.size + 1) (q + 1 + 1 + 1) w') => pick_any (w.heap.size + 1) (w.heap.size + 1) (q + 1 + 1 + 1) n w' hr (by omega) hn
  have M1 := Lib.hid hm1.1
  have T1 := Lib.hid (show (1 : Int) ≤ 20 by omega)
  clear y4 r4 c4 hr4 hmd
  go_wp2_with fail
  go_region_held3 (fun w' => w'.cell? ⟨Y, 0, none⟩ = some (.int .i64 hh.b) ∧ w'.cell? ⟨Y, 1, none⟩ = some (.int .i64 hh.r) ∧ w'.cell? ⟨Y, 2, none⟩ = some (.int .i64 hh.t) ∧ LaidH w.heap.size (w.heap.size + 1) hh w4 w')
    (first | exact hstart | exact YK.out _ m5.out | exact YK.out _ m6.out | exact YK.out _ m7.out | exact YK.out _ m8.out | exact YL.out _ m8.out | fail)
    (first
      | (go_at_call 14; ((with_reducible refine (P0.out w4.drew m M1.out HR.out).mono ?_); rintro e w5 ⟨x5, -, -, rfl, hr5, o5⟩; have m5 := Lib.hid (HMD.out.trans (only_most o5 HR.out)); have R5 := Lib.hid hr5; clear hr5 o5))
      | (go_at_call 14; ((with_reducible refine (P1.out w5 20 T1.out R5.out).mono ?_); rintro e w6 ⟨x6, -, -, rfl, hr6, o6⟩; have m6 := Lib.hid (m5.out.trans (only_most o6 R5.out)); have R6 := Lib.hid hr6; clear hr6 o6))
      | (go_at_call 14; ((with_reducible refine (P2.out w6 m M1.out R6.out).mono ?_); rintro e w7 ⟨x7, -, -, rfl, hr7, o7⟩; have m7 := Lib.hid (m6.out.trans (only_most o7 R6.out)); have R7 := Lib.hid hr7; clear hr7 o7))
      | (go_at_call 14; ((with_reducible refine (P3.out w7 20 T1.out R7.out).mono ?_); rintro e w8 ⟨x8, -, -, rfl, hr8, o8⟩; have m8 := Lib.hid (m7.out.trans (only_most o8 R7.out)); have d0 := (RK.out _ m8.out).c0; have d1 := (RK.out _ m8.out).c1; have d2 := (RK.out _ m8.out).c2; have ea := (RK.out _ m8.out).frozen 0; have eb := (RK.out _ m8.out).frozen 1; have ec := (RK.out _ m8.out).frozen 2; clear hr8 o8))
      | fail)
  obtain ⟨-, -, -, -, y9, B9⟩ := BoxH.end_ hh (RK.out _ m8.out) (CK.out _ m8.out)
  have f0 := y9.c0
  have f1 := y9.c1
  have f2 := y9.c2
  clear y9 d0 d1 d2 ea eb ec
  go_wp2_with fail
  exact bodyPost_ret (v := .tuple #[.agg #[.int .i64 hh.b, .int .i64 hh.r, .int .i64 hh.t], .int .i64 (IntKind.i64.wrap (x5 - IntKind.i64.wrap (x6.tdiv 19))), .int .i64 (IntKind.i64.wrap (x7 + IntKind.i64.wrap (IntKind.i64.wrap (x8.tdiv 19) * 40)))]) (by simp [results, Try.results5, go_sem, f0, f1, f2]) rfl ⟨hh, _, _, rfl, B9⟩

end Go.Proofs.Ytlccmgdmfchmnaa
