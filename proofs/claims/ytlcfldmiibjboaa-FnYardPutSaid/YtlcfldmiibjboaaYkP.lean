/-
  The draw of a yard, a stack and an id: DrawYardPut.
-/
import Derived.Test.YtlcfldmiibjboaaGYv
namespace Go.Proofs.Ytlcfldmiibjboaa
open Go.RowKit
set_option linter.unusedVariables false

/-- What a draw of a yard and two numbers gives its law. -/
def DrewYII (w : World) (e : Ending) (w' : World) : Prop :=
  ∃ (h : Int) (u : Value) (ss : List (List Int)) (x z : Int), ss.length ≤ 7 ∧ ss.flatten.length ≤ 100 ∧ e = .returned (.tuple #[.agg #[.int .i64 h, u], .int .i64 x, .int .i64 z]) ∧ HoldsY w' u ss ∧ Below w.heap.size w w'
set_option maxRecDepth 10000 in
set_option maxHeartbeats 4000000 in
theorem drawYardPut_any (a : Option Addr) (len cap : Nat) (w : World) (h : IsRow8 w a len cap) :
    Calls Try.prog 15 #[.slice a len cap] w (DrewYII w) := by
  have ba : Below w.heap.size w (w.alloc (.cells #[.int .i64 0, .slice none 0 0] 25)) := (Below.refl _ _).alloc (Nat.le_refl _) _
  have ra := BoxY.new w 0 (.slice none 0 0)
  have hz : (w.alloc (.cells #[.int .i64 0, .slice none 0 0] 25)).heap.size = w.heap.size + 1 := by simp
  go_enter Try.func15, Try.ntmps15
  go_wp2_with fail
  refine (open_any a len cap _ (row8_keep h ba)).mono ?_
  generalize (w.alloc (.cells #[.int .i64 0, .slice none 0 0] 25)) = wa at ba ra hz ⊢
  rintro e w1 ⟨rfl, hr, hb, hz1⟩
  generalize wa.heap.size = B at hz hr hb hz1 ⊢
  subst hz
  have r1 := ra.at_ (hb.block w.heap.size (Nat.lt_succ_self _))
  have b1 : Below w.heap.size w w1 := ba.trans (hb.mono (by omega))
  clear h hb ba ra
  go_wp2_with fail
  refine (l20Yard_any _ _ 0 9 w1 hr (by omega) (by omega) (by omega)).mono ?_
  rintro e w2 ⟨hh, u, ss, q, hq, hl, hf, rfl, hn, hr2, hm⟩
  obtain ⟨ua, uc, rfl⟩ := hn.form
  have b3 : Below w2.heap.size w2 (w2.alloc (.cells #[.int .i64 hh, .slice ua ss.length uc] 25)) := (Below.refl _ _).alloc (Nat.le_refl _) _
  have y3 := BoxY.new w2 hh (.slice ua ss.length uc)
  have hn3 := hn.keep b3
  have hm3 := hm.below_ (b3.mono hm.size)
  have hr3 := hr2.keepK b3 hr2.2.1
  have hYB : w.heap.size + 1 < w2.heap.size := hr2.2.1
  generalize hW3 : w2.alloc (.cells #[.int .i64 hh, .slice ua ss.length uc] 25) = W3 at y3 hn3 hm3 hr3
  have HW3 := Lib.hid hW3
  clear hW3 hr hm hn hr2 b3
  go_wp2_with fail
  rw [HW3.out]
  generalize w2.heap.size = Y at y3 hYB
  clear HW3
  refine (pick_any _ _ q 50 W3 hr3 (by omega) (by omega)).mono ?_
  rintro e w4 ⟨p, p0, p1, rfl, hr4, ho4⟩
  have m4 : MostB (w.heap.size + 1) W3 w4 := ho4.mostB
  clear hr3 ho4
  go_wp2_with fail
  refine (odd_any _ _ (q + 1) 6 w4 hr4 (by omega) (by omega) (by omega)).mono ?_
  rintro e w5 ⟨v, rfl, hr5, ho5⟩
  have m5 := m4.trans ho5.mostB
  clear hr4 ho5 m4
  generalize (300 : Int) + p = t
  clear p0 p1
  have n7 : ss.length ≤ 7 := hl
  obtain ⟨n, hn⟩ : ∃ n, n = ss.length := ⟨_, rfl⟩
  have YL := Lib.hid y3.lt
  have CELL := Lib.hid fun (w' : World) (hs : MostB (w.heap.size + 1) W3 w') => (show w'.cell? ⟨Y, 0, none⟩ = some (.int .i64 hh) ∧ w'.cell? ⟨Y, 1, none⟩ = some (.slice ua ss.length uc) ∧ Laid w.heap.size (w.heap.size + 1) hh (.slice ua ss.length uc) W3 w' from
    ⟨(y3.at_ (hs.block Y (by omega) y3.lt)).c0, (y3.at_ (hs.block Y (by omega) y3.lt)).c1, w', hs, .inl rfl⟩)
  have CEL2 := Lib.hid fun (wm : World) (hs : MostB (w.heap.size + 1) W3 wm) => (show ((wm.setCell ⟨w.heap.size, 0, none⟩ (.int .i64 hh)).setCell ⟨w.heap.size, 1, none⟩ (.slice ua ss.length uc)).cell? ⟨Y, 0, none⟩ = some (.int .i64 hh) ∧ ((wm.setCell ⟨w.heap.size, 0, none⟩ (.int .i64 hh)).setCell ⟨w.heap.size, 1, none⟩ (.slice ua ss.length uc)).cell? ⟨Y, 1, none⟩ = some (.slice ua ss.length uc) ∧ Laid w.heap.size (w.heap.size + 1) hh (.slice ua ss.length uc) W3 ((wm.setCell ⟨w.heap.size, 0, none⟩ (.int .i64 hh)).setCell ⟨w.heap.size, 1, none⟩ (.slice ua ss.length uc)) from
    ⟨(((y3.at_ (hs.block Y (by omega) y3.lt)).other (by omega) 0 _).other (by omega) 1 _).c0, (((y3.at_ (hs.block Y (by omega) y3.lt)).other (by omega) 0 _).other (by omega) 1 _).c1, wm, hs, .inr rfl⟩)
  have r3 : BoxY w.heap.size W3 0 (.slice none 0 0) := r1.at_ (hm3.block _ (by omega) r1.lt)
  have RES := Lib.hid fun (w' : World) (hs : MostB (w.heap.size + 1) W3 w') => (show BoxY w.heap.size w' 0 (.slice none 0 0) from r3.at_ (hs.block _ (by omega) r3.lt))
  have D := Lib.hid (And.intro r1 (And.intro b1 (And.intro hm3 hn3)))
  clear r1 r3 b1 hm3 hn3 y3 hYB
  cases v
  · obtain ⟨qx, hqx, hrx⟩ : ∃ qx, qx ≤ q + 3 ∧ Rdr (w.heap.size + 1) (w.heap.size + 1) qx w5 := ⟨q + 1 + 1, by omega, hr5⟩
    have mx := m5
    clear hr5 m5
    rename World => wx
    go_wp2_with fail
    have hmd : MostB (w.heap.size + 1) W3 wx.drew := mx.below_ (Below.drew (Below.refl _ _))
    have HMD := Lib.hid hmd
    have hstart := CELL.out _ hmd
    have hrd := hrx.keepK (Below.refl wx.heap.size wx).drew hrx.2.1
    have P1 := Lib.hid (pick_any _ _ qx ((n : Int) + 1) wx.drew hrd (by omega) (by omega))
    have P2 := Lib.hid fun w' (hr : Rdr (w.heap.size + 1) (w.heap.size + 1) (qx + 1) w') => pick_any _ _ (qx + 1) 20 w' hr (by omega) (by omega)
    have sw : IntKind.i64.wrap ((n : Int) + 1) = (n : Int) + 1 := IntWalk.i64_in _ (by omega)
    rw [hn] at sw P1
    clear hn hmd hrd hrx mx n7
    go_region_held3 (fun w' => w'.cell? ⟨Y, 0, none⟩ = some (.int .i64 hh) ∧ w'.cell? ⟨Y, 1, none⟩ = some (.slice ua ss.length uc) ∧ Laid w.heap.size (w.heap.size + 1) hh (.slice ua ss.length uc) W3 w')
      (first | exact hstart | exact CELL.out _ m6 | exact CELL.out _ m5 | exact CEL2.out _ m6)
      (first
        | (go_at_call 60; ((with_reducible refine P1.out.mono ?_); rintro e w5 ⟨x, x0, x1, rfl, hr5, ho5⟩; have m5 := HMD.out.trans ho5.mostB))
        | (go_at_call 60; ((with_reducible refine (P2.out _ hr5).mono ?_); rintro e w6 ⟨z, z0, z1, rfl, hr6, ho6⟩; have m6 := m5.trans ho6.mostB; have d0 := (RES.out _ m6).c0; have d1 := (RES.out _ m6).c1; have e0 := (RES.out _ m6).frozen 0; have e1 := (RES.out _ m6).frozen 1)))
    obtain ⟨r1, b1, hm3, hn3⟩ := D.out
    have R := Lib.hid (yard_res (h := hh) r1 b1 (Nat.lt_succ_self _) (hm3.trans m6) (hn3.most m6 (by omega)))
    clear r1 b1 hm3 hn3 D m5 m6 hr5 hr6 ho5 ho6
    generalize IntKind.i64.wrap (x - IntKind.i64.wrap (z.tdiv 19)) = y
    go_wp2_with fail
    exact bodyPost_ret (v := .tuple #[.agg #[.int .i64 hh, .slice ua ss.length uc], .int .i64 y, .int .i64 t]) (by simp [results, Try.results15, go_sem, d0, d1]) rfl ⟨hh, _, ss, y, t, hl, hf, rfl, R.out.2.1, R.out.2.2⟩
  · go_wp2_with fail
    refine (pick_any _ _ (q + 1 + 1) 20 w5 hr5 (by omega) (by omega)).mono ?_
    rintro e w6 ⟨t, t0, t1, rfl, hr6, ho6⟩
    obtain ⟨qx, hqx, hrx⟩ : ∃ qx, qx ≤ q + 3 ∧ Rdr (w.heap.size + 1) (w.heap.size + 1) qx w6 := ⟨q + 1 + 1 + 1, by omega, hr6⟩
    have mx := m5.trans ho6.mostB
    clear t0 t1 hr6 ho6 m5 hr5
    rename World => wx
    go_wp2_with fail
    have hmd : MostB (w.heap.size + 1) W3 wx.drew := mx.below_ (Below.drew (Below.refl _ _))
    have HMD := Lib.hid hmd
    have hstart := CELL.out _ hmd
    have hrd := hrx.keepK (Below.refl wx.heap.size wx).drew hrx.2.1
    have P1 := Lib.hid (pick_any _ _ qx ((n : Int) + 1) wx.drew hrd (by omega) (by omega))
    have P2 := Lib.hid fun w' (hr : Rdr (w.heap.size + 1) (w.heap.size + 1) (qx + 1) w') => pick_any _ _ (qx + 1) 20 w' hr (by omega) (by omega)
    have sw : IntKind.i64.wrap ((n : Int) + 1) = (n : Int) + 1 := IntWalk.i64_in _ (by omega)
    rw [hn] at sw P1
    clear hn hmd hrd hrx mx n7
    go_region_held3 (fun w' => w'.cell? ⟨Y, 0, none⟩ = some (.int .i64 hh) ∧ w'.cell? ⟨Y, 1, none⟩ = some (.slice ua ss.length uc) ∧ Laid w.heap.size (w.heap.size + 1) hh (.slice ua ss.length uc) W3 w')
      (first | exact hstart | exact CELL.out _ m6 | exact CELL.out _ m5 | exact CEL2.out _ m6)
      (first
        | (go_at_call 60; ((with_reducible refine P1.out.mono ?_); rintro e w5 ⟨x, x0, x1, rfl, hr5, ho5⟩; have m5 := HMD.out.trans ho5.mostB))
        | (go_at_call 60; ((with_reducible refine (P2.out _ hr5).mono ?_); rintro e w6 ⟨z, z0, z1, rfl, hr6, ho6⟩; have m6 := m5.trans ho6.mostB; have d0 := (RES.out _ m6).c0; have d1 := (RES.out _ m6).c1; have e0 := (RES.out _ m6).frozen 0; have e1 := (RES.out _ m6).frozen 1)))
    obtain ⟨r1, b1, hm3, hn3⟩ := D.out
    have R := Lib.hid (yard_res (h := hh) r1 b1 (Nat.lt_succ_self _) (hm3.trans m6) (hn3.most m6 (by omega)))
    clear r1 b1 hm3 hn3 D m5 m6 hr5 hr6 ho5 ho6
    generalize IntKind.i64.wrap (x - IntKind.i64.wrap (z.tdiv 19)) = y
    go_wp2_with fail
    exact bodyPost_ret (v := .tuple #[.agg #[.int .i64 hh, .slice ua ss.length uc], .int .i64 y, .int .i64 t]) (by simp [results, Try.results15, go_sem, d0, d1]) rfl ⟨hh, _, ss, y, t, hl, hf, rfl, R.out.2.1, R.out.2.2⟩
end Go.Proofs.Ytlcfldmiibjboaa
