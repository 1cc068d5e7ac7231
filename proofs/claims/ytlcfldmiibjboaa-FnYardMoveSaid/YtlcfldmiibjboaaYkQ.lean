/-
  The draw of a yard and a move: DrawYardMove.
-/
import Derived.Test.YtlcfldmiibjboaaYkL
import Derived.Test.YtlcfldmiibjboaaGYv
namespace Go.Proofs.Ytlcfldmiibjboaa
open Go.RowKit
set_option linter.unusedVariables false

/-- What a draw of a yard and a move gives its law. -/
def DrewYM (w : World) (e : Ending) (w' : World) : Prop :=
  ∃ (h : Int) (u : Value) (ss : List (List Int)) (f t : Int), ss.length ≤ 7 ∧ ss.flatten.length ≤ 100 ∧ e = .returned (.tuple #[.agg #[.int .i64 h, u], .agg #[.int .i64 f, .int .i64 t]]) ∧ HoldsY w' u ss ∧ Below w.heap.size w w'
theorem ym_res {w w1 w5 : World} {h : Int} {u : Value} {ss : List (List Int)} (r0 : BoxY w.heap.size w1 0 (.slice none 0 0)) (q0 : BoxM (w.heap.size + 1) w1 0 0) (b1 : Below w.heap.size w w1) (hm : MostB (w.heap.size + 2) w1 w5) (hn : NewY w1.heap.size w5 u ss) (f t : Int) :
    HoldsY ((((w5.setCell ⟨w.heap.size, 0, none⟩ (.int .i64 h)).setCell ⟨w.heap.size, 1, none⟩ u).setCell ⟨w.heap.size + 1, 0, none⟩ (.int .i64 f)).setCell ⟨w.heap.size + 1, 1, none⟩ (.int .i64 t)) u ss ∧
    Below w.heap.size w ((((w5.setCell ⟨w.heap.size, 0, none⟩ (.int .i64 h)).setCell ⟨w.heap.size, 1, none⟩ u).setCell ⟨w.heap.size + 1, 0, none⟩ (.int .i64 f)).setCell ⟨w.heap.size + 1, 1, none⟩ (.int .i64 t)) := by
  have hl := r0.lt
  have hl2 := q0.lt
  exact ⟨((((hn.setLow hl _ _).setLow hl _ _).setLow hl2 _ _).setLow hl2 _ _).holds,
    (((((b1.trans (hm.under (by omega) b1.size)).setCell (p := ⟨w.heap.size, 0, none⟩) (Nat.le_refl _) _).setCell (p := ⟨w.heap.size, 1, none⟩) (Nat.le_refl _) _).setCell (p := ⟨w.heap.size + 1, 0, none⟩) (Nat.le_add_right _ _) _).setCell (p := ⟨w.heap.size + 1, 1, none⟩) (Nat.le_add_right _ _) _)⟩

set_option maxRecDepth 10000 in
set_option maxHeartbeats 4000000 in
theorem drawYardMove_any (a : Option Addr) (len cap : Nat) (w : World) (h : IsRow8 w a len cap) :
    Calls Try.prog 26 #[.slice a len cap] w (DrewYM w) := by
  have ba : Below w.heap.size w ((w.alloc (.cells #[.int .i64 0, .slice none 0 0] 25)).alloc (.cells #[.int .i64 0, .int .i64 0] 41)) := ((Below.refl w.heap.size w).alloc (Nat.le_refl _) _).alloc (by simp) _
  have ra : BoxY w.heap.size ((w.alloc (.cells #[.int .i64 0, .slice none 0 0] 25)).alloc (.cells #[.int .i64 0, .int .i64 0] 41)) 0 (.slice none 0 0) := two_lo _ _ _
  have qa : BoxM (w.heap.size + 1) ((w.alloc (.cells #[.int .i64 0, .slice none 0 0] 25)).alloc (.cells #[.int .i64 0, .int .i64 0] 41)) 0 0 := two_hi _ _ _
  have hz : ((w.alloc (.cells #[.int .i64 0, .slice none 0 0] 25)).alloc (.cells #[.int .i64 0, .int .i64 0] 41)).heap.size = w.heap.size + 2 := by simp
  go_enter Try.func26, Try.ntmps26
  go_wp2_with fail
  refine (open_any a len cap _ (row8_keep h ba)).mono ?_
  generalize ((w.alloc (.cells #[.int .i64 0, .slice none 0 0] 25)).alloc (.cells #[.int .i64 0, .int .i64 0] 41)) = wa at ba ra qa hz ⊢
  rintro e w1 ⟨rfl, hr, hb, hz1⟩
  generalize wa.heap.size = B at hz hr hb hz1 ⊢
  subst hz
  have r1 := ra.at_ (hb.block w.heap.size (by omega))
  have q1 := qa.at_ (hb.block (w.heap.size + 1) (by omega))
  have b1 : Below w.heap.size w w1 := ba.trans (hb.mono (by omega))
  clear h hb ba ra qa
  go_wp2_with fail
  refine (l20Yard_any _ _ 0 9 w1 hr (by omega) (by omega) (by omega)).mono ?_
  rintro e w2 ⟨hh, u, ss, q, hq, hl, hf, rfl, hn, hr2, hm⟩
  obtain ⟨ua, uc, rfl⟩ := hn.form
  have b3 : Below w2.heap.size w2 (w2.alloc (.cells #[.int .i64 hh, .slice ua ss.length uc] 25)) := (Below.refl _ _).alloc (Nat.le_refl _) _
  have y3 := BoxY.new w2 hh (.slice ua ss.length uc)
  have hn3 := hn.keep b3
  have hm3 := hm.below_ (b3.mono hm.size)
  have hr3 := hr2.keepK b3 hr2.2.1
  have hYB : w.heap.size + 2 < w2.heap.size := hr2.2.1
  generalize hW3 : w2.alloc (.cells #[.int .i64 hh, .slice ua ss.length uc] 25) = W3 at y3 hn3 hm3 hr3
  have HW3 := Lib.hid hW3
  clear hW3 hr hm hn hr2 b3
  go_wp2_with fail
  rw [HW3.out]
  generalize w2.heap.size = Y at y3 hYB
  clear HW3
  have YL := Lib.hid y3.lt
  have r3 : BoxY w.heap.size W3 0 (.slice none 0 0) := r1.at_ (hm3.block _ (by omega) r1.lt)
  have q3 : BoxM (w.heap.size + 1) W3 0 0 := q1.at_ (hm3.block _ (by omega) q1.lt)
  have CELL := Lib.hid fun (w' : World) (hs : MostB (w.heap.size + 2) W3 w') => (show w'.cell? ⟨Y, 0, none⟩ = some (.int .i64 hh) ∧ w'.cell? ⟨Y, 1, none⟩ = some (.slice ua ss.length uc) from
    ⟨(y3.at_ (hs.block Y (by omega) y3.lt)).c0, (y3.at_ (hs.block Y (by omega) y3.lt)).c1⟩)
  have RES := Lib.hid fun (w' : World) (hs : MostB (w.heap.size + 2) W3 w') => (show BoxY w.heap.size w' 0 (.slice none 0 0) ∧ BoxM (w.heap.size + 1) w' 0 0 from ⟨r3.at_ (hs.block _ (by omega) r3.lt), q3.at_ (hs.block _ (by omega) q3.lt)⟩)
  have hmd : MostB (w.heap.size + 2) W3 W3.drew := (MostB.refl _ _).below_ ((Below.refl _ _).drew)
  have HMD := Lib.hid hmd
  have hstart := CELL.out _ hmd
  have hrd := hr3.keepK (Below.refl W3.heap.size W3).drew hr3.2.1
  have P1 := Lib.hid (l20Move_any _ _ q hh (.slice ua ss.length uc) ss W3.drew hrd (by omega) (hn3.holds.keep (Below.refl W3.heap.size W3).drew) hl)
  unfold DrewMove at P1
  have D := Lib.hid (And.intro r1 (And.intro q1 (And.intro b1 (And.intro hm3 hn3))))
  clear hmd hrd r1 q1 r3 q3 b1 hm3 hn3 y3 hr3
  (first | go_region_with (go_at_call 74; ((with_reducible refine P1.out.mono ?_); rintro e w5 ⟨f, t, qq, hqq, rfl, hr5, hm5⟩; have m5 := HMD.out.trans hm5; have d0 := (RES.out _ m5).1.c0; have d1 := (RES.out _ m5).1.c1; have e0 := (RES.out _ m5).1.frozen 0; have e1 := (RES.out _ m5).1.frozen 1; have d2 := (RES.out _ m5).2.c0; have d3 := (RES.out _ m5).2.c1; have e2 := (RES.out _ m5).2.frozen 0; have e3 := (RES.out _ m5).2.frozen 1; have c0 := (CELL.out _ m5).1; have c1 := (CELL.out _ m5).2)) | fail)
  all_goals
    obtain ⟨r1, q1, b1, hm3, hn3⟩ := D.out
    have R := Lib.hid (ym_res (h := hh) r1 q1 b1 (hm3.trans m5) (hn3.most m5 (by omega)) f t)
    clear r1 q1 b1 hm3 hn3 D m5 hr5 hm5 c0 c1
    go_wp2_with fail
    exact bodyPost_ret (v := .tuple #[.agg #[.int .i64 hh, .slice ua ss.length uc], .agg #[.int .i64 f, .int .i64 t]]) (by simp [results, Try.results26, go_sem, d0, d1, d2, d3]) rfl ⟨hh, _, ss, f, t, hl, hf, rfl, R.out.1, R.out.2⟩
end Go.Proofs.Ytlcfldmiibjboaa
