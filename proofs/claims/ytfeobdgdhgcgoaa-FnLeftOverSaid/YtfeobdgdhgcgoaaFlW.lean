/-
  Draws of chapter 14: DrawFillOrder, DrawFillPlan, DrawLeftOver.
-/
import Derived.Test.YtfeobdgdhgcgoaaGPw
import Derived.Test.YtfeobdgdhgcgoaaGDr
import Derived.Test.YtfeobdgdhgcgoaaSlD
namespace Go.Proofs.Ytfeobdgdhgcgoaa
open Go.RowKit
set_option linter.unusedVariables false

/-- What a draw of a list gives. -/
def DrewListF (w : World) (e : Ending) (w' : World) : Prop :=
  ∃ (l : List Bx) (v : Value), e = .returned v ∧ HoldsBx w' v l ∧ l.length ≤ 40 ∧ Below w.heap.size w w'
/-- What a draw of a ship and of boxes gives. -/
def DrewHB (w : World) (e : Ending) (w' : World) : Prop :=
  ∃ (h : Hl) (l : List Bx) (u : Value), l.length ≤ 40 ∧ e = .returned (.tuple #[.agg #[.int .i64 h.b, .int .i64 h.r, .int .i64 h.t], u]) ∧ NewBx w.heap.size w' u l ∧ Below w.heap.size w w'

set_option maxRecDepth 10000 in
set_option maxHeartbeats 2000000 in
theorem drawFillPlan_any (a : Option Addr) (len cap : Nat) (w : World) (h : IsRow8 w a len cap) :
    Calls Try.prog 17 #[.slice a len cap] w (DrewHB w) := by
  have ba : Below w.heap.size w (w.alloc (.cells Hl.zero.cells.toArray 36)) := (Below.refl _ _).alloc (Nat.le_refl _) _
  have ra : BoxH w.heap.size (w.alloc (.cells Hl.zero.cells.toArray 36)) ⟨0, 0, 0⟩ := BoxH.new w ⟨0, 0, 0⟩
  have hz : (w.alloc (.cells Hl.zero.cells.toArray 36)).heap.size = w.heap.size + 1 := by simp
  unfold Hl.cells Hl.zero at ba ra hz
  go_enter Try.func17, Try.ntmps17
  go_wp2_with fail
  refine (open_any a len cap _ (row8_keepS h ba)).mono ?_
  generalize (w.alloc (.cells [Value.int .i64 0, .int .i64 0, .int .i64 0].toArray 36)) = wa at ba ra hz ⊢
  rintro e w1 ⟨rfl, hr, hb, hz1⟩
  generalize wa.heap.size = B at hz hr hb hz1 ⊢
  subst hz
  have r1 := ra.at_ (hb.block w.heap.size (Nat.lt_succ_self _))
  have b1 : Below w.heap.size w w1 := ba.trans (hb.mono (by omega))
  clear h hb ba ra
  go_wp2_with fail
  refine (l20Hull_any _ _ 0 12 w1 hr (by omega) (by omega) (by omega)).mono ?_
  rintro e w2 ⟨hh, q, hq, rfl, hr2, hm⟩
  have r2 := r1.at_ (hm.block w.heap.size (by omega) r1.lt)
  have b2 : Below w.heap.size w w2 := b1.trans (hm.under (by omega) (by have := b1.size; omega))
  clear r1 b1 hr hm
  have b3 : Below w2.heap.size w2 (w2.alloc (.cells #[.int .i64 hh.b, .int .i64 hh.r, .int .i64 hh.t] 36)) := (Below.refl _ _).alloc (Nat.le_refl _) _
  have y3 := BoxH.new w2 hh
  have r3 := r2.at_ (b3.block _ r2.lt)
  have c3 := b2.trans (b3.mono b2.size)
  have hr3 := hr2.keepK b3 hr2.2.1
  have hz2 : w2.heap.size + 1 = (w2.alloc (.cells #[.int .i64 hh.b, .int .i64 hh.r, .int .i64 hh.t] 36)).heap.size := by simp
  have hYB : w.heap.size + 1 < w2.heap.size := hr2.2.1
  generalize hW3 : w2.alloc (.cells #[.int .i64 hh.b, .int .i64 hh.r, .int .i64 hh.t] 36) = W3 at y3 r3 c3 hr3 hz2
  have HW3 := Lib.hid hW3
  clear hW3 hr2 b3 r2 b2
  go_wp2_with fail
  rw [HW3.out]
  generalize w2.heap.size = Y at y3 hYB hz2
  clear HW3
  have YK := Lib.hid fun (w' : World) (hs : MostB (w.heap.size + 1) W3 w') => (show w'.cell? ⟨Y, 0, none⟩ = some (.int .i64 hh.b) ∧ w'.cell? ⟨Y, 1, none⟩ = some (.int .i64 hh.r) ∧ w'.cell? ⟨Y, 2, none⟩ = some (.int .i64 hh.t) ∧ LaidH w.heap.size (w.heap.size + 1) hh W3 w' from
    have q := y3.at_ (hs.block Y (by omega) y3.lt); ⟨q.c0, q.c1, q.c2, w', hs, .inl rfl⟩)
  have YL := Lib.hid fun (wm : World) (hs : MostB (w.heap.size + 1) W3 wm) => (show (((wm.setCell ⟨w.heap.size, 0, none⟩ (.int .i64 hh.b)).setCell ⟨w.heap.size, 1, none⟩ (.int .i64 hh.r)).setCell ⟨w.heap.size, 2, none⟩ (.int .i64 hh.t)).cell? ⟨Y, 0, none⟩ = some (.int .i64 hh.b) ∧ (((wm.setCell ⟨w.heap.size, 0, none⟩ (.int .i64 hh.b)).setCell ⟨w.heap.size, 1, none⟩ (.int .i64 hh.r)).setCell ⟨w.heap.size, 2, none⟩ (.int .i64 hh.t)).cell? ⟨Y, 1, none⟩ = some (.int .i64 hh.r) ∧ (((wm.setCell ⟨w.heap.size, 0, none⟩ (.int .i64 hh.b)).setCell ⟨w.heap.size, 1, none⟩ (.int .i64 hh.r)).setCell ⟨w.heap.size, 2, none⟩ (.int .i64 hh.t)).cell? ⟨Y, 2, none⟩ = some (.int .i64 hh.t) ∧ LaidH w.heap.size (w.heap.size + 1) hh W3 (((wm.setCell ⟨w.heap.size, 0, none⟩ (.int .i64 hh.b)).setCell ⟨w.heap.size, 1, none⟩ (.int .i64 hh.r)).setCell ⟨w.heap.size, 2, none⟩ (.int .i64 hh.t)) from
    have q := (((y3.at_ (hs.block Y (by omega) y3.lt)).other (by omega) 0 _).other (by omega) 1 _).other (by omega) 2 _; ⟨q.c0, q.c1, q.c2, wm, hs, .inr rfl⟩)
  have RK := Lib.hid fun (w' : World) (hs : MostB (w.heap.size + 1) W3 w') => r3.at_ (hs.block w.heap.size (by omega) r3.lt)
  have CK := Lib.hid fun (w' : World) (hs : MostB (w.heap.size + 1) W3 w') => c3.trans (hs.under (by omega) c3.size)
  have hmd : MostB (w.heap.size + 1) W3 W3.drew := (MostB.refl _ _).below_ ((Below.refl _ _).drew)
  have HMD := Lib.hid hmd
  have hstart := YK.out _ hmd
  have HR := Lib.hid (hr3.keepK (Below.refl W3.heap.size W3).drew hr3.2.1)
  have hzd := c3.size
  clear y3 r3 c3 hr3 hmd
  have P1 := Lib.hid (l20Boxes_any (w.heap.size + 1) (w.heap.size + 1) q 10 12 W3.drew HR.out (by omega) (by omega) (by omega) (by omega) (by omega))
  go_region_held3 (fun w' => w'.cell? ⟨Y, 0, none⟩ = some (.int .i64 hh.b) ∧ w'.cell? ⟨Y, 1, none⟩ = some (.int .i64 hh.r) ∧ w'.cell? ⟨Y, 2, none⟩ = some (.int .i64 hh.t) ∧ LaidH w.heap.size (w.heap.size + 1) hh W3 w')
    (first | exact hstart | exact YK.out _ m5.out | exact YL.out _ m5.out | fail)
    (first
      | (go_at_call 38; ((with_reducible refine P1.out.mono ?_); rintro e w5 ⟨l, u, q5, -, hl40, rfl, NB5, hr5, o5⟩; have m5 := Lib.hid (HMD.out.trans o5); have d0 := (RK.out _ m5.out).c0; have d1 := (RK.out _ m5.out).c1; have d2 := (RK.out _ m5.out).c2; have ea := (RK.out _ m5.out).frozen 0; have eb := (RK.out _ m5.out).frozen 1; have ec := (RK.out _ m5.out).frozen 2; clear hr5 o5))
      | fail)
  obtain ⟨-, -, -, -, y9, B9⟩ := BoxH.end_ hh (RK.out _ m5.out) (CK.out _ m5.out)
  have f0 := y9.c0
  have f1 := y9.c1
  have f2 := y9.c2
  have m9 := Only3 w.heap.size w5 (.int .i64 hh.b) (.int .i64 hh.r) (.int .i64 hh.t)
  have hzw : w.heap.size < W3.drew.heap.size := (show w.heap.size < W3.heap.size by omega)
  have U9 := (NB5.most m9 hzw).from_ (Nat.le_of_lt hzw)
  clear y9 m9 d0 d1 d2 ea eb ec
  go_wp2_with fail
  exact bodyPost_ret (v := .tuple #[.agg #[.int .i64 hh.b, .int .i64 hh.r, .int .i64 hh.t], u]) (by simp [results, Try.results17, go_sem, f0, f1, f2]) rfl ⟨hh, l, _, hl40, rfl, U9, B9⟩

theorem drawFillOrder_any (a : Option Addr) (len cap : Nat) (w : World) (h : IsRow8 w a len cap) :
    Calls Try.prog 9 #[.slice a len cap] w (DrewListF w) := by
  go_enter Try.func9, Try.ntmps9
  go_wp2_with fail
  refine (open_any a len cap _ h).mono ?_
  rintro e w1 ⟨rfl, hr, hb, hz1⟩
  go_wp2_with fail
  refine (l20Boxes_any _ _ 0 10 9 w1 hr (by omega) (by omega) (by omega) (by omega) (by omega)).mono ?_
  rintro e w2 ⟨l, v, q, hq, hl, rfl, hn, hr2, hm⟩
  have hh := Lib.hid hn.holds
  have hbb := hb.trans (hm.under (Nat.le_refl _) hb.size)
  clear hn hr2 hm
  go_wp2_with fail
  go_ret
  exact ⟨l, v, rfl, hh.out, hl, hbb⟩

set_option maxRecDepth 10000 in
set_option maxHeartbeats 2000000 in
theorem drawLeftOver_any (a : Option Addr) (len cap : Nat) (w : World) (h : IsRow8 w a len cap) :
    Calls Try.prog 26 #[.slice a len cap] w (DrewP0 w) := by
  have ba : Below w.heap.size w (w.alloc (.cells Hl.zero.cells.toArray 36)) := (Below.refl _ _).alloc (Nat.le_refl _) _
  have ra : BoxH w.heap.size (w.alloc (.cells Hl.zero.cells.toArray 36)) ⟨0, 0, 0⟩ := BoxH.new w ⟨0, 0, 0⟩
  have hz : (w.alloc (.cells Hl.zero.cells.toArray 36)).heap.size = w.heap.size + 1 := by simp
  unfold Hl.cells Hl.zero at ba ra hz
  go_enter Try.func26, Try.ntmps26
  go_wp2_with fail
  refine (open_any a len cap _ (row8_keepS h ba)).mono ?_
  generalize (w.alloc (.cells [Value.int .i64 0, .int .i64 0, .int .i64 0].toArray 36)) = wa at ba ra hz ⊢
  rintro e w1 ⟨rfl, hr, hb, hz1⟩
  generalize wa.heap.size = B at hz hr hb hz1 ⊢
  subst hz
  have r1 := ra.at_ (hb.block w.heap.size (Nat.lt_succ_self _))
  have b1 : Below w.heap.size w w1 := ba.trans (hb.mono (by omega))
  clear h hb ba ra
  go_wp2_with fail
  refine (l20Plan_any _ _ 0 10 4 w1 hr (by omega) (by omega) (by omega) (by omega) (by omega)).mono ?_
  rintro e w2 ⟨hh, l, pl, u, v, q, hq, hl40, hp40, rfl, NB, OW, hr2, hm⟩
  have r2 := r1.at_ (hm.block w.heap.size (by omega) r1.lt)
  have b2 : Below w.heap.size w w2 := b1.trans (hm.under (by omega) (by have := b1.size; omega))
  clear r1 b1 hr hm
  obtain ⟨d0, d1, d2, e0, -, -⟩ := BoxH.end_ hh r2 b2
  have ea := e0 0
  have eb := e0 1
  have ec := e0 2
  clear e0
  obtain ⟨-, -, -, -, y9, B9⟩ := BoxH.end_ hh r2 b2
  have f0 := y9.c0
  have f1 := y9.c1
  have f2 := y9.c2
  have m9 := Only3 w.heap.size w2 (.int .i64 hh.b) (.int .i64 hh.r) (.int .i64 hh.t)
  have U9 := (NB.most m9 (by omega)).from_ (show w.heap.size ≤ w1.heap.size by omega)
  have V9 := (OW.most m9 (by omega)).from_ (show w.heap.size ≤ w1.heap.size by omega)
  clear y9 m9 
  go_wp2_with fail
  exact bodyPost_ret (v := .tuple #[.agg #[.int .i64 hh.b, .int .i64 hh.r, .int .i64 hh.t], u, v]) (by simp [results, Try.results26, go_sem, f0, f1, f2]) rfl ⟨hh, l, pl, _, _, hl40, hp40, rfl, U9, V9, B9⟩

end Go.Proofs.Ytfeobdgdhgcgoaa
