/-
  Stage 6's draws: a ship, and places or slots of it.
-/
import Derived.Test.YtmfdibjobgfgbaaSlD
import Derived.Deep.RegionHeld3
namespace Go.Proofs.Ytmfdibjobgfgbaa
open Go.RowKit
set_option linter.unusedVariables false

theorem row8_keepS {w w' : World} {a : Option Addr} {len cap : Nat} (h : IsRow8 w a len cap) (hb : Below w.heap.size w w') : IsRow8 w' a len cap := by
  rcases h with h | ⟨x, h1, h2, h3, h4⟩
  · exact .inl h
  · refine .inr ⟨x, h1, h2, h3, fun i hi => ?_⟩
    obtain ⟨c, c0, c1, hc⟩ := h4 i hi
    have hlt : (x.add i).block < w.heap.size := by
      rcases Nat.lt_or_ge (x.add i).block w.heap.size with h' | h'
      · exact h'
      · rw [World.cell?, Array.getElem?_eq_none h'] at hc; cases hc
    exact ⟨c, c0, c1, (hb.cell hlt).trans hc⟩
theorem BoxH.at_ {B : Nat} {w w' : World} {h : Hl} (hb : BoxH B w h) (hk : w'.heap[B]? = w.heap[B]?) : BoxH B w' h := by unfold BoxH at hb ⊢; rw [hk]; exact hb
theorem BoxH.frozen {B : Nat} {w : World} {h : Hl} (hb : BoxH B w h) (k : Nat) : w.frozen? ⟨B, k, none⟩ = false := by unfold BoxH at hb; simp [World.frozen?, hb]
theorem BoxH.lay {B : Nat} {w : World} {h : Hl} (hb : BoxH B w h) (g : Hl) : BoxH B (((w.setCell ⟨B, 0, none⟩ (.int .i64 g.b)).setCell ⟨B, 1, none⟩ (.int .i64 g.r)).setCell ⟨B, 2, none⟩ (.int .i64 g.t)) g := by
  unfold BoxH at hb ⊢
  rw [Joins.block_setCell (i := 2) (Joins.block_setCell (i := 1) (Joins.block_setCell (i := 0) hb _) _) _]; rfl
/-- The answer's place that a ship is laid into. -/
theorem BoxH.end_ {w w1 : World} {h : Hl} (g : Hl) (hb : BoxH w.heap.size w1 h) (b : Below w.heap.size w w1) :
    w1.cell? ⟨w.heap.size, 0, none⟩ = some (.int .i64 h.b) ∧ w1.cell? ⟨w.heap.size, 1, none⟩ = some (.int .i64 h.r) ∧ w1.cell? ⟨w.heap.size, 2, none⟩ = some (.int .i64 h.t) ∧
    (∀ k, w1.frozen? ⟨w.heap.size, k, none⟩ = false) ∧ BoxH w.heap.size (((w1.setCell ⟨w.heap.size, 0, none⟩ (.int .i64 g.b)).setCell ⟨w.heap.size, 1, none⟩ (.int .i64 g.r)).setCell ⟨w.heap.size, 2, none⟩ (.int .i64 g.t)) g ∧
    Below w.heap.size w (((w1.setCell ⟨w.heap.size, 0, none⟩ (.int .i64 g.b)).setCell ⟨w.heap.size, 1, none⟩ (.int .i64 g.r)).setCell ⟨w.heap.size, 2, none⟩ (.int .i64 g.t)) :=
  ⟨hb.c0, hb.c1, hb.c2, hb.frozen, hb.lay g, ((b.setCell (p := ⟨w.heap.size, 0, none⟩) (Nat.le_refl _) _).setCell (p := ⟨w.heap.size, 1, none⟩) (Nat.le_refl _) _).setCell (p := ⟨w.heap.size, 2, none⟩) (Nat.le_refl _) _⟩
theorem BoxH.other {B N : Nat} {w : World} {h : Hl} (hb : BoxH B w h) (hne : B ≠ N) (o : Nat) (u : Value) : BoxH B (w.setCell ⟨N, o, none⟩ u) h := by
  unfold BoxH at hb ⊢
  rw [Below.heap_setCell _ _ _ _ hne]; exact hb
/-- Nothing but the reader's block has turned since, or the answer's place was written at last. -/
def LaidH (R B : Nat) (g : Hl) (W w' : World) : Prop := ∃ wm, MostB B W wm ∧ (w' = wm ∨ w' = ((wm.setCell ⟨R, 0, none⟩ (.int .i64 g.b)).setCell ⟨R, 1, none⟩ (.int .i64 g.r)).setCell ⟨R, 2, none⟩ (.int .i64 g.t))
theorem only_most {B base q : Nat} {w w' : World} (h : Only B w w') (hr : Rdr base B q w) : MostB B w w' :=
  ⟨h.os, h.tape, h.output, Nat.le_of_eq h.size.symm, fun k hk hl => h.block k hk⟩
/-- What a draw of a ship gives its law. -/
def DrewH (w : World) (e : Ending) (w' : World) : Prop := ∃ h : Hl, e = .returned (.agg #[.int .i64 h.b, .int .i64 h.r, .int .i64 h.t]) ∧ Below w.heap.size w w'
def DrewH3 (w : World) (e : Ending) (w' : World) : Prop := ∃ (h : Hl) (x y z : Int), e = .returned (.tuple #[.agg #[.int .i64 h.b, .int .i64 h.r, .int .i64 h.t], .int .i64 x, .int .i64 y, .int .i64 z]) ∧ Below w.heap.size w w'
def DrewH1 (w : World) (e : Ending) (w' : World) : Prop := ∃ (h : Hl) (x : Int), e = .returned (.tuple #[.agg #[.int .i64 h.b, .int .i64 h.r, .int .i64 h.t], .int .i64 x]) ∧ Below w.heap.size w w'
set_option maxRecDepth 10000 in
set_option maxHeartbeats 2000000 in
theorem drawSlotMany_any (a : Option Addr) (len cap : Nat) (w : World) (h : IsRow8 w a len cap) :
    Calls Try.prog 12 #[.slice a len cap] w (DrewH w) := by
  have ba : Below w.heap.size w (w.alloc (.cells Hl.zero.cells.toArray 24)) := (Below.refl _ _).alloc (Nat.le_refl _) _
  have ra : BoxH w.heap.size (w.alloc (.cells Hl.zero.cells.toArray 24)) ⟨0, 0, 0⟩ := BoxH.new w ⟨0, 0, 0⟩
  have hz : (w.alloc (.cells Hl.zero.cells.toArray 24)).heap.size = w.heap.size + 1 := by simp
  unfold Hl.cells Hl.zero at ba ra hz
  go_enter Try.func12, Try.ntmps12
  go_wp2_with fail
  refine (open_any a len cap _ (row8_keepS h ba)).mono ?_
  generalize (w.alloc (.cells [Value.int .i64 0, .int .i64 0, .int .i64 0].toArray 24)) = wa at ba ra hz ⊢
  rintro e w1 ⟨rfl, hr, hb, hz1⟩
  generalize wa.heap.size = B at hz hr hb hz1 ⊢
  subst hz
  have r1 := ra.at_ (hb.block w.heap.size (Nat.lt_succ_self _))
  have b1 : Below w.heap.size w w1 := ba.trans (hb.mono (by omega))
  clear h hb ba ra
  go_wp2_with fail
  refine (l20Hull_any _ _ 0 6 w1 hr (by omega) (by omega) (by omega)).mono ?_
  rintro e w2 ⟨hh, q, hq, rfl, hr2, hm⟩
  have r2 := r1.at_ (hm.block w.heap.size (by omega) r1.lt)
  have b2 : Below w.heap.size w w2 := b1.trans (hm.under (by omega) (by have := b1.size; omega))
  clear r1 b1 hr hm
  obtain ⟨d0, d1, d2, e0, y9, B9⟩ := BoxH.end_ hh r2 b2
  have ea := e0 0
  have eb := e0 1
  have ec := e0 2
  have f0 := y9.c0
  have f1 := y9.c1
  have f2 := y9.c2
  clear e0 y9
  go_wp2_with fail
  exact bodyPost_ret (v := .agg #[.int .i64 hh.b, .int .i64 hh.r, .int .i64 hh.t]) (by simp [results, Try.results12, go_sem, f0, f1, f2]) rfl ⟨hh, rfl, B9⟩

set_option maxRecDepth 10000 in
set_option maxHeartbeats 2000000 in
theorem drawSlotOf_any (a : Option Addr) (len cap : Nat) (w : World) (h : IsRow8 w a len cap) :
    Calls Try.prog 17 #[.slice a len cap] w (DrewH3 w) := by
  have ba : Below w.heap.size w (w.alloc (.cells Hl.zero.cells.toArray 24)) := (Below.refl _ _).alloc (Nat.le_refl _) _
  have ra : BoxH w.heap.size (w.alloc (.cells Hl.zero.cells.toArray 24)) ⟨0, 0, 0⟩ := BoxH.new w ⟨0, 0, 0⟩
  have hz : (w.alloc (.cells Hl.zero.cells.toArray 24)).heap.size = w.heap.size + 1 := by simp
  unfold Hl.cells Hl.zero at ba ra hz
  go_enter Try.func17, Try.ntmps17
  go_wp2_with fail
  refine (open_any a len cap _ (row8_keepS h ba)).mono ?_
  generalize (w.alloc (.cells [Value.int .i64 0, .int .i64 0, .int .i64 0].toArray 24)) = wa at ba ra hz ⊢
  rintro e w1 ⟨rfl, hr, hb, hz1⟩
  generalize wa.heap.size = B at hz hr hb hz1 ⊢
  subst hz
  have r1 := ra.at_ (hb.block w.heap.size (Nat.lt_succ_self _))
  have b1 : Below w.heap.size w w1 := ba.trans (hb.mono (by omega))
  clear h hb ba ra
  go_wp2_with fail
  refine (l20Hull_any _ _ 0 9 w1 hr (by omega) (by omega) (by omega)).mono ?_
  rintro e w2 ⟨hh, q, hq, rfl, hr2, hm⟩
  have r2 := r1.at_ (hm.block w.heap.size (by omega) r1.lt)
  have b2 : Below w.heap.size w w2 := b1.trans (hm.under (by omega) (by have := b1.size; omega))
  clear r1 b1 hr hm
  go_wp2_with fail
  refine (pick_any _ _ (q) 5 w2 hr2 (by omega) (by omega)).mono ?_
  rintro e w3 ⟨x2, -, -, rfl, hr3, ho⟩
  have r3 := r2.at_ (ho.block w.heap.size (by omega))
  have b3 : Below w.heap.size w w3 := b2.trans (ho.below (by omega))
  clear r2 b2 hr2 ho
  go_wp2_with fail
  refine (pick_any _ _ (q + 1) 9 w3 hr3 (by omega) (by omega)).mono ?_
  rintro e w4 ⟨x3, -, -, rfl, hr4, ho⟩
  have r4 := r3.at_ (ho.block w.heap.size (by omega))
  have b4 : Below w.heap.size w w4 := b3.trans (ho.below (by omega))
  clear r3 b3 hr3 ho
  go_wp2_with fail
  refine (pick_any _ _ (q + 1 + 1) 4 w4 hr4 (by omega) (by omega)).mono ?_
  rintro e w5 ⟨x4, -, -, rfl, hr5, ho⟩
  have r5 := r4.at_ (ho.block w.heap.size (by omega))
  have b5 : Below w.heap.size w w5 := b4.trans (ho.below (by omega))
  clear r4 b4 hr4 ho
  go_wp2_with fail
  refine (pick_any _ _ (q + 1 + 1 + 1) 9 w5 hr5 (by omega) (by omega)).mono ?_
  rintro e w6 ⟨x5, -, -, rfl, hr6, ho⟩
  have r6 := r5.at_ (ho.block w.heap.size (by omega))
  have b6 : Below w.heap.size w w6 := b5.trans (ho.below (by omega))
  clear r5 b5 hr5 ho
  go_wp2_with fail
  refine (pick_any _ _ (q + 1 + 1 + 1 + 1) 4 w6 hr6 (by omega) (by omega)).mono ?_
  rintro e w7 ⟨x6, -, -, rfl, hr7, ho⟩
  have r7 := r6.at_ (ho.block w.heap.size (by omega))
  have b7 : Below w.heap.size w w7 := b6.trans (ho.below (by omega))
  clear r6 b6 hr6 ho
  go_wp2_with fail
  refine (pick_any _ _ (q + 1 + 1 + 1 + 1 + 1) 9 w7 hr7 (by omega) (by omega)).mono ?_
  rintro e w8 ⟨x7, -, -, rfl, hr8, ho⟩
  have r8 := r7.at_ (ho.block w.heap.size (by omega))
  have b8 : Below w.heap.size w w8 := b7.trans (ho.below (by omega))
  clear r7 b7 hr7 ho
  obtain ⟨d0, d1, d2, e0, y9, B9⟩ := BoxH.end_ hh r8 b8
  have ea := e0 0
  have eb := e0 1
  have ec := e0 2
  have f0 := y9.c0
  have f1 := y9.c1
  have f2 := y9.c2
  clear e0 y9
  go_wp2_with fail
  exact bodyPost_ret (v := .tuple #[.agg #[.int .i64 hh.b, .int .i64 hh.r, .int .i64 hh.t], .int .i64 (wrap64 (x2 - wrap64 (x3.tdiv 8))), .int .i64 (wrap64 (x4 - wrap64 (x5.tdiv 8))), .int .i64 (wrap64 (x6 - wrap64 (x7.tdiv 8)))]) (by simp [results, Try.results17, go_sem, f0, f1, f2]) rfl ⟨hh, _, _, _, rfl, B9⟩

set_option maxRecDepth 10000 in
set_option maxHeartbeats 2000000 in
theorem drawPlaceOf_any (a : Option Addr) (len cap : Nat) (w : World) (h : IsRow8 w a len cap) :
    Calls Try.prog 20 #[.slice a len cap] w (DrewH1 w) := by
  have ba : Below w.heap.size w (w.alloc (.cells Hl.zero.cells.toArray 24)) := (Below.refl _ _).alloc (Nat.le_refl _) _
  have ra : BoxH w.heap.size (w.alloc (.cells Hl.zero.cells.toArray 24)) ⟨0, 0, 0⟩ := BoxH.new w ⟨0, 0, 0⟩
  have hz : (w.alloc (.cells Hl.zero.cells.toArray 24)).heap.size = w.heap.size + 1 := by simp
  unfold Hl.cells Hl.zero at ba ra hz
  go_enter Try.func20, Try.ntmps20
  go_wp2_with fail
  refine (open_any a len cap _ (row8_keepS h ba)).mono ?_
  generalize (w.alloc (.cells [Value.int .i64 0, .int .i64 0, .int .i64 0].toArray 24)) = wa at ba ra hz ⊢
  rintro e w1 ⟨rfl, hr, hb, hz1⟩
  generalize wa.heap.size = B at hz hr hb hz1 ⊢
  subst hz
  have r1 := ra.at_ (hb.block w.heap.size (Nat.lt_succ_self _))
  have b1 : Below w.heap.size w w1 := ba.trans (hb.mono (by omega))
  clear h hb ba ra
  go_wp2_with fail
  refine (l20Hull_any _ _ 0 9 w1 hr (by omega) (by omega) (by omega)).mono ?_
  rintro e w2 ⟨hh, q, hq, rfl, hr2, hm⟩
  have r2 := r1.at_ (hm.block w.heap.size (by omega) r1.lt)
  have b2 : Below w.heap.size w w2 := b1.trans (hm.under (by omega) (by have := b1.size; omega))
  clear r1 b1 hr hm
  have b3 : Below w2.heap.size w2 (w2.alloc (.cells #[.int .i64 hh.b, .int .i64 hh.r, .int .i64 hh.t] 24)) := (Below.refl _ _).alloc (Nat.le_refl _) _
  have y3 := BoxH.new w2 hh
  have r3 := r2.at_ (b3.block _ r2.lt)
  have c3 := b2.trans (b3.mono b2.size)
  have hr3 := hr2.keepK b3 hr2.2.1
  have hz2 : w2.heap.size + 1 = (w2.alloc (.cells #[.int .i64 hh.b, .int .i64 hh.r, .int .i64 hh.t] 24)).heap.size := by simp
  have hYB : w.heap.size + 1 < w2.heap.size := hr2.2.1
  generalize hW3 : w2.alloc (.cells #[.int .i64 hh.b, .int .i64 hh.r, .int .i64 hh.t] 24) = W3 at y3 r3 c3 hr3 hz2
  have HW3 := Lib.hid hW3
  clear hW3 hr2 b3 r2 b2
  go_wp2_with fail
  rw [HW3.out]
  generalize w2.heap.size = Y at y3 hYB hz2
  clear HW3
  have hsm : -1 ≤ slMany hh ∧ slMany hh ≤ 36 := by
    cases hk : hlOk hh
    · rw [slMany_bad hk]; omega
    · have := slMany_bd hk; omega
  have HM := Lib.hid fun w' => specSlotMany_any hh w'
  have YK := Lib.hid fun (w' : World) (hs : MostB (w.heap.size + 1) W3 w') => (show w'.cell? ⟨Y, 0, none⟩ = some (.int .i64 hh.b) ∧ w'.cell? ⟨Y, 1, none⟩ = some (.int .i64 hh.r) ∧ w'.cell? ⟨Y, 2, none⟩ = some (.int .i64 hh.t) ∧ LaidH w.heap.size (w.heap.size + 1) hh W3 w' from
    have q := y3.at_ (hs.block Y (by omega) y3.lt); ⟨q.c0, q.c1, q.c2, w', hs, .inl rfl⟩)
  have YL := Lib.hid fun (wm : World) (hs : MostB (w.heap.size + 1) W3 wm) => (show (((wm.setCell ⟨w.heap.size, 0, none⟩ (.int .i64 hh.b)).setCell ⟨w.heap.size, 1, none⟩ (.int .i64 hh.r)).setCell ⟨w.heap.size, 2, none⟩ (.int .i64 hh.t)).cell? ⟨Y, 0, none⟩ = some (.int .i64 hh.b) ∧ (((wm.setCell ⟨w.heap.size, 0, none⟩ (.int .i64 hh.b)).setCell ⟨w.heap.size, 1, none⟩ (.int .i64 hh.r)).setCell ⟨w.heap.size, 2, none⟩ (.int .i64 hh.t)).cell? ⟨Y, 1, none⟩ = some (.int .i64 hh.r) ∧ (((wm.setCell ⟨w.heap.size, 0, none⟩ (.int .i64 hh.b)).setCell ⟨w.heap.size, 1, none⟩ (.int .i64 hh.r)).setCell ⟨w.heap.size, 2, none⟩ (.int .i64 hh.t)).cell? ⟨Y, 2, none⟩ = some (.int .i64 hh.t) ∧ LaidH w.heap.size (w.heap.size + 1) hh W3 (((wm.setCell ⟨w.heap.size, 0, none⟩ (.int .i64 hh.b)).setCell ⟨w.heap.size, 1, none⟩ (.int .i64 hh.r)).setCell ⟨w.heap.size, 2, none⟩ (.int .i64 hh.t)) from
    have q := (((y3.at_ (hs.block Y (by omega) y3.lt)).other (by omega) 0 _).other (by omega) 1 _).other (by omega) 2 _; ⟨q.c0, q.c1, q.c2, wm, hs, .inr rfl⟩)
  have RK := Lib.hid fun (w' : World) (hs : MostB (w.heap.size + 1) W3 w') => r3.at_ (hs.block w.heap.size (by omega) r3.lt)
  have CK := Lib.hid fun (w' : World) (hs : MostB (w.heap.size + 1) W3 w') => c3.trans (hs.under (by omega) c3.size)
  have hmd : MostB (w.heap.size + 1) W3 W3.drew := (MostB.refl _ _).below_ ((Below.refl _ _).drew)
  have HMD := Lib.hid hmd
  have hstart := YK.out _ hmd
  have HR := Lib.hid (hr3.keepK (Below.refl W3.heap.size W3).drew hr3.2.1)
  generalize slMany hh = sm at HM hsm
  clear y3 r3 c3 hr3 hmd
  obtain ⟨m, hm0, hm1, hmax⟩ : ∃ m : Int, 1 ≤ m ∧ m ≤ 36 ∧ ((1 ≤ sm ∧ m = sm) ∨ (sm < 1 ∧ m = 1)) := by
    rcases Int.lt_or_le sm 1 with h | h
    · exact ⟨1, by omega, by omega, .inr ⟨h, rfl⟩⟩
    · exact ⟨sm, h, hsm.2, .inl ⟨h, rfl⟩⟩
  have P1 := Lib.hid fun w' (n : Int) (hn : 1 ≤ n) (hr : Rdr (w.heap.size + 1) (w.heap.size + 1) q w') => pick_any (w.heap.size + 1) (w.heap.size + 1) q n w' hr (by omega) hn
  have P2 := Lib.hid fun w' (hr : Rdr (w.heap.size + 1) (w.heap.size + 1) (q + 1) w') => pick_any (w.heap.size + 1) (w.heap.size + 1) (q + 1) 12 w' hr (by omega) (by omega)
  have zm : IntKind.i64.wrap (m + 1) = m + 1 := IntWalk.i64_in _ (by omega)
  rcases hmax with ⟨hs1, e⟩ | ⟨hs1, e⟩
  · subst e
    have N1 := Lib.hid (show 1 ≤ IntKind.i64.wrap ((if m < 1 then 1 else m) + 1) by rw [if_neg (by omega), zm]; omega)
    go_region_held3 (fun w' => w'.cell? ⟨Y, 0, none⟩ = some (.int .i64 hh.b) ∧ w'.cell? ⟨Y, 1, none⟩ = some (.int .i64 hh.r) ∧ w'.cell? ⟨Y, 2, none⟩ = some (.int .i64 hh.t) ∧ LaidH w.heap.size (w.heap.size + 1) hh W3 w')
      (first | exact hstart | exact YK.out _ m4.out | exact YK.out _ m5.out | exact YK.out _ m6.out | exact YL.out _ m6.out | fail)
      (first
        | (go_at_call 14; ((with_reducible refine (HM.out _).mono ?_); rintro e w4 ⟨rfl, b4⟩; have m4 := Lib.hid (HMD.out.below_ b4); have R4 := Lib.hid (Rdr.keepK HR.out b4 HR.out.2.1)))
        | (go_at_call 32; ((with_reducible refine (P1.out w4 _ N1.out R4.out).mono ?_); rintro e w5 ⟨x5, -, -, rfl, hr5, o5⟩; have m5 := Lib.hid (m4.out.trans (only_most o5 R4.out)); have R5 := Lib.hid hr5; clear hr5 o5))
        | (go_at_call 32; ((with_reducible refine (P2.out w5 R5.out).mono ?_); rintro e w6 ⟨x6, -, -, rfl, hr6, o6⟩; have m6 := Lib.hid (m5.out.trans (only_most o6 R5.out)); have d0 := (RK.out _ m6.out).c0; have d1 := (RK.out _ m6.out).c1; have d2 := (RK.out _ m6.out).c2; have ea := (RK.out _ m6.out).frozen 0; have eb := (RK.out _ m6.out).frozen 1; have ec := (RK.out _ m6.out).frozen 2; clear hr6 o6))
        | fail)
    obtain ⟨-, -, -, -, y9, B9⟩ := BoxH.end_ hh (RK.out _ m6.out) (CK.out _ m6.out)
    have f0 := y9.c0
    have f1 := y9.c1
    have f2 := y9.c2
    clear y9 d0 d1 d2 ea eb ec
    go_wp2_with fail
    exact bodyPost_ret (v := .tuple #[.agg #[.int .i64 hh.b, .int .i64 hh.r, .int .i64 hh.t], .int .i64 (IntKind.i64.wrap (x5 - IntKind.i64.wrap (x6.tdiv 11)))]) (by simp [results, Try.results20, go_sem, f0, f1, f2]) rfl ⟨hh, _, rfl, B9⟩
  · subst e
    have N1 := Lib.hid (show 1 ≤ IntKind.i64.wrap 2 by decide)
    go_region_held3 (fun w' => w'.cell? ⟨Y, 0, none⟩ = some (.int .i64 hh.b) ∧ w'.cell? ⟨Y, 1, none⟩ = some (.int .i64 hh.r) ∧ w'.cell? ⟨Y, 2, none⟩ = some (.int .i64 hh.t) ∧ LaidH w.heap.size (w.heap.size + 1) hh W3 w')
      (first | exact hstart | exact YK.out _ m4.out | exact YK.out _ m5.out | exact YK.out _ m6.out | exact YL.out _ m6.out | fail)
      (first
        | (go_at_call 14; ((with_reducible refine (HM.out _).mono ?_); rintro e w4 ⟨rfl, b4⟩; have m4 := Lib.hid (HMD.out.below_ b4); have R4 := Lib.hid (Rdr.keepK HR.out b4 HR.out.2.1)))
        | (go_at_call 32; ((with_reducible refine (P1.out w4 _ N1.out R4.out).mono ?_); rintro e w5 ⟨x5, -, -, rfl, hr5, o5⟩; have m5 := Lib.hid (m4.out.trans (only_most o5 R4.out)); have R5 := Lib.hid hr5; clear hr5 o5))
        | (go_at_call 32; ((with_reducible refine (P2.out w5 R5.out).mono ?_); rintro e w6 ⟨x6, -, -, rfl, hr6, o6⟩; have m6 := Lib.hid (m5.out.trans (only_most o6 R5.out)); have d0 := (RK.out _ m6.out).c0; have d1 := (RK.out _ m6.out).c1; have d2 := (RK.out _ m6.out).c2; have ea := (RK.out _ m6.out).frozen 0; have eb := (RK.out _ m6.out).frozen 1; have ec := (RK.out _ m6.out).frozen 2; clear hr6 o6))
        | fail)
    obtain ⟨-, -, -, -, y9, B9⟩ := BoxH.end_ hh (RK.out _ m6.out) (CK.out _ m6.out)
    have f0 := y9.c0
    have f1 := y9.c1
    have f2 := y9.c2
    clear y9 d0 d1 d2 ea eb ec
    go_wp2_with fail
    exact bodyPost_ret (v := .tuple #[.agg #[.int .i64 hh.b, .int .i64 hh.r, .int .i64 hh.t], .int .i64 (IntKind.i64.wrap (x5 - IntKind.i64.wrap (x6.tdiv 11)))]) (by simp [results, Try.results20, go_sem, f0, f1, f2]) rfl ⟨hh, _, rfl, B9⟩

set_option maxRecDepth 10000 in
set_option maxHeartbeats 2000000 in
theorem drawSlotBelow_any (a : Option Addr) (len cap : Nat) (w : World) (h : IsRow8 w a len cap) :
    Calls Try.prog 22 #[.slice a len cap] w (DrewH1 w) := by
  have ba : Below w.heap.size w (w.alloc (.cells #[.int .i64 0, .int .i64 0, .int .i64 0] 24)) := (Below.refl _ _).alloc (Nat.le_refl _) _
  have ra : BoxH w.heap.size (w.alloc (.cells #[.int .i64 0, .int .i64 0, .int .i64 0] 24)) ⟨0, 0, 0⟩ := BoxH.new w ⟨0, 0, 0⟩
  have HD := Lib.hid (drawPlaceOf_any a len cap _ (row8_keepS h ba))
  unfold DrewH1 at HD
  clear h
  go_enter Try.func22, Try.ntmps22
  go_wp2_with fail
  refine HD.out.mono ?_
  rintro e w5 ⟨hh, x, rfl, b5⟩
  have r5 := ra.keep b5
  have c5 : Below w.heap.size w w5 := ba.trans (b5.mono (by simp))
  obtain ⟨d0, d1, d2, e0, y9, B9⟩ := BoxH.end_ hh r5 c5
  have ea := e0 0
  have eb := e0 1
  have ec := e0 2
  have f0 := y9.c0
  have f1 := y9.c1
  have f2 := y9.c2
  clear e0 y9 ra ba b5 r5 c5 HD
  go_wp2_with fail
  exact bodyPost_ret (v := .tuple #[.agg #[.int .i64 hh.b, .int .i64 hh.r, .int .i64 hh.t], .int .i64 x]) (by simp [results, Try.results22, go_sem, f0, f1, f2]) rfl ⟨hh, _, rfl, B9⟩
end Go.Proofs.Ytmfdibjobgfgbaa
