/-
  Stage 6's draws: a ship, and places or slots of it.
  Stage 7's draws: a ship, boxes and a plan; numbers besides.
-/
import Derived.Test.YtbaebamiiigmlaaSlD
import Derived.Deep.RegionHeld3
import Derived.Test.YtbaebamiiigmlaaPlD
namespace Go.Proofs.Ytbaebamiiigmlaa
open Go.RowKit
set_option linter.unusedVariables false

theorem row8_keepS {w w' : World} {a : Option Addr} {len cap : Nat} (h : IsRow8 w a len cap) (hb : Below w.heap.size w w') : IsRow8 w' a len cap := by
  rcases h with h | ⟨x, h1, h2, h3, h4⟩
  · exact .inl h
  · refine .inr ⟨x, h1, h2, h3, fun i hi => ?_⟩
    obtain ⟨c, c0, c1, hc⟩ := h4 i hi
    have hlt : (x.add i).block < w.heap.size := by
      rcases Nat.lt_or_ge (x.add i).block w.heap.size with h' | h'
      · exact h'
      · rw [World.cell?, Array.getElem?_eq_none h'] at hc; cases hc
    exact ⟨c, c0, c1, (hb.cell hlt).trans hc⟩
theorem BoxH.at_ {B : Nat} {w w' : World} {h : Hl} (hb : BoxH B w h) (hk : w'.heap[B]? = w.heap[B]?) : BoxH B w' h := by unfold BoxH at hb ⊢; rw [hk]; exact hb
theorem BoxH.frozen {B : Nat} {w : World} {h : Hl} (hb : BoxH B w h) (k : Nat) : w.frozen? ⟨B, k, none⟩ = false := by unfold BoxH at hb; simp [World.frozen?, hb]
theorem BoxH.lay {B : Nat} {w : World} {h : Hl} (hb : BoxH B w h) (g : Hl) : BoxH B (((w.setCell ⟨B, 0, none⟩ (.int .i64 g.b)).setCell ⟨B, 1, none⟩ (.int .i64 g.r)).setCell ⟨B, 2, none⟩ (.int .i64 g.t)) g := by
  unfold BoxH at hb ⊢
  rw [Joins.block_setCell (i := 2) (Joins.block_setCell (i := 1) (Joins.block_setCell (i := 0) hb _) _) _]; rfl
/-- The answer's place that a ship is laid into. -/
theorem BoxH.end_ {w w1 : World} {h : Hl} (g : Hl) (hb : BoxH w.heap.size w1 h) (b : Below w.heap.size w w1) :
    w1.cell? ⟨w.heap.size, 0, none⟩ = some (.int .i64 h.b) ∧ w1.cell? ⟨w.heap.size, 1, none⟩ = some (.int .i64 h.r) ∧ w1.cell? ⟨w.heap.size, 2, none⟩ = some (.int .i64 h.t) ∧
    (∀ k, w1.frozen? ⟨w.heap.size, k, none⟩ = false) ∧ BoxH w.heap.size (((w1.setCell ⟨w.heap.size, 0, none⟩ (.int .i64 g.b)).setCell ⟨w.heap.size, 1, none⟩ (.int .i64 g.r)).setCell ⟨w.heap.size, 2, none⟩ (.int .i64 g.t)) g ∧
    Below w.heap.size w (((w1.setCell ⟨w.heap.size, 0, none⟩ (.int .i64 g.b)).setCell ⟨w.heap.size, 1, none⟩ (.int .i64 g.r)).setCell ⟨w.heap.size, 2, none⟩ (.int .i64 g.t)) :=
  ⟨hb.c0, hb.c1, hb.c2, hb.frozen, hb.lay g, ((b.setCell (p := ⟨w.heap.size, 0, none⟩) (Nat.le_refl _) _).setCell (p := ⟨w.heap.size, 1, none⟩) (Nat.le_refl _) _).setCell (p := ⟨w.heap.size, 2, none⟩) (Nat.le_refl _) _⟩
theorem BoxH.other {B N : Nat} {w : World} {h : Hl} (hb : BoxH B w h) (hne : B ≠ N) (o : Nat) (u : Value) : BoxH B (w.setCell ⟨N, o, none⟩ u) h := by
  unfold BoxH at hb ⊢
  rw [Below.heap_setCell _ _ _ _ hne]; exact hb
/-- Nothing but the reader's block has turned since, or the answer's place was written at last. -/
def LaidH (R B : Nat) (g : Hl) (W w' : World) : Prop := ∃ wm, MostB B W wm ∧ (w' = wm ∨ w' = ((wm.setCell ⟨R, 0, none⟩ (.int .i64 g.b)).setCell ⟨R, 1, none⟩ (.int .i64 g.r)).setCell ⟨R, 2, none⟩ (.int .i64 g.t))
theorem only_most {B base q : Nat} {w w' : World} (h : Only B w w') (hr : Rdr base B q w) : MostB B w w' :=
  ⟨h.os, h.tape, h.output, Nat.le_of_eq h.size.symm, fun k hk hl => h.block k hk⟩
/-- What a draw of a ship gives its law. -/
def DrewH (w : World) (e : Ending) (w' : World) : Prop := ∃ h : Hl, e = .returned (.agg #[.int .i64 h.b, .int .i64 h.r, .int .i64 h.t]) ∧ Below w.heap.size w w'
def DrewH3 (w : World) (e : Ending) (w' : World) : Prop := ∃ (h : Hl) (x y z : Int), e = .returned (.tuple #[.agg #[.int .i64 h.b, .int .i64 h.r, .int .i64 h.t], .int .i64 x, .int .i64 y, .int .i64 z]) ∧ Below w.heap.size w w'
def DrewH1 (w : World) (e : Ending) (w' : World) : Prop := ∃ (h : Hl) (x : Int), e = .returned (.tuple #[.agg #[.int .i64 h.b, .int .i64 h.r, .int .i64 h.t], .int .i64 x]) ∧ Below w.heap.size w w'
end Go.Proofs.Ytbaebamiiigmlaa
namespace Go.Proofs.Ytbaebamiiigmlaa
open Go.RowKit
set_option linter.unusedVariables false

/-- What a draw of a ship, boxes and a plan gives its law; with numbers besides. -/
def DrewP (w : World) (xs : List Value) (e : Ending) (w' : World) : Prop :=
  ∃ (h : Hl) (l : List Bx) (pl : List Int) (u v : Value), l.length ≤ 40 ∧ pl.length ≤ 40 ∧ e = .returned (.tuple (#[.agg #[.int .i64 h.b, .int .i64 h.r, .int .i64 h.t], u, v] ++ xs.toArray)) ∧ NewBx w.heap.size w' u l ∧ OwnI w.heap.size w' v pl ∧ Below w.heap.size w w'
def DrewP0 (w : World) (e : Ending) (w' : World) : Prop := DrewP w [] e w'
def DrewP1 (w : World) (e : Ending) (w' : World) : Prop := ∃ x : Int, DrewP w [.int .i64 x] e w'
def DrewP2 (w : World) (e : Ending) (w' : World) : Prop := ∃ x y : Int, DrewP w [.int .i64 x, .int .i64 y] e w'
theorem Only3 (R : Nat) (w : World) (a b c : Value) : MostB R w (((w.setCell ⟨R, 0, none⟩ a).setCell ⟨R, 1, none⟩ b).setCell ⟨R, 2, none⟩ c) :=
  (((Only.set R 0 w a).trans (Only.set R 1 _ b)).trans (Only.set R 2 _ c)).mostB

set_option maxHeartbeats 1000000 in
theorem l20Slot_any (base B q : Nat) (v : Value) (pl : List Int) (w : World) (h : Rdr base B q w) (hq : q ≤ 100000) (hv : HoldsI w v pl) (hl : pl.length ≤ 40) :
    Calls Try.prog 71 #[.pointer (some ⟨B, 0, none⟩), v] w fun e w' => ∃ x : Int, e = .returned (.int .i64 x) ∧ Rdr base B (q + 1 + 1) w' ∧ Only B w w' := by
  obtain ⟨a, c, rfl⟩ := hv.form
  have z1 : IntKind.i64.wrap ((pl.length : Int) + 1) = (pl.length : Int) + 1 := IntWalk.i64_in _ (by omega)
  go_enter Try.func71, Try.ntmps71
  go_wp2_with fail
  refine (pick_any base B q ((pl.length : Int) + 1) w h (by omega) (by omega)).mono ?_
  rintro e w1 ⟨x, x0, x1, rfl, h1, o1⟩
  go_wp2_with fail
  refine (pick_any base B (q + 1) 20 w1 h1 (by omega) (by omega)).mono ?_
  rintro e w2 ⟨y, y0, y1, rfl, h2, o2⟩
  have oo := o1.trans o2
  clear h1 o1 o2 h hv
  go_wp2_with fail
  go_ret
  exact ⟨_, rfl, h2, oo⟩

set_option maxRecDepth 10000 in
set_option maxHeartbeats 2000000 in
theorem drawPlanValid_any (a : Option Addr) (len cap : Nat) (w : World) (h : IsRow8 w a len cap) :
    Calls Try.prog 16 #[.slice a len cap] w (DrewP0 w) := by
  have ba : Below w.heap.size w (w.alloc (.cells Hl.zero.cells.toArray 24)) := (Below.refl _ _).alloc (Nat.le_refl _) _
  have ra : BoxH w.heap.size (w.alloc (.cells Hl.zero.cells.toArray 24)) ⟨0, 0, 0⟩ := BoxH.new w ⟨0, 0, 0⟩
  have hz : (w.alloc (.cells Hl.zero.cells.toArray 24)).heap.size = w.heap.size + 1 := by simp
  unfold Hl.cells Hl.zero at ba ra hz
  go_enter Try.func16, Try.ntmps16
  go_wp2_with fail
  refine (open_any a len cap _ (row8_keepS h ba)).mono ?_
  generalize (w.alloc (.cells [Value.int .i64 0, .int .i64 0, .int .i64 0].toArray 24)) = wa at ba ra hz ⊢
  rintro e w1 ⟨rfl, hr, hb, hz1⟩
  generalize wa.heap.size = B at hz hr hb hz1 ⊢
  subst hz
  have r1 := ra.at_ (hb.block w.heap.size (Nat.lt_succ_self _))
  have b1 : Below w.heap.size w w1 := ba.trans (hb.mono (by omega))
  clear h hb ba ra
  go_wp2_with fail
  refine (l20Plan_any _ _ 0 10 1 w1 hr (by omega) (by omega) (by omega) (by omega) (by omega)).mono ?_
  rintro e w2 ⟨hh, l, pl, u, v, q, hq, hl40, hp40, rfl, NB, OW, hr2, hm⟩
  have r2 := r1.at_ (hm.block w.heap.size (by omega) r1.lt)
  have b2 : Below w.heap.size w w2 := b1.trans (hm.under (by omega) (by have := b1.size; omega))
  clear r1 b1 hr hm
  obtain ⟨d0, d1, d2, e0, -, -⟩ := BoxH.end_ hh r2 b2
  have ea := e0 0
  have eb := e0 1
  have ec := e0 2
  clear e0
  obtain ⟨-, -, -, -, y9, B9⟩ := BoxH.end_ hh r2 b2
  have f0 := y9.c0
  have f1 := y9.c1
  have f2 := y9.c2
  have m9 := Only3 w.heap.size w2 (.int .i64 hh.b) (.int .i64 hh.r) (.int .i64 hh.t)
  have U9 := (NB.most m9 (by omega)).from_ (show w.heap.size ≤ w1.heap.size by omega)
  have V9 := (OW.most m9 (by omega)).from_ (show w.heap.size ≤ w1.heap.size by omega)
  clear y9 m9 
  go_wp2_with fail
  exact bodyPost_ret (v := .tuple #[.agg #[.int .i64 hh.b, .int .i64 hh.r, .int .i64 hh.t], u, v]) (by simp [results, Try.results16, go_sem, f0, f1, f2]) rfl ⟨hh, l, pl, _, _, hl40, hp40, rfl, U9, V9, B9⟩

set_option maxRecDepth 10000 in
set_option maxHeartbeats 2000000 in
theorem drawPlanIds_any (a : Option Addr) (len cap : Nat) (w : World) (h : IsRow8 w a len cap) :
    Calls Try.prog 39 #[.slice a len cap] w (DrewP0 w) := by
  have ba : Below w.heap.size w (w.alloc (.cells Hl.zero.cells.toArray 24)) := (Below.refl _ _).alloc (Nat.le_refl _) _
  have ra : BoxH w.heap.size (w.alloc (.cells Hl.zero.cells.toArray 24)) ⟨0, 0, 0⟩ := BoxH.new w ⟨0, 0, 0⟩
  have hz : (w.alloc (.cells Hl.zero.cells.toArray 24)).heap.size = w.heap.size + 1 := by simp
  unfold Hl.cells Hl.zero at ba ra hz
  go_enter Try.func39, Try.ntmps39
  go_wp2_with fail
  refine (open_any a len cap _ (row8_keepS h ba)).mono ?_
  generalize (w.alloc (.cells [Value.int .i64 0, .int .i64 0, .int .i64 0].toArray 24)) = wa at ba ra hz ⊢
  rintro e w1 ⟨rfl, hr, hb, hz1⟩
  generalize wa.heap.size = B at hz hr hb hz1 ⊢
  subst hz
  have r1 := ra.at_ (hb.block w.heap.size (Nat.lt_succ_self _))
  have b1 : Below w.heap.size w w1 := ba.trans (hb.mono (by omega))
  clear h hb ba ra
  go_wp2_with fail
  refine (l20Plan_any _ _ 0 10 3 w1 hr (by omega) (by omega) (by omega) (by omega) (by omega)).mono ?_
  rintro e w2 ⟨hh, l, pl, u, v, q, hq, hl40, hp40, rfl, NB, OW, hr2, hm⟩
  have r2 := r1.at_ (hm.block w.heap.size (by omega) r1.lt)
  have b2 : Below w.heap.size w w2 := b1.trans (hm.under (by omega) (by have := b1.size; omega))
  clear r1 b1 hr hm
  obtain ⟨d0, d1, d2, e0, -, -⟩ := BoxH.end_ hh r2 b2
  have ea := e0 0
  have eb := e0 1
  have ec := e0 2
  clear e0
  obtain ⟨-, -, -, -, y9, B9⟩ := BoxH.end_ hh r2 b2
  have f0 := y9.c0
  have f1 := y9.c1
  have f2 := y9.c2
  have m9 := Only3 w.heap.size w2 (.int .i64 hh.b) (.int .i64 hh.r) (.int .i64 hh.t)
  have U9 := (NB.most m9 (by omega)).from_ (show w.heap.size ≤ w1.heap.size by omega)
  have V9 := (OW.most m9 (by omega)).from_ (show w.heap.size ≤ w1.heap.size by omega)
  clear y9 m9 
  go_wp2_with fail
  exact bodyPost_ret (v := .tuple #[.agg #[.int .i64 hh.b, .int .i64 hh.r, .int .i64 hh.t], u, v]) (by simp [results, Try.results39, go_sem, f0, f1, f2]) rfl ⟨hh, l, pl, _, _, hl40, hp40, rfl, U9, V9, B9⟩

set_option maxRecDepth 10000 in
set_option maxHeartbeats 2000000 in
theorem drawPlanNext_any (a : Option Addr) (len cap : Nat) (w : World) (h : IsRow8 w a len cap) :
    Calls Try.prog 42 #[.slice a len cap] w (DrewP0 w) := by
  have ba : Below w.heap.size w (w.alloc (.cells Hl.zero.cells.toArray 24)) := (Below.refl _ _).alloc (Nat.le_refl _) _
  have ra : BoxH w.heap.size (w.alloc (.cells Hl.zero.cells.toArray 24)) ⟨0, 0, 0⟩ := BoxH.new w ⟨0, 0, 0⟩
  have hz : (w.alloc (.cells Hl.zero.cells.toArray 24)).heap.size = w.heap.size + 1 := by simp
  unfold Hl.cells Hl.zero at ba ra hz
  go_enter Try.func42, Try.ntmps42
  go_wp2_with fail
  refine (open_any a len cap _ (row8_keepS h ba)).mono ?_
  generalize (w.alloc (.cells [Value.int .i64 0, .int .i64 0, .int .i64 0].toArray 24)) = wa at ba ra hz ⊢
  rintro e w1 ⟨rfl, hr, hb, hz1⟩
  generalize wa.heap.size = B at hz hr hb hz1 ⊢
  subst hz
  have r1 := ra.at_ (hb.block w.heap.size (Nat.lt_succ_self _))
  have b1 : Below w.heap.size w w1 := ba.trans (hb.mono (by omega))
  clear h hb ba ra
  go_wp2_with fail
  refine (l20Plan_any _ _ 0 10 3 w1 hr (by omega) (by omega) (by omega) (by omega) (by omega)).mono ?_
  rintro e w2 ⟨hh, l, pl, u, v, q, hq, hl40, hp40, rfl, NB, OW, hr2, hm⟩
  have r2 := r1.at_ (hm.block w.heap.size (by omega) r1.lt)
  have b2 : Below w.heap.size w w2 := b1.trans (hm.under (by omega) (by have := b1.size; omega))
  clear r1 b1 hr hm
  obtain ⟨d0, d1, d2, e0, -, -⟩ := BoxH.end_ hh r2 b2
  have ea := e0 0
  have eb := e0 1
  have ec := e0 2
  clear e0
  obtain ⟨-, -, -, -, y9, B9⟩ := BoxH.end_ hh r2 b2
  have f0 := y9.c0
  have f1 := y9.c1
  have f2 := y9.c2
  have m9 := Only3 w.heap.size w2 (.int .i64 hh.b) (.int .i64 hh.r) (.int .i64 hh.t)
  have U9 := (NB.most m9 (by omega)).from_ (show w.heap.size ≤ w1.heap.size by omega)
  have V9 := (OW.most m9 (by omega)).from_ (show w.heap.size ≤ w1.heap.size by omega)
  clear y9 m9 
  go_wp2_with fail
  exact bodyPost_ret (v := .tuple #[.agg #[.int .i64 hh.b, .int .i64 hh.r, .int .i64 hh.t], u, v]) (by simp [results, Try.results42, go_sem, f0, f1, f2]) rfl ⟨hh, l, pl, _, _, hl40, hp40, rfl, U9, V9, B9⟩

set_option maxRecDepth 10000 in
set_option maxHeartbeats 2000000 in
theorem drawPlanFind_any (a : Option Addr) (len cap : Nat) (w : World) (h : IsRow8 w a len cap) :
    Calls Try.prog 28 #[.slice a len cap] w (DrewP1 w) := by
  have ba : Below w.heap.size w (w.alloc (.cells Hl.zero.cells.toArray 24)) := (Below.refl _ _).alloc (Nat.le_refl _) _
  have ra : BoxH w.heap.size (w.alloc (.cells Hl.zero.cells.toArray 24)) ⟨0, 0, 0⟩ := BoxH.new w ⟨0, 0, 0⟩
  have hz : (w.alloc (.cells Hl.zero.cells.toArray 24)).heap.size = w.heap.size + 1 := by simp
  unfold Hl.cells Hl.zero at ba ra hz
  go_enter Try.func28, Try.ntmps28
  go_wp2_with fail
  refine (open_any a len cap _ (row8_keepS h ba)).mono ?_
  generalize (w.alloc (.cells [Value.int .i64 0, .int .i64 0, .int .i64 0].toArray 24)) = wa at ba ra hz ⊢
  rintro e w1 ⟨rfl, hr, hb, hz1⟩
  generalize wa.heap.size = B at hz hr hb hz1 ⊢
  subst hz
  have r1 := ra.at_ (hb.block w.heap.size (Nat.lt_succ_self _))
  have b1 : Below w.heap.size w w1 := ba.trans (hb.mono (by omega))
  clear h hb ba ra
  go_wp2_with fail
  refine (l20Plan_any _ _ 0 10 4 w1 hr (by omega) (by omega) (by omega) (by omega) (by omega)).mono ?_
  rintro e w2 ⟨hh, l, pl, u, v, q, hq, hl40, hp40, rfl, NB, OW, hr2, hm⟩
  have r2 := r1.at_ (hm.block w.heap.size (by omega) r1.lt)
  have b2 : Below w.heap.size w w2 := b1.trans (hm.under (by omega) (by have := b1.size; omega))
  clear r1 b1 hr hm
  have b3 : Below w2.heap.size w2 (w2.alloc (.cells #[.int .i64 hh.b, .int .i64 hh.r, .int .i64 hh.t] 24)) := (Below.refl _ _).alloc (Nat.le_refl _) _
  have y3 := BoxH.new w2 hh
  have r3 := r2.at_ (b3.block _ r2.lt)
  have c3 := b2.trans (b3.mono b2.size)
  have NB3 := NB.most (MostB.below_ (MostB.refl (w.heap.size + 1) w2) b3) (by omega)
  have OW3 := OW.most (MostB.below_ (MostB.refl (w.heap.size + 1) w2) b3) (by omega)
  have hr3 := hr2.keepK b3 hr2.2.1
  have hz2 : w2.heap.size + 1 = (w2.alloc (.cells #[.int .i64 hh.b, .int .i64 hh.r, .int .i64 hh.t] 24)).heap.size := by simp
  have hYB : w.heap.size + 1 < w2.heap.size := hr2.2.1
  generalize hW3 : w2.alloc (.cells #[.int .i64 hh.b, .int .i64 hh.r, .int .i64 hh.t] 24) = W3 at y3 r3 c3 hr3 hz2 NB3 OW3
  have HW3 := Lib.hid hW3
  clear hW3 hr2 b3 r2 b2 NB OW
  go_wp2_with fail
  rw [HW3.out]
  generalize w2.heap.size = Y at y3 hYB hz2
  clear HW3
  have YK := Lib.hid fun (w' : World) (hs : MostB (w.heap.size + 1) W3 w') => (show w'.cell? ⟨Y, 0, none⟩ = some (.int .i64 hh.b) ∧ w'.cell? ⟨Y, 1, none⟩ = some (.int .i64 hh.r) ∧ w'.cell? ⟨Y, 2, none⟩ = some (.int .i64 hh.t) ∧ LaidH w.heap.size (w.heap.size + 1) hh W3 w' from
    have q := y3.at_ (hs.block Y (by omega) y3.lt); ⟨q.c0, q.c1, q.c2, w', hs, .inl rfl⟩)
  have YL := Lib.hid fun (wm : World) (hs : MostB (w.heap.size + 1) W3 wm) => (show (((wm.setCell ⟨w.heap.size, 0, none⟩ (.int .i64 hh.b)).setCell ⟨w.heap.size, 1, none⟩ (.int .i64 hh.r)).setCell ⟨w.heap.size, 2, none⟩ (.int .i64 hh.t)).cell? ⟨Y, 0, none⟩ = some (.int .i64 hh.b) ∧ (((wm.setCell ⟨w.heap.size, 0, none⟩ (.int .i64 hh.b)).setCell ⟨w.heap.size, 1, none⟩ (.int .i64 hh.r)).setCell ⟨w.heap.size, 2, none⟩ (.int .i64 hh.t)).cell? ⟨Y, 1, none⟩ = some (.int .i64 hh.r) ∧ (((wm.setCell ⟨w.heap.size, 0, none⟩ (.int .i64 hh.b)).setCell ⟨w.heap.size, 1, none⟩ (.int .i64 hh.r)).setCell ⟨w.heap.size, 2, none⟩ (.int .i64 hh.t)).cell? ⟨Y, 2, none⟩ = some (.int .i64 hh.t) ∧ LaidH w.heap.size (w.heap.size + 1) hh W3 (((wm.setCell ⟨w.heap.size, 0, none⟩ (.int .i64 hh.b)).setCell ⟨w.heap.size, 1, none⟩ (.int .i64 hh.r)).setCell ⟨w.heap.size, 2, none⟩ (.int .i64 hh.t)) from
    have q := (((y3.at_ (hs.block Y (by omega) y3.lt)).other (by omega) 0 _).other (by omega) 1 _).other (by omega) 2 _; ⟨q.c0, q.c1, q.c2, wm, hs, .inr rfl⟩)
  have RK := Lib.hid fun (w' : World) (hs : MostB (w.heap.size + 1) W3 w') => r3.at_ (hs.block w.heap.size (by omega) r3.lt)
  have CK := Lib.hid fun (w' : World) (hs : MostB (w.heap.size + 1) W3 w') => c3.trans (hs.under (by omega) c3.size)
  have NBK := Lib.hid fun (w' : World) (hs : MostB (w.heap.size + 1) W3 w') => NB3.most hs (by omega)
  have OWK := Lib.hid fun (w' : World) (hs : MostB (w.heap.size + 1) W3 w') => OW3.most hs (by omega)
  have hmd : MostB (w.heap.size + 1) W3 W3.drew := (MostB.refl _ _).below_ ((Below.refl _ _).drew)
  have HMD := Lib.hid hmd
  have hstart := YK.out _ hmd
  have HR := Lib.hid (hr3.keepK (Below.refl W3.heap.size W3).drew hr3.2.1)
  clear y3 r3 c3 hr3 hmd NB3 OW3
  have P1 := Lib.hid (pick_any (w.heap.size + 1) (w.heap.size + 1) q 11 W3.drew HR.out (by omega) (by omega))
  go_region_held3 (fun w' => w'.cell? ⟨Y, 0, none⟩ = some (.int .i64 hh.b) ∧ w'.cell? ⟨Y, 1, none⟩ = some (.int .i64 hh.r) ∧ w'.cell? ⟨Y, 2, none⟩ = some (.int .i64 hh.t) ∧ LaidH w.heap.size (w.heap.size + 1) hh W3 w')
    (first | exact hstart | exact YK.out _ m5.out | exact YL.out _ m5.out | fail)
    (first
      | (go_at_call 69; ((with_reducible refine P1.out.mono ?_); rintro e w5 ⟨x, -, -, rfl, hr5, o5⟩; have m5 := Lib.hid (HMD.out.trans (only_most o5 HR.out)); have d0 := (RK.out _ m5.out).c0; have d1 := (RK.out _ m5.out).c1; have d2 := (RK.out _ m5.out).c2; have ea := (RK.out _ m5.out).frozen 0; have eb := (RK.out _ m5.out).frozen 1; have ec := (RK.out _ m5.out).frozen 2; clear hr5 o5))
      | fail)
  obtain ⟨-, -, -, -, y9, B9⟩ := BoxH.end_ hh (RK.out _ m5.out) (CK.out _ m5.out)
  have f0 := y9.c0
  have f1 := y9.c1
  have f2 := y9.c2
  have m9 := Only3 w.heap.size w5 (.int .i64 hh.b) (.int .i64 hh.r) (.int .i64 hh.t)
  have U9 := ((NBK.out _ m5.out).most m9 (by omega)).from_ (show w.heap.size ≤ w1.heap.size by omega)
  have V9 := ((OWK.out _ m5.out).most m9 (by omega)).from_ (show w.heap.size ≤ w1.heap.size by omega)
  clear y9 m9 d0 d1 d2 ea eb ec
  go_wp2_with fail
  exact bodyPost_ret (v := .tuple #[.agg #[.int .i64 hh.b, .int .i64 hh.r, .int .i64 hh.t], u, v, .int .i64 x]) (by simp [results, Try.results28, go_sem, f0, f1, f2]) rfl ⟨x, hh, l, pl, _, _, hl40, hp40, rfl, U9, V9, B9⟩

set_option maxRecDepth 10000 in
set_option maxHeartbeats 2000000 in
theorem drawPlanTake_any (a : Option Addr) (len cap : Nat) (w : World) (h : IsRow8 w a len cap) :
    Calls Try.prog 36 #[.slice a len cap] w (DrewP1 w) := by
  have ba : Below w.heap.size w (w.alloc (.cells Hl.zero.cells.toArray 24)) := (Below.refl _ _).alloc (Nat.le_refl _) _
  have ra : BoxH w.heap.size (w.alloc (.cells Hl.zero.cells.toArray 24)) ⟨0, 0, 0⟩ := BoxH.new w ⟨0, 0, 0⟩
  have hz : (w.alloc (.cells Hl.zero.cells.toArray 24)).heap.size = w.heap.size + 1 := by simp
  unfold Hl.cells Hl.zero at ba ra hz
  go_enter Try.func36, Try.ntmps36
  go_wp2_with fail
  refine (open_any a len cap _ (row8_keepS h ba)).mono ?_
  generalize (w.alloc (.cells [Value.int .i64 0, .int .i64 0, .int .i64 0].toArray 24)) = wa at ba ra hz ⊢
  rintro e w1 ⟨rfl, hr, hb, hz1⟩
  generalize wa.heap.size = B at hz hr hb hz1 ⊢
  subst hz
  have r1 := ra.at_ (hb.block w.heap.size (Nat.lt_succ_self _))
  have b1 : Below w.heap.size w w1 := ba.trans (hb.mono (by omega))
  clear h hb ba ra
  go_wp2_with fail
  refine (l20Plan_any _ _ 0 10 5 w1 hr (by omega) (by omega) (by omega) (by omega) (by omega)).mono ?_
  rintro e w2 ⟨hh, l, pl, u, v, q, hq, hl40, hp40, rfl, NB, OW, hr2, hm⟩
  have r2 := r1.at_ (hm.block w.heap.size (by omega) r1.lt)
  have b2 : Below w.heap.size w w2 := b1.trans (hm.under (by omega) (by have := b1.size; omega))
  clear r1 b1 hr hm
  have b3 : Below w2.heap.size w2 (w2.alloc (.cells #[.int .i64 hh.b, .int .i64 hh.r, .int .i64 hh.t] 24)) := (Below.refl _ _).alloc (Nat.le_refl _) _
  have y3 := BoxH.new w2 hh
  have r3 := r2.at_ (b3.block _ r2.lt)
  have c3 := b2.trans (b3.mono b2.size)
  have NB3 := NB.most (MostB.below_ (MostB.refl (w.heap.size + 1) w2) b3) (by omega)
  have OW3 := OW.most (MostB.below_ (MostB.refl (w.heap.size + 1) w2) b3) (by omega)
  have hr3 := hr2.keepK b3 hr2.2.1
  have hz2 : w2.heap.size + 1 = (w2.alloc (.cells #[.int .i64 hh.b, .int .i64 hh.r, .int .i64 hh.t] 24)).heap.size := by simp
  have hYB : w.heap.size + 1 < w2.heap.size := hr2.2.1
  generalize hW3 : w2.alloc (.cells #[.int .i64 hh.b, .int .i64 hh.r, .int .i64 hh.t] 24) = W3 at y3 r3 c3 hr3 hz2 NB3 OW3
  have HW3 := Lib.hid hW3
  clear hW3 hr2 b3 r2 b2 NB OW
  go_wp2_with fail
  rw [HW3.out]
  generalize w2.heap.size = Y at y3 hYB hz2
  clear HW3
  have YK := Lib.hid fun (w' : World) (hs : MostB (w.heap.size + 1) W3 w') => (show w'.cell? ⟨Y, 0, none⟩ = some (.int .i64 hh.b) ∧ w'.cell? ⟨Y, 1, none⟩ = some (.int .i64 hh.r) ∧ w'.cell? ⟨Y, 2, none⟩ = some (.int .i64 hh.t) ∧ LaidH w.heap.size (w.heap.size + 1) hh W3 w' from
    have q := y3.at_ (hs.block Y (by omega) y3.lt); ⟨q.c0, q.c1, q.c2, w', hs, .inl rfl⟩)
  have YL := Lib.hid fun (wm : World) (hs : MostB (w.heap.size + 1) W3 wm) => (show (((wm.setCell ⟨w.heap.size, 0, none⟩ (.int .i64 hh.b)).setCell ⟨w.heap.size, 1, none⟩ (.int .i64 hh.r)).setCell ⟨w.heap.size, 2, none⟩ (.int .i64 hh.t)).cell? ⟨Y, 0, none⟩ = some (.int .i64 hh.b) ∧ (((wm.setCell ⟨w.heap.size, 0, none⟩ (.int .i64 hh.b)).setCell ⟨w.heap.size, 1, none⟩ (.int .i64 hh.r)).setCell ⟨w.heap.size, 2, none⟩ (.int .i64 hh.t)).cell? ⟨Y, 1, none⟩ = some (.int .i64 hh.r) ∧ (((wm.setCell ⟨w.heap.size, 0, none⟩ (.int .i64 hh.b)).setCell ⟨w.heap.size, 1, none⟩ (.int .i64 hh.r)).setCell ⟨w.heap.size, 2, none⟩ (.int .i64 hh.t)).cell? ⟨Y, 2, none⟩ = some (.int .i64 hh.t) ∧ LaidH w.heap.size (w.heap.size + 1) hh W3 (((wm.setCell ⟨w.heap.size, 0, none⟩ (.int .i64 hh.b)).setCell ⟨w.heap.size, 1, none⟩ (.int .i64 hh.r)).setCell ⟨w.heap.size, 2, none⟩ (.int .i64 hh.t)) from
    have q := (((y3.at_ (hs.block Y (by omega) y3.lt)).other (by omega) 0 _).other (by omega) 1 _).other (by omega) 2 _; ⟨q.c0, q.c1, q.c2, wm, hs, .inr rfl⟩)
  have RK := Lib.hid fun (w' : World) (hs : MostB (w.heap.size + 1) W3 w') => r3.at_ (hs.block w.heap.size (by omega) r3.lt)
  have CK := Lib.hid fun (w' : World) (hs : MostB (w.heap.size + 1) W3 w') => c3.trans (hs.under (by omega) c3.size)
  have NBK := Lib.hid fun (w' : World) (hs : MostB (w.heap.size + 1) W3 w') => NB3.most hs (by omega)
  have OWK := Lib.hid fun (w' : World) (hs : MostB (w.heap.size + 1) W3 w') => OW3.most hs (by omega)
  have hmd : MostB (w.heap.size + 1) W3 W3.drew := (MostB.refl _ _).below_ ((Below.refl _ _).drew)
  have HMD := Lib.hid hmd
  have hstart := YK.out _ hmd
  have HR := Lib.hid (hr3.keepK (Below.refl W3.heap.size W3).drew hr3.2.1)
  clear y3 r3 c3 hr3 hmd NB3 OW3
  have P1 := Lib.hid (l20Slot_any (w.heap.size + 1) (w.heap.size + 1) q v pl W3.drew HR.out (by omega) (OWK.out _ HMD.out).holds hp40)
  go_region_held3 (fun w' => w'.cell? ⟨Y, 0, none⟩ = some (.int .i64 hh.b) ∧ w'.cell? ⟨Y, 1, none⟩ = some (.int .i64 hh.r) ∧ w'.cell? ⟨Y, 2, none⟩ = some (.int .i64 hh.t) ∧ LaidH w.heap.size (w.heap.size + 1) hh W3 w')
    (first | exact hstart | exact YK.out _ m5.out | exact YL.out _ m5.out | fail)
    (first
      | (go_at_call 71; ((with_reducible refine P1.out.mono ?_); rintro e w5 ⟨x, rfl, hr5, o5⟩; have m5 := Lib.hid (HMD.out.trans (only_most o5 HR.out)); have d0 := (RK.out _ m5.out).c0; have d1 := (RK.out _ m5.out).c1; have d2 := (RK.out _ m5.out).c2; have ea := (RK.out _ m5.out).frozen 0; have eb := (RK.out _ m5.out).frozen 1; have ec := (RK.out _ m5.out).frozen 2; clear hr5 o5))
      | fail)
  obtain ⟨-, -, -, -, y9, B9⟩ := BoxH.end_ hh (RK.out _ m5.out) (CK.out _ m5.out)
  have f0 := y9.c0
  have f1 := y9.c1
  have f2 := y9.c2
  have m9 := Only3 w.heap.size w5 (.int .i64 hh.b) (.int .i64 hh.r) (.int .i64 hh.t)
  have U9 := ((NBK.out _ m5.out).most m9 (by omega)).from_ (show w.heap.size ≤ w1.heap.size by omega)
  have V9 := ((OWK.out _ m5.out).most m9 (by omega)).from_ (show w.heap.size ≤ w1.heap.size by omega)
  clear y9 m9 d0 d1 d2 ea eb ec
  go_wp2_with fail
  exact bodyPost_ret (v := .tuple #[.agg #[.int .i64 hh.b, .int .i64 hh.r, .int .i64 hh.t], u, v, .int .i64 x]) (by simp [results, Try.results36, go_sem, f0, f1, f2]) rfl ⟨x, hh, l, pl, _, _, hl40, hp40, rfl, U9, V9, B9⟩

end Go.Proofs.Ytbaebamiiigmlaa
