/-
  Draws of a ship, boxes and a plan, of stages 8 to 13.
-/
import Derived.Test.YtmgnbkiphdlooabGPw
namespace Go.Proofs.Ytmgnbkiphdlooab
open Go.RowKit
set_option linter.unusedVariables false

/-- A ship, boxes, a plan and two small numbers. -/
def DrewPS (w : World) (e : Ending) (w' : World) : Prop := ∃ x y : Int, -1000 ≤ x ∧ x ≤ 1000 ∧ -1000 ≤ y ∧ y ≤ 1000 ∧ DrewP w [.int .i64 x, .int .i64 y] e w'

set_option maxRecDepth 10000 in
set_option maxHeartbeats 2000000 in
theorem drawRowWeights_any (a : Option Addr) (len cap : Nat) (w : World) (h : IsRow8 w a len cap) :
    Calls Try.prog 11 #[.slice a len cap] w (DrewP0 w) := by
  have ba : Below w.heap.size w (w.alloc (.cells Hl.zero.cells.toArray 24)) := (Below.refl _ _).alloc (Nat.le_refl _) _
  have ra : BoxH w.heap.size (w.alloc (.cells Hl.zero.cells.toArray 24)) ⟨0, 0, 0⟩ := BoxH.new w ⟨0, 0, 0⟩
  have hz : (w.alloc (.cells Hl.zero.cells.toArray 24)).heap.size = w.heap.size + 1 := by simp
  unfold Hl.cells Hl.zero at ba ra hz
  go_enter Try.func11, Try.ntmps11
  go_wp2_with fail
  refine (open_any a len cap _ (row8_keepS h ba)).mono ?_
  generalize (w.alloc (.cells [Value.int .i64 0, .int .i64 0, .int .i64 0].toArray 24)) = wa at ba ra hz ⊢
  rintro e w1 ⟨rfl, hr, hb, hz1⟩
  generalize wa.heap.size = B at hz hr hb hz1 ⊢
  subst hz
  have r1 := ra.at_ (hb.block w.heap.size (Nat.lt_succ_self _))
  have b1 : Below w.heap.size w w1 := ba.trans (hb.mono (by omega))
  clear h hb ba ra
  go_wp2_with fail
  refine (l20Plan_any _ _ 0 10 4 w1 hr (by omega) (by omega) (by omega) (by omega) (by omega)).mono ?_
  rintro e w2 ⟨hh, l, pl, u, v, q, hq, hl40, hp40, rfl, NB, OW, hr2, hm⟩
  have r2 := r1.at_ (hm.block w.heap.size (by omega) r1.lt)
  have b2 : Below w.heap.size w w2 := b1.trans (hm.under (by omega) (by have := b1.size; omega))
  clear r1 b1 hr hm
  obtain ⟨d0, d1, d2, e0, -, -⟩ := BoxH.end_ hh r2 b2
  have ea := e0 0
  have eb := e0 1
  have ec := e0 2
  clear e0
  obtain ⟨-, -, -, -, y9, B9⟩ := BoxH.end_ hh r2 b2
  have f0 := y9.c0
  have f1 := y9.c1
  have f2 := y9.c2
  have m9 := Only3 w.heap.size w2 (.int .i64 hh.b) (.int .i64 hh.r) (.int .i64 hh.t)
  have U9 := (NB.most m9 (by omega)).from_ (show w.heap.size ≤ w1.heap.size by omega)
  have V9 := (OW.most m9 (by omega)).from_ (show w.heap.size ≤ w1.heap.size by omega)
  clear y9 m9 
  go_wp2_with fail
  exact bodyPost_ret (v := .tuple #[.agg #[.int .i64 hh.b, .int .i64 hh.r, .int .i64 hh.t], u, v]) (by simp [results, Try.results11, go_sem, f0, f1, f2]) rfl ⟨hh, l, pl, _, _, hl40, hp40, rfl, U9, V9, B9⟩

set_option maxRecDepth 10000 in
set_option maxHeartbeats 2000000 in
theorem drawOnLighter_any (a : Option Addr) (len cap : Nat) (w : World) (h : IsRow8 w a len cap) :
    Calls Try.prog 21 #[.slice a len cap] w (DrewP0 w) := by
  have ba : Below w.heap.size w (w.alloc (.cells Hl.zero.cells.toArray 24)) := (Below.refl _ _).alloc (Nat.le_refl _) _
  have ra : BoxH w.heap.size (w.alloc (.cells Hl.zero.cells.toArray 24)) ⟨0, 0, 0⟩ := BoxH.new w ⟨0, 0, 0⟩
  have hz : (w.alloc (.cells Hl.zero.cells.toArray 24)).heap.size = w.heap.size + 1 := by simp
  unfold Hl.cells Hl.zero at ba ra hz
  go_enter Try.func21, Try.ntmps21
  go_wp2_with fail
  refine (open_any a len cap _ (row8_keepS h ba)).mono ?_
  generalize (w.alloc (.cells [Value.int .i64 0, .int .i64 0, .int .i64 0].toArray 24)) = wa at ba ra hz ⊢
  rintro e w1 ⟨rfl, hr, hb, hz1⟩
  generalize wa.heap.size = B at hz hr hb hz1 ⊢
  subst hz
  have r1 := ra.at_ (hb.block w.heap.size (Nat.lt_succ_self _))
  have b1 : Below w.heap.size w w1 := ba.trans (hb.mono (by omega))
  clear h hb ba ra
  go_wp2_with fail
  refine (l20Plan_any _ _ 0 10 4 w1 hr (by omega) (by omega) (by omega) (by omega) (by omega)).mono ?_
  rintro e w2 ⟨hh, l, pl, u, v, q, hq, hl40, hp40, rfl, NB, OW, hr2, hm⟩
  have r2 := r1.at_ (hm.block w.heap.size (by omega) r1.lt)
  have b2 : Below w.heap.size w w2 := b1.trans (hm.under (by omega) (by have := b1.size; omega))
  clear r1 b1 hr hm
  obtain ⟨d0, d1, d2, e0, -, -⟩ := BoxH.end_ hh r2 b2
  have ea := e0 0
  have eb := e0 1
  have ec := e0 2
  clear e0
  obtain ⟨-, -, -, -, y9, B9⟩ := BoxH.end_ hh r2 b2
  have f0 := y9.c0
  have f1 := y9.c1
  have f2 := y9.c2
  have m9 := Only3 w.heap.size w2 (.int .i64 hh.b) (.int .i64 hh.r) (.int .i64 hh.t)
  have U9 := (NB.most m9 (by omega)).from_ (show w.heap.size ≤ w1.heap.size by omega)
  have V9 := (OW.most m9 (by omega)).from_ (show w.heap.size ≤ w1.heap.size by omega)
  clear y9 m9 
  go_wp2_with fail
  exact bodyPost_ret (v := .tuple #[.agg #[.int .i64 hh.b, .int .i64 hh.r, .int .i64 hh.t], u, v]) (by simp [results, Try.results21, go_sem, f0, f1, f2]) rfl ⟨hh, l, pl, _, _, hl40, hp40, rfl, U9, V9, B9⟩

set_option maxRecDepth 10000 in
set_option maxHeartbeats 2000000 in
theorem drawSortRows_any (a : Option Addr) (len cap : Nat) (w : World) (h : IsRow8 w a len cap) :
    Calls Try.prog 27 #[.slice a len cap] w (DrewP0 w) := by
  have ba : Below w.heap.size w (w.alloc (.cells Hl.zero.cells.toArray 24)) := (Below.refl _ _).alloc (Nat.le_refl _) _
  have ra : BoxH w.heap.size (w.alloc (.cells Hl.zero.cells.toArray 24)) ⟨0, 0, 0⟩ := BoxH.new w ⟨0, 0, 0⟩
  have hz : (w.alloc (.cells Hl.zero.cells.toArray 24)).heap.size = w.heap.size + 1 := by simp
  unfold Hl.cells Hl.zero at ba ra hz
  go_enter Try.func27, Try.ntmps27
  go_wp2_with fail
  refine (open_any a len cap _ (row8_keepS h ba)).mono ?_
  generalize (w.alloc (.cells [Value.int .i64 0, .int .i64 0, .int .i64 0].toArray 24)) = wa at ba ra hz ⊢
  rintro e w1 ⟨rfl, hr, hb, hz1⟩
  generalize wa.heap.size = B at hz hr hb hz1 ⊢
  subst hz
  have r1 := ra.at_ (hb.block w.heap.size (Nat.lt_succ_self _))
  have b1 : Below w.heap.size w w1 := ba.trans (hb.mono (by omega))
  clear h hb ba ra
  go_wp2_with fail
  refine (l20Plan_any _ _ 0 10 4 w1 hr (by omega) (by omega) (by omega) (by omega) (by omega)).mono ?_
  rintro e w2 ⟨hh, l, pl, u, v, q, hq, hl40, hp40, rfl, NB, OW, hr2, hm⟩
  have r2 := r1.at_ (hm.block w.heap.size (by omega) r1.lt)
  have b2 : Below w.heap.size w w2 := b1.trans (hm.under (by omega) (by have := b1.size; omega))
  clear r1 b1 hr hm
  obtain ⟨d0, d1, d2, e0, -, -⟩ := BoxH.end_ hh r2 b2
  have ea := e0 0
  have eb := e0 1
  have ec := e0 2
  clear e0
  obtain ⟨-, -, -, -, y9, B9⟩ := BoxH.end_ hh r2 b2
  have f0 := y9.c0
  have f1 := y9.c1
  have f2 := y9.c2
  have m9 := Only3 w.heap.size w2 (.int .i64 hh.b) (.int .i64 hh.r) (.int .i64 hh.t)
  have U9 := (NB.most m9 (by omega)).from_ (show w.heap.size ≤ w1.heap.size by omega)
  have V9 := (OW.most m9 (by omega)).from_ (show w.heap.size ≤ w1.heap.size by omega)
  clear y9 m9 
  go_wp2_with fail
  exact bodyPost_ret (v := .tuple #[.agg #[.int .i64 hh.b, .int .i64 hh.r, .int .i64 hh.t], u, v]) (by simp [results, Try.results27, go_sem, f0, f1, f2]) rfl ⟨hh, l, pl, _, _, hl40, hp40, rfl, U9, V9, B9⟩

end Go.Proofs.Ytmgnbkiphdlooab
