/-
  The draws of FnHullValid and FnPlanEmpty.
-/
import Derived.Test.YtbaebamiiigmlaaGPw
namespace Go.Proofs.Ytbaebamiiigmlaa
open Go.RowKit
set_option linter.unusedVariables false

set_option maxRecDepth 10000 in
set_option maxHeartbeats 2000000 in
theorem drawPlanEmpty_any (a : Option Addr) (len cap : Nat) (w : World) (h : IsRow8 w a len cap) :
    Calls Try.prog 21 #[.slice a len cap] w (DrewH w) := by
  have ba : Below w.heap.size w (w.alloc (.cells Hl.zero.cells.toArray 24)) := (Below.refl _ _).alloc (Nat.le_refl _) _
  have ra : BoxH w.heap.size (w.alloc (.cells Hl.zero.cells.toArray 24)) ⟨0, 0, 0⟩ := BoxH.new w ⟨0, 0, 0⟩
  have hz : (w.alloc (.cells Hl.zero.cells.toArray 24)).heap.size = w.heap.size + 1 := by simp
  unfold Hl.cells Hl.zero at ba ra hz
  go_enter Try.func21, Try.ntmps21
  go_wp2_with fail
  refine (open_any a len cap _ (row8_keepS h ba)).mono ?_
  generalize (w.alloc (.cells [Value.int .i64 0, .int .i64 0, .int .i64 0].toArray 24)) = wa at ba ra hz ⊢
  rintro e w1 ⟨rfl, hr, hb, hz1⟩
  generalize wa.heap.size = B at hz hr hb hz1 ⊢
  subst hz
  have r1 := ra.at_ (hb.block w.heap.size (Nat.lt_succ_self _))
  have b1 : Below w.heap.size w w1 := ba.trans (hb.mono (by omega))
  clear h hb ba ra
  go_wp2_with fail
  refine (l20Hull_any _ _ 0 4 w1 hr (by omega) (by omega) (by omega)).mono ?_
  rintro e w2 ⟨hh, q, hq, rfl, hr2, hm⟩
  have r2 := r1.at_ (hm.block w.heap.size (by omega) r1.lt)
  have b2 : Below w.heap.size w w2 := b1.trans (hm.under (by omega) (by have := b1.size; omega))
  clear r1 b1 hr hm
  obtain ⟨d0, d1, d2, e0, y9, B9⟩ := BoxH.end_ hh r2 b2
  have ea := e0 0
  have eb := e0 1
  have ec := e0 2
  have f0 := y9.c0
  have f1 := y9.c1
  have f2 := y9.c2
  clear e0 y9
  go_wp2_with fail
  exact bodyPost_ret (v := .agg #[.int .i64 hh.b, .int .i64 hh.r, .int .i64 hh.t]) (by simp [results, Try.results21, go_sem, f0, f1, f2]) rfl ⟨hh, rfl, B9⟩

end Go.Proofs.Ytbaebamiiigmlaa
