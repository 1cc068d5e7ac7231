/-
  The contract of l20Box where none is spoiled: the box is valid.
-/
import Derived.Test.YtjnoekhdkmgagaaDoorGDr
import Derived.Test.YtjnoekhdkmgagaaDoorGBx
namespace Go.Proofs.YtjnoekhdkmgagaaDoor
open Go.RowKit
set_option linter.unusedVariables false

/-- What a call of l20Box gives that spoils none. -/
def DrewOk (base B p : Nat) (w : World) (e : Ending) (w' : World) : Prop :=
  ∃ (b : Bx) (q : Nat), q ≤ p + 8 ∧ bxOk b.i b.g b.c b.p = true ∧ e = .returned (.agg #[.int .i64 b.i, .int .i64 b.g, .int .i64 b.c, .int .i64 b.p, .bool b.d]) ∧ Rdr base B q w' ∧ MostB B w w'

set_option maxHeartbeats 1000000 in
theorem l20Box_ok (base B p : Nat) (id : Int) (w : World) (h : Rdr base B p w) (hp : p ≤ 900000) (hi0 : 1 ≤ id) (hi1 : id ≤ 999) :
    Calls Tryd.prog 16 #[.pointer (some ⟨B, 0, none⟩), .int .i64 id, .int .i64 0] w (DrewOk base B p w) := by
  have hBw := h.2.1
  go_enter Tryd.func16, Tryd.ntmps16
  go_wp2_with fail
  refine (pick_any base B p 30 _ (h.keep ((Below.refl _ _).alloc (Nat.le_refl _) _)) (by omega) (by omega)).mono ?_
  rintro e w1 ⟨x1, x10, x11, rfl, h1, o1⟩
  go_wp2_with fail
  refine (pick_any base B (p + 1) 7 w1 h1 (by omega) (by omega)).mono ?_
  rintro e w2 ⟨x2, x20, x21, rfl, h2, o2⟩
  go_wp2_with fail
  refine (pick_any base B (p + 1 + 1) 4 w2 h2 (by omega) (by omega)).mono ?_
  rintro e w3 ⟨x3, x30, x31, rfl, h3, o3⟩
  go_wp2_with fail
  have D0 := Drawing.start (T := 24) ⟨id, 1 + x1, 0, x2, x3 == 0⟩ h3 hBw o1 o2 o3
  have hN : w.heap.size < w3.heap.size := by have := D0.hN; exact this
  refine (pick_any base B (p + 1 + 1 + 1) 3 _ D0.rdr (by omega) (by omega)).mono ?_
  rintro e w4 ⟨x4, x40, x41, rfl, h4, o4⟩
  have D1 := D0.only o4 h4
  generalize w3.heap.size = N at D1 hN ⊢
  clear D0 o1 o2 o3 o4 h1 h2 h3 h4 h
  by_cases hc : x4 = 0
  · have hc' : (x4 == 0) = true := by rw [beq_iff_eq]; exact hc
    clear hc
    go_wp2_with fail
    refine (pick_any base B (p + 1 + 1 + 1 + 1) 4 _ D1.rdr (by omega) (by omega)).mono ?_
    rintro e w5 ⟨x5, x50, x51, rfl, h5, o5⟩
    have D2 := D1.only o5 h5
    obtain ⟨-, -, c2, -, -⟩ := D2.cells
    have f2 := D2.free 2
    have D3 := D2.set (b' := ⟨id, 1 + x1, x5, x2, x3 == 0⟩) 2 (.int .i64 x5) (by simp [Bx.cells])
    obtain ⟨b, q, hq, hb, D⟩ : ∃ (b : Bx) (q : Nat), q ≤ p + 5 ∧ bxOk b.i b.g b.c b.p = true ∧ Drawing w base B q N b (w5.setCell ⟨N, 2, none⟩ (.int .i64 x5)) := ⟨_, _, by omega, decide_eq_true (by show _ ∧ _; simp only; omega), D3⟩
    clear D1 D2 D3 h5 o5
    go_wp2_with fail
    clear c2 f2
    generalize w5.setCell ⟨N, 2, none⟩ (.int .i64 x5) = W at D ⊢
    refine (odd_zero B W).mono ?_
    rintro e w6 ⟨rfl, rfl⟩
    have HB := Lib.hid hb
    clear hb
    obtain ⟨c0, c1, c2, c3, c4⟩ := D.cells
    obtain ⟨⟨r0, e0⟩, f0⟩ := D.resCells 0 (by omega)
    obtain ⟨⟨r1, e1⟩, f1⟩ := D.resCells 1 (by omega)
    obtain ⟨⟨r2, e2⟩, f2⟩ := D.resCells 2 (by omega)
    obtain ⟨⟨r3, e3⟩, f3⟩ := D.resCells 3 (by omega)
    obtain ⟨⟨r4, e4⟩, f4⟩ := D.resCells 4 (by omega)
    go_wp2_with fail
    obtain ⟨z0, z1, z2, z3, z4⟩ := D.ends (.int .i64 b.i) (.int .i64 b.g) (.int .i64 b.c) (.int .i64 b.p) (.bool b.d)
    exact bodyPost_ret (v := .agg #[.int .i64 b.i, .int .i64 b.g, .int .i64 b.c, .int .i64 b.p, .bool b.d]) (by simp [results, Tryd.results16, go_sem, z0, z1, z2, z3, z4]) rfl
      ⟨b, q, by omega, HB.out, rfl, D.end_ _ _ _ _ _⟩
  · have hc' : (x4 == 0) = false := by rw [beq_eq_false_iff_ne]; exact hc
    clear hc
    obtain ⟨b, q, hq, hb, D⟩ : ∃ (b : Bx) (q : Nat), q ≤ p + 5 ∧ bxOk b.i b.g b.c b.p = true ∧ Drawing w base B q N b w4 := ⟨_, _, by omega, decide_eq_true (by show _ ∧ _; simp only; omega), D1⟩
    clear D1
    go_wp2_with fail
    generalize w4 = W at D ⊢
    refine (odd_zero B W).mono ?_
    rintro e w6 ⟨rfl, rfl⟩
    have HB := Lib.hid hb
    clear hb
    obtain ⟨c0, c1, c2, c3, c4⟩ := D.cells
    obtain ⟨⟨r0, e0⟩, f0⟩ := D.resCells 0 (by omega)
    obtain ⟨⟨r1, e1⟩, f1⟩ := D.resCells 1 (by omega)
    obtain ⟨⟨r2, e2⟩, f2⟩ := D.resCells 2 (by omega)
    obtain ⟨⟨r3, e3⟩, f3⟩ := D.resCells 3 (by omega)
    obtain ⟨⟨r4, e4⟩, f4⟩ := D.resCells 4 (by omega)
    go_wp2_with fail
    obtain ⟨z0, z1, z2, z3, z4⟩ := D.ends (.int .i64 b.i) (.int .i64 b.g) (.int .i64 b.c) (.int .i64 b.p) (.bool b.d)
    exact bodyPost_ret (v := .agg #[.int .i64 b.i, .int .i64 b.g, .int .i64 b.c, .int .i64 b.p, .bool b.d]) (by simp [results, Tryd.results16, go_sem, z0, z1, z2, z3, z4]) rfl
      ⟨b, q, by omega, HB.out, rfl, D.end_ _ _ _ _ _⟩
end Go.Proofs.YtjnoekhdkmgagaaDoor
