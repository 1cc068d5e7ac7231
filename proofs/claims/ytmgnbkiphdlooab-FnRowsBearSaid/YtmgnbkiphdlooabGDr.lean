/-
  The contract of l20Box, which draws a box.
  Draws of one box: what they share.
  What draws of lists share: rows of the call's own beside the reader.
  The contract of l20Boxes, which draws a list of boxes.
-/
import Derived.Test.YtmgnbkiphdlooabGBase
import Derived.Test.YtmgnbkiphdlooabGBx
import Derived.Lib.SmallJoins
import Derived.Deep.Draws
import Derived.Laws.Rows
namespace Go.Proofs.Ytmgnbkiphdlooab
open Go.RowKit
set_option linter.unusedVariables false

/-- While a box is drawn: the reader at block B has made q calls; the box stands in block N, the answer's place is block R; of what was there when the call began nothing but block B has turned. -/
structure Drawing (w0 : World) (base B q N : Nat) (b : Bx) (w : World) : Prop where
  rdr : Rdr base B q w
  box : w.heap[N]? = some (.cells b.cells.toArray 41 (0, 0))
  res : w.heap[w0.heap.size]? = some (.cells Bx.zero.cells.toArray 41 (0, 0))
  hN : w0.heap.size < N
  hB : B < w0.heap.size
  os : w.os = w0.os
  tape : w.tape = w0.tape
  output : w.output = w0.output
  block : ∀ k, k ≠ B → k < w0.heap.size → w.heap[k]? = w0.heap[k]?

theorem Drawing.size {w0 : World} {base B q N : Nat} {b : Bx} {w : World} (h : Drawing w0 base B q N b w) : N < w.heap.size := by
  rcases Nat.lt_or_ge N w.heap.size with h' | h'
  · exact h'
  · have := h.box; rw [Array.getElem?_eq_none h'] at this; cases this
theorem Drawing.only {w0 : World} {base B q q' N : Nat} {b : Bx} {w w1 : World} (h : Drawing w0 base B q N b w) (ho : Only B w w1) (hr : Rdr base B q' w1) : Drawing w0 base B q' N b w1 := by
  have hN := h.hN
  have hB := h.hB
  exact ⟨hr, by rw [ho.block N (by omega)]; exact h.box, by rw [ho.block _ (by omega)]; exact h.res, h.hN, h.hB, ho.os.trans h.os, ho.tape.trans h.tape, ho.output.trans h.output, fun k hk hl => (ho.block k hk).trans (h.block k hk hl)⟩
theorem Drawing.alloc {w0 : World} {base B q N : Nat} {b : Bx} {w : World} (h : Drawing w0 base B q N b w) (o : Obj) : Drawing w0 base B q N b (w.alloc o) := by
  have hs := h.size
  have hN := h.hN
  have hB := h.hB
  have k : ∀ i, i < w.heap.size → (w.alloc o).heap[i]? = w.heap[i]? := fun i hi => Below.heap_alloc w o i hi
  exact ⟨h.rdr.keep ((Below.refl _ _).alloc (Nat.le_refl _) _), by rw [k N hs]; exact h.box, by rw [k _ (by omega)]; exact h.res, h.hN, h.hB, h.os, h.tape, h.output, fun i hi hl => (k i (by omega)).trans (h.block i hi hl)⟩
theorem Drawing.set {w0 : World} {base B q N : Nat} {b b' : Bx} {w : World} (h : Drawing w0 base B q N b w) (j : Nat) (v : Value) (hb : b.cells.toArray.setIfInBounds j v = b'.cells.toArray) : Drawing w0 base B q N b' (w.setCell ⟨N, j, none⟩ v) := by
  have hs := h.size
  have hN := h.hN
  have hB := h.hB
  have hbase := h.rdr.1
  have k : ∀ i, i ≠ N → (w.setCell ⟨N, j, none⟩ v).heap[i]? = w.heap[i]? := fun i hi => Below.heap_setCell w _ v i hi
  refine ⟨h.rdr.set_other (by omega) (by omega) j v, ?_, by rw [k _ (by omega)]; exact h.res, h.hN, h.hB, h.os, h.tape, h.output, fun i hi hl => (k i (by omega)).trans (h.block i hi hl)⟩
  rw [Joins.block_setCell h.box v, hb]
theorem Drawing.cells {w0 : World} {base B q N : Nat} {b : Bx} {w : World} (h : Drawing w0 base B q N b w) :
    w.cell? ⟨N, 0, none⟩ = some (.int .i64 b.i) ∧ w.cell? ⟨N, 1, none⟩ = some (.int .i64 b.g) ∧ w.cell? ⟨N, 2, none⟩ = some (.int .i64 b.c) ∧ w.cell? ⟨N, 3, none⟩ = some (.int .i64 b.p) ∧ w.cell? ⟨N, 4, none⟩ = some (.bool b.d) := by
  have hb := h.box
  refine ⟨?_, ?_, ?_, ?_, ?_⟩ <;> simp [World.cell?, hb, Bx.cells]
theorem Drawing.free {w0 : World} {base B q N : Nat} {b : Bx} {w : World} (h : Drawing w0 base B q N b w) (j : Nat) : w.frozen? ⟨N, j, none⟩ = false := by
  have hb := h.box
  simp [World.frozen?, hb]
theorem Drawing.resCells {w0 : World} {base B q N : Nat} {b : Bx} {w : World} (h : Drawing w0 base B q N b w) (j : Nat) (hj : j < 5) : (∃ v, w.cell? ⟨w0.heap.size, j, none⟩ = some v) ∧ w.frozen? ⟨w0.heap.size, j, none⟩ = false := by
  have hb := h.res
  refine ⟨?_, by simp [World.frozen?, hb]⟩
  simp only [World.cell?, hb]
  exact ⟨_, Array.getElem?_eq_getElem (by simpa [Bx.cells] using hj)⟩

/-- What a call of l20Box gives. -/
def DrewBox (base B p : Nat) (w : World) (e : Ending) (w' : World) : Prop :=
  ∃ (b : Bx) (q : Nat), q ≤ p + 8 ∧ e = .returned (.agg #[.int .i64 b.i, .int .i64 b.g, .int .i64 b.c, .int .i64 b.p, .bool b.d]) ∧ Rdr base B q w' ∧ MostB B w w'

theorem Drawing.start {w w1 w2 w3 : World} {base B q : Nat} {T : TypeId} (b : Bx) (h : Rdr base B q w3) (hB : B < w.heap.size)
    (o1 : Only B (w.alloc (.cells #[.int .i64 0, .int .i64 0, .int .i64 0, .int .i64 0, .bool false] 41)) w1) (o2 : Only B w1 w2) (o3 : Only B w2 w3) :
    Drawing w base B q w3.heap.size b (w3.alloc (.cells #[.int .i64 b.i, .int .i64 b.g, .int .i64 b.c, .int .i64 b.p, .bool b.d] 41)) := by
  have oo := (o1.trans o2).trans o3
  have hs : w3.heap.size = w.heap.size + 1 := by rw [oo.size]; simp
  have k : ∀ o i, i < w3.heap.size → (w3.alloc o).heap[i]? = w3.heap[i]? := fun o i hi => Below.heap_alloc w3 o i hi
  refine ⟨h.keep ((Below.refl _ _).alloc (Nat.le_refl _) _), ?_, ?_, by omega, hB, oo.os, oo.tape, oo.output, fun i hi hl => ?_⟩
  · show (w3.heap.push _)[w3.heap.size]? = _
    simp [Bx.cells]
  · rw [k _ _ (by omega), oo.block _ (by omega)]
    show (w.heap.push _)[w.heap.size]? = _
    simp [Bx.cells, Bx.zero]
  · rw [k _ _ (by omega), oo.block _ hi]
    exact Below.heap_alloc w _ i hl

theorem odd_all (base B q : Nat) (n : Int) (w : World) (h : Rdr base B q w) (hq : q ≤ 1000000) (hn0 : 0 ≤ n) (hn1 : n ≤ 1000) :
    Calls Try.prog 79 #[.pointer (some ⟨B, 0, none⟩), .int .i64 n] w fun e w' => ∃ (v : Bool) (q' : Nat), e = .returned (.bool v) ∧ q' ≤ q + 1 ∧ Rdr base B q' w' ∧ Only B w w' := by
  by_cases hn : n = 0
  · subst hn
    exact (odd_zero B w).mono fun e w' ⟨he, hw⟩ => ⟨false, q, he, by omega, by subst hw; exact h, by subst hw; exact Only.refl _ _⟩
  · exact (odd_any base B q n w h (by omega) (by omega) (by omega)).mono fun e w' ⟨v, he, hr, ho⟩ => ⟨v, q + 1, he, by omega, hr, ho⟩

theorem Drawing.item0 {B : Nat} {w w' : World} {T : TypeId} {a b : Value} (h : Only B (w.alloc (.cells #[a, b] T)) w') (hB : B < w.heap.size) : w'.cell? ⟨w.heap.size, 0, none⟩ = some a := by
  have e := h.block w.heap.size (by omega)
  have e2 : (w.alloc (.cells #[a, b] T)).heap[w.heap.size]? = some (.cells #[a, b] T (0, 0)) := by
    show (w.heap.push _)[w.heap.size]? = _
    simp
  rw [e2] at e
  simp [World.cell?, e]
theorem Drawing.item1 {B : Nat} {w w' : World} {T : TypeId} {a b : Value} (h : Only B (w.alloc (.cells #[a, b] T)) w') (hB : B < w.heap.size) : w'.cell? ⟨w.heap.size, 1, none⟩ = some b := by
  have e := h.block w.heap.size (by omega)
  have e2 : (w.alloc (.cells #[a, b] T)).heap[w.heap.size]? = some (.cells #[a, b] T (0, 0)) := by
    show (w.heap.push _)[w.heap.size]? = _
    simp
  rw [e2] at e
  simp [World.cell?, e]
/-- How a drawn box ends: it is laid into the answer's place. -/
theorem MostB.set {B R : Nat} {w0 w : World} (h : MostB B w0 w) (hR : w0.heap.size ≤ R) (j : Nat) (v : Value) : MostB B w0 (w.setCell ⟨R, j, none⟩ v) := by
  have k : ∀ i, i ≠ R → (w.setCell ⟨R, j, none⟩ v).heap[i]? = w.heap[i]? := fun i hi => Below.heap_setCell w _ v i hi
  have hz : (w.setCell ⟨R, j, none⟩ v).heap.size = w.heap.size := by simp [World.setCell]
  exact ⟨h.os, h.tape, h.output, by rw [hz]; exact h.size, fun i hi hl => (k i (by omega)).trans (h.block i hi hl)⟩
def Shut (B base q : Nat) (w0 w : World) : Prop := Rdr base B q w ∧ MostB B w0 w
theorem Shut.set {B base q : Nat} {w0 w : World} (h : Shut B base q w0 w) (hB : B < w0.heap.size) (j : Nat) (v : Value) : Shut B base q w0 (w.setCell ⟨w0.heap.size, j, none⟩ v) := by
  have hb := h.1.1
  exact ⟨h.1.set_other (by omega) (by omega) j v, h.2.set (Nat.le_refl _) j v⟩
theorem Drawing.shut {w0 : World} {base B q N : Nat} {b : Bx} {w : World} (h : Drawing w0 base B q N b w) : Shut B base q w0 w := by
  have hs := h.size
  have hN := h.hN
  exact ⟨h.rdr, h.os, h.tape, h.output, by omega, h.block⟩
theorem Drawing.end_ {w0 : World} {base B q N : Nat} {b : Bx} {w : World} (h : Drawing w0 base B q N b w) (v0 v1 v2 v3 v4 : Value) :
    Shut B base q w0 (((((w.setCell ⟨w0.heap.size, 0, none⟩ v0).setCell ⟨w0.heap.size, 1, none⟩ v1).setCell ⟨w0.heap.size, 2, none⟩ v2).setCell ⟨w0.heap.size, 3, none⟩ v3).setCell ⟨w0.heap.size, 4, none⟩ v4) := by
  have hB := h.hB
  exact ((((h.shut.set hB _ _).set hB _ _).set hB _ _).set hB _ _).set hB _ _

theorem Drawing.ends {w0 : World} {base B q N : Nat} {b : Bx} {w : World} (h : Drawing w0 base B q N b w) (v0 v1 v2 v3 v4 : Value) :
    (((((w.setCell ⟨w0.heap.size, 0, none⟩ v0).setCell ⟨w0.heap.size, 1, none⟩ v1).setCell ⟨w0.heap.size, 2, none⟩ v2).setCell ⟨w0.heap.size, 3, none⟩ v3).setCell ⟨w0.heap.size, 4, none⟩ v4).cell? ⟨w0.heap.size, 0, none⟩ = some v0 ∧ (((((w.setCell ⟨w0.heap.size, 0, none⟩ v0).setCell ⟨w0.heap.size, 1, none⟩ v1).setCell ⟨w0.heap.size, 2, none⟩ v2).setCell ⟨w0.heap.size, 3, none⟩ v3).setCell ⟨w0.heap.size, 4, none⟩ v4).cell? ⟨w0.heap.size, 1, none⟩ = some v1 ∧ (((((w.setCell ⟨w0.heap.size, 0, none⟩ v0).setCell ⟨w0.heap.size, 1, none⟩ v1).setCell ⟨w0.heap.size, 2, none⟩ v2).setCell ⟨w0.heap.size, 3, none⟩ v3).setCell ⟨w0.heap.size, 4, none⟩ v4).cell? ⟨w0.heap.size, 2, none⟩ = some v2 ∧ (((((w.setCell ⟨w0.heap.size, 0, none⟩ v0).setCell ⟨w0.heap.size, 1, none⟩ v1).setCell ⟨w0.heap.size, 2, none⟩ v2).setCell ⟨w0.heap.size, 3, none⟩ v3).setCell ⟨w0.heap.size, 4, none⟩ v4).cell? ⟨w0.heap.size, 3, none⟩ = some v3 ∧ (((((w.setCell ⟨w0.heap.size, 0, none⟩ v0).setCell ⟨w0.heap.size, 1, none⟩ v1).setCell ⟨w0.heap.size, 2, none⟩ v2).setCell ⟨w0.heap.size, 3, none⟩ v3).setCell ⟨w0.heap.size, 4, none⟩ v4).cell? ⟨w0.heap.size, 4, none⟩ = some v4 := by
  have e := Joins.block_setCell (i := 4) (Joins.block_setCell (i := 3) (Joins.block_setCell (i := 2) (Joins.block_setCell (i := 1) (Joins.block_setCell (i := 0) h.res v0) v1) v2) v3) v4
  generalize ((((w.setCell ⟨w0.heap.size, 0, none⟩ v0).setCell ⟨w0.heap.size, 1, none⟩ v1).setCell ⟨w0.heap.size, 2, none⟩ v2).setCell ⟨w0.heap.size, 3, none⟩ v3).setCell ⟨w0.heap.size, 4, none⟩ v4 = W at e ⊢
  refine ⟨?_, ?_, ?_, ?_, ?_⟩ <;> simp [World.cell?, e, Bx.cells]

set_option maxHeartbeats 1000000 in
theorem l20Box_any (base B p : Nat) (id n : Int) (w : World) (h : Rdr base B p w) (hp : p ≤ 900000) (hn0 : 0 ≤ n) (hn1 : n ≤ 1000) (hi0 : -1000000 ≤ id) (hi1 : id ≤ 1000000) :
    Calls Try.prog 92 #[.pointer (some ⟨B, 0, none⟩), .int .i64 id, .int .i64 n] w (DrewBox base B p w) := by
  have hBw := h.2.1
  go_enter Try.func92, Try.ntmps92
  go_wp2_with fail
  refine (pick_any base B p 30 _ (h.keep ((Below.refl _ _).alloc (Nat.le_refl _) _)) (by omega) (by omega)).mono ?_
  rintro e w1 ⟨x1, x10, x11, rfl, h1, o1⟩
  go_wp2_with fail
  refine (pick_any base B (p + 1) 7 w1 h1 (by omega) (by omega)).mono ?_
  rintro e w2 ⟨x2, x20, x21, rfl, h2, o2⟩
  go_wp2_with fail
  refine (pick_any base B (p + 1 + 1) 4 w2 h2 (by omega) (by omega)).mono ?_
  rintro e w3 ⟨x3, x30, x31, rfl, h3, o3⟩
  go_wp2_with fail
  have D0 := Drawing.start (T := 41) ⟨id, 1 + x1, 0, x2, x3 == 0⟩ h3 hBw o1 o2 o3
  have hN : w.heap.size < w3.heap.size := by have := D0.hN; exact this
  refine (pick_any base B (p + 1 + 1 + 1) 3 _ D0.rdr (by omega) (by omega)).mono ?_
  rintro e w4 ⟨x4, x40, x41, rfl, h4, o4⟩
  have D1 := D0.only o4 h4
  generalize w3.heap.size = N at D1 hN ⊢
  clear D0 o1 o2 o3 o4 h1 h2 h3 h4 h
  by_cases hc : x4 = 0
  · have hc' : (x4 == 0) = true := by rw [beq_iff_eq]; exact hc
    clear hc
    go_wp2_with fail
    refine (pick_any base B (p + 1 + 1 + 1 + 1) 4 _ D1.rdr (by omega) (by omega)).mono ?_
    rintro e w5 ⟨x5, x50, x51, rfl, h5, o5⟩
    have D2 := D1.only o5 h5
    obtain ⟨-, -, c2, -, -⟩ := D2.cells
    have f2 := D2.free 2
    have D3 := D2.set (b' := ⟨id, 1 + x1, x5, x2, x3 == 0⟩) 2 (.int .i64 x5) (by simp [Bx.cells])
    obtain ⟨b, q, hq, D⟩ : ∃ b q, q ≤ p + 5 ∧ Drawing w base B q N b (w5.setCell ⟨N, 2, none⟩ (.int .i64 x5)) := ⟨_, _, by omega, D3⟩
    clear D1 D2 D3 h5 o5
    go_wp2_with fail
    clear c2 f2
    generalize w5.setCell ⟨N, 2, none⟩ (.int .i64 x5) = W at D ⊢
    refine (odd_all base B q n W D.rdr (by omega) hn0 hn1).mono ?_
    rintro e w6 ⟨v, q6, rfl, hq6, h6, o6⟩
    have D4 := D.only o6 h6
    clear D h6 o6
    cases v
    · obtain ⟨c0, c1, c2, c3, c4⟩ := D4.cells
      obtain ⟨⟨r0, e0⟩, f0⟩ := D4.resCells 0 (by omega)
      obtain ⟨⟨r1, e1⟩, f1⟩ := D4.resCells 1 (by omega)
      obtain ⟨⟨r2, e2⟩, f2⟩ := D4.resCells 2 (by omega)
      obtain ⟨⟨r3, e3⟩, f3⟩ := D4.resCells 3 (by omega)
      obtain ⟨⟨r4, e4⟩, f4⟩ := D4.resCells 4 (by omega)
      go_wp2_with fail
      obtain ⟨z0, z1, z2, z3, z4⟩ := D4.ends (.int .i64 b.i) (.int .i64 b.g) (.int .i64 b.c) (.int .i64 b.p) (.bool b.d)
      exact bodyPost_ret (v := .agg #[.int .i64 b.i, .int .i64 b.g, .int .i64 b.c, .int .i64 b.p, .bool b.d]) (by simp [results, Try.results92, go_sem, z0, z1, z2, z3, z4]) rfl
        ⟨b, q6, by omega, rfl, D4.end_ _ _ _ _ _⟩
    · go_wp2_with fail
      refine (pick_any base B q6 4 _ D4.rdr (by omega) (by omega)).mono ?_
      rintro e w7 ⟨x7, x70, x71, rfl, h7, o7⟩
      have D5 := D4.only o7 h7
      clear D4 h7 o7
      rcases (by omega : x7 = 0 ∨ x7 = 1 ∨ x7 = 2 ∨ x7 = 3) with hx | hx | hx | hx
      all_goals
        subst hx
        go_wp2_with fail
        refine (pick_any base B (q6 + 1) 2 _ (D5.alloc _).rdr (by omega) (by omega)).mono ?_
        rintro e w8 ⟨x8, x80, x81, rfl, h8, o8⟩
        have D7 := (D5.alloc _).only o8 h8
        have hM := D5.hB
        have hMB := D5.size
        have hMN := D5.hN
        have m0 := Drawing.item0 o8 (by omega)
        have m1 := Drawing.item1 o8 (by omega)
        clear D5 h8 o8
        generalize w7.heap.size = M at *
        obtain ⟨c0, c1, c2, c3, c4⟩ := D7.cells
        obtain ⟨⟨r0, e0⟩, f0⟩ := D7.resCells 0 (by omega)
        obtain ⟨⟨r1, e1⟩, f1⟩ := D7.resCells 1 (by omega)
        obtain ⟨⟨r2, e2⟩, f2⟩ := D7.resCells 2 (by omega)
        obtain ⟨⟨r3, e3⟩, f3⟩ := D7.resCells 3 (by omega)
        obtain ⟨⟨r4, e4⟩, f4⟩ := D7.resCells 4 (by omega)
        have g0 := D7.free 0
        have g1 := D7.free 1
        have g2 := D7.free 2
        have g3 := D7.free 3
        rcases (by omega : x8 = 0 ∨ x8 = 1) with hy | hy
        all_goals
          subst hy
          go_wp2_with fail
      · have D8 := D7.set (b' := ⟨(0), b.g, b.c, b.p, b.d⟩) 0 (.int .i64 (0)) rfl
        obtain ⟨z0, z1, z2, z3, z4⟩ := D8.ends (.int .i64 (0)) (.int .i64 b.g) (.int .i64 b.c) (.int .i64 b.p) (.bool b.d)
        exact bodyPost_ret (v := .agg #[.int .i64 (0), .int .i64 b.g, .int .i64 b.c, .int .i64 b.p, .bool b.d]) (by simp [results, Try.results92, go_sem, z0, z1, z2, z3, z4]) rfl ⟨⟨(0), b.g, b.c, b.p, b.d⟩, q6 + 2, by omega, rfl, D8.end_ (.int .i64 (0)) (.int .i64 b.g) (.int .i64 b.c) (.int .i64 b.p) (.bool b.d)⟩
      · have D8 := D7.set (b' := ⟨(1000), b.g, b.c, b.p, b.d⟩) 0 (.int .i64 (1000)) rfl
        obtain ⟨z0, z1, z2, z3, z4⟩ := D8.ends (.int .i64 (1000)) (.int .i64 b.g) (.int .i64 b.c) (.int .i64 b.p) (.bool b.d)
        exact bodyPost_ret (v := .agg #[.int .i64 (1000), .int .i64 b.g, .int .i64 b.c, .int .i64 b.p, .bool b.d]) (by simp [results, Try.results92, go_sem, z0, z1, z2, z3, z4]) rfl ⟨⟨(1000), b.g, b.c, b.p, b.d⟩, q6 + 2, by omega, rfl, D8.end_ (.int .i64 (1000)) (.int .i64 b.g) (.int .i64 b.c) (.int .i64 b.p) (.bool b.d)⟩
      · have D8 := D7.set (b' := ⟨b.i, (0), b.c, b.p, b.d⟩) 1 (.int .i64 (0)) rfl
        obtain ⟨z0, z1, z2, z3, z4⟩ := D8.ends (.int .i64 b.i) (.int .i64 (0)) (.int .i64 b.c) (.int .i64 b.p) (.bool b.d)
        exact bodyPost_ret (v := .agg #[.int .i64 b.i, .int .i64 (0), .int .i64 b.c, .int .i64 b.p, .bool b.d]) (by simp [results, Try.results92, go_sem, z0, z1, z2, z3, z4]) rfl ⟨⟨b.i, (0), b.c, b.p, b.d⟩, q6 + 2, by omega, rfl, D8.end_ (.int .i64 b.i) (.int .i64 (0)) (.int .i64 b.c) (.int .i64 b.p) (.bool b.d)⟩
      · have D8 := D7.set (b' := ⟨b.i, (31), b.c, b.p, b.d⟩) 1 (.int .i64 (31)) rfl
        obtain ⟨z0, z1, z2, z3, z4⟩ := D8.ends (.int .i64 b.i) (.int .i64 (31)) (.int .i64 b.c) (.int .i64 b.p) (.bool b.d)
        exact bodyPost_ret (v := .agg #[.int .i64 b.i, .int .i64 (31), .int .i64 b.c, .int .i64 b.p, .bool b.d]) (by simp [results, Try.results92, go_sem, z0, z1, z2, z3, z4]) rfl ⟨⟨b.i, (31), b.c, b.p, b.d⟩, q6 + 2, by omega, rfl, D8.end_ (.int .i64 b.i) (.int .i64 (31)) (.int .i64 b.c) (.int .i64 b.p) (.bool b.d)⟩
      · have D8 := D7.set (b' := ⟨b.i, b.g, (-1), b.p, b.d⟩) 2 (.int .i64 (-1)) rfl
        obtain ⟨z0, z1, z2, z3, z4⟩ := D8.ends (.int .i64 b.i) (.int .i64 b.g) (.int .i64 (-1)) (.int .i64 b.p) (.bool b.d)
        exact bodyPost_ret (v := .agg #[.int .i64 b.i, .int .i64 b.g, .int .i64 (-1), .int .i64 b.p, .bool b.d]) (by simp [results, Try.results92, go_sem, z0, z1, z2, z3, z4]) rfl ⟨⟨b.i, b.g, (-1), b.p, b.d⟩, q6 + 2, by omega, rfl, D8.end_ (.int .i64 b.i) (.int .i64 b.g) (.int .i64 (-1)) (.int .i64 b.p) (.bool b.d)⟩
      · have D8 := D7.set (b' := ⟨b.i, b.g, (4), b.p, b.d⟩) 2 (.int .i64 (4)) rfl
        obtain ⟨z0, z1, z2, z3, z4⟩ := D8.ends (.int .i64 b.i) (.int .i64 b.g) (.int .i64 (4)) (.int .i64 b.p) (.bool b.d)
        exact bodyPost_ret (v := .agg #[.int .i64 b.i, .int .i64 b.g, .int .i64 (4), .int .i64 b.p, .bool b.d]) (by simp [results, Try.results92, go_sem, z0, z1, z2, z3, z4]) rfl ⟨⟨b.i, b.g, (4), b.p, b.d⟩, q6 + 2, by omega, rfl, D8.end_ (.int .i64 b.i) (.int .i64 b.g) (.int .i64 (4)) (.int .i64 b.p) (.bool b.d)⟩
      · have D8 := D7.set (b' := ⟨b.i, b.g, b.c, (-1), b.d⟩) 3 (.int .i64 (-1)) rfl
        obtain ⟨z0, z1, z2, z3, z4⟩ := D8.ends (.int .i64 b.i) (.int .i64 b.g) (.int .i64 b.c) (.int .i64 (-1)) (.bool b.d)
        exact bodyPost_ret (v := .agg #[.int .i64 b.i, .int .i64 b.g, .int .i64 b.c, .int .i64 (-1), .bool b.d]) (by simp [results, Try.results92, go_sem, z0, z1, z2, z3, z4]) rfl ⟨⟨b.i, b.g, b.c, (-1), b.d⟩, q6 + 2, by omega, rfl, D8.end_ (.int .i64 b.i) (.int .i64 b.g) (.int .i64 b.c) (.int .i64 (-1)) (.bool b.d)⟩
      · have D8 := D7.set (b' := ⟨b.i, b.g, b.c, (7), b.d⟩) 3 (.int .i64 (7)) rfl
        obtain ⟨z0, z1, z2, z3, z4⟩ := D8.ends (.int .i64 b.i) (.int .i64 b.g) (.int .i64 b.c) (.int .i64 (7)) (.bool b.d)
        exact bodyPost_ret (v := .agg #[.int .i64 b.i, .int .i64 b.g, .int .i64 b.c, .int .i64 (7), .bool b.d]) (by simp [results, Try.results92, go_sem, z0, z1, z2, z3, z4]) rfl ⟨⟨b.i, b.g, b.c, (7), b.d⟩, q6 + 2, by omega, rfl, D8.end_ (.int .i64 b.i) (.int .i64 b.g) (.int .i64 b.c) (.int .i64 (7)) (.bool b.d)⟩
  · have hc' : (x4 == 0) = false := by rw [beq_eq_false_iff_ne]; exact hc
    clear hc
    obtain ⟨b, q, hq, D⟩ : ∃ b q, q ≤ p + 5 ∧ Drawing w base B q N b w4 := ⟨_, _, by omega, D1⟩
    clear D1
    go_wp2_with fail
    generalize w4 = W at D ⊢
    refine (odd_all base B q n W D.rdr (by omega) hn0 hn1).mono ?_
    rintro e w6 ⟨v, q6, rfl, hq6, h6, o6⟩
    have D4 := D.only o6 h6
    clear D h6 o6
    cases v
    · obtain ⟨c0, c1, c2, c3, c4⟩ := D4.cells
      obtain ⟨⟨r0, e0⟩, f0⟩ := D4.resCells 0 (by omega)
      obtain ⟨⟨r1, e1⟩, f1⟩ := D4.resCells 1 (by omega)
      obtain ⟨⟨r2, e2⟩, f2⟩ := D4.resCells 2 (by omega)
      obtain ⟨⟨r3, e3⟩, f3⟩ := D4.resCells 3 (by omega)
      obtain ⟨⟨r4, e4⟩, f4⟩ := D4.resCells 4 (by omega)
      go_wp2_with fail
      obtain ⟨z0, z1, z2, z3, z4⟩ := D4.ends (.int .i64 b.i) (.int .i64 b.g) (.int .i64 b.c) (.int .i64 b.p) (.bool b.d)
      exact bodyPost_ret (v := .agg #[.int .i64 b.i, .int .i64 b.g, .int .i64 b.c, .int .i64 b.p, .bool b.d]) (by simp [results, Try.results92, go_sem, z0, z1, z2, z3, z4]) rfl
        ⟨b, q6, by omega, rfl, D4.end_ _ _ _ _ _⟩
    · go_wp2_with fail
      refine (pick_any base B q6 4 _ D4.rdr (by omega) (by omega)).mono ?_
      rintro e w7 ⟨x7, x70, x71, rfl, h7, o7⟩
      have D5 := D4.only o7 h7
      clear D4 h7 o7
      rcases (by omega : x7 = 0 ∨ x7 = 1 ∨ x7 = 2 ∨ x7 = 3) with hx | hx | hx | hx
      all_goals
        subst hx
        go_wp2_with fail
        refine (pick_any base B (q6 + 1) 2 _ (D5.alloc _).rdr (by omega) (by omega)).mono ?_
        rintro e w8 ⟨x8, x80, x81, rfl, h8, o8⟩
        have D7 := (D5.alloc _).only o8 h8
        have hM := D5.hB
        have hMB := D5.size
        have hMN := D5.hN
        have m0 := Drawing.item0 o8 (by omega)
        have m1 := Drawing.item1 o8 (by omega)
        clear D5 h8 o8
        generalize w7.heap.size = M at *
        obtain ⟨c0, c1, c2, c3, c4⟩ := D7.cells
        obtain ⟨⟨r0, e0⟩, f0⟩ := D7.resCells 0 (by omega)
        obtain ⟨⟨r1, e1⟩, f1⟩ := D7.resCells 1 (by omega)
        obtain ⟨⟨r2, e2⟩, f2⟩ := D7.resCells 2 (by omega)
        obtain ⟨⟨r3, e3⟩, f3⟩ := D7.resCells 3 (by omega)
        obtain ⟨⟨r4, e4⟩, f4⟩ := D7.resCells 4 (by omega)
        have g0 := D7.free 0
        have g1 := D7.free 1
        have g2 := D7.free 2
        have g3 := D7.free 3
        rcases (by omega : x8 = 0 ∨ x8 = 1) with hy | hy
        all_goals
          subst hy
          go_wp2_with fail
      · have D8 := D7.set (b' := ⟨(0), b.g, b.c, b.p, b.d⟩) 0 (.int .i64 (0)) rfl
        obtain ⟨z0, z1, z2, z3, z4⟩ := D8.ends (.int .i64 (0)) (.int .i64 b.g) (.int .i64 b.c) (.int .i64 b.p) (.bool b.d)
        exact bodyPost_ret (v := .agg #[.int .i64 (0), .int .i64 b.g, .int .i64 b.c, .int .i64 b.p, .bool b.d]) (by simp [results, Try.results92, go_sem, z0, z1, z2, z3, z4]) rfl ⟨⟨(0), b.g, b.c, b.p, b.d⟩, q6 + 2, by omega, rfl, D8.end_ (.int .i64 (0)) (.int .i64 b.g) (.int .i64 b.c) (.int .i64 b.p) (.bool b.d)⟩
      · have D8 := D7.set (b' := ⟨(1000), b.g, b.c, b.p, b.d⟩) 0 (.int .i64 (1000)) rfl
        obtain ⟨z0, z1, z2, z3, z4⟩ := D8.ends (.int .i64 (1000)) (.int .i64 b.g) (.int .i64 b.c) (.int .i64 b.p) (.bool b.d)
        exact bodyPost_ret (v := .agg #[.int .i64 (1000), .int .i64 b.g, .int .i64 b.c, .int .i64 b.p, .bool b.d]) (by simp [results, Try.results92, go_sem, z0, z1, z2, z3, z4]) rfl ⟨⟨(1000), b.g, b.c, b.p, b.d⟩, q6 + 2, by omega, rfl, D8.end_ (.int .i64 (1000)) (.int .i64 b.g) (.int .i64 b.c) (.int .i64 b.p) (.bool b.d)⟩
      · have D8 := D7.set (b' := ⟨b.i, (0), b.c, b.p, b.d⟩) 1 (.int .i64 (0)) rfl
        obtain ⟨z0, z1, z2, z3, z4⟩ := D8.ends (.int .i64 b.i) (.int .i64 (0)) (.int .i64 b.c) (.int .i64 b.p) (.bool b.d)
        exact bodyPost_ret (v := .agg #[.int .i64 b.i, .int .i64 (0), .int .i64 b.c, .int .i64 b.p, .bool b.d]) (by simp [results, Try.results92, go_sem, z0, z1, z2, z3, z4]) rfl ⟨⟨b.i, (0), b.c, b.p, b.d⟩, q6 + 2, by omega, rfl, D8.end_ (.int .i64 b.i) (.int .i64 (0)) (.int .i64 b.c) (.int .i64 b.p) (.bool b.d)⟩
      · have D8 := D7.set (b' := ⟨b.i, (31), b.c, b.p, b.d⟩) 1 (.int .i64 (31)) rfl
        obtain ⟨z0, z1, z2, z3, z4⟩ := D8.ends (.int .i64 b.i) (.int .i64 (31)) (.int .i64 b.c) (.int .i64 b.p) (.bool b.d)
        exact bodyPost_ret (v := .agg #[.int .i64 b.i, .int .i64 (31), .int .i64 b.c, .int .i64 b.p, .bool b.d]) (by simp [results, Try.results92, go_sem, z0, z1, z2, z3, z4]) rfl ⟨⟨b.i, (31), b.c, b.p, b.d⟩, q6 + 2, by omega, rfl, D8.end_ (.int .i64 b.i) (.int .i64 (31)) (.int .i64 b.c) (.int .i64 b.p) (.bool b.d)⟩
      · have D8 := D7.set (b' := ⟨b.i, b.g, (-1), b.p, b.d⟩) 2 (.int .i64 (-1)) rfl
        obtain ⟨z0, z1, z2, z3, z4⟩ := D8.ends (.int .i64 b.i) (.int .i64 b.g) (.int .i64 (-1)) (.int .i64 b.p) (.bool b.d)
        exact bodyPost_ret (v := .agg #[.int .i64 b.i, .int .i64 b.g, .int .i64 (-1), .int .i64 b.p, .bool b.d]) (by simp [results, Try.results92, go_sem, z0, z1, z2, z3, z4]) rfl ⟨⟨b.i, b.g, (-1), b.p, b.d⟩, q6 + 2, by omega, rfl, D8.end_ (.int .i64 b.i) (.int .i64 b.g) (.int .i64 (-1)) (.int .i64 b.p) (.bool b.d)⟩
      · have D8 := D7.set (b' := ⟨b.i, b.g, (4), b.p, b.d⟩) 2 (.int .i64 (4)) rfl
        obtain ⟨z0, z1, z2, z3, z4⟩ := D8.ends (.int .i64 b.i) (.int .i64 b.g) (.int .i64 (4)) (.int .i64 b.p) (.bool b.d)
        exact bodyPost_ret (v := .agg #[.int .i64 b.i, .int .i64 b.g, .int .i64 (4), .int .i64 b.p, .bool b.d]) (by simp [results, Try.results92, go_sem, z0, z1, z2, z3, z4]) rfl ⟨⟨b.i, b.g, (4), b.p, b.d⟩, q6 + 2, by omega, rfl, D8.end_ (.int .i64 b.i) (.int .i64 b.g) (.int .i64 (4)) (.int .i64 b.p) (.bool b.d)⟩
      · have D8 := D7.set (b' := ⟨b.i, b.g, b.c, (-1), b.d⟩) 3 (.int .i64 (-1)) rfl
        obtain ⟨z0, z1, z2, z3, z4⟩ := D8.ends (.int .i64 b.i) (.int .i64 b.g) (.int .i64 b.c) (.int .i64 (-1)) (.bool b.d)
        exact bodyPost_ret (v := .agg #[.int .i64 b.i, .int .i64 b.g, .int .i64 b.c, .int .i64 (-1), .bool b.d]) (by simp [results, Try.results92, go_sem, z0, z1, z2, z3, z4]) rfl ⟨⟨b.i, b.g, b.c, (-1), b.d⟩, q6 + 2, by omega, rfl, D8.end_ (.int .i64 b.i) (.int .i64 b.g) (.int .i64 b.c) (.int .i64 (-1)) (.bool b.d)⟩
      · have D8 := D7.set (b' := ⟨b.i, b.g, b.c, (7), b.d⟩) 3 (.int .i64 (7)) rfl
        obtain ⟨z0, z1, z2, z3, z4⟩ := D8.ends (.int .i64 b.i) (.int .i64 b.g) (.int .i64 b.c) (.int .i64 (7)) (.bool b.d)
        exact bodyPost_ret (v := .agg #[.int .i64 b.i, .int .i64 b.g, .int .i64 b.c, .int .i64 (7), .bool b.d]) (by simp [results, Try.results92, go_sem, z0, z1, z2, z3, z4]) rfl ⟨⟨b.i, b.g, b.c, (7), b.d⟩, q6 + 2, by omega, rfl, D8.end_ (.int .i64 b.i) (.int .i64 b.g) (.int .i64 b.c) (.int .i64 (7)) (.bool b.d)⟩
end Go.Proofs.Ytmgnbkiphdlooab
namespace Go.Proofs.Ytmgnbkiphdlooab
open Go.RowKit
set_option linter.unusedVariables false

theorem MostB.below {B base : Nat} {w w' : World} (h : MostB B w w') (hb : base ≤ B) (hs : base ≤ w.heap.size) : Below base w w' :=
  ⟨h.os, h.tape, h.output, h.size, fun k hk => h.block k (by omega) (by omega)⟩

/-- What a draw of one box gives. -/
def DrewOne (w : World) (e : Ending) (w' : World) : Prop :=
  ∃ b : Bx, e = .returned (.agg #[.int .i64 b.i, .int .i64 b.g, .int .i64 b.c, .int .i64 b.p, .bool b.d]) ∧ Below w.heap.size w w'

theorem cell_lt {w : World} {p : Addr} {v : Value} (h : w.cell? p = some v) : p.block < w.heap.size := by
  rcases Nat.lt_or_ge p.block w.heap.size with h' | h'
  · exact h'
  · rw [World.cell?, Array.getElem?_eq_none h'] at h; cases h
theorem IsRow8.keep {w w' : World} {a : Option Addr} {len cap : Nat} (h : IsRow8 w a len cap) (hb : Below w.heap.size w w') : IsRow8 w' a len cap := by
  rcases h with h | ⟨x, h1, h2, h3, h4⟩
  · exact .inl h
  · refine .inr ⟨x, h1, h2, h3, fun i hi => ?_⟩
    obtain ⟨c, c0, c1, hc⟩ := h4 i hi
    exact ⟨c, c0, c1, (hb.cell (cell_lt hc)).trans hc⟩
theorem five_open {w : World} {R : Nat} {v0 v1 v2 v3 v4 : Value} {t : TypeId} (h : w.heap[R]? = some (.cells #[v0, v1, v2, v3, v4] t (0, 0))) :
    (w.cell? ⟨R, 0, none⟩ = some v0 ∧ w.cell? ⟨R, 1, none⟩ = some v1 ∧ w.cell? ⟨R, 2, none⟩ = some v2 ∧ w.cell? ⟨R, 3, none⟩ = some v3 ∧ w.cell? ⟨R, 4, none⟩ = some v4) ∧ ∀ j, w.frozen? ⟨R, j, none⟩ = false := by
  refine ⟨⟨?_, ?_, ?_, ?_, ?_⟩, fun j => ?_⟩ <;> simp [World.cell?, World.frozen?, h]

/-- How a draw of one box ends: what the inner draw gave is laid into the answer's place, block R. -/
theorem DrewOne.ends {w W : World} {R : Nat} {t : TypeId} {cs : Array Value} (hb : Below w.heap.size w W) (hR : W.heap[R]? = some (.cells cs t (0, 0))) (hw : w.heap.size ≤ R) (h5 : cs.size = 5) (v0 v1 v2 v3 v4 : Value) :
    Below w.heap.size w (((((W.setCell ⟨R, 0, none⟩ v0).setCell ⟨R, 1, none⟩ v1).setCell ⟨R, 2, none⟩ v2).setCell ⟨R, 3, none⟩ v3).setCell ⟨R, 4, none⟩ v4) ∧
    (((((W.setCell ⟨R, 0, none⟩ v0).setCell ⟨R, 1, none⟩ v1).setCell ⟨R, 2, none⟩ v2).setCell ⟨R, 3, none⟩ v3).setCell ⟨R, 4, none⟩ v4).heap[R]? = some (.cells #[v0, v1, v2, v3, v4] t (0, 0)) := by
  have e0 := Joins.block_setCell (i := 0) hR v0
  have b0 := hb.setCell (p := ⟨R, 0, none⟩) hw v0
  generalize W.setCell ⟨R, 0, none⟩ v0 = W0 at e0 b0 ⊢
  have e1 := Joins.block_setCell (i := 1) e0 v1
  have b1 := b0.setCell (p := ⟨R, 1, none⟩) hw v1
  generalize W0.setCell ⟨R, 1, none⟩ v1 = W1 at e1 b1 ⊢
  have e2 := Joins.block_setCell (i := 2) e1 v2
  have b2 := b1.setCell (p := ⟨R, 2, none⟩) hw v2
  generalize W1.setCell ⟨R, 2, none⟩ v2 = W2 at e2 b2 ⊢
  have e3 := Joins.block_setCell (i := 3) e2 v3
  have b3 := b2.setCell (p := ⟨R, 3, none⟩) hw v3
  generalize W2.setCell ⟨R, 3, none⟩ v3 = W3 at e3 b3 ⊢
  have e4 := Joins.block_setCell (i := 4) e3 v4
  have b4 := b3.setCell (p := ⟨R, 4, none⟩) hw v4
  generalize W3.setCell ⟨R, 4, none⟩ v4 = W4 at e4 b4 ⊢
  refine And.intro b4 ?_
  rw [e4]
  clear e0 e1 e2 e3 e4 b0 b1 b2 b3 b4 hR hb
  obtain ⟨l⟩ := cs
  match l, h5 with
  | [a, b, c, d, e], _ => simp

end Go.Proofs.Ytmgnbkiphdlooab
namespace Go.Proofs.Ytmgnbkiphdlooab
open Go.RowKit
set_option linter.unusedVariables false

/-- The cells of a list of boxes. -/
def rowB (l : List Bx) : List Value := l.flatMap Bx.cells
theorem rowB_len : ∀ l : List Bx, (rowB l).length = l.length * 5
  | [] => rfl
  | b :: l => by
    have e : rowB (b :: l) = b.cells ++ rowB l := rfl
    rw [e, List.length_append, rowB_len l, List.length_cons]
    show 5 + _ = _
    omega
theorem rowB_app (l l' : List Bx) : rowB (l ++ l') = rowB l ++ rowB l' := by simp [rowB]
theorem rowB_at : ∀ (l : List Bx) (k : Nat) (hk : k < l.length) (j : Nat), j < 5 → (rowB l)[k * 5 + j]? = l[k].cells[j]?
  | b :: l, 0, _, j, hj => by
    have e : rowB (b :: l) = b.cells ++ rowB l := rfl
    rw [e, List.getElem?_append_left (by show 0 * 5 + j < 5; omega), Nat.zero_mul, Nat.zero_add]
    rfl
  | b :: l, k + 1, hk, j, hj => by
    have e : rowB (b :: l) = b.cells ++ rowB l := rfl
    rw [e, List.getElem?_append_right (by show 5 ≤ _; omega)]
    have e2 : (k + 1) * 5 + j - b.cells.length = k * 5 + j := by show (k + 1) * 5 + j - 5 = _; omega
    rw [e2, rowB_at l k (by simpa using hk) j hj]
    rfl

/-- A slice of boxes that lies from block K on. -/
def NewBx (K : Nat) (w : World) (v : Value) (l : List Bx) : Prop :=
  ∃ (a : Option Addr) (cap : Nat), v = .slice a l.length cap ∧ l.length ≤ cap ∧ cap ≤ maxLen ∧
    (l.length = 0 ∨ ∃ b off, a = some ⟨b, off, none⟩ ∧ K ≤ b ∧ b < w.heap.size ∧ ∀ k (hk : k < l.length), ∀ j, j < 5 → w.cell? ⟨b, off + (k * 5 + j), none⟩ = l[k].cells[j]?)
theorem NewBx.holds {K : Nat} {w : World} {v : Value} {l : List Bx} (h : NewBx K w v l) : HoldsBx w v l := by
  obtain ⟨a, cap, h1, h2, h3, h4⟩ := h
  exact ⟨a, cap, h1, h2, h3, h4.imp id fun ⟨b, off, h5, _, h6, h7⟩ => ⟨b, off, h5, h6, h7⟩⟩
theorem NewBx.most {K B : Nat} {w w' : World} {v : Value} {l : List Bx} (h : NewBx K w v l) (hm : MostB B w w') (hB : B < K) : NewBx K w' v l := by
  obtain ⟨a, cap, h1, h2, h3, h4⟩ := h
  refine ⟨a, cap, h1, h2, h3, ?_⟩
  rcases h4 with h4 | ⟨b, off, h5, h6, h7, h8⟩
  · exact .inl h4
  · exact .inr ⟨b, off, h5, h6, Nat.lt_of_lt_of_le h7 hm.size, fun k hk j hj => (World.cell?_of_block (w := w) (hm.block b (by omega) h7)).trans (h8 k hk j hj)⟩
theorem NewBx.of_own {w : World} {base : Nat} {e : TypeId} {v : Value} {l : List Bx} (h : w.ownsRow base e 5 v l.length (rowB l)) : NewBx base w v l := by
  rcases h.2 with ⟨rfl, h0⟩ | ⟨g, cap, cur, rfl, hb, hg, hc, hm, hs, hx⟩
  · exact ⟨none, 0, by rw [h0], by omega, by simp [maxLen], .inl h0⟩
  · have hlt := (own_lt h g (by simp [Value.ownBlock])).2
    refine ⟨some ⟨g, 0, none⟩, cap, rfl, hc, hm, .inr ⟨g, 0, rfl, hb, hlt, fun k hk j hj => ?_⟩⟩
    rw [← rowB_at l k hk j hj, ← hx, List.getElem?_take, if_pos (by omega), Nat.zero_add]
    simp [World.cell?, hg]
end Go.Proofs.Ytmgnbkiphdlooab
namespace Go.Proofs.Ytmgnbkiphdlooab
open Go.RowKit
set_option linter.unusedVariables false

theorem infoBx : (Try.prog.info? 41).map (fun i => (i.zero, i.size, i.bytes)) = some (some (.agg #[.int .i64 0, .int .i64 0, .int .i64 0, .int .i64 0, .bool false]), 5, 40) := by kernel_rfl

/-- What a draw of a list of boxes gives. -/
def DrewBoxes (base B p : Nat) (w : World) (e : Ending) (w' : World) : Prop :=
  ∃ (l : List Bx) (v : Value) (q : Nat), q ≤ p + 1000 ∧ l.length ≤ 40 ∧ e = .returned v ∧ NewBx w.heap.size w' v l ∧ Rdr base B q w' ∧ MostB B w w'

theorem own_boxes {w : World} {base : Nat} {e : TypeId} {v : Value} {l m : List Bx} {n : Nat} {xs : List Value} (h : w.ownsRow base e 5 v (l.length + n) (rowB l ++ xs)) (hm : m.length = n) (hx : xs = rowB m) : w.ownsRow base e 5 v (l ++ m).length (rowB (l ++ m)) := by
  subst hm hx
  rw [rowB_app, List.length_append]; exact h
theorem NewBx.from_ {K K' : Nat} {w : World} {v : Value} {l : List Bx} (h : NewBx K w v l) (hk : K' ≤ K) : NewBx K' w v l := by
  obtain ⟨a, cap, h1, h2, h3, h4⟩ := h
  exact ⟨a, cap, h1, h2, h3, h4.imp id fun ⟨b, off, h5, h6, h7⟩ => ⟨b, off, h5, by omega, h7⟩⟩
theorem eleven {w : World} {base : Nat} {e : TypeId} {v : Value} (h : w.ownsRow base e 5 v 11 (madeCells (Value.agg #[.int .i64 0, .int .i64 0, .int .i64 0, .int .i64 0, .bool false]).cells (11 * 5)).toList) : w.ownsRow base e 5 v (List.replicate 11 Bx.zero).length (rowB (List.replicate 11 Bx.zero)) := by
  have e1 : (madeCells (Value.agg #[.int .i64 0, .int .i64 0, .int .i64 0, .int .i64 0, .bool false]).cells (11 * 5)).toList = rowB (List.replicate 11 Bx.zero) := by kernel_rfl
  rw [e1] at h
  exact h
set_option maxRecDepth 10000 in
set_option maxHeartbeats 2000000 in
theorem l20Boxes_any (base B p : Nat) (many n : Int) (w : World) (h : Rdr base B p w) (hp : p ≤ 100000) (hm0 : 0 ≤ many) (hm1 : many ≤ 20) (hn0 : 0 ≤ n) (hn1 : n ≤ 1000) :
    Calls Try.prog 75 #[.pointer (some ⟨B, 0, none⟩), .int .i64 many, .int .i64 n] w (DrewBoxes base B p w) := by
  obtain ⟨i0, hi, hz0, hz1, hz2⟩ := info_parts infoBx
  have HI := Lib.hid hi
  have HZ0 := Lib.hid hz0
  have HZ1 := Lib.hid hz1
  have HZ2 := Lib.hid hz2
  clear hi hz0 hz1 hz2
  have hBw := h.2.1
  have hbB := h.1
  go_enter Try.func75, Try.ntmps75
  go_wp2_with fail
  refine (pick_any base B p (many + 1) _ (h.keep ((Below.refl _ _).alloc (Nat.le_refl _) _)) (by omega) (by omega)).mono ?_
  rintro e w1 ⟨x1, x10, x11, rfl, h1, o1⟩
  have own1 : w1.ownsRow w.heap.size 41 5 (.slice (some ⟨w.heap.size, 0, none⟩) 0 0) ([] : List Bx).length (rowB []) := by
    refine ⟨rfl, .inr ⟨w.heap.size, 0, #[], rfl, Nat.le_refl _, ?_, Nat.le_refl _, Nat.zero_le _, rfl, rfl⟩⟩
    rw [o1.block _ (by omega)]
    show (w.heap.push _)[w.heap.size]? = _
    simp
  have hmw1 : MostB B w w1 := ((MostB.refl B w).alloc _).trans o1.mostB
  obtain ⟨j1, hj1⟩ := Int.eq_ofNat_of_zero_le x10
  subst hj1
  clear h o1
  go_wp2_with fail
  go_loopw [7, 8] (fun v k wr => ∃ (q j : Nat) (l : List Bx) (g cap : Nat), v = .slice (some ⟨g, 0, none⟩) l.length cap ∧ l.length ≤ cap ∧ cap ≤ maxLen ∧ k = .int .i64 j ∧ l.length + j ≤ 20 ∧ q ≤ p + 1 + 8 * l.length ∧ Rdr base B q wr ∧ wr.ownsRow w.heap.size 41 5 v l.length (rowB l) ∧ MostB B w wr) (fun _ k _ => (intOf k).toNat)
  case atStart => exact ⟨p + 1, j1, [], w.heap.size, 0, rfl, Nat.le_refl _, Nat.zero_le _, rfl, by simp; omega, by simp, h1, own1, hmw1⟩
  case round =>
    clear h1 own1 hmw1
    obtain ⟨q, j, l, g, cap, rfl, hgc, hgm, rfl, hl, hq, hr, hown, hmw⟩ := hrel
    have hws := hmw.size
    unfold maxLen at hgm
    by_cases hlt : 0 < j
    · go_wp2_with fail
      refine (l20Box_any base B q (l.length + 1) 0 _ hr (by omega) (by omega) (by omega) (by omega) (by omega)).mono ?_
      rintro e w3 ⟨b, q', hq', rfl, hr3, hm⟩
      have hown3 := own_most hown hm (by omega)
      have hmw3 := hmw.trans hm
      have hws3 := hmw3.size
      clear hr hown hmw hm
      go_wp2_with (at_builtin; refine wpList_append_own _ rfl _ _ 25 rfl w.heap.size 41 i0 (.agg #[.int .i64 0, .int .i64 0, .int .i64 0, .int .i64 0, .bool false]) 5 40 Try.underlying25 HI.out HZ0.out HZ1.out HZ2.out rfl (by decide) _ _ _ rfl (hown3.alloc _) ⟨w3.heap.size, 0, none⟩ 1 1 [.int .i64 b.i, .int .i64 b.g, .int .i64 b.c, .int .i64 b.p, .bool b.d] rfl rfl (fun j u hu => cells_new j u hu) (by simp [Value.oneCell']) (by unfold maxLen; omega) (by omega) (by simp; omega) ?_; intro v' w4 hown4 hgrow _)
      have hb4 : Below w.heap.size (w3.alloc (.cells #[.int .i64 b.i, .int .i64 b.g, .int .i64 b.c, .int .i64 b.p, .bool b.d] 41)) w4 := own_below (v := .slice (some ⟨g, 0, none⟩) l.length cap) hgrow (by simp; omega) (fun k hk => (own_lt hown3 k hk).1)
      have hmw4 := (hmw3.alloc (.cells #[.int .i64 b.i, .int .i64 b.g, .int .i64 b.c, .int .i64 b.p, .bool b.d] 41)).below_ hb4
      have hr4 := (hr3.keep ((Below.refl _ _).alloc (Nat.le_refl _) (.cells #[.int .i64 b.i, .int .i64 b.g, .int .i64 b.c, .int .i64 b.p, .bool b.d] 41))).keepK hb4 hBw
      have hown5 := own_boxes (m := [b]) hown4 rfl rfl
      clear hgrow hb4 hown3 hr3 hown4 hmw3
      obtain ⟨g', cap', rfl, q1, q2⟩ := own_form hown5 (by simp)
      have H5 := Lib.hid hown5
      have Q1 := Lib.hid q1
      clear hown5 q1
      go_wp2_with fail
      go_roundw
      case rel => exact ⟨q', j - 1, l ++ [b], g', cap', rfl, Q1.out, q2, by congr 1; omega, by simp; omega, by simp; omega, hr4, H5.out, hmw4⟩
      case measure => simp [intOf]; omega
    · have hj0 : j = 0 := by omega
      clear hlt
      subst hj0
      go_wp2_with fail
      refine (odd_all base B q n _ hr (by omega) hn0 hn1).mono ?_
      rintro e w6 ⟨v, q6, rfl, hq6, h6, o6⟩
      have hown6 := own_most hown o6.mostB (by omega)
      have hmw6 := hmw.trans o6.mostB
      have hws6 := hmw6.size
      clear hr hown hmw o6
      cases v
      · have hh := Lib.hid (NewBx.of_own hown6)
        go_wp2_with fail
        go_ret
        exact ⟨l, _, q6, by omega, by omega, rfl, hh.out, h6, hmw6⟩
      · go_wp2_with fail
        refine (pick_any base B q6 3 _ h6 (by omega) (by omega)).mono ?_
        rintro e w7 ⟨x7, x70, x71, rfl, h7, o7⟩
        have hown7 := own_most hown6 o7.mostB (by omega)
        have hmw7 := hmw6.trans o7.mostB
        have hws7 := hmw7.size
        clear h6 hown6 hmw6 o7
        rcases (by omega : x7 = 0 ∨ x7 = 1 ∨ x7 = 2) with hx | hx | hx
        · subst hx
          have m2 : i0.bytes * 11 ≤ 281474976710656 := by rw [HZ2.out]; omega
          have m3 : 11 ≤ maxLen := by unfold maxLen; omega
          go_wp2_with (at_make; refine wpList_make_full _ rfl _ _ _ rfl w7.heap.size 41 i0 (.agg #[.int .i64 0, .int .i64 0, .int .i64 0, .int .i64 0, .bool false]) 5 Try.underlying25 HI.out HZ0.out HZ1.out .i64 .i64 _ _ 11 rfl rfl rfl rfl m2 m3 (Nat.le_refl _) ?_; intro w4 hown4 hgrow)
          have hb4 : Below w7.heap.size w7 w4 := (Below.refl _ _).grown hgrow (Nat.le_refl _) (fun k hk => by cases hk)
          have hmw4 := hmw7.below_ (hb4.mono hws7)
          have hr4 := h7.keep hb4
          have hh := Lib.hid (NewBx.from_ (NewBx.of_own (l := List.replicate 11 Bx.zero) (eleven hown4)) hws7)
          clear hgrow hb4 hown4 hown7
          go_wp2_with fail
          go_ret
          exact ⟨List.replicate 11 Bx.zero, .slice (some ⟨w7.heap.size, 0, none⟩) 11 11, q6 + 1, by omega, by decide, rfl, hh.out, hr4, hmw4⟩
        · subst hx
          go_wp2_with fail
          refine (l20Box_any base B (q6 + 1) 50 1 _ h7 (by omega) (by omega) (by omega) (by omega) (by omega)).mono ?_
          rintro e w3 ⟨b, q', hq', rfl, hr3, hm⟩
          have hown3 := own_most hown7 hm (by omega)
          have hmw3 := hmw7.trans hm
          have hws3 := hmw3.size
          clear h7 hown7 hmw7 hm
          go_wp2_with (at_builtin; refine wpList_append_own _ rfl _ _ 25 rfl w.heap.size 41 i0 (.agg #[.int .i64 0, .int .i64 0, .int .i64 0, .int .i64 0, .bool false]) 5 40 Try.underlying25 HI.out HZ0.out HZ1.out HZ2.out rfl (by decide) _ _ _ rfl (hown3.alloc _) ⟨w3.heap.size, 0, none⟩ 1 1 [.int .i64 b.i, .int .i64 b.g, .int .i64 b.c, .int .i64 b.p, .bool b.d] rfl rfl (fun j u hu => cells_new j u hu) (by simp [Value.oneCell']) (by unfold maxLen; omega) (by omega) (by simp; omega) ?_; intro v' w4 hown4 hgrow _)
          have hb4 : Below w.heap.size (w3.alloc (.cells #[.int .i64 b.i, .int .i64 b.g, .int .i64 b.c, .int .i64 b.p, .bool b.d] 41)) w4 := own_below (v := .slice (some ⟨g, 0, none⟩) l.length cap) hgrow (by simp; omega) (fun k hk => (own_lt hown3 k hk).1)
          have hmw4 := (hmw3.alloc (.cells #[.int .i64 b.i, .int .i64 b.g, .int .i64 b.c, .int .i64 b.p, .bool b.d] 41)).below_ hb4
          have hr4 := (hr3.keep ((Below.refl _ _).alloc (Nat.le_refl _) (.cells #[.int .i64 b.i, .int .i64 b.g, .int .i64 b.c, .int .i64 b.p, .bool b.d] 41))).keepK hb4 hBw
          have hown5 := own_boxes (m := [b]) hown4 rfl rfl
          clear hgrow hb4 hown3 hr3 hown4 hmw3
          have hh := Lib.hid (NewBx.of_own hown5)
          have hz := Lib.hid (show (l ++ [b]).length ≤ 40 by simp; omega)
          clear hown5
          go_wp2_with fail
          go_ret
          exact ⟨l ++ [b], _, q', by omega, hz.out, rfl, hh.out, hr4, hmw4⟩
        · subst hx
          go_wp2_with (at_builtin; refine wpList_append_own _ rfl _ _ 25 rfl w.heap.size 41 i0 (.agg #[.int .i64 0, .int .i64 0, .int .i64 0, .int .i64 0, .bool false]) 5 40 Try.underlying25 HI.out HZ0.out HZ1.out HZ2.out rfl (by decide) _ _ _ rfl (hown7.alloc _) ⟨w7.heap.size, 0, none⟩ 2 2 [.int .i64 7, .int .i64 3, .int .i64 0, .int .i64 0, .bool false, .int .i64 7, .int .i64 4, .int .i64 0, .int .i64 0, .bool false] rfl rfl (fun j u hu => cells_new j u hu) (by simp [Value.oneCell']) (by unfold maxLen; omega) (by omega) (by simp; omega) ?_; intro v' w4 hown4 hgrow _)
          have hb4 : Below w.heap.size (w7.alloc (.cells #[.int .i64 7, .int .i64 3, .int .i64 0, .int .i64 0, .bool false, .int .i64 7, .int .i64 4, .int .i64 0, .int .i64 0, .bool false] 41)) w4 := own_below (v := .slice (some ⟨g, 0, none⟩) l.length cap) hgrow (by simp; omega) (fun k hk => (own_lt hown7 k hk).1)
          have hmw4 := (hmw7.alloc (.cells #[.int .i64 7, .int .i64 3, .int .i64 0, .int .i64 0, .bool false, .int .i64 7, .int .i64 4, .int .i64 0, .int .i64 0, .bool false] 41)).below_ hb4
          have hr4 := (h7.keep ((Below.refl _ _).alloc (Nat.le_refl _) (.cells #[.int .i64 7, .int .i64 3, .int .i64 0, .int .i64 0, .bool false, .int .i64 7, .int .i64 4, .int .i64 0, .int .i64 0, .bool false] 41))).keepK hb4 hBw
          have hown5 := own_boxes (m := [⟨7, 3, 0, 0, false⟩, ⟨7, 4, 0, 0, false⟩]) hown4 rfl rfl
          clear hgrow hb4 hown7 h7 hown4 hmw7
          have hh := Lib.hid (NewBx.of_own hown5)
          have hz := Lib.hid (show (l ++ [(⟨7, 3, 0, 0, false⟩ : Bx), ⟨7, 4, 0, 0, false⟩]).length ≤ 40 by simp; omega)
          clear hown5
          go_wp2_with fail
          go_ret
          exact ⟨l ++ [⟨7, 3, 0, 0, false⟩, ⟨7, 4, 0, 0, false⟩], v', q6 + 1, by omega, hz.out, rfl, hh.out, hr4, hmw4⟩
end Go.Proofs.Ytmgnbkiphdlooab
