/-
  The draw of a ship: l20Hull.
-/
import Derived.Test.YtfeobdgdhgcgoaaGBase
import Derived.Test.YtfeobdgdhgcgoaaGSl
import Derived.Lib.SmallJoins
namespace Go.Proofs.Ytfeobdgdhgcgoaa
open Go.RowKit
set_option linter.unusedVariables false

def Hl.cells (h : Hl) : List Value := [.int .i64 h.b, .int .i64 h.r, .int .i64 h.t]
def Hl.zero : Hl := ⟨0, 0, 0⟩
/-- While a ship is drawn: the reader at block B; the ship stands in block N, the answer's place behind the heap's size at the beginning. -/
structure DrawH (w0 : World) (base B q N : Nat) (b : Hl) (w : World) : Prop where
  rdr : Rdr base B q w
  box : w.heap[N]? = some (.cells b.cells.toArray 36 (0, 0))
  res : w.heap[w0.heap.size]? = some (.cells Hl.zero.cells.toArray 36 (0, 0))
  hN : w0.heap.size < N
  hB : B < w0.heap.size
  os : w.os = w0.os
  tape : w.tape = w0.tape
  output : w.output = w0.output
  block : ∀ k, k ≠ B → k < w0.heap.size → w.heap[k]? = w0.heap[k]?
theorem DrawH.size {w0 : World} {base B q N : Nat} {b : Hl} {w : World} (h : DrawH w0 base B q N b w) : N < w.heap.size := by
  rcases Nat.lt_or_ge N w.heap.size with h' | h'
  · exact h'
  · have := h.box; rw [Array.getElem?_eq_none h'] at this; cases this
theorem DrawH.only {w0 : World} {base B q q' N : Nat} {b : Hl} {w w1 : World} (h : DrawH w0 base B q N b w) (ho : Only B w w1) (hr : Rdr base B q' w1) : DrawH w0 base B q' N b w1 := by
  have hN := h.hN
  have hB := h.hB
  exact ⟨hr, by rw [ho.block N (by omega)]; exact h.box, by rw [ho.block _ (by omega)]; exact h.res, h.hN, h.hB, ho.os.trans h.os, ho.tape.trans h.tape, ho.output.trans h.output, fun k hk hl => (ho.block k hk).trans (h.block k hk hl)⟩
theorem DrawH.alloc {w0 : World} {base B q N : Nat} {b : Hl} {w : World} (h : DrawH w0 base B q N b w) (o : Obj) : DrawH w0 base B q N b (w.alloc o) := by
  have hs := h.size
  have hN := h.hN
  have hB := h.hB
  have k : ∀ i, i < w.heap.size → (w.alloc o).heap[i]? = w.heap[i]? := fun i hi => Below.heap_alloc w o i hi
  exact ⟨h.rdr.keep ((Below.refl _ _).alloc (Nat.le_refl _) _), by rw [k N hs]; exact h.box, by rw [k _ (by omega)]; exact h.res, h.hN, h.hB, h.os, h.tape, h.output, fun i hi hl => (k i (by omega)).trans (h.block i hi hl)⟩
theorem DrawH.set {w0 : World} {base B q N : Nat} {b b' : Hl} {w : World} (h : DrawH w0 base B q N b w) (j : Nat) (v : Value) (hb : b.cells.toArray.setIfInBounds j v = b'.cells.toArray) : DrawH w0 base B q N b' (w.setCell ⟨N, j, none⟩ v) := by
  have hs := h.size
  have hN := h.hN
  have hB := h.hB
  have hbase := h.rdr.1
  have k : ∀ i, i ≠ N → (w.setCell ⟨N, j, none⟩ v).heap[i]? = w.heap[i]? := fun i hi => Below.heap_setCell w _ v i hi
  refine ⟨h.rdr.set_other (by omega) (by omega) j v, ?_, by rw [k _ (by omega)]; exact h.res, h.hN, h.hB, h.os, h.tape, h.output, fun i hi hl => (k i (by omega)).trans (h.block i hi hl)⟩
  rw [Joins.block_setCell h.box v, hb]
theorem DrawH.cells {w0 : World} {base B q N : Nat} {b : Hl} {w : World} (h : DrawH w0 base B q N b w) :
    w.cell? ⟨N, 0, none⟩ = some (.int .i64 b.b) ∧ w.cell? ⟨N, 1, none⟩ = some (.int .i64 b.r) ∧ w.cell? ⟨N, 2, none⟩ = some (.int .i64 b.t) := by
  have hb := h.box
  refine ⟨?_, ?_, ?_⟩ <;> simp [World.cell?, hb, Hl.cells]
theorem DrawH.free {w0 : World} {base B q N : Nat} {b : Hl} {w : World} (h : DrawH w0 base B q N b w) (j : Nat) : w.frozen? ⟨N, j, none⟩ = false := by
  have hb := h.box
  simp [World.frozen?, hb]
theorem DrawH.resCells {w0 : World} {base B q N : Nat} {b : Hl} {w : World} (h : DrawH w0 base B q N b w) (j : Nat) (hj : j < 3) : (∃ v, w.cell? ⟨w0.heap.size, j, none⟩ = some v) ∧ w.frozen? ⟨w0.heap.size, j, none⟩ = false := by
  have hb := h.res
  refine ⟨?_, by simp [World.frozen?, hb]⟩
  simp only [World.cell?, hb]
  exact ⟨_, Array.getElem?_eq_getElem (by simpa [Hl.cells] using hj)⟩

/-- What a call of l20Hull gives. -/
def DrewHl (base B p : Nat) (w : World) (e : Ending) (w' : World) : Prop :=
  ∃ (b : Hl) (q : Nat), q ≤ p + 8 ∧ e = .returned (.agg #[.int .i64 b.b, .int .i64 b.r, .int .i64 b.t]) ∧ Rdr base B q w' ∧ MostB B w w'
theorem DrawH.start {w w1 w2 w3 : World} {base B q : Nat} {T : TypeId} (b : Hl) (h : Rdr base B q w3) (hB : B < w.heap.size)
    (o1 : Only B (w.alloc (.cells #[.int .i64 0, .int .i64 0, .int .i64 0] 36)) w1) (o2 : Only B w1 w2) (o3 : Only B w2 w3) :
    DrawH w base B q w3.heap.size b (w3.alloc (.cells #[.int .i64 b.b, .int .i64 b.r, .int .i64 b.t] 36)) := by
  have oo := (o1.trans o2).trans o3
  have hs : w3.heap.size = w.heap.size + 1 := by rw [oo.size]; simp
  have k : ∀ o i, i < w3.heap.size → (w3.alloc o).heap[i]? = w3.heap[i]? := fun o i hi => Below.heap_alloc w3 o i hi
  refine ⟨h.keep ((Below.refl _ _).alloc (Nat.le_refl _) _), ?_, ?_, by omega, hB, oo.os, oo.tape, oo.output, fun i hi hl => ?_⟩
  · show (w3.heap.push _)[w3.heap.size]? = _
    simp [Hl.cells]
  · rw [k _ _ (by omega), oo.block _ (by omega)]
    show (w.heap.push _)[w.heap.size]? = _
    simp [Hl.cells, Hl.zero]
  · rw [k _ _ (by omega), oo.block _ hi]
    exact Below.heap_alloc w _ i hl

theorem odd_allH (base B q : Nat) (n : Int) (w : World) (h : Rdr base B q w) (hq : q ≤ 1000000) (hn0 : 0 ≤ n) (hn1 : n ≤ 1000) :
    Calls Try.prog 73 #[.pointer (some ⟨B, 0, none⟩), .int .i64 n] w fun e w' => ∃ (v : Bool) (q' : Nat), e = .returned (.bool v) ∧ q' ≤ q + 1 ∧ Rdr base B q' w' ∧ Only B w w' := by
  by_cases hn : n = 0
  · subst hn
    exact (odd_zero B w).mono fun e w' ⟨he, hw⟩ => ⟨false, q, he, by omega, by subst hw; exact h, by subst hw; exact Only.refl _ _⟩
  · exact (odd_any base B q n w h (by omega) (by omega) (by omega)).mono fun e w' ⟨v, he, hr, ho⟩ => ⟨v, q + 1, he, by omega, hr, ho⟩

theorem DrawH.item0 {B : Nat} {w w' : World} {T : TypeId} {a b : Value} (h : Only B (w.alloc (.cells #[a, b] T)) w') (hB : B < w.heap.size) : w'.cell? ⟨w.heap.size, 0, none⟩ = some a := by
  have e := h.block w.heap.size (by omega)
  have e2 : (w.alloc (.cells #[a, b] T)).heap[w.heap.size]? = some (.cells #[a, b] T (0, 0)) := by
    show (w.heap.push _)[w.heap.size]? = _
    simp
  rw [e2] at e
  simp [World.cell?, e]
theorem DrawH.item1 {B : Nat} {w w' : World} {T : TypeId} {a b : Value} (h : Only B (w.alloc (.cells #[a, b] T)) w') (hB : B < w.heap.size) : w'.cell? ⟨w.heap.size, 1, none⟩ = some b := by
  have e := h.block w.heap.size (by omega)
  have e2 : (w.alloc (.cells #[a, b] T)).heap[w.heap.size]? = some (.cells #[a, b] T (0, 0)) := by
    show (w.heap.push _)[w.heap.size]? = _
    simp
  rw [e2] at e
  simp [World.cell?, e]
/-- How a drawn box ends: it is laid into the answer's place. -/
theorem MostB.setH {B R : Nat} {w0 w : World} (h : MostB B w0 w) (hR : w0.heap.size ≤ R) (j : Nat) (v : Value) : MostB B w0 (w.setCell ⟨R, j, none⟩ v) := by
  have k : ∀ i, i ≠ R → (w.setCell ⟨R, j, none⟩ v).heap[i]? = w.heap[i]? := fun i hi => Below.heap_setCell w _ v i hi
  have hz : (w.setCell ⟨R, j, none⟩ v).heap.size = w.heap.size := by simp [World.setCell]
  exact ⟨h.os, h.tape, h.output, by rw [hz]; exact h.size, fun i hi hl => (k i (by omega)).trans (h.block i hi hl)⟩
def ShutH (B base q : Nat) (w0 w : World) : Prop := Rdr base B q w ∧ MostB B w0 w
theorem ShutH.set {B base q : Nat} {w0 w : World} (h : ShutH B base q w0 w) (hB : B < w0.heap.size) (j : Nat) (v : Value) : ShutH B base q w0 (w.setCell ⟨w0.heap.size, j, none⟩ v) := by
  have hb := h.1.1
  exact ⟨h.1.set_other (by omega) (by omega) j v, h.2.setH (Nat.le_refl _) j v⟩
theorem DrawH.shut {w0 : World} {base B q N : Nat} {b : Hl} {w : World} (h : DrawH w0 base B q N b w) : ShutH B base q w0 w := by
  have hs := h.size
  have hN := h.hN
  exact ⟨h.rdr, h.os, h.tape, h.output, by omega, h.block⟩
theorem DrawH.end_ {w0 : World} {base B q N : Nat} {b : Hl} {w : World} (h : DrawH w0 base B q N b w) (v0 v1 v2 : Value) :
    ShutH B base q w0 (((w.setCell ⟨w0.heap.size, 0, none⟩ v0).setCell ⟨w0.heap.size, 1, none⟩ v1).setCell ⟨w0.heap.size, 2, none⟩ v2) := by
  have hB := h.hB
  exact ((h.shut.set hB _ _).set hB _ _).set hB _ _
theorem DrawH.ends {w0 : World} {base B q N : Nat} {b : Hl} {w : World} (h : DrawH w0 base B q N b w) (v0 v1 v2 : Value) :
    (((w.setCell ⟨w0.heap.size, 0, none⟩ v0).setCell ⟨w0.heap.size, 1, none⟩ v1).setCell ⟨w0.heap.size, 2, none⟩ v2).cell? ⟨w0.heap.size, 0, none⟩ = some v0 ∧ (((w.setCell ⟨w0.heap.size, 0, none⟩ v0).setCell ⟨w0.heap.size, 1, none⟩ v1).setCell ⟨w0.heap.size, 2, none⟩ v2).cell? ⟨w0.heap.size, 1, none⟩ = some v1 ∧ (((w.setCell ⟨w0.heap.size, 0, none⟩ v0).setCell ⟨w0.heap.size, 1, none⟩ v1).setCell ⟨w0.heap.size, 2, none⟩ v2).cell? ⟨w0.heap.size, 2, none⟩ = some v2 := by
  have e := Joins.block_setCell (i := 2) (Joins.block_setCell (i := 1) (Joins.block_setCell (i := 0) h.res v0) v1) v2
  generalize ((w.setCell ⟨w0.heap.size, 0, none⟩ v0).setCell ⟨w0.heap.size, 1, none⟩ v1).setCell ⟨w0.heap.size, 2, none⟩ v2 = W at e ⊢
  refine ⟨?_, ?_, ?_⟩ <;> simp [World.cell?, e, Hl.cells]
set_option maxRecDepth 10000 in
set_option maxHeartbeats 2000000 in
theorem l20Hull_any (base B p : Nat) (n : Int) (w : World) (h : Rdr base B p w) (hp : p ≤ 900000) (hn0 : 0 ≤ n) (hn1 : n ≤ 1000) :
    Calls Try.prog 52 #[.pointer (some ⟨B, 0, none⟩), .int .i64 n] w (DrewHl base B p w) := by
  have hBw := h.2.1
  go_enter Try.func52, Try.ntmps52
  go_wp2_with fail
  refine (pick_any base B p 4 _ (h.keep ((Below.refl _ _).alloc (Nat.le_refl _) _)) (by omega) (by omega)).mono ?_
  rintro e w1 ⟨x1, x10, x11, rfl, h1, o1⟩
  go_wp2_with fail
  refine (pick_any base B (p + 1) 3 w1 h1 (by omega) (by omega)).mono ?_
  rintro e w2 ⟨x2, x20, x21, rfl, h2, o2⟩
  go_wp2_with fail
  refine (pick_any base B (p + 1 + 1) 3 w2 h2 (by omega) (by omega)).mono ?_
  rintro e w3 ⟨x3, x30, x31, rfl, h3, o3⟩
  go_wp2_with fail
  have D0 := DrawH.start (T := 36) ⟨1 + x1, 1 + x2, 1 + x3⟩ h3 hBw o1 o2 o3
  have hN : w.heap.size < w3.heap.size := by have := D0.hN; exact this
  obtain ⟨b, q, hq, D⟩ : ∃ b q, q ≤ p + 5 ∧ DrawH w base B q w3.heap.size b _ := ⟨_, _, by omega, D0⟩
  generalize w3.alloc (.cells #[.int .i64 (1 + x1), .int .i64 (1 + x2), .int .i64 (1 + x3)] 36) = W at D ⊢
  generalize w3.heap.size = N at D hN ⊢
  clear D0 o1 o2 o3 h1 h2 h3 h
  refine (odd_allH base B q n W D.rdr (by omega) hn0 hn1).mono ?_
  rintro e w6 ⟨v, q6, rfl, hq6, h6, o6⟩
  have D4 := D.only o6 h6
  clear D h6 o6
  cases v
  · obtain ⟨c0, c1, c2⟩ := D4.cells
    obtain ⟨⟨r0, e0⟩, f0⟩ := D4.resCells 0 (by omega)
    obtain ⟨⟨r1, e1⟩, f1⟩ := D4.resCells 1 (by omega)
    obtain ⟨⟨r2, e2⟩, f2⟩ := D4.resCells 2 (by omega)
    go_wp2_with fail
    obtain ⟨z0, z1, z2⟩ := D4.ends (.int .i64 b.b) (.int .i64 b.r) (.int .i64 b.t)
    exact bodyPost_ret (v := .agg #[.int .i64 b.b, .int .i64 b.r, .int .i64 b.t]) (by simp [results, Try.results52, go_sem, z0, z1, z2]) rfl ⟨⟨b.b, b.r, b.t⟩, q6, by omega, rfl, D4.end_ (.int .i64 b.b) (.int .i64 b.r) (.int .i64 b.t)⟩
  · go_wp2_with fail
    refine (pick_any base B q6 3 _ D4.rdr (by omega) (by omega)).mono ?_
    rintro e w7 ⟨x7, x70, x71, rfl, h7, o7⟩
    have D5 := D4.only o7 h7
    clear D4 h7 o7
    rcases (by omega : x7 = 0 ∨ x7 = 1 ∨ x7 = 2) with hx | hx | hx
    all_goals
      subst hx
      go_wp2_with fail
      refine (pick_any base B (q6 + 1) 2 _ (D5.alloc _).rdr (by omega) (by omega)).mono ?_
      rintro e w8 ⟨x8, x80, x81, rfl, h8, o8⟩
      have D7 := (D5.alloc _).only o8 h8
      have hM := D5.hB
      have hMB := D5.size
      have hMN := D5.hN
      have m0 := DrawH.item0 o8 (by omega)
      have m1 := DrawH.item1 o8 (by omega)
      clear D5 h8 o8
      generalize w7.heap.size = M at *
      obtain ⟨c0, c1, c2⟩ := D7.cells
      obtain ⟨⟨r0, e0⟩, f0⟩ := D7.resCells 0 (by omega)
      obtain ⟨⟨r1, e1⟩, f1⟩ := D7.resCells 1 (by omega)
      obtain ⟨⟨r2, e2⟩, f2⟩ := D7.resCells 2 (by omega)
      have g0 := D7.free 0
      have g1 := D7.free 1
      have g2 := D7.free 2
      rcases (by omega : x8 = 0 ∨ x8 = 1) with hy | hy
      all_goals
        subst hy
        go_wp2_with fail
    · have D8 := D7.set (b' := ⟨(0), b.r, b.t⟩) 0 (.int .i64 (0)) rfl
      obtain ⟨z0, z1, z2⟩ := D8.ends (.int .i64 (0)) (.int .i64 b.r) (.int .i64 b.t)
      exact bodyPost_ret (v := .agg #[.int .i64 (0), .int .i64 b.r, .int .i64 b.t]) (by simp [results, Try.results52, go_sem, z0, z1, z2]) rfl ⟨⟨(0), b.r, b.t⟩, q6 + 2, by omega, rfl, D8.end_ (.int .i64 (0)) (.int .i64 b.r) (.int .i64 b.t)⟩
    · have D8 := D7.set (b' := ⟨(5), b.r, b.t⟩) 0 (.int .i64 (5)) rfl
      obtain ⟨z0, z1, z2⟩ := D8.ends (.int .i64 (5)) (.int .i64 b.r) (.int .i64 b.t)
      exact bodyPost_ret (v := .agg #[.int .i64 (5), .int .i64 b.r, .int .i64 b.t]) (by simp [results, Try.results52, go_sem, z0, z1, z2]) rfl ⟨⟨(5), b.r, b.t⟩, q6 + 2, by omega, rfl, D8.end_ (.int .i64 (5)) (.int .i64 b.r) (.int .i64 b.t)⟩
    · have D8 := D7.set (b' := ⟨b.b, (0), b.t⟩) 1 (.int .i64 (0)) rfl
      obtain ⟨z0, z1, z2⟩ := D8.ends (.int .i64 b.b) (.int .i64 (0)) (.int .i64 b.t)
      exact bodyPost_ret (v := .agg #[.int .i64 b.b, .int .i64 (0), .int .i64 b.t]) (by simp [results, Try.results52, go_sem, z0, z1, z2]) rfl ⟨⟨b.b, (0), b.t⟩, q6 + 2, by omega, rfl, D8.end_ (.int .i64 b.b) (.int .i64 (0)) (.int .i64 b.t)⟩
    · have D8 := D7.set (b' := ⟨b.b, (4), b.t⟩) 1 (.int .i64 (4)) rfl
      obtain ⟨z0, z1, z2⟩ := D8.ends (.int .i64 b.b) (.int .i64 (4)) (.int .i64 b.t)
      exact bodyPost_ret (v := .agg #[.int .i64 b.b, .int .i64 (4), .int .i64 b.t]) (by simp [results, Try.results52, go_sem, z0, z1, z2]) rfl ⟨⟨b.b, (4), b.t⟩, q6 + 2, by omega, rfl, D8.end_ (.int .i64 b.b) (.int .i64 (4)) (.int .i64 b.t)⟩
    · have D8 := D7.set (b' := ⟨b.b, b.r, (-1)⟩) 2 (.int .i64 (-1)) rfl
      obtain ⟨z0, z1, z2⟩ := D8.ends (.int .i64 b.b) (.int .i64 b.r) (.int .i64 (-1))
      exact bodyPost_ret (v := .agg #[.int .i64 b.b, .int .i64 b.r, .int .i64 (-1)]) (by simp [results, Try.results52, go_sem, z0, z1, z2]) rfl ⟨⟨b.b, b.r, (-1)⟩, q6 + 2, by omega, rfl, D8.end_ (.int .i64 b.b) (.int .i64 b.r) (.int .i64 (-1))⟩
    · have D8 := D7.set (b' := ⟨b.b, b.r, (4)⟩) 2 (.int .i64 (4)) rfl
      obtain ⟨z0, z1, z2⟩ := D8.ends (.int .i64 b.b) (.int .i64 b.r) (.int .i64 (4))
      exact bodyPost_ret (v := .agg #[.int .i64 b.b, .int .i64 b.r, .int .i64 (4)]) (by simp [results, Try.results52, go_sem, z0, z1, z2]) rfl ⟨⟨b.b, b.r, (4)⟩, q6 + 2, by omega, rfl, D8.end_ (.int .i64 b.b) (.int .i64 b.r) (.int .i64 (4))⟩
end Go.Proofs.Ytfeobdgdhgcgoaa
