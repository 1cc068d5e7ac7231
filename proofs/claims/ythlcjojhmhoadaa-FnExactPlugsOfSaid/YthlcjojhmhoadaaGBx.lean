/-
  Contracts of boxes by value: what the exact laws' own copy gives, and the model's BoxValid.
  How a box, and a slice of boxes, that came in read: their cells.
  Contracts of the exact laws' own helpers over slices of boxes: their size, their copy, their comparison.
  Plain mathematics of lists of boxes: the first with an id; when a list is valid. Nothing of the program.
  Contracts of the model's l2Find, BoxesValid and FindBox.
  Contracts of the exact laws' own comparison of slices of boxes that hold the same.
-/
import Derived.Test.YthlcjojhmhoadaaRows
import Derived.WalkKit
import Derived.BigQuiet
import Derived.Deep.QuietTactic
import Derived.Lib.Hide
import Derived.WalkSpells
import Derived.Below
import Derived.Test.YthlcjojhmhoadaaGBase
import Derived.ProofKit
import Derived.OpenShut
import Derived.Deep.Slices
import Derived.Deep.Fields
import Derived.ChangeSame
import Derived.OwnWalk
import Derived.Lib.SmallJoins
import Derived.Deep.RegionWith
namespace Go.Proofs.Ythlcjojhmhoadaa
open Go.RowKit
set_option linter.unusedVariables false

/-- A box as a value. -/
abbrev bxV (i g c p : Int) (d : Bool) : Value := .agg #[.int .i64 i, .int .i64 g, .int .i64 c, .int .i64 p, .bool d]

def bxOk (i g c p : Int) : Bool := decide (1 ≤ i ∧ i ≤ 999 ∧ 1 ≤ g ∧ g ≤ 30 ∧ 0 ≤ c ∧ c ≤ 3 ∧ 0 ≤ p ∧ p ≤ 6)
theorem bxOk_yes {i g c p : Int} (h : bxOk i g c p = true) : 1 ≤ i ∧ i ≤ 999 ∧ 1 ≤ g ∧ g ≤ 30 ∧ 0 ≤ c ∧ c ≤ 3 ∧ 0 ≤ p ∧ p ≤ 6 := of_decide_eq_true h
theorem bxOk_no {i g c p : Int} (h : ¬ (1 ≤ i ∧ i ≤ 999 ∧ 1 ≤ g ∧ g ≤ 30 ∧ 0 ≤ c ∧ c ≤ 3 ∧ 0 ≤ p ∧ p ≤ 6)) : bxOk i g c p = false := decide_eq_false h

/-- A box that a call has boxed at its head (block B, the heap's size then) is still there, and nothing that was there has turned. -/
def BoxAt (B : Nat) (i g c p : Int) (d : Bool) (w w' : World) : Prop :=
  (∃ T fr, w'.heap[B]? = some (.cells #[.int .i64 i, .int .i64 g, .int .i64 c, .int .i64 p, .bool d] T fr)) ∧ B < w'.heap.size ∧ Below w.heap.size w w'
theorem BoxAt.new {w w' : World} {i g c p : Int} {d : Bool} {T : TypeId} (hb : Below (w.alloc (.cells #[.int .i64 i, .int .i64 g, .int .i64 c, .int .i64 p, .bool d] T)).heap.size (w.alloc (.cells #[.int .i64 i, .int .i64 g, .int .i64 c, .int .i64 p, .bool d] T)) w') :
    BoxAt w.heap.size i g c p d w w' := by
  have hs : (w.alloc (.cells #[.int .i64 i, .int .i64 g, .int .i64 c, .int .i64 p, .bool d] T)).heap.size = w.heap.size + 1 := by simp
  refine ⟨⟨T, (0, 0), ?_⟩, by have := hb.size; omega, ((Below.refl _ _).alloc (Nat.le_refl _) _).trans (hb.mono (by omega))⟩
  rw [hb.block w.heap.size (by omega)]
  show (w.heap.push _)[w.heap.size]? = _
  simp
theorem BoxAt.keep {B : Nat} {i g c p : Int} {d : Bool} {w w1 w2 : World} (h : BoxAt B i g c p d w w1) (hb : Below w1.heap.size w1 w2) : BoxAt B i g c p d w w2 := by
  obtain ⟨⟨T, fr, h0⟩, h1, h2⟩ := h
  exact ⟨⟨T, fr, by rw [hb.block B h1]; exact h0⟩, Nat.lt_of_lt_of_le h1 hb.size, h2.trans (hb.mono h2.size)⟩
theorem BoxAt.cells {B : Nat} {i g c p : Int} {d : Bool} {w w1 : World} (h : BoxAt B i g c p d w w1) :
    w1.cell? ⟨B, 0, none⟩ = some (.int .i64 i) ∧ w1.cell? ⟨B, 1, none⟩ = some (.int .i64 g) ∧ w1.cell? ⟨B, 2, none⟩ = some (.int .i64 c) ∧ w1.cell? ⟨B, 3, none⟩ = some (.int .i64 p) ∧ w1.cell? ⟨B, 4, none⟩ = some (.bool d) := by
  obtain ⟨⟨T, fr, h0⟩, _, _⟩ := h
  refine ⟨?_, ?_, ?_, ?_, ?_⟩ <;> simp [World.cell?, h0]
end Go.Proofs.Ythlcjojhmhoadaa
namespace Go.Proofs.Ythlcjojhmhoadaa
open Go.ChangeShapes Go.WideShapes Go.Deep Go.RowKit
set_option linter.unusedVariables false

/-- A box. -/
structure Bx where
  i : Int
  g : Int
  c : Int
  p : Int
  d : Bool
/-- Its cells. -/
def Bx.cells (b : Bx) : List Value := [.int .i64 b.i, .int .i64 b.g, .int .i64 b.c, .int .i64 b.p, .bool b.d]
def Bx.zero : Bx := ⟨0, 0, 0, 0, false⟩
/-- Its numbers are int's. -/
def Bx.fits (b : Bx) : Prop := (Lit.int .i64 b.i).wf = true ∧ (Lit.int .i64 b.g).wf = true ∧ (Lit.int .i64 b.c).wf = true ∧ (Lit.int .i64 b.p).wf = true

set_option maxRecDepth 10000
section
variable {H : Type} {enc : TypeId × Value → H} {w : World} {base : Nat} {spare : Nat → Bool} {held : Bool}

theorem box_cells {T : TypeId} {fs : Array Field} {fuel : Nat} {cs : List Value} {x : DataW H × List MemPlace} (hs : Try.prog.underlying T = some (.struct fs)) (hone : oneCellFields Try.prog fs = true) (hC : Try.prog.cellsOf T = 5)
    (hty : fs.map (·.type) = #[3, 3, 3, 3, 4]) (h : DataW.trod enc Try.prog w base spare held fuel T cs = some x) : ∃ b : Bx, cs = b.cells ∧ b.fits := by
  obtain ⟨xs, n, _, hx, hlen, hxl, hg⟩ := DataW.trod_struct hs h
  obtain ⟨l⟩ := fs
  have hl : l.length = 5 := by have := congrArg Array.size hty; simpa using this
  match l, hl with
  | [f0, f1, f2, f3, f4], _ =>
    simp at hty
    obtain ⟨t0, t1, t2, t3, t4⟩ := hty
    match cs, hlen.trans hC with
    | [c0, c1, c2, c3, c4], _ =>
      match xs, hxl with
      | [y0, y1, y2, y3, y4], _ =>
        obtain ⟨o0, k0⟩ := hone_of hone 0 f0 rfl
        obtain ⟨o1, k1⟩ := hone_of hone 1 f1 rfl
        obtain ⟨o2, k2⟩ := hone_of hone 2 f2 rfl
        obtain ⟨o3, k3⟩ := hone_of hone 3 f3 rfl
        obtain ⟨o4, k4⟩ := hone_of hone 4 f4 rfl
        have g0 := hg 0 f0 rfl
        have g1 := hg 1 f1 rfl
        have g2 := hg 2 f2 rfl
        have g3 := hg 3 f3 rfl
        have g4 := hg 4 f4 rfl
        rw [o0, k0, t0] at g0
        rw [o1, k1, t1] at g1
        rw [o2, k2, t2] at g2
        rw [o3, k3, t3] at g3
        rw [o4, k4, t4] at g4
        obtain ⟨a0, e0, _, w0⟩ := DataW.trod_int Try.underlying3 (show DataW.trod enc Try.prog w base spare held n 3 [c0] = some y0 from g0)
        obtain ⟨a1, e1, _, w1⟩ := DataW.trod_int Try.underlying3 (show DataW.trod enc Try.prog w base spare held n 3 [c1] = some y1 from g1)
        obtain ⟨a2, e2, _, w2⟩ := DataW.trod_int Try.underlying3 (show DataW.trod enc Try.prog w base spare held n 3 [c2] = some y2 from g2)
        obtain ⟨a3, e3, _, w3⟩ := DataW.trod_int Try.underlying3 (show DataW.trod enc Try.prog w base spare held n 3 [c3] = some y3 from g3)
        obtain ⟨a4, e4, _⟩ := DataW.trod_bool Try.underlying4 (show DataW.trod enc Try.prog w base spare held n 4 [c4] = some y4 from g4)
        simp only [List.cons.injEq, and_true] at e0 e1 e2 e3 e4
        subst e0 e1 e2 e3 e4
        exact ⟨⟨a0, a1, a2, a3, a4⟩, rfl, w0, w1, w2, w3⟩

/-- A box by value. -/
theorem box_value {T : TypeId} {fs : Array Field} {r : Reach} {b0 : Nat} {v : Value} {d : DataW H} {p : List MemPlace} (hs : Try.prog.underlying T = some (.struct fs)) (hone : oneCellFields Try.prog fs = true) (hC : Try.prog.cellsOf T = 5)
    (hty : fs.map (·.type) = #[3, 3, 3, 3, 4]) (hv : Value.okWide Try.prog w r b0 T v) (h : DataW.Trod enc Try.prog w base spare held T v d p) :
    ∃ b : Bx, v = .agg #[.int .i64 b.i, .int .i64 b.g, .int .i64 b.c, .int .i64 b.p, .bool b.d] ∧ b.fits := by
  obtain ⟨cs, rfl, hsz⟩ := okWide_struct hs hv
  obtain ⟨fuel, hf⟩ := h
  obtain ⟨b, hb, hw⟩ := box_cells hs hone hC hty hf
  refine ⟨b, ?_, hw⟩
  congr 1
  apply Array.toList_inj.1
  simpa [Value.cells, Bx.cells] using hb

/-- What is known of a slice of boxes that came in. -/
def IsBoxes (w : World) (a : Option Addr) (len cap : Nat) (l : List Bx) : Prop :=
  (a = none ∧ len = 0 ∧ cap = 0 ∧ l = []) ∨
  ∃ x, a = some x ∧ len ≤ cap ∧ cap ≤ maxLen ∧ l.length = len ∧ (∀ b ∈ l, b.fits) ∧
    ∀ k (hk : k < l.length), ∀ j, j < 5 → w.cell? (x.add (k * 5 + j)) = l[k].cells[j]?

theorem boxes_slice {T E : TypeId} {fs : Array Field} {fuel : Nat} {a : Option Addr} {len cap : Nat} {x : DataW H × List MemPlace} (ht : Try.prog.underlying T = some (.slice E)) (hs : Try.prog.underlying E = some (.struct fs))
    (hone : oneCellFields Try.prog fs = true) (hC : Try.prog.cellsOf E = 5) (hty : fs.map (·.type) = #[3, 3, 3, 3, 4])
    (h : DataW.trod enc Try.prog w base spare held fuel T [.slice a len cap] = some x) : ∃ l, IsBoxes w a len cap l := by
  rcases open_slice ht h with ⟨hcs, _⟩ | ⟨x, len', cap', m, n, D, Pl, hcs, hb, hl, hm, hmm, _, hi⟩
  · simp at hcs
    obtain ⟨rfl, rfl, rfl⟩ := hcs
    exact ⟨[], .inl ⟨rfl, rfl, rfl, rfl⟩⟩
  · simp at hcs
    obtain ⟨rfl, rfl, rfl⟩ := hcs
    have hlm : len ≤ m := by rw [hmm]; split <;> omega
    have key : ∀ k, k < len → ∃ b : Bx, b.fits ∧ ∀ j, j < 5 → w.cell? (x.add (k * 5 + j)) = b.cells[j]? := by
      intro k hk
      obtain ⟨cs', hc, ht'⟩ := hi k (by omega)
      obtain ⟨b, rfl, hw⟩ := box_cells hs hone hC hty ht'
      rw [hC] at hc
      obtain ⟨_, _, hat⟩ := World.cells?_some hc
      refine ⟨b, hw, fun j hj => ?_⟩
      have := hat j hj
      rwa [Go.Deep.add_add] at this
    have : ∀ n, n ≤ len → ∃ l : List Bx, l.length = n ∧ (∀ b ∈ l, b.fits) ∧ ∀ k (hk : k < l.length), ∀ j, j < 5 → w.cell? (x.add (k * 5 + j)) = l[k].cells[j]? := by
      intro n
      induction n with
      | zero => intro _; exact ⟨[], rfl, by simp, fun k hk => absurd hk (by simp)⟩
      | succ n ih =>
        intro hn
        obtain ⟨l, h1, h2, h3⟩ := ih (by omega)
        obtain ⟨b, hb1, hb2⟩ := key n (by omega)
        refine ⟨l ++ [b], by simp [h1], fun y hy => ?_, fun k hk j hj => ?_⟩
        · rcases List.mem_append.1 hy with hy | hy
          · exact h2 y hy
          · rw [List.mem_singleton.1 hy]; exact hb1
        · by_cases hkl : k < l.length
          · rw [List.getElem_append_left hkl]; exact h3 k hkl j hj
          · have hkn : k = l.length := by simp at hk; omega
            subst hkn
            have e : (l ++ [b])[l.length] = b := by simp
            rw [e, h1]
            exact hb2 j hj
    obtain ⟨l, h1, h2, h3⟩ := this len (Nat.le_refl _)
    exact ⟨l, .inr ⟨x, rfl, hl, hm, h1, h2, h3⟩⟩
end
end Go.Proofs.Ythlcjojhmhoadaa
namespace Go.Proofs.Ythlcjojhmhoadaa
open Go.RowKit
set_option linter.unusedVariables false

/-- A slice value that holds these boxes in a world. -/
def HoldsBx (w : World) (v : Value) (l : List Bx) : Prop :=
  ∃ (a : Option Addr) (cap : Nat), v = .slice a l.length cap ∧ l.length ≤ cap ∧ cap ≤ maxLen ∧
    (l.length = 0 ∨ ∃ b off, a = some ⟨b, off, none⟩ ∧ b < w.heap.size ∧ ∀ k (hk : k < l.length), ∀ j, j < 5 → w.cell? ⟨b, off + (k * 5 + j), none⟩ = l[k].cells[j]?)

theorem HoldsBx.keep {w w' : World} {v : Value} {l : List Bx} (h : HoldsBx w v l) (hb : Below w.heap.size w w') : HoldsBx w' v l := by
  obtain ⟨a, cap, h1, h2, h3, h4⟩ := h
  refine ⟨a, cap, h1, h2, h3, ?_⟩
  rcases h4 with h4 | ⟨b, off, h5, h6, h7⟩
  · exact .inl h4
  · exact .inr ⟨b, off, h5, Nat.lt_of_lt_of_le h6 hb.size, fun k hk j hj => (hb.cell (p := ⟨b, off + (k * 5 + j), none⟩) h6).trans (h7 k hk j hj)⟩

theorem HoldsBx.of_came {w : World} {a : Option Addr} {len cap : Nat} {l : List Bx} (h : IsBoxes w a len cap l) : HoldsBx w (.slice a len cap) l ∧ l.length = len := by
  rcases h with ⟨rfl, rfl, rfl, rfl⟩ | ⟨x, rfl, h1, h2, h3, h4, h5⟩
  · exact ⟨⟨none, 0, rfl, Nat.le_refl _, by simp [maxLen], .inl rfl⟩, rfl⟩
  · refine ⟨⟨some x, cap, by rw [h3], by omega, h2, ?_⟩, h3⟩
    by_cases hz : l.length = 0
    · exact .inl hz
    · right
      obtain ⟨b, off, spot⟩ := x
      have hc := h5 0 (by omega) 0 (by omega)
      have hc' : w.cell? ((⟨b, off, spot⟩ : Addr).add (0 * 5 + 0)) = some (.int .i64 l[0].i) := hc
      have hspot : spot = none := by simpa [Addr.add] using World.cell?_spot hc'
      subst hspot
      refine ⟨b, off, rfl, World.block_lt_of_cell? _ _ hc', fun k hk j hj => ?_⟩
      rw [← Go.WideShapes.add_plain]
      exact h5 k hk j hj

theorem five_set {w : World} {G : Nat} {cur : Array Value} {T : TypeId} (h : w.heap[G]? = some (.cells cur T (0, 0))) (o : Nat) (v0 v1 v2 v3 v4 : Value) :
    (((((w.setCell ⟨G, o, none⟩ v0).setCell ⟨G, o + 1, none⟩ v1).setCell ⟨G, o + 2, none⟩ v2).setCell ⟨G, o + 3, none⟩ v3).setCell ⟨G, o + 4, none⟩ v4).heap[G]? =
      some (.cells (((((cur.setIfInBounds o v0).setIfInBounds (o + 1) v1).setIfInBounds (o + 2) v2).setIfInBounds (o + 3) v3).setIfInBounds (o + 4) v4) T (0, 0)) :=
  Joins.block_setCell (Joins.block_setCell (Joins.block_setCell (Joins.block_setCell (Joins.block_setCell h v0) v1) v2) v3) v4
theorem five_get (cur : Array Value) (o n : Nat) (hn : o + 5 ≤ cur.size) (b : Bx) (i : Nat) :
    (((((cur.setIfInBounds o (.int .i64 b.i)).setIfInBounds (o + 1) (.int .i64 b.g)).setIfInBounds (o + 2) (.int .i64 b.c)).setIfInBounds (o + 3) (.int .i64 b.p)).setIfInBounds (o + 4) (.bool b.d))[i]? =
      if o ≤ i ∧ i < o + 5 then b.cells[i - o]? else cur[i]? := by
  simp only [Array.getElem?_setIfInBounds, Array.size_setIfInBounds]
  by_cases h : o ≤ i ∧ i < o + 5
  · rw [if_pos h]
    obtain rfl | rfl | rfl | rfl | rfl : i = o ∨ i = o + 1 ∨ i = o + 2 ∨ i = o + 3 ∨ i = o + 4 := by omega
    · rw [if_neg (by omega), if_neg (by omega), if_neg (by omega), if_neg (by omega), if_pos rfl, if_pos (by omega), Nat.sub_self]; rfl
    · rw [if_neg (by omega), if_neg (by omega), if_neg (by omega), if_pos rfl, if_pos (by omega), show o + 1 - o = 1 by omega]; rfl
    · rw [if_neg (by omega), if_neg (by omega), if_pos rfl, if_pos (by omega), show o + 2 - o = 2 by omega]; rfl
    · rw [if_neg (by omega), if_pos rfl, if_pos (by omega), show o + 3 - o = 3 by omega]; rfl
    · rw [if_pos rfl, if_pos (by omega), show o + 4 - o = 4 by omega]; rfl
  · rw [if_neg h, if_neg (by omega), if_neg (by omega), if_neg (by omega), if_neg (by omega), if_neg (by omega)]

end Go.Proofs.Ythlcjojhmhoadaa
namespace Go.Proofs.Ythlcjojhmhoadaa
set_option linter.unusedVariables false

/-- The index of the first box with an id, or -1. -/
def findB : List Bx → Int → Int
  | [], _ => -1
  | b :: l, id => if b.i = id then 0 else if findB l id < 0 then -1 else findB l id + 1
theorem findB_hit : ∀ (l : List Bx) (id : Int) (k : Nat) (hk : k < l.length), (∀ j (hj : j < l.length), j < k → l[j].i ≠ id) → l[k].i = id → findB l id = k
  | b :: l, id, 0, _, _, h => by
    have h' : b.i = id := h
    rw [findB, if_pos h']; rfl
  | b :: l, id, k + 1, hk, hn, h => by
    have h0 : b.i ≠ id := hn 0 (by simp) (by omega)
    have ih := findB_hit l id k (by simpa using hk) (fun j hj hjk => hn (j + 1) (by simpa using hj) (by omega)) h
    rw [findB, if_neg h0, ih, if_neg (by omega)]
    rfl
theorem findB_none : ∀ (l : List Bx) (id : Int), (∀ j (hj : j < l.length), l[j].i ≠ id) → findB l id = -1
  | [], _, _ => rfl
  | b :: l, id, hn => by
    have h0 : b.i ≠ id := hn 0 (by simp)
    have ih := findB_none l id (fun j hj => hn (j + 1) (by simpa using hj))
    rw [findB, if_neg h0, ih, if_pos (by omega)]
theorem findB_bd : ∀ (l : List Bx) (id : Int), -1 ≤ findB l id ∧ findB l id < l.length
  | [], id => ⟨by show (-1 : Int) ≤ -1; omega, by show (-1 : Int) < (0 : Nat); omega⟩
  | b :: l, id => by
    have ih := findB_bd l id
    unfold findB
    rw [List.length_cons]
    split
    · omega
    · split <;> omega

def Bx.ok (b : Bx) : Bool := bxOk b.i b.g b.c b.p
/-- Whether the box at a place is valid and the first with its id. -/
def okAt (l : List Bx) (k : Nat) : Bool := (l.getD k Bx.zero).ok && !decide (findB l (l.getD k Bx.zero).i < k)
/-- Whether a list of boxes is valid. -/
def bxsOk (l : List Bx) : Bool := (List.range l.length).all (okAt l) && decide (l.length ≤ 10)
theorem getD_bx {l : List Bx} {k : Nat} (h : k < l.length) : l.getD k Bx.zero = l[k] := by
  rw [List.getD_eq_getElem?_getD, List.getElem?_eq_getElem h, Option.getD_some]
theorem bxsOk_at {l : List Bx} {k : Nat} (h : k < l.length) (hf : okAt l k = false) : bxsOk l = false := by
  unfold bxsOk
  rw [show (List.range l.length).all (okAt l) = false from ?_]
  · rfl
  · rw [List.all_eq_false]
    exact ⟨k, List.mem_range.2 h, by rw [hf]; decide⟩
theorem bxsOk_end {l : List Bx} (h : ∀ k, k < l.length → okAt l k = true) : bxsOk l = decide (l.length ≤ 10) := by
  unfold bxsOk
  rw [show (List.range l.length).all (okAt l) = true from List.all_eq_true.2 fun k hk => h k (List.mem_range.1 hk)]
  rfl
end Go.Proofs.Ythlcjojhmhoadaa
namespace Go.Proofs.Ythlcjojhmhoadaa
open Go.RowKit
set_option linter.unusedVariables false

/-- What FindBox gives. -/
def findS (l : List Bx) (id : Int) : Int := if bxsOk l = true then findB l id else -1
end Go.Proofs.Ythlcjojhmhoadaa
namespace Go.Proofs.Ythlcjojhmhoadaa
open Go.RowKit
set_option linter.unusedVariables false

end Go.Proofs.Ythlcjojhmhoadaa
