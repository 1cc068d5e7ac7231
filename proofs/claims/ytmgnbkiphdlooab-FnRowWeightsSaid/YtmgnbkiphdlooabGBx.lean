/-
  Contracts of boxes by value: what the exact laws' own copy gives, and the model's BoxValid.
  How a box, and a slice of boxes, that came in read: their cells.
  Contracts of the exact laws' own helpers over slices of boxes: their size, their copy, their comparison.
  Plain mathematics of lists of boxes: the first with an id; when a list is valid. Nothing of the program.
  Contracts of the model's l2Find, BoxesValid and FindBox.
  Contracts of the exact laws' own comparison of slices of boxes that hold the same.
-/
import Derived.Test.YtmgnbkiphdlooabRows
import Derived.WalkKit
import Derived.BigQuiet
import Derived.Deep.QuietTactic
import Derived.Lib.Hide
import Derived.WalkSpells
import Derived.Below
import Derived.Test.YtmgnbkiphdlooabGBase
import Derived.ProofKit
import Derived.OpenShut
import Derived.Deep.Slices
import Derived.Deep.Fields
import Derived.ChangeSame
import Derived.OwnWalk
import Derived.Lib.SmallJoins
import Derived.Deep.RegionWith
namespace Go.Proofs.Ytmgnbkiphdlooab
open Go.RowKit
set_option linter.unusedVariables false

/-- A box as a value. -/
abbrev bxV (i g c p : Int) (d : Bool) : Value := .agg #[.int .i64 i, .int .i64 g, .int .i64 c, .int .i64 p, .bool d]

theorem toBox_any (i g c p : Int) (d : Bool) (w : World) :
    Calls Try.prog 72 #[.agg #[.int .i64 i, .int .i64 g, .int .i64 c, .int .i64 p, .bool d]] w fun e w' => e = .returned (.agg #[.int .i64 i, .int .i64 g, .int .i64 c, .int .i64 p, .bool d]) ∧ Below w.heap.size w w' := by
  go_enter Try.func72, Try.ntmps72
  go_wp2
  exact bodyPost_ret (v := bxV i g c p d) (by simp [results, Try.results72, go_sem]) rfl
    ⟨rfl, (((Below.refl _ _).alloc (Nat.le_refl _) _).alloc (by simp) _).alloc (by simp; omega) _⟩

def bxOk (i g c p : Int) : Bool := decide (1 ≤ i ∧ i ≤ 999 ∧ 1 ≤ g ∧ g ≤ 30 ∧ 0 ≤ c ∧ c ≤ 3 ∧ 0 ≤ p ∧ p ≤ 6)
theorem bxOk_yes {i g c p : Int} (h : bxOk i g c p = true) : 1 ≤ i ∧ i ≤ 999 ∧ 1 ≤ g ∧ g ≤ 30 ∧ 0 ≤ c ∧ c ≤ 3 ∧ 0 ≤ p ∧ p ≤ 6 := of_decide_eq_true h
theorem bxOk_no {i g c p : Int} (h : ¬ (1 ≤ i ∧ i ≤ 999 ∧ 1 ≤ g ∧ g ≤ 30 ∧ 0 ≤ c ∧ c ≤ 3 ∧ 0 ≤ p ∧ p ≤ 6)) : bxOk i g c p = false := decide_eq_false h

theorem specBoxValid_any (i g c p : Int) (d : Bool) (w : World) :
    Calls Try.prog 86 #[.agg #[.int .i64 i, .int .i64 g, .int .i64 c, .int .i64 p, .bool d]] w fun e w' => e = .returned (.bool (bxOk i g c p)) ∧ Below w.heap.size w w' := by
  have hb : ∀ o, Below w.heap.size w (w.alloc o) := fun o => (Below.refl _ _).alloc (Nat.le_refl _) o
  have HB := Lib.hid hb
  clear hb
  by_cases h1 : 1 ≤ i ∧ i ≤ 999
  · by_cases h2 : 1 ≤ g ∧ g ≤ 30
    · by_cases h3 : 0 ≤ c ∧ c ≤ 3
      · by_cases h4 : 0 ≤ p ∧ p ≤ 6
        · rw [show bxOk i g c p = true from decide_eq_true (by omega)]
          go_enter Try.func86, Try.ntmps86
          go_wp2_with fail
          refine (l1In_yes i 1 999 _ h1.1 h1.2).mono ?_
          rintro e w' ⟨rfl, rfl⟩
          go_wp2_with fail
          refine (l1In_yes g 1 30 _ h2.1 h2.2).mono ?_
          rintro e w' ⟨rfl, rfl⟩
          go_wp2_with fail
          refine (l1In_yes c 0 3 _ h3.1 h3.2).mono ?_
          rintro e w' ⟨rfl, rfl⟩
          go_wp2_with fail
          refine (l1In_yes p 0 6 _ h4.1 h4.2).mono ?_
          rintro e w' ⟨rfl, rfl⟩
          go_wp2_with fail
          go_ret
          exact ⟨rfl, HB.out _⟩
        · rw [show bxOk i g c p = false from decide_eq_false (by omega)]
          go_enter Try.func86, Try.ntmps86
          go_wp2_with fail
          refine (l1In_yes i 1 999 _ h1.1 h1.2).mono ?_
          rintro e w' ⟨rfl, rfl⟩
          go_wp2_with fail
          refine (l1In_yes g 1 30 _ h2.1 h2.2).mono ?_
          rintro e w' ⟨rfl, rfl⟩
          go_wp2_with fail
          refine (l1In_yes c 0 3 _ h3.1 h3.2).mono ?_
          rintro e w' ⟨rfl, rfl⟩
          go_wp2_with fail
          refine (l1In_no p 0 6 _ (by omega)).mono ?_
          rintro e w' ⟨rfl, rfl⟩
          go_wp2_with fail
          go_ret
          exact ⟨rfl, HB.out _⟩
      · rw [show bxOk i g c p = false from decide_eq_false (by omega)]
        go_enter Try.func86, Try.ntmps86
        go_wp2_with fail
        refine (l1In_yes i 1 999 _ h1.1 h1.2).mono ?_
        rintro e w' ⟨rfl, rfl⟩
        go_wp2_with fail
        refine (l1In_yes g 1 30 _ h2.1 h2.2).mono ?_
        rintro e w' ⟨rfl, rfl⟩
        go_wp2_with fail
        refine (l1In_no c 0 3 _ (by omega)).mono ?_
        rintro e w' ⟨rfl, rfl⟩
        go_wp2_with fail
        go_ret
        exact ⟨rfl, HB.out _⟩
    · rw [show bxOk i g c p = false from decide_eq_false (by omega)]
      go_enter Try.func86, Try.ntmps86
      go_wp2_with fail
      refine (l1In_yes i 1 999 _ h1.1 h1.2).mono ?_
      rintro e w' ⟨rfl, rfl⟩
      go_wp2_with fail
      refine (l1In_no g 1 30 _ (by omega)).mono ?_
      rintro e w' ⟨rfl, rfl⟩
      go_wp2_with fail
      go_ret
      exact ⟨rfl, HB.out _⟩
  · rw [show bxOk i g c p = false from decide_eq_false (by omega)]
    go_enter Try.func86, Try.ntmps86
    go_wp2_with fail
    refine (l1In_no i 1 999 _ (by omega)).mono ?_
    rintro e w' ⟨rfl, rfl⟩
    go_wp2_with fail
    go_ret
    exact ⟨rfl, HB.out _⟩

/-- A box that a call has boxed at its head (block B, the heap's size then) is still there, and nothing that was there has turned. -/
def BoxAt (B : Nat) (i g c p : Int) (d : Bool) (w w' : World) : Prop :=
  (∃ T fr, w'.heap[B]? = some (.cells #[.int .i64 i, .int .i64 g, .int .i64 c, .int .i64 p, .bool d] T fr)) ∧ B < w'.heap.size ∧ Below w.heap.size w w'
theorem BoxAt.new {w w' : World} {i g c p : Int} {d : Bool} {T : TypeId} (hb : Below (w.alloc (.cells #[.int .i64 i, .int .i64 g, .int .i64 c, .int .i64 p, .bool d] T)).heap.size (w.alloc (.cells #[.int .i64 i, .int .i64 g, .int .i64 c, .int .i64 p, .bool d] T)) w') :
    BoxAt w.heap.size i g c p d w w' := by
  have hs : (w.alloc (.cells #[.int .i64 i, .int .i64 g, .int .i64 c, .int .i64 p, .bool d] T)).heap.size = w.heap.size + 1 := by simp
  refine ⟨⟨T, (0, 0), ?_⟩, by have := hb.size; omega, ((Below.refl _ _).alloc (Nat.le_refl _) _).trans (hb.mono (by omega))⟩
  rw [hb.block w.heap.size (by omega)]
  show (w.heap.push _)[w.heap.size]? = _
  simp
theorem BoxAt.keep {B : Nat} {i g c p : Int} {d : Bool} {w w1 w2 : World} (h : BoxAt B i g c p d w w1) (hb : Below w1.heap.size w1 w2) : BoxAt B i g c p d w w2 := by
  obtain ⟨⟨T, fr, h0⟩, h1, h2⟩ := h
  exact ⟨⟨T, fr, by rw [hb.block B h1]; exact h0⟩, Nat.lt_of_lt_of_le h1 hb.size, h2.trans (hb.mono h2.size)⟩
theorem BoxAt.cells {B : Nat} {i g c p : Int} {d : Bool} {w w1 : World} (h : BoxAt B i g c p d w w1) :
    w1.cell? ⟨B, 0, none⟩ = some (.int .i64 i) ∧ w1.cell? ⟨B, 1, none⟩ = some (.int .i64 g) ∧ w1.cell? ⟨B, 2, none⟩ = some (.int .i64 c) ∧ w1.cell? ⟨B, 3, none⟩ = some (.int .i64 p) ∧ w1.cell? ⟨B, 4, none⟩ = some (.bool d) := by
  obtain ⟨⟨T, fr, h0⟩, _, _⟩ := h
  refine ⟨?_, ?_, ?_, ?_, ?_⟩ <;> simp [World.cell?, h0]
end Go.Proofs.Ytmgnbkiphdlooab
namespace Go.Proofs.Ytmgnbkiphdlooab
open Go.ChangeShapes Go.WideShapes Go.Deep Go.RowKit
set_option linter.unusedVariables false

/-- A box. -/
structure Bx where
  i : Int
  g : Int
  c : Int
  p : Int
  d : Bool
/-- Its cells. -/
def Bx.cells (b : Bx) : List Value := [.int .i64 b.i, .int .i64 b.g, .int .i64 b.c, .int .i64 b.p, .bool b.d]
def Bx.zero : Bx := ⟨0, 0, 0, 0, false⟩
/-- Its numbers are int's. -/
def Bx.fits (b : Bx) : Prop := (Lit.int .i64 b.i).wf = true ∧ (Lit.int .i64 b.g).wf = true ∧ (Lit.int .i64 b.c).wf = true ∧ (Lit.int .i64 b.p).wf = true

set_option maxRecDepth 10000
section
variable {H : Type} {enc : TypeId × Value → H} {w : World} {base : Nat} {spare : Nat → Bool} {held : Bool}

theorem box_cells {T : TypeId} {fs : Array Field} {fuel : Nat} {cs : List Value} {x : DataW H × List MemPlace} (hs : Try.prog.underlying T = some (.struct fs)) (hone : oneCellFields Try.prog fs = true) (hC : Try.prog.cellsOf T = 5)
    (hty : fs.map (·.type) = #[3, 3, 3, 3, 4]) (h : DataW.trod enc Try.prog w base spare held fuel T cs = some x) : ∃ b : Bx, cs = b.cells ∧ b.fits := by
  obtain ⟨xs, n, _, hx, hlen, hxl, hg⟩ := DataW.trod_struct hs h
  obtain ⟨l⟩ := fs
  have hl : l.length = 5 := by have := congrArg Array.size hty; simpa using this
  match l, hl with
  | [f0, f1, f2, f3, f4], _ =>
    simp at hty
    obtain ⟨t0, t1, t2, t3, t4⟩ := hty
    match cs, hlen.trans hC with
    | [c0, c1, c2, c3, c4], _ =>
      match xs, hxl with
      | [y0, y1, y2, y3, y4], _ =>
        obtain ⟨o0, k0⟩ := hone_of hone 0 f0 rfl
        obtain ⟨o1, k1⟩ := hone_of hone 1 f1 rfl
        obtain ⟨o2, k2⟩ := hone_of hone 2 f2 rfl
        obtain ⟨o3, k3⟩ := hone_of hone 3 f3 rfl
        obtain ⟨o4, k4⟩ := hone_of hone 4 f4 rfl
        have g0 := hg 0 f0 rfl
        have g1 := hg 1 f1 rfl
        have g2 := hg 2 f2 rfl
        have g3 := hg 3 f3 rfl
        have g4 := hg 4 f4 rfl
        rw [o0, k0, t0] at g0
        rw [o1, k1, t1] at g1
        rw [o2, k2, t2] at g2
        rw [o3, k3, t3] at g3
        rw [o4, k4, t4] at g4
        obtain ⟨a0, e0, _, w0⟩ := DataW.trod_int Try.underlying3 (show DataW.trod enc Try.prog w base spare held n 3 [c0] = some y0 from g0)
        obtain ⟨a1, e1, _, w1⟩ := DataW.trod_int Try.underlying3 (show DataW.trod enc Try.prog w base spare held n 3 [c1] = some y1 from g1)
        obtain ⟨a2, e2, _, w2⟩ := DataW.trod_int Try.underlying3 (show DataW.trod enc Try.prog w base spare held n 3 [c2] = some y2 from g2)
        obtain ⟨a3, e3, _, w3⟩ := DataW.trod_int Try.underlying3 (show DataW.trod enc Try.prog w base spare held n 3 [c3] = some y3 from g3)
        obtain ⟨a4, e4, _⟩ := DataW.trod_bool Try.underlying4 (show DataW.trod enc Try.prog w base spare held n 4 [c4] = some y4 from g4)
        simp only [List.cons.injEq, and_true] at e0 e1 e2 e3 e4
        subst e0 e1 e2 e3 e4
        exact ⟨⟨a0, a1, a2, a3, a4⟩, rfl, w0, w1, w2, w3⟩

/-- A box by value. -/
theorem box_value {T : TypeId} {fs : Array Field} {r : Reach} {b0 : Nat} {v : Value} {d : DataW H} {p : List MemPlace} (hs : Try.prog.underlying T = some (.struct fs)) (hone : oneCellFields Try.prog fs = true) (hC : Try.prog.cellsOf T = 5)
    (hty : fs.map (·.type) = #[3, 3, 3, 3, 4]) (hv : Value.okWide Try.prog w r b0 T v) (h : DataW.Trod enc Try.prog w base spare held T v d p) :
    ∃ b : Bx, v = .agg #[.int .i64 b.i, .int .i64 b.g, .int .i64 b.c, .int .i64 b.p, .bool b.d] ∧ b.fits := by
  obtain ⟨cs, rfl, hsz⟩ := okWide_struct hs hv
  obtain ⟨fuel, hf⟩ := h
  obtain ⟨b, hb, hw⟩ := box_cells hs hone hC hty hf
  refine ⟨b, ?_, hw⟩
  congr 1
  apply Array.toList_inj.1
  simpa [Value.cells, Bx.cells] using hb

/-- What is known of a slice of boxes that came in. -/
def IsBoxes (w : World) (a : Option Addr) (len cap : Nat) (l : List Bx) : Prop :=
  (a = none ∧ len = 0 ∧ cap = 0 ∧ l = []) ∨
  ∃ x, a = some x ∧ len ≤ cap ∧ cap ≤ maxLen ∧ l.length = len ∧ (∀ b ∈ l, b.fits) ∧
    ∀ k (hk : k < l.length), ∀ j, j < 5 → w.cell? (x.add (k * 5 + j)) = l[k].cells[j]?

theorem boxes_slice {T E : TypeId} {fs : Array Field} {fuel : Nat} {a : Option Addr} {len cap : Nat} {x : DataW H × List MemPlace} (ht : Try.prog.underlying T = some (.slice E)) (hs : Try.prog.underlying E = some (.struct fs))
    (hone : oneCellFields Try.prog fs = true) (hC : Try.prog.cellsOf E = 5) (hty : fs.map (·.type) = #[3, 3, 3, 3, 4])
    (h : DataW.trod enc Try.prog w base spare held fuel T [.slice a len cap] = some x) : ∃ l, IsBoxes w a len cap l := by
  rcases open_slice ht h with ⟨hcs, _⟩ | ⟨x, len', cap', m, n, D, Pl, hcs, hb, hl, hm, hmm, _, hi⟩
  · simp at hcs
    obtain ⟨rfl, rfl, rfl⟩ := hcs
    exact ⟨[], .inl ⟨rfl, rfl, rfl, rfl⟩⟩
  · simp at hcs
    obtain ⟨rfl, rfl, rfl⟩ := hcs
    have hlm : len ≤ m := by rw [hmm]; split <;> omega
    have key : ∀ k, k < len → ∃ b : Bx, b.fits ∧ ∀ j, j < 5 → w.cell? (x.add (k * 5 + j)) = b.cells[j]? := by
      intro k hk
      obtain ⟨cs', hc, ht'⟩ := hi k (by omega)
      obtain ⟨b, rfl, hw⟩ := box_cells hs hone hC hty ht'
      rw [hC] at hc
      obtain ⟨_, _, hat⟩ := World.cells?_some hc
      refine ⟨b, hw, fun j hj => ?_⟩
      have := hat j hj
      rwa [Go.Deep.add_add] at this
    have : ∀ n, n ≤ len → ∃ l : List Bx, l.length = n ∧ (∀ b ∈ l, b.fits) ∧ ∀ k (hk : k < l.length), ∀ j, j < 5 → w.cell? (x.add (k * 5 + j)) = l[k].cells[j]? := by
      intro n
      induction n with
      | zero => intro _; exact ⟨[], rfl, by simp, fun k hk => absurd hk (by simp)⟩
      | succ n ih =>
        intro hn
        obtain ⟨l, h1, h2, h3⟩ := ih (by omega)
        obtain ⟨b, hb1, hb2⟩ := key n (by omega)
        refine ⟨l ++ [b], by simp [h1], fun y hy => ?_, fun k hk j hj => ?_⟩
        · rcases List.mem_append.1 hy with hy | hy
          · exact h2 y hy
          · rw [List.mem_singleton.1 hy]; exact hb1
        · by_cases hkl : k < l.length
          · rw [List.getElem_append_left hkl]; exact h3 k hkl j hj
          · have hkn : k = l.length := by simp at hk; omega
            subst hkn
            have e : (l ++ [b])[l.length] = b := by simp
            rw [e, h1]
            exact hb2 j hj
    obtain ⟨l, h1, h2, h3⟩ := this len (Nat.le_refl _)
    exact ⟨l, .inr ⟨x, rfl, hl, hm, h1, h2, h3⟩⟩
end
end Go.Proofs.Ytmgnbkiphdlooab
namespace Go.Proofs.Ytmgnbkiphdlooab
open Go.RowKit
set_option linter.unusedVariables false

/-- A slice value that holds these boxes in a world. -/
def HoldsBx (w : World) (v : Value) (l : List Bx) : Prop :=
  ∃ (a : Option Addr) (cap : Nat), v = .slice a l.length cap ∧ l.length ≤ cap ∧ cap ≤ maxLen ∧
    (l.length = 0 ∨ ∃ b off, a = some ⟨b, off, none⟩ ∧ b < w.heap.size ∧ ∀ k (hk : k < l.length), ∀ j, j < 5 → w.cell? ⟨b, off + (k * 5 + j), none⟩ = l[k].cells[j]?)

theorem HoldsBx.keep {w w' : World} {v : Value} {l : List Bx} (h : HoldsBx w v l) (hb : Below w.heap.size w w') : HoldsBx w' v l := by
  obtain ⟨a, cap, h1, h2, h3, h4⟩ := h
  refine ⟨a, cap, h1, h2, h3, ?_⟩
  rcases h4 with h4 | ⟨b, off, h5, h6, h7⟩
  · exact .inl h4
  · exact .inr ⟨b, off, h5, Nat.lt_of_lt_of_le h6 hb.size, fun k hk j hj => (hb.cell (p := ⟨b, off + (k * 5 + j), none⟩) h6).trans (h7 k hk j hj)⟩

theorem HoldsBx.of_came {w : World} {a : Option Addr} {len cap : Nat} {l : List Bx} (h : IsBoxes w a len cap l) : HoldsBx w (.slice a len cap) l ∧ l.length = len := by
  rcases h with ⟨rfl, rfl, rfl, rfl⟩ | ⟨x, rfl, h1, h2, h3, h4, h5⟩
  · exact ⟨⟨none, 0, rfl, Nat.le_refl _, by simp [maxLen], .inl rfl⟩, rfl⟩
  · refine ⟨⟨some x, cap, by rw [h3], by omega, h2, ?_⟩, h3⟩
    by_cases hz : l.length = 0
    · exact .inl hz
    · right
      obtain ⟨b, off, spot⟩ := x
      have hc := h5 0 (by omega) 0 (by omega)
      have hc' : w.cell? ((⟨b, off, spot⟩ : Addr).add (0 * 5 + 0)) = some (.int .i64 l[0].i) := hc
      have hspot : spot = none := by simpa [Addr.add] using World.cell?_spot hc'
      subst hspot
      refine ⟨b, off, rfl, World.block_lt_of_cell? _ _ hc', fun k hk j hj => ?_⟩
      rw [← Go.WideShapes.add_plain]
      exact h5 k hk j hj

theorem szBoxS_any (a : Option Addr) (len cap : Nat) (left : Int) (w : World) (h0 : 0 ≤ left) (h1 : left ≤ 1048576) (hm : len ≤ maxLen) :
    Calls Try.prog 33 #[.slice a len cap, .int .i64 left] w fun e w' => e = .returned (.int .i64 (if left < len then -1 else left - len)) ∧ w = w' := by
  unfold maxLen at hm
  by_cases h : left < len
  · rw [if_pos h]
    go_enter Try.func33, Try.ntmps33
    go_wp2
    go_ret
    exact ⟨rfl, rfl⟩
  · rw [if_neg h]
    go_enter Try.func33, Try.ntmps33
    go_wp2
    go_ret
    exact ⟨rfl, rfl⟩

theorem five_set {w : World} {G : Nat} {cur : Array Value} {T : TypeId} (h : w.heap[G]? = some (.cells cur T (0, 0))) (o : Nat) (v0 v1 v2 v3 v4 : Value) :
    (((((w.setCell ⟨G, o, none⟩ v0).setCell ⟨G, o + 1, none⟩ v1).setCell ⟨G, o + 2, none⟩ v2).setCell ⟨G, o + 3, none⟩ v3).setCell ⟨G, o + 4, none⟩ v4).heap[G]? =
      some (.cells (((((cur.setIfInBounds o v0).setIfInBounds (o + 1) v1).setIfInBounds (o + 2) v2).setIfInBounds (o + 3) v3).setIfInBounds (o + 4) v4) T (0, 0)) :=
  Joins.block_setCell (Joins.block_setCell (Joins.block_setCell (Joins.block_setCell (Joins.block_setCell h v0) v1) v2) v3) v4
theorem five_get (cur : Array Value) (o n : Nat) (hn : o + 5 ≤ cur.size) (b : Bx) (i : Nat) :
    (((((cur.setIfInBounds o (.int .i64 b.i)).setIfInBounds (o + 1) (.int .i64 b.g)).setIfInBounds (o + 2) (.int .i64 b.c)).setIfInBounds (o + 3) (.int .i64 b.p)).setIfInBounds (o + 4) (.bool b.d))[i]? =
      if o ≤ i ∧ i < o + 5 then b.cells[i - o]? else cur[i]? := by
  simp only [Array.getElem?_setIfInBounds, Array.size_setIfInBounds]
  by_cases h : o ≤ i ∧ i < o + 5
  · rw [if_pos h]
    obtain rfl | rfl | rfl | rfl | rfl : i = o ∨ i = o + 1 ∨ i = o + 2 ∨ i = o + 3 ∨ i = o + 4 := by omega
    · rw [if_neg (by omega), if_neg (by omega), if_neg (by omega), if_neg (by omega), if_pos rfl, if_pos (by omega), Nat.sub_self]; rfl
    · rw [if_neg (by omega), if_neg (by omega), if_neg (by omega), if_pos rfl, if_pos (by omega), show o + 1 - o = 1 by omega]; rfl
    · rw [if_neg (by omega), if_neg (by omega), if_pos rfl, if_pos (by omega), show o + 2 - o = 2 by omega]; rfl
    · rw [if_neg (by omega), if_pos rfl, if_pos (by omega), show o + 3 - o = 3 by omega]; rfl
    · rw [if_pos rfl, if_pos (by omega), show o + 4 - o = 4 by omega]; rfl
  · rw [if_neg h, if_neg (by omega), if_neg (by omega), if_neg (by omega), if_neg (by omega), if_neg (by omega)]

theorem infoBox : (Try.prog.info? 41).map (fun i => (i.zero, i.size, i.bytes)) = some (some (.agg #[.int .i64 0, .int .i64 0, .int .i64 0, .int .i64 0, .bool false]), 5, 40) := by kernel_rfl

set_option maxHeartbeats 1000000 in
theorem toBoxS_some (b off len cap : Nat) (l : List Bx) (w : World) (hl : l.length = len) (hn : len ≤ 1048576) (hp : 0 < len) (hb : b < w.heap.size)
    (hc : ∀ k (hk : k < l.length), ∀ j, j < 5 → w.cell? ⟨b, off + (k * 5 + j), none⟩ = l[k].cells[j]?) :
    Calls Try.prog 35 #[.slice (some ⟨b, off, none⟩) len cap] w fun e w' => ∃ v, e = .returned v ∧ HoldsBx w' v l ∧ Below w.heap.size w w' := by
  obtain ⟨i0, hi, hz0, hz1, hz2⟩ := info_parts infoBox
  have hb2 : i0.bytes * len ≤ 281474976710656 := by rw [hz2]; omega
  have hb3 : len ≤ maxLen := by unfold maxLen; omega
  go_enter Try.func35, Try.ntmps35
  go_wp2_with (at_make; refine wpList_make_full _ rfl _ _ _ rfl w.heap.size 41 i0 (.agg #[.int .i64 0, .int .i64 0, .int .i64 0, .int .i64 0, .bool false]) 5 Try.underlying25 hi hz0 hz1 .i64 .i64 _ _ len rfl rfl rfl rfl hb2 hb3 (Nat.le_refl _) ?_; intro w1 hown hgrow)
  obtain ⟨hx1, hx2⟩ := hown
  have hbel : Below w.heap.size w w1 := (Below.refl _ _).grown hgrow (Nat.le_refl _) (fun k hk => by cases hk)
  obtain ⟨cur0, hcur0, hsz0⟩ : ∃ cur : Array Value, w1.heap[w.heap.size]? = some (.cells cur 41 (0, 0)) ∧ cur.size = len * 5 := by
    rcases hx2 with ⟨h1, _⟩ | ⟨g, cap', cur, h1, _, h3, _, _, h6, _⟩
    · cases h1
    · simp only [Value.slice.injEq, Option.some.injEq, Addr.mk.injEq] at h1
      obtain ⟨⟨rfl, -, -⟩, -, rfl⟩ := h1
      exact ⟨cur, h3, h6⟩
  clear hx1 hx2 hgrow
  generalize hG : w.heap.size = G at *
  go_loopw [4] (fun i wr => ∃ (k : Nat) (cur : Array Value), k ≤ len ∧ i = .int .i64 k ∧ Hid (wr.heap[G]? = some (.cells cur 41 (0, 0)) ∧ cur.size = len * 5 ∧ ∀ j (hj : j < l.length), j < k → ∀ i, i < 5 → cur[j * 5 + i]? = l[j].cells[i]?) ∧ Below G w wr) (fun i _ => len - (intOf i).toNat)
  case atStart => exact ⟨0, cur0, by omega, rfl, Lib.hid ⟨hcur0, hsz0, fun j _ hj => by omega⟩, hbel⟩
  case round =>
    obtain ⟨k, cur, hk, rfl, HC, hbr⟩ := hrel
    by_cases hlt : k < len
    · have hkl : k < l.length := by omega
      have hs : ∀ j, j < 5 → wr.cell? ⟨b, off + (k * 5 + j), none⟩ = l[k].cells[j]? := fun j hj => (hbr.cell (p := ⟨b, off + (k * 5 + j), none⟩) hb).trans (hc k hkl j hj)
      have s0 : wr.cell? ⟨b, off + k * 5, none⟩ = some (.int .i64 l[k].i) := hs 0 (by omega)
      have s1 : wr.cell? ⟨b, off + k * 5 + 1, none⟩ = some (.int .i64 l[k].g) := hs 1 (by omega)
      have s2 : wr.cell? ⟨b, off + k * 5 + 2, none⟩ = some (.int .i64 l[k].c) := hs 2 (by omega)
      have s3 : wr.cell? ⟨b, off + k * 5 + 3, none⟩ = some (.int .i64 l[k].p) := hs 3 (by omega)
      have s4 : wr.cell? ⟨b, off + k * 5 + 4, none⟩ = some (.bool l[k].d) := hs 4 (by omega)
      clear hs
      have HT := Lib.hid fun w => toBox_any l[k].i l[k].g l[k].c l[k].p l[k].d w
      go_wp2_with fail
      refine (HT.out _).mono ?_
      rintro e w2 ⟨rfl, b2⟩
      clear s0 s1 s2 s3 s4
      obtain ⟨hc1, hc2, hc3⟩ := HC.out
      have hG2 : G < wr.heap.size := by
        rcases Nat.lt_or_ge G wr.heap.size with h | h
        · exact h
        · rw [Array.getElem?_eq_none h] at hc1; cases hc1
      have hw2 : w2.heap[G]? = some (.cells cur 41 (0, 0)) := (b2.block G hG2).trans hc1
      have hcell : ∀ o, w2.cell? ⟨G, o, none⟩ = cur[o]? := fun o => by simp [World.cell?, hw2]
      have hfr : ∀ o, w2.frozen? ⟨G, o, none⟩ = false := fun o => by simp [World.frozen?, hw2]
      have ht : ∀ o, o < len * 5 → ∃ v, w2.cell? ⟨G, o, none⟩ = some v := fun o ho => ⟨_, by rw [hcell]; exact Array.getElem?_eq_getElem (by omega)⟩
      obtain ⟨x0, t0⟩ := ht (k * 5) (by omega)
      obtain ⟨x1, t1⟩ := ht (k * 5 + 1) (by omega)
      obtain ⟨x2, t2⟩ := ht (k * 5 + 2) (by omega)
      obtain ⟨x3, t3⟩ := ht (k * 5 + 3) (by omega)
      obtain ⟨x4, t4⟩ := ht (k * 5 + 4) (by omega)
      have HC3 := Lib.hid (And.intro hw2 (And.intro hc2 hc3))
      have f0 := hfr (k * 5)
      have f1 := hfr (k * 5 + 1)
      have f2 := hfr (k * 5 + 2)
      have f3 := hfr (k * 5 + 3)
      have f4 := hfr (k * 5 + 4)
      have hb2 := hbr.trans (b2.mono (Nat.le_of_lt hG2))
      clear ht hc1 hc2 hc3 hw2 hcell hfr HC
      go_wp2_with fail
      go_roundw
      case rel =>
        obtain ⟨d1, d2, d3⟩ := HC3.out
        refine ⟨k + 1, _, by omega, by go_num, Lib.hid ⟨five_set d1 _ _ _ _ _ _, by simpa using d2, fun j hj hjk i hi => ?_⟩, ?_⟩
        · rw [five_get cur (k * 5) 0 (by omega) l[k]]
          by_cases hjk' : j = k
          · subst hjk'
            rw [if_pos (by omega), show j * 5 + i - j * 5 = i by omega]
          · rw [if_neg (by omega)]
            exact d3 j hj (by omega) i hi
        · exact ((((hb2.setCell (Nat.le_refl _) _).setCell (Nat.le_refl _) _).setCell (Nat.le_refl _) _).setCell (Nat.le_refl _) _).setCell (Nat.le_refl _) _
      case measure => simp [intOf]; omega
    · obtain ⟨d1, d2, d3⟩ := HC.out
      have HC' := HC
      clear HC
      go_wp2_with fail
      go_ret
      have hGr : G < wr.heap.size := by
        rcases Nat.lt_or_ge G wr.heap.size with h | h
        · exact h
        · rw [Array.getElem?_eq_none h] at d1; cases d1
      refine ⟨_, rfl, ⟨some ⟨G, 0, none⟩, len, by rw [hl]; rfl, by omega, hb3, .inr ⟨G, 0, rfl, hGr, fun j hj i hi => ?_⟩⟩, by rw [hG]; exact hbr⟩
      have e : wr.cell? ⟨G, 0 + (j * 5 + i), none⟩ = cur[j * 5 + i]? := by rw [Nat.zero_add]; simp [World.cell?, d1]
      rw [e]
      exact d3 j hj (by omega) i hi

theorem toBoxS_zero (a : Option Addr) (cap : Nat) (w : World) :
    Calls Try.prog 35 #[.slice a 0 cap] w fun e w' => ∃ v, e = .returned v ∧ HoldsBx w' v [] ∧ Below w.heap.size w w' := by
  obtain ⟨i0, hi, hz0, hz1, hz2⟩ := info_parts infoBox
  have hb2 : i0.bytes * 0 ≤ 281474976710656 := by omega
  have hb3 : 0 ≤ maxLen := by omega
  go_enter Try.func35, Try.ntmps35
  go_wp2_with (at_make; refine wpList_make_full _ rfl _ _ _ rfl w.heap.size 41 i0 (.agg #[.int .i64 0, .int .i64 0, .int .i64 0, .int .i64 0, .bool false]) 5 Try.underlying25 hi hz0 hz1 .i64 .i64 _ _ 0 rfl rfl rfl rfl hb2 hb3 (Nat.le_refl _) ?_; intro w1 hown hgrow)
  have hbel : Below w.heap.size w w1 := (Below.refl _ _).grown hgrow (Nat.le_refl _) (fun k hk => by cases hk)
  clear hown hgrow
  go_loop [4] (fun i => i = .int .i64 0) (fun _ => 0)
  case atStart => rfl
  case round =>
    obtain rfl := hrel
    go_wp2_with fail
    go_ret
    exact ⟨_, rfl, ⟨some ⟨w.heap.size, 0, none⟩, 0, rfl, Nat.le_refl _, hb3, .inl rfl⟩, hbel⟩

/-- The exact laws' copy of a slice of boxes: new memory that holds the same boxes. -/
theorem toBoxS_any (v : Value) (l : List Bx) (w : World) (h : HoldsBx w v l) (hn : l.length ≤ 1048576) :
    Calls Try.prog 35 #[v] w fun e w' => ∃ u, e = .returned u ∧ HoldsBx w' u l ∧ Below w.heap.size w w' := by
  obtain ⟨a, cap, rfl, h2, h3, h4⟩ := h
  by_cases hz : l.length = 0
  · obtain rfl := List.eq_nil_of_length_eq_zero hz
    exact toBoxS_zero a cap w
  · rcases h4 with h4 | ⟨b, off, rfl, h6, h7⟩
    · exact absurd h4 hz
    · exact toBoxS_some b off l.length cap l w rfl hn (by omega) h6 h7
end Go.Proofs.Ytmgnbkiphdlooab
namespace Go.Proofs.Ytmgnbkiphdlooab
set_option linter.unusedVariables false

/-- The index of the first box with an id, or -1. -/
def findB : List Bx → Int → Int
  | [], _ => -1
  | b :: l, id => if b.i = id then 0 else if findB l id < 0 then -1 else findB l id + 1
theorem findB_hit : ∀ (l : List Bx) (id : Int) (k : Nat) (hk : k < l.length), (∀ j (hj : j < l.length), j < k → l[j].i ≠ id) → l[k].i = id → findB l id = k
  | b :: l, id, 0, _, _, h => by
    have h' : b.i = id := h
    rw [findB, if_pos h']; rfl
  | b :: l, id, k + 1, hk, hn, h => by
    have h0 : b.i ≠ id := hn 0 (by simp) (by omega)
    have ih := findB_hit l id k (by simpa using hk) (fun j hj hjk => hn (j + 1) (by simpa using hj) (by omega)) h
    rw [findB, if_neg h0, ih, if_neg (by omega)]
    rfl
theorem findB_none : ∀ (l : List Bx) (id : Int), (∀ j (hj : j < l.length), l[j].i ≠ id) → findB l id = -1
  | [], _, _ => rfl
  | b :: l, id, hn => by
    have h0 : b.i ≠ id := hn 0 (by simp)
    have ih := findB_none l id (fun j hj => hn (j + 1) (by simpa using hj))
    rw [findB, if_neg h0, ih, if_pos (by omega)]
theorem findB_bd : ∀ (l : List Bx) (id : Int), -1 ≤ findB l id ∧ findB l id < l.length
  | [], id => ⟨by show (-1 : Int) ≤ -1; omega, by show (-1 : Int) < (0 : Nat); omega⟩
  | b :: l, id => by
    have ih := findB_bd l id
    unfold findB
    rw [List.length_cons]
    split
    · omega
    · split <;> omega

def Bx.ok (b : Bx) : Bool := bxOk b.i b.g b.c b.p
/-- Whether the box at a place is valid and the first with its id. -/
def okAt (l : List Bx) (k : Nat) : Bool := (l.getD k Bx.zero).ok && !decide (findB l (l.getD k Bx.zero).i < k)
/-- Whether a list of boxes is valid. -/
def bxsOk (l : List Bx) : Bool := (List.range l.length).all (okAt l) && decide (l.length ≤ 10)
theorem getD_bx {l : List Bx} {k : Nat} (h : k < l.length) : l.getD k Bx.zero = l[k] := by
  rw [List.getD_eq_getElem?_getD, List.getElem?_eq_getElem h, Option.getD_some]
theorem bxsOk_at {l : List Bx} {k : Nat} (h : k < l.length) (hf : okAt l k = false) : bxsOk l = false := by
  unfold bxsOk
  rw [show (List.range l.length).all (okAt l) = false from ?_]
  · rfl
  · rw [List.all_eq_false]
    exact ⟨k, List.mem_range.2 h, by rw [hf]; decide⟩
theorem bxsOk_end {l : List Bx} (h : ∀ k, k < l.length → okAt l k = true) : bxsOk l = decide (l.length ≤ 10) := by
  unfold bxsOk
  rw [show (List.range l.length).all (okAt l) = true from List.all_eq_true.2 fun k hk => h k (List.mem_range.1 hk)]
  rfl
end Go.Proofs.Ytmgnbkiphdlooab
namespace Go.Proofs.Ytmgnbkiphdlooab
open Go.RowKit
set_option linter.unusedVariables false

set_option maxHeartbeats 400000 in
theorem l2Find_any (v : Value) (l : List Bx) (id : Int) (w : World) (h : HoldsBx w v l) :
    Calls Try.prog 59 #[v, .int .i64 id] w fun e w' => e = .returned (.int .i64 (findB l id)) ∧ w = w' := by
  obtain ⟨a, cap, rfl, h2, h3, h4⟩ := h
  have hm : l.length ≤ 9223372036854775807 := by unfold maxLen at h3; omega
  obtain ⟨n, hn⟩ : ∃ n, n = l.length := ⟨_, rfl⟩
  have HN := Lib.hid hn.symm
  rw [← hn]
  have hm' : n ≤ 9223372036854775807 := by omega
  have H4 := Lib.hid h4
  clear hn h2 h3 h4 hm
  go_enter Try.func59, Try.ntmps59
  go_wp2_with fail
  go_loop [5] (fun i => ∃ k : Nat, k ≤ n ∧ i = .int .i64 k ∧ Hid (∀ j (hj : j < l.length), j < k → l[j].i ≠ id)) (fun i => n - (intOf i).toNat)
  case atStart => exact ⟨0, by omega, rfl, Lib.hid fun j _ hj => by omega⟩
  case round =>
    obtain ⟨k, hk, rfl, HF⟩ := hrel
    by_cases hlt : k < n
    · rcases H4.out with h4 | ⟨b, off, rfl, h6, h7⟩
      · have := HN.out; omega
      · have hkl : k < l.length := by rw [HN.out]; exact hlt
        have s0 : w.cell? ⟨b, off + k * 5, none⟩ = some (.int .i64 l[k].i) := h7 k hkl 0 (by omega)
        have H7 := Lib.hid h7
        clear h7
        by_cases he : l[k].i = id
        · have b1 : (l[k].i == id) = true := by rw [beq_iff_eq]; exact he
          have hr := Lib.hid (findB_hit l id k hkl HF.out he)
          clear he
          go_wp2_with fail
          go_ret
          exact ⟨by rw [hr.out]; rfl, rfl⟩
        · have b1 : (l[k].i == id) = false := by rw [beq_eq_false_iff_ne]; exact he
          have HE := Lib.hid he
          clear he
          go_wp2_with fail
          go_round
          case rel => exact ⟨k + 1, by omega, by go_num, Lib.hid fun j hj hjk => by
            by_cases e : j = k
            · subst e; exact HE.out
            · exact HF.out j hj (by omega)⟩
          case measure => simp [intOf]; omega
    · have hr := Lib.hid (findB_none l id fun j hj => HF.out j hj (by rw [HN.out] at hj; omega))
      go_wp2_with fail
      go_ret
      exact ⟨by rw [hr.out]; rfl, rfl⟩

set_option maxHeartbeats 1000000 in
theorem specBoxesValid_any (v : Value) (l : List Bx) (w : World) (h : HoldsBx w v l) :
    Calls Try.prog 57 #[v] w fun e w' => e = .returned (.bool (bxsOk l)) ∧ Below w.heap.size w w' := by
  have HF := Lib.hid fun w (h : HoldsBx w v l) id => l2Find_any v l id w h
  have HH := Lib.hid h
  obtain ⟨a, cap, rfl, h2, h3, h4⟩ := h
  have hm : l.length ≤ 9223372036854775807 := by unfold maxLen at h3; omega
  obtain ⟨n, hn⟩ : ∃ n, n = l.length := ⟨_, rfl⟩
  have HN := Lib.hid hn.symm
  rw [← hn] at HF HH ⊢
  have hm' : n ≤ 9223372036854775807 := by omega
  have H4 := Lib.hid h4
  clear hn h2 h3 h4 hm
  go_enter Try.func57, Try.ntmps57
  go_wp2_with fail
  go_loopw [3] (fun i wr => ∃ k : Nat, k ≤ n ∧ i = .int .i64 k ∧ Hid (∀ j, j < k → okAt l j = true) ∧ Below w.heap.size w wr) (fun i _ => n - (intOf i).toNat)
  case atStart => exact ⟨0, by omega, rfl, Lib.hid fun j hj => by omega, Below.refl _ _⟩
  case round =>
    obtain ⟨k, hk, rfl, HA, hbr⟩ := hrel
    have HHr := Lib.hid (HH.out.keep hbr)
    by_cases hlt : k < n
    · have hkl : k < l.length := by rw [HN.out]; exact hlt
      rcases H4.out with h4 | ⟨b, off, rfl, h6, h7⟩
      · have := HN.out; omega
      · have hs : ∀ j, j < 5 → wr.cell? ⟨b, off + (k * 5 + j), none⟩ = l[k].cells[j]? := fun j hj => (hbr.cell (p := ⟨b, off + (k * 5 + j), none⟩) h6).trans (h7 k hkl j hj)
        have s0 : wr.cell? ⟨b, off + k * 5, none⟩ = some (.int .i64 l[k].i) := hs 0 (by omega)
        have s1 : wr.cell? ⟨b, off + k * 5 + 1, none⟩ = some (.int .i64 l[k].g) := hs 1 (by omega)
        have s2 : wr.cell? ⟨b, off + k * 5 + 2, none⟩ = some (.int .i64 l[k].c) := hs 2 (by omega)
        have s3 : wr.cell? ⟨b, off + k * 5 + 3, none⟩ = some (.int .i64 l[k].p) := hs 3 (by omega)
        have s4 : wr.cell? ⟨b, off + k * 5 + 4, none⟩ = some (.bool l[k].d) := hs 4 (by omega)
        have HV := Lib.hid fun w => specBoxValid_any l[k].i l[k].g l[k].c l[k].p l[k].d w
        have hgd := getD_bx hkl
        have hat : okAt l k = (bxOk l[k].i l[k].g l[k].c l[k].p && !decide (findB l l[k].i < k)) := by unfold okAt Bx.ok; rw [hgd]
        have H7 := Lib.hid h7
        clear hs h7 hgd
        cases hok : bxOk l[k].i l[k].g l[k].c l[k].p
        · rw [hok] at HV hat
          have hr := Lib.hid (bxsOk_at hkl (show okAt l k = false by rw [hat]; rfl))
          clear hat hok
          go_wp2_with fail
          refine (HV.out _).mono ?_
          rintro e w2 ⟨rfl, b2⟩
          go_wp2_with fail
          go_ret
          exact ⟨by rw [hr.out]; rfl, hbr.trans (b2.mono hbr.size)⟩
        · rw [hok] at HV hat
          have HAT := Lib.hid hat
          clear hat hok
          go_wp2_with fail
          refine (HV.out _).mono ?_
          rintro e w2 ⟨rfl, b2⟩
          have u0 : w2.cell? ⟨b, off + k * 5, none⟩ = some (.int .i64 l[k].i) := (b2.cell (p := ⟨b, off + k * 5, none⟩) (World.block_lt_of_cell? _ _ s0)).trans s0
          have HF2 := Lib.hid (HF.out w2 (HHr.out.keep b2) l[k].i)
          clear s0 s1 s2 s3 s4
          by_cases hlt2 : findB l l[k].i < k
          · have d1 : decide (findB l l[k].i < (k : Int)) = true := decide_eq_true hlt2
            have hr := Lib.hid (bxsOk_at hkl (show okAt l k = false by rw [HAT.out, d1]; rfl))
            clear hlt2
            go_wp2_with fail
            refine HF2.out.mono ?_
            rintro e w3 ⟨rfl, rfl⟩
            go_wp2_with fail
            go_ret
            exact ⟨by rw [hr.out]; rfl, hbr.trans (b2.mono hbr.size)⟩
          · have d1 : decide (findB l l[k].i < (k : Int)) = false := decide_eq_false hlt2
            have hr := Lib.hid (show okAt l k = true by rw [HAT.out, d1]; rfl)
            clear hlt2
            go_wp2_with fail
            refine HF2.out.mono ?_
            rintro e w3 ⟨rfl, rfl⟩
            go_wp2_with fail
            go_roundw
            case rel => exact ⟨k + 1, by omega, by go_num, Lib.hid fun j hj => by
              by_cases e : j = k
              · subst e; exact hr.out
              · exact HA.out j (by omega), hbr.trans (b2.mono hbr.size)⟩
            case measure => simp [intOf]; omega
    · have hr := Lib.hid (bxsOk_end fun j hj => HA.out j (by rw [HN.out] at hj; omega))
      have hN2 := HN.out
      rw [hN2] at hr
      clear hN2
      go_wp2_with fail
      go_ret
      exact ⟨by rw [hr.out]; simp; omega, hbr⟩

/-- What FindBox gives. -/
def findS (l : List Bx) (id : Int) : Int := if bxsOk l = true then findB l id else -1
end Go.Proofs.Ytmgnbkiphdlooab
namespace Go.Proofs.Ytmgnbkiphdlooab
open Go.RowKit
set_option linter.unusedVariables false

theorem eqBox_same (i g c p : Int) (d : Bool) (w : World) :
    Calls Try.prog 73 #[.agg #[.int .i64 i, .int .i64 g, .int .i64 c, .int .i64 p, .bool d], .agg #[.int .i64 i, .int .i64 g, .int .i64 c, .int .i64 p, .bool d]] w fun e w' => e = .returned (.bool true) ∧ Below w.heap.size w w' := by
  have b1 : (i != i) = false := by simp
  have b2 : (g != g) = false := by simp
  have b3 : (c != c) = false := by simp
  have b4 : (p != p) = false := by simp
  have b5 : (d != d) = false := by simp
  go_enter Try.func73, Try.ntmps73
  go_wp2
  go_ret
  exact ⟨rfl, ((Below.refl _ _).alloc (Nat.le_refl _) _).alloc (by simp) _⟩

set_option maxHeartbeats 1000000 in
theorem eqBoxS_same (u v : Value) (l : List Bx) (w : World) (hu : HoldsBx w u l) (hv : HoldsBx w v l) :
    Calls Try.prog 38 #[u, v] w fun e w' => e = .returned (.bool true) ∧ Below w.heap.size w w' := by
  have HU := Lib.hid hu
  have HV := Lib.hid hv
  obtain ⟨a, cap, rfl, h2, h3, h4⟩ := hu
  obtain ⟨a', cap', rfl, h2', h3', h4'⟩ := hv
  have hm : l.length ≤ 9223372036854775807 := by unfold maxLen at h3; omega
  obtain ⟨n, hn⟩ : ∃ n, n = l.length := ⟨_, rfl⟩
  have HN := Lib.hid hn.symm
  rw [← hn] at HU HV ⊢
  have hm' : n ≤ 9223372036854775807 := by omega
  have H4 := Lib.hid h4
  have H4' := Lib.hid h4'
  have hne : ((n : Int) != (n : Int)) = false := by simp
  clear hn h2 h3 h4 h2' h3' h4' hm
  go_enter Try.func38, Try.ntmps38
  go_wp2_with fail
  go_loopw [5] (fun i wr => ∃ k : Nat, k ≤ n ∧ i = .int .i64 k ∧ Below w.heap.size w wr) (fun i _ => n - (intOf i).toNat)
  case atStart => exact ⟨0, by omega, rfl, Below.refl _ _⟩
  case round =>
    obtain ⟨k, hk, rfl, hbr⟩ := hrel
    by_cases hlt : k < n
    · have hkl : k < l.length := by rw [HN.out]; exact hlt
      rcases H4.out with h4 | ⟨b, off, rfl, h6, h7⟩
      · have := HN.out; omega
      · rcases H4'.out with h4 | ⟨b', off', rfl, h6', h7'⟩
        · have := HN.out; omega
        · have hs : ∀ j, j < 5 → wr.cell? ⟨b, off + (k * 5 + j), none⟩ = l[k].cells[j]? := fun j hj => (hbr.cell (p := ⟨b, off + (k * 5 + j), none⟩) h6).trans (h7 k hkl j hj)
          have hs' : ∀ j, j < 5 → wr.cell? ⟨b', off' + (k * 5 + j), none⟩ = l[k].cells[j]? := fun j hj => (hbr.cell (p := ⟨b', off' + (k * 5 + j), none⟩) h6').trans (h7' k hkl j hj)
          have s0 : wr.cell? ⟨b, off + k * 5, none⟩ = some (.int .i64 l[k].i) := hs 0 (by omega)
          have s1 : wr.cell? ⟨b, off + k * 5 + 1, none⟩ = some (.int .i64 l[k].g) := hs 1 (by omega)
          have s2 : wr.cell? ⟨b, off + k * 5 + 2, none⟩ = some (.int .i64 l[k].c) := hs 2 (by omega)
          have s3 : wr.cell? ⟨b, off + k * 5 + 3, none⟩ = some (.int .i64 l[k].p) := hs 3 (by omega)
          have s4 : wr.cell? ⟨b, off + k * 5 + 4, none⟩ = some (.bool l[k].d) := hs 4 (by omega)
          have t0 : wr.cell? ⟨b', off' + k * 5, none⟩ = some (.int .i64 l[k].i) := hs' 0 (by omega)
          have t1 : wr.cell? ⟨b', off' + k * 5 + 1, none⟩ = some (.int .i64 l[k].g) := hs' 1 (by omega)
          have t2 : wr.cell? ⟨b', off' + k * 5 + 2, none⟩ = some (.int .i64 l[k].c) := hs' 2 (by omega)
          have t3 : wr.cell? ⟨b', off' + k * 5 + 3, none⟩ = some (.int .i64 l[k].p) := hs' 3 (by omega)
          have t4 : wr.cell? ⟨b', off' + k * 5 + 4, none⟩ = some (.bool l[k].d) := hs' 4 (by omega)
          have HE := Lib.hid fun w => eqBox_same l[k].i l[k].g l[k].c l[k].p l[k].d w
          have H7 := Lib.hid h7
          have H7' := Lib.hid h7'
          clear hs hs' h7 h7'
          go_wp2_with fail
          go_region_with (go_at_call 73; ((with_reducible refine (HE.out _).mono ?_); rintro e w2 ⟨rfl, b2⟩))
          all_goals
            have c2 : Below w.heap.size w w2 := hbr.trans (Below.mono (w := wr) ⟨b2.os, b2.tape, b2.output, b2.size, b2.block⟩ hbr.size)
            go_wp2_with fail
            go_roundw
            case rel => exact ⟨k + 1, by omega, by go_num, c2⟩
            case measure => simp [intOf]; omega
    · go_wp2_with fail
      go_ret
      exact ⟨rfl, hbr⟩
end Go.Proofs.Ytmgnbkiphdlooab
