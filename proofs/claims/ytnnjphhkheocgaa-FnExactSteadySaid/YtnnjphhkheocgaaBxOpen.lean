/-
  How a box, and a slice of boxes, that came in read: their cells.
-/
import Derived.Test.YtnnjphhkheocgaaRows
import Derived.WalkKit
import Derived.ProofKit
import Derived.OpenShut
import Derived.Deep.Slices
import Derived.Deep.Fields
import Derived.ChangeSame
namespace Go.Proofs.Ytnnjphhkheocgaa
open Go.ChangeShapes Go.WideShapes Go.Deep Go.RowKit
set_option linter.unusedVariables false

/-- A box. -/
structure Bx where
  i : Int
  g : Int
  c : Int
  p : Int
  d : Bool
/-- Its cells. -/
def Bx.cells (b : Bx) : List Value := [.int .i64 b.i, .int .i64 b.g, .int .i64 b.c, .int .i64 b.p, .bool b.d]
def Bx.zero : Bx := ⟨0, 0, 0, 0, false⟩
/-- Its numbers are int's. -/
def Bx.fits (b : Bx) : Prop := (Lit.int .i64 b.i).wf = true ∧ (Lit.int .i64 b.g).wf = true ∧ (Lit.int .i64 b.c).wf = true ∧ (Lit.int .i64 b.p).wf = true

set_option maxRecDepth 10000
section
variable {H : Type} {enc : TypeId × Value → H} {w : World} {base : Nat} {spare : Nat → Bool} {held : Bool}

theorem box_cells {T : TypeId} {fs : Array Field} {fuel : Nat} {cs : List Value} {x : DataW H × List MemPlace} (hs : Try.prog.underlying T = some (.struct fs)) (hone : oneCellFields Try.prog fs = true) (hC : Try.prog.cellsOf T = 5)
    (hty : fs.map (·.type) = #[3, 3, 3, 3, 4]) (h : DataW.trod enc Try.prog w base spare held fuel T cs = some x) : ∃ b : Bx, cs = b.cells ∧ b.fits := by
  obtain ⟨xs, n, _, hx, hlen, hxl, hg⟩ := DataW.trod_struct hs h
  obtain ⟨l⟩ := fs
  have hl : l.length = 5 := by have := congrArg Array.size hty; simpa using this
  match l, hl with
  | [f0, f1, f2, f3, f4], _ =>
    simp at hty
    obtain ⟨t0, t1, t2, t3, t4⟩ := hty
    match cs, hlen.trans hC with
    | [c0, c1, c2, c3, c4], _ =>
      match xs, hxl with
      | [y0, y1, y2, y3, y4], _ =>
        obtain ⟨o0, k0⟩ := hone_of hone 0 f0 rfl
        obtain ⟨o1, k1⟩ := hone_of hone 1 f1 rfl
        obtain ⟨o2, k2⟩ := hone_of hone 2 f2 rfl
        obtain ⟨o3, k3⟩ := hone_of hone 3 f3 rfl
        obtain ⟨o4, k4⟩ := hone_of hone 4 f4 rfl
        have g0 := hg 0 f0 rfl
        have g1 := hg 1 f1 rfl
        have g2 := hg 2 f2 rfl
        have g3 := hg 3 f3 rfl
        have g4 := hg 4 f4 rfl
        rw [o0, k0, t0] at g0
        rw [o1, k1, t1] at g1
        rw [o2, k2, t2] at g2
        rw [o3, k3, t3] at g3
        rw [o4, k4, t4] at g4
        obtain ⟨a0, e0, _, w0⟩ := DataW.trod_int Try.underlying3 (show DataW.trod enc Try.prog w base spare held n 3 [c0] = some y0 from g0)
        obtain ⟨a1, e1, _, w1⟩ := DataW.trod_int Try.underlying3 (show DataW.trod enc Try.prog w base spare held n 3 [c1] = some y1 from g1)
        obtain ⟨a2, e2, _, w2⟩ := DataW.trod_int Try.underlying3 (show DataW.trod enc Try.prog w base spare held n 3 [c2] = some y2 from g2)
        obtain ⟨a3, e3, _, w3⟩ := DataW.trod_int Try.underlying3 (show DataW.trod enc Try.prog w base spare held n 3 [c3] = some y3 from g3)
        obtain ⟨a4, e4, _⟩ := DataW.trod_bool Try.underlying4 (show DataW.trod enc Try.prog w base spare held n 4 [c4] = some y4 from g4)
        simp only [List.cons.injEq, and_true] at e0 e1 e2 e3 e4
        subst e0 e1 e2 e3 e4
        exact ⟨⟨a0, a1, a2, a3, a4⟩, rfl, w0, w1, w2, w3⟩

/-- A box by value. -/
theorem box_value {T : TypeId} {fs : Array Field} {r : Reach} {b0 : Nat} {v : Value} {d : DataW H} {p : List MemPlace} (hs : Try.prog.underlying T = some (.struct fs)) (hone : oneCellFields Try.prog fs = true) (hC : Try.prog.cellsOf T = 5)
    (hty : fs.map (·.type) = #[3, 3, 3, 3, 4]) (hv : Value.okWide Try.prog w r b0 T v) (h : DataW.Trod enc Try.prog w base spare held T v d p) :
    ∃ b : Bx, v = .agg #[.int .i64 b.i, .int .i64 b.g, .int .i64 b.c, .int .i64 b.p, .bool b.d] ∧ b.fits := by
  obtain ⟨cs, rfl, hsz⟩ := okWide_struct hs hv
  obtain ⟨fuel, hf⟩ := h
  obtain ⟨b, hb, hw⟩ := box_cells hs hone hC hty hf
  refine ⟨b, ?_, hw⟩
  congr 1
  apply Array.toList_inj.1
  simpa [Value.cells, Bx.cells] using hb

/-- What is known of a slice of boxes that came in. -/
def IsBoxes (w : World) (a : Option Addr) (len cap : Nat) (l : List Bx) : Prop :=
  (a = none ∧ len = 0 ∧ cap = 0 ∧ l = []) ∨
  ∃ x, a = some x ∧ len ≤ cap ∧ cap ≤ maxLen ∧ l.length = len ∧ (∀ b ∈ l, b.fits) ∧
    ∀ k (hk : k < l.length), ∀ j, j < 5 → w.cell? (x.add (k * 5 + j)) = l[k].cells[j]?

theorem boxes_slice {T E : TypeId} {fs : Array Field} {fuel : Nat} {a : Option Addr} {len cap : Nat} {x : DataW H × List MemPlace} (ht : Try.prog.underlying T = some (.slice E)) (hs : Try.prog.underlying E = some (.struct fs))
    (hone : oneCellFields Try.prog fs = true) (hC : Try.prog.cellsOf E = 5) (hty : fs.map (·.type) = #[3, 3, 3, 3, 4])
    (h : DataW.trod enc Try.prog w base spare held fuel T [.slice a len cap] = some x) : ∃ l, IsBoxes w a len cap l := by
  rcases open_slice ht h with ⟨hcs, _⟩ | ⟨x, len', cap', m, n, D, Pl, hcs, hb, hl, hm, hmm, _, hi⟩
  · simp at hcs
    obtain ⟨rfl, rfl, rfl⟩ := hcs
    exact ⟨[], .inl ⟨rfl, rfl, rfl, rfl⟩⟩
  · simp at hcs
    obtain ⟨rfl, rfl, rfl⟩ := hcs
    have hlm : len ≤ m := by rw [hmm]; split <;> omega
    have key : ∀ k, k < len → ∃ b : Bx, b.fits ∧ ∀ j, j < 5 → w.cell? (x.add (k * 5 + j)) = b.cells[j]? := by
      intro k hk
      obtain ⟨cs', hc, ht'⟩ := hi k (by omega)
      obtain ⟨b, rfl, hw⟩ := box_cells hs hone hC hty ht'
      rw [hC] at hc
      obtain ⟨_, _, hat⟩ := World.cells?_some hc
      refine ⟨b, hw, fun j hj => ?_⟩
      have := hat j hj
      rwa [Go.Deep.add_add] at this
    have : ∀ n, n ≤ len → ∃ l : List Bx, l.length = n ∧ (∀ b ∈ l, b.fits) ∧ ∀ k (hk : k < l.length), ∀ j, j < 5 → w.cell? (x.add (k * 5 + j)) = l[k].cells[j]? := by
      intro n
      induction n with
      | zero => intro _; exact ⟨[], rfl, by simp, fun k hk => absurd hk (by simp)⟩
      | succ n ih =>
        intro hn
        obtain ⟨l, h1, h2, h3⟩ := ih (by omega)
        obtain ⟨b, hb1, hb2⟩ := key n (by omega)
        refine ⟨l ++ [b], by simp [h1], fun y hy => ?_, fun k hk j hj => ?_⟩
        · rcases List.mem_append.1 hy with hy | hy
          · exact h2 y hy
          · rw [List.mem_singleton.1 hy]; exact hb1
        · by_cases hkl : k < l.length
          · rw [List.getElem_append_left hkl]; exact h3 k hkl j hj
          · have hkn : k = l.length := by simp at hk; omega
            subst hkn
            have e : (l ++ [b])[l.length] = b := by simp
            rw [e, h1]
            exact hb2 j hj
    obtain ⟨l, h1, h2, h3⟩ := this len (Nat.le_refl _)
    exact ⟨l, .inr ⟨x, rfl, hl, hm, h1, h2, h3⟩⟩
end
end Go.Proofs.Ytnnjphhkheocgaa
