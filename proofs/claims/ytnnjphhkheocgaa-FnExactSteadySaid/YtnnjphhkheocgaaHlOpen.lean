/-
  How a ship that came in reads: its three numbers.
-/
import Derived.Test.YtnnjphhkheocgaaRows
import Derived.Test.YtnnjphhkheocgaaSlMath
import Derived.WalkKit
import Derived.ProofKit
import Derived.OpenShut
import Derived.Deep.Slices
import Derived.Deep.Fields
import Derived.ChangeSame
namespace Go.Proofs.Ytnnjphhkheocgaa
open Go.ChangeShapes Go.WideShapes Go.Deep Go.RowKit
set_option linter.unusedVariables false

/-- The numbers of a ship that came in. -/
def HlFits (h : Hl) : Prop := (Lit.int .i64 h.b).wf = true ∧ (Lit.int .i64 h.r).wf = true ∧ (Lit.int .i64 h.t).wf = true
section
variable {H : Type} {enc : TypeId × Value → H} {w : World} {base : Nat} {spare : Nat → Bool} {held : Bool}

set_option maxRecDepth 20000 in
theorem hull_cells {T : TypeId} {fs : Array Field} {fuel : Nat} {cs : List Value} {x : DataW H × List MemPlace} (hs : Try.prog.underlying T = some (.struct fs)) (hone : oneCellFields Try.prog fs = true) (hC : Try.prog.cellsOf T = 3)
    (hty : fs.map (·.type) = #[3, 3, 3]) (h : DataW.trod enc Try.prog w base spare held fuel T cs = some x) : ∃ hl : Hl, cs = [.int .i64 hl.b, .int .i64 hl.r, .int .i64 hl.t] ∧ HlFits hl := by
  obtain ⟨xs, n, _, hx, hlen, hxl, hg⟩ := DataW.trod_struct hs h
  obtain ⟨l⟩ := fs
  have hl : l.length = 3 := by have := congrArg Array.size hty; simpa using this
  match l, hl with
  | [f0, f1, f2], _ =>
    simp at hty
    obtain ⟨t0, t1, t2⟩ := hty
    match cs, hlen.trans hC with
    | [c0, c1, c2], _ =>
      match xs, hxl with
      | [y0, y1, y2], _ =>
        obtain ⟨o0, k0⟩ := hone_of hone 0 f0 rfl
        obtain ⟨o1, k1⟩ := hone_of hone 1 f1 rfl
        obtain ⟨o2, k2⟩ := hone_of hone 2 f2 rfl
        have g0 := hg 0 f0 rfl
        have g1 := hg 1 f1 rfl
        have g2 := hg 2 f2 rfl
        rw [o0, k0, t0] at g0
        rw [o1, k1, t1] at g1
        rw [o2, k2, t2] at g2
        obtain ⟨a0, e0, _, w0⟩ := DataW.trod_int Try.underlying3 (show DataW.trod enc Try.prog w base spare held n 3 [c0] = some y0 from g0)
        obtain ⟨a1, e1, _, w1⟩ := DataW.trod_int Try.underlying3 (show DataW.trod enc Try.prog w base spare held n 3 [c1] = some y1 from g1)
        obtain ⟨a2, e2, _, w2⟩ := DataW.trod_int Try.underlying3 (show DataW.trod enc Try.prog w base spare held n 3 [c2] = some y2 from g2)
        simp only [List.cons.injEq, and_true] at e0 e1 e2
        subst e0 e1 e2
        exact ⟨⟨a0, a1, a2⟩, rfl, w0, w1, w2⟩

set_option maxRecDepth 20000 in
/-- A ship by value. -/
theorem hull_value {T : TypeId} {fs : Array Field} {r : Reach} {b0 : Nat} {v : Value} {d : DataW H} {p : List MemPlace} (hs : Try.prog.underlying T = some (.struct fs)) (hone : oneCellFields Try.prog fs = true) (hC : Try.prog.cellsOf T = 3)
    (hty : fs.map (·.type) = #[3, 3, 3]) (hv : Value.okWide Try.prog w r b0 T v) (h : DataW.Trod enc Try.prog w base spare held T v d p) :
    ∃ hl : Hl, v = .agg #[.int .i64 hl.b, .int .i64 hl.r, .int .i64 hl.t] ∧ HlFits hl := by
  obtain ⟨cs, rfl, hsz⟩ := okWide_struct hs hv
  obtain ⟨fuel, hf⟩ := h
  obtain ⟨hl, hb, hw⟩ := hull_cells hs hone hC hty hf
  refine ⟨hl, ?_, hw⟩
  congr 1
  apply Array.toList_inj.1
  simpa [Value.cells] using hb
end
end Go.Proofs.Ytnnjphhkheocgaa
