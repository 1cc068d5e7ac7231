/-
  How a yard, a move and a slice of moves that came in read: their cells.
-/
import Derived.Test.YthlcjojhmhoadaaRows
import Derived.Test.YthlcjojhmhoadaaYmM
import Derived.Test.YthlcjojhmhoadaaYiC
import Derived.WalkKit
import Derived.ProofKit
import Derived.OpenShut
import Derived.Deep.Slices
import Derived.Deep.Fields
import Derived.Deep.Matrix
import Derived.ChangeSame
namespace Go.Proofs.Ythlcjojhmhoadaa
open Go.ChangeShapes Go.WideShapes Go.Deep Go.RowKit
set_option linter.unusedVariables false

section
variable {H : Type} {enc : TypeId × Value → H} {w : World} {base : Nat} {spare : Nat → Bool} {held : Bool}

theorem yard_rows {T : TypeId} {fuel : Nat} {cs : List Value} {x : DataW H × List MemPlace} (ht : T = 23) (h : DataW.trod enc Try.prog w base (fun _ => true) held fuel T cs = some x) : ∃ (v : Value) (ss : List (List Int)), cs = [v] ∧ HoldsY w v ss := by
  subst ht
  rcases open_int_rows Try.underlying23 Try.underlying27 Try.underlying3 (by kernel_rfl) (by kernel_rfl) h with ⟨rfl, _⟩ | ⟨a, len, cap, A, L, C, Z, rfl, _, hl, hm, _, hr⟩
  · exact ⟨_, [], rfl, none, 0, rfl, Nat.le_refl _, by unfold maxLen; omega, fun _ => rfl, .inl rfl⟩
  · refine ⟨_, (List.range len).map fun r => (Z r).take (L r), rfl, ?_⟩
    have hlen : ((List.range len).map fun r => (Z r).take (L r)).length = len := by simp
    refine ⟨some a, cap, by rw [hlen], by rw [hlen]; exact hl, hm, (fun e => by cases e), ?_⟩
    rw [hlen]
    by_cases hz : len = 0
    · exact .inl hz
    · right
      obtain ⟨b, off, spot⟩ := a
      have hc0 := (hr 0 (by omega)).1
      have hspot : spot = none := by simpa [Addr.add] using World.cell?_spot hc0
      subst hspot
      refine ⟨b, off, rfl, World.block_lt_of_cell? _ _ hc0, fun k hk => ?_⟩
      obtain ⟨q1, q2, q3, q4, q5, q6, q7⟩ := hr k (by omega)
      refine ⟨.slice (A k) (L k) (C k), by rw [← addr_add]; exact q1, ?_, fun n c e => by
        simp only [Value.slice.injEq] at e
        rw [← e.2.2]
        exact q6 e.1⟩
      have hrow : rowAt ((List.range len).map fun r => (Z r).take (L r)) k = (Z k).take (L k) := by
        rw [rowAt_get (by rw [hlen]; exact hk)]
        simp
      rw [hrow]
      refine (HoldsI.of_came ?_).1
      rcases hA : A k with _ | x
      · have hC0 := q6 hA
        have hL0 : L k = 0 := by omega
        exact .inl ⟨rfl, hL0, hC0, List.eq_nil_of_length_eq_zero (by omega)⟩
      · exact .inr ⟨x, rfl, q2, q3, q4, fun i hi => (q7 x hA).2 i (by omega), q5⟩

set_option maxRecDepth 20000 in
/-- A yard by value. -/
theorem yard_value {T : TypeId} {fs : Array Field} {r : Reach} {b0 : Nat} {v : Value} {d : DataW H} {p : List MemPlace} (hs : Try.prog.underlying T = some (.struct fs)) (hone : oneCellFields Try.prog fs = true) (hC : Try.prog.cellsOf T = 2)
    (hty : fs.map (·.type) = #[3, 23]) (hv : Value.okWide Try.prog w r b0 T v) (h : DataW.Trod enc Try.prog w base (fun _ => true) held T v d p) :
    ∃ (h : Int) (u : Value) (ss : List (List Int)), v = .agg #[.int .i64 h, u] ∧ HoldsY w u ss := by
  obtain ⟨l⟩ := fs
  have hl : l.length = 2 := by have := congrArg Array.size hty; simpa using this
  match l, hl with
  | [f0, f1], _ =>
    simp at hty
    obtain ⟨t0, t1⟩ := hty
    obtain ⟨v0, v1, y0, y1, n, rfl, _, _, g0, g1⟩ := Joins.open_agg2 hs hone hC hv h
    rw [t0] at g0
    obtain ⟨a0, e0, _, _⟩ := DataW.trod_int Try.underlying3 g0
    simp only [List.cons.injEq, and_true] at e0
    subst e0
    obtain ⟨u, ss, e1, hh⟩ := yard_rows t1 g1
    simp only [List.cons.injEq, and_true] at e1
    subst e1
    exact ⟨a0, v1, ss, rfl, hh⟩

set_option maxRecDepth 20000 in
theorem move_cells {T : TypeId} {fs : Array Field} {fuel : Nat} {cs : List Value} {x : DataW H × List MemPlace} (hs : Try.prog.underlying T = some (.struct fs)) (hone : oneCellFields Try.prog fs = true) (hC : Try.prog.cellsOf T = 2)
    (hty : fs.map (·.type) = #[3, 3]) (h : DataW.trod enc Try.prog w base spare held fuel T cs = some x) : ∃ f t : Int, cs = [.int .i64 f, .int .i64 t] := by
  obtain ⟨xs, n, _, hx, hlen, hxl, hg⟩ := DataW.trod_struct hs h
  obtain ⟨l⟩ := fs
  have hl : l.length = 2 := by have := congrArg Array.size hty; simpa using this
  match l, hl with
  | [f0, f1], _ =>
    simp at hty
    obtain ⟨t0, t1⟩ := hty
    match cs, hlen.trans hC with
    | [c0, c1], _ =>
      match xs, hxl with
      | [y0, y1], _ =>
        obtain ⟨o0, k0⟩ := hone_of hone 0 f0 rfl
        obtain ⟨o1, k1⟩ := hone_of hone 1 f1 rfl
        have g0 := hg 0 f0 rfl
        have g1 := hg 1 f1 rfl
        rw [o0, k0, t0] at g0
        rw [o1, k1, t1] at g1
        obtain ⟨a0, e0, _, w0⟩ := DataW.trod_int Try.underlying3 (show DataW.trod enc Try.prog w base spare held n 3 [c0] = some y0 from g0)
        obtain ⟨a1, e1, _, w1⟩ := DataW.trod_int Try.underlying3 (show DataW.trod enc Try.prog w base spare held n 3 [c1] = some y1 from g1)
        simp only [List.cons.injEq, and_true] at e0 e1
        subst e0 e1
        exact ⟨a0, a1, rfl⟩

set_option maxRecDepth 20000 in
/-- A move by value. -/
theorem move_value {T : TypeId} {fs : Array Field} {r : Reach} {b0 : Nat} {v : Value} {d : DataW H} {p : List MemPlace} (hs : Try.prog.underlying T = some (.struct fs)) (hone : oneCellFields Try.prog fs = true) (hC : Try.prog.cellsOf T = 2)
    (hty : fs.map (·.type) = #[3, 3]) (hv : Value.okWide Try.prog w r b0 T v) (h : DataW.Trod enc Try.prog w base spare held T v d p) :
    ∃ f t : Int, v = .agg #[.int .i64 f, .int .i64 t] := by
  obtain ⟨cs, rfl, hsz⟩ := okWide_struct hs hv
  obtain ⟨fuel, hf⟩ := h
  obtain ⟨f, t, hb⟩ := move_cells hs hone hC hty hf
  refine ⟨f, t, ?_⟩
  congr 1
  apply Array.toList_inj.1
  simpa [Value.cells] using hb

set_option maxRecDepth 20000 in
/-- A slice of moves. -/
theorem moves_slice {T E : TypeId} {fs : Array Field} {fuel : Nat} {a : Option Addr} {len cap : Nat} {x : DataW H × List MemPlace} (ht : Try.prog.underlying T = some (.slice E)) (hs : Try.prog.underlying E = some (.struct fs))
    (hone : oneCellFields Try.prog fs = true) (hC : Try.prog.cellsOf E = 2) (hty : fs.map (·.type) = #[3, 3])
    (h : DataW.trod enc Try.prog w base spare held fuel T [.slice a len cap] = some x) : ∃ ms, HoldsM w (.slice a len cap) ms := by
  rcases open_slice ht h with ⟨hcs, _⟩ | ⟨x, len', cap', m, n, D, Pl, hcs, hb, hl, hm, hmm, _, hi⟩
  · simp at hcs
    obtain ⟨rfl, rfl, rfl⟩ := hcs
    exact ⟨[], none, 0, rfl, Nat.le_refl _, by unfold maxLen; omega, .inl rfl⟩
  · simp at hcs
    obtain ⟨rfl, rfl, rfl⟩ := hcs
    have hlm : len ≤ m := by rw [hmm]; split <;> omega
    have key : ∀ k, ∃ p : Int × Int, k < len → w.cell? (x.add (k * 2 + 0)) = some (.int .i64 p.1) ∧ w.cell? (x.add (k * 2 + 1)) = some (.int .i64 p.2) := by
      intro k
      by_cases hk : k < len
      · obtain ⟨cs', hc, ht'⟩ := hi k (by omega)
        obtain ⟨f, t, rfl⟩ := move_cells hs hone hC hty ht'
        rw [hC] at hc
        obtain ⟨_, _, hat⟩ := World.cells?_some hc
        refine ⟨(f, t), fun _ => ⟨?_, ?_⟩⟩
        · have := hat 0 (by omega)
          rwa [Go.Deep.add_add] at this
        · have := hat 1 (by omega)
          rwa [Go.Deep.add_add] at this
      · exact ⟨(0, 0), fun hk' => absurd hk' hk⟩
    obtain ⟨f, key⟩ := Classical.axiomOfChoice key
    have hlen : ((List.range len).map fun k => f k).length = len := by simp
    refine ⟨(List.range len).map fun k => f k, some x, cap, by rw [hlen], by rw [hlen]; exact hl, hm, ?_⟩
    by_cases hz : len = 0
    · exact .inl (hlen.trans hz)
    · right
      obtain ⟨b, off, spot⟩ := x
      have hc0 := (key 0 (by omega)).1
      have hspot : spot = none := by simpa [Addr.add] using World.cell?_spot hc0
      subst hspot
      refine ⟨b, off, rfl, World.block_lt_of_cell? _ _ hc0, fun k hk => ?_⟩
      have hk' : k < len := by rw [hlen] at hk; exact hk
      have e : ((List.range len).map fun k => f k)[k] = f k := by simp
      rw [e]
      have := key k hk'
      rw [addr_add, addr_add] at this
      exact this
end
end Go.Proofs.Ythlcjojhmhoadaa
