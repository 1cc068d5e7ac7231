/-
  The program's isIndex.
  Plain mathematics of slots of a ship. Nothing of the program.
  Ships and slots: the model's HullValid, SlotMany, SlotOf, PlaceOf, SlotBelow.
  How a ship that came in reads: its three numbers.
  Ships and slots: the program's HullValid, SlotMany, SlotOf, PlaceOf, SlotBelow.
  The exact laws' own ship, and their copy of it.
-/
import Derived.Test.YthlcjojhmhoadaaRows
import Derived.WalkKit
import Derived.IntWalk
import Derived.Lib.Hide
import Derived.WalkSpells
import Derived.Below
import Derived.Test.YthlcjojhmhoadaaGYd
import Derived.Deep.RegionHeld3
import Derived.Test.YthlcjojhmhoadaaGBase
import Derived.ProofKit
import Derived.OpenShut
import Derived.Deep.Slices
import Derived.Deep.Fields
import Derived.ChangeSame
namespace Go.Proofs.Ythlcjojhmhoadaa
open Go.RowKit
set_option linter.unusedVariables false

theorem isIdx_yes (n m : Int) (w : World) (h1 : 0 ≤ n) (h2 : n < m) :
    Calls Try.prog 42 #[.int .i64 n, .int .i64 m] w fun e w' => e = .returned (.bool true) ∧ w = w' := by
  go_enter Try.func42, Try.ntmps42
  go_wp2
  go_ret
  exact ⟨rfl, rfl⟩
theorem isIdx_no (n m : Int) (w : World) (h : n < 0 ∨ m ≤ n) :
    Calls Try.prog 42 #[.int .i64 n, .int .i64 m] w fun e w' => e = .returned (.bool false) ∧ w = w' := by
  by_cases h1 : 0 ≤ n
  · have h2 : decide (n < m) = false := decide_eq_false (by omega)
    clear h
    go_enter Try.func42, Try.ntmps42
    go_wp2
    go_ret
    exact ⟨rfl, rfl⟩
  · have h2 : decide (0 ≤ n) = false := decide_eq_false h1
    clear h h1
    go_enter Try.func42, Try.ntmps42
    go_wp2
    go_ret
    exact ⟨rfl, rfl⟩
theorem isIdx_any (n m : Int) (w : World) :
    Calls Try.prog 42 #[.int .i64 n, .int .i64 m] w fun e w' => e = .returned (.bool (decide (0 ≤ n ∧ n < m))) ∧ w = w' := by
  by_cases h : 0 ≤ n ∧ n < m
  · rw [decide_eq_true h]
    exact isIdx_yes n m w h.1 h.2
  · rw [decide_eq_false h]
    exact isIdx_no n m w (by omega)
end Go.Proofs.Ythlcjojhmhoadaa
namespace Go.Proofs.Ythlcjojhmhoadaa
set_option linter.unusedVariables false

/-- A ship: bays, rows, tiers. -/
structure Hl where
  b : Int
  r : Int
  t : Int
  deriving DecidableEq
/-- Whether a ship is valid. -/
def hlOk (h : Hl) : Bool := decide (1 ≤ h.b ∧ h.b ≤ 4 ∧ 1 ≤ h.r ∧ h.r ≤ 3 ∧ 1 ≤ h.t ∧ h.t ≤ 3)
theorem hlOk_iff {h : Hl} : hlOk h = true ↔ 1 ≤ h.b ∧ h.b ≤ 4 ∧ 1 ≤ h.r ∧ h.r ≤ 3 ∧ 1 ≤ h.t ∧ h.t ≤ 3 := decide_eq_true_iff
/-- What SlotMany gives. -/
def slMany (h : Hl) : Int := if hlOk h = true then h.b * h.r * h.t else -1
/-- What SlotOf gives. -/
def slOf (h : Hl) (x y z : Int) : Int := if hlOk h = true ∧ (0 ≤ x ∧ x ≤ h.b - 1) ∧ (0 ≤ y ∧ y ≤ h.r - 1) ∧ (0 ≤ z ∧ z ≤ h.t - 1) then (x * h.r + y) * h.t + z else -1
/-- What PlaceOf gives. -/
def plOf (h : Hl) (s : Int) : Int × Int × Int := if hlOk h = true ∧ 0 ≤ s ∧ s ≤ slMany h - 1 then (s / h.t / h.r, s / h.t % h.r, s % h.t) else (-1, -1, -1)
/-- What SlotBelow gives. -/
def slBelow (h : Hl) (s : Int) : Int := slOf h (plOf h s).1 (plOf h s).2.1 ((plOf h s).2.2 - 1)
theorem slMany_bd {h : Hl} (hk : hlOk h = true) : 1 ≤ slMany h ∧ slMany h ≤ 36 ∧ slMany h = h.b * h.r * h.t := by
  obtain ⟨h1, h2, h3, h4, h5, h6⟩ := hlOk_iff.1 hk
  obtain ⟨b, r, t⟩ := h
  simp only [] at *
  unfold slMany
  rw [if_pos hk]
  simp only []
  rcases (by omega : r = 1 ∨ r = 2 ∨ r = 3) with rfl | rfl | rfl <;> rcases (by omega : t = 1 ∨ t = 2 ∨ t = 3) with rfl | rfl | rfl <;> refine ⟨?_, ?_, trivial⟩ <;> omega
theorem slMany_bad {h : Hl} (hk : hlOk h = false) : slMany h = -1 := by unfold slMany; rw [hk]; rfl
theorem slOf_yes {h : Hl} {x y z : Int} (hk : hlOk h = true) (hx : 0 ≤ x ∧ x ≤ h.b - 1) (hy : 0 ≤ y ∧ y ≤ h.r - 1) (hz : 0 ≤ z ∧ z ≤ h.t - 1) : slOf h x y z = (x * h.r + y) * h.t + z := by unfold slOf; rw [if_pos ⟨hk, hx, hy, hz⟩]
theorem slOf_no {h : Hl} {x y z : Int} (hc : ¬ (hlOk h = true ∧ (0 ≤ x ∧ x ≤ h.b - 1) ∧ (0 ≤ y ∧ y ≤ h.r - 1) ∧ (0 ≤ z ∧ z ≤ h.t - 1))) : slOf h x y z = -1 := by unfold slOf; rw [if_neg hc]
theorem plOf_yes {h : Hl} {s : Int} (hk : hlOk h = true) (h0 : 0 ≤ s) (h1 : s ≤ slMany h - 1) : plOf h s = (s / h.t / h.r, s / h.t % h.r, s % h.t) := by unfold plOf; rw [if_pos ⟨hk, h0, h1⟩]
theorem plOf_no {h : Hl} {s : Int} (hc : ¬ (hlOk h = true ∧ 0 ≤ s ∧ s ≤ slMany h - 1)) : plOf h s = (-1, -1, -1) := by unfold plOf; rw [if_neg hc]
/-- A slot's place lies in the ship. -/
theorem plOf_in {h : Hl} {s : Int} (hk : hlOk h = true) (h0 : 0 ≤ s) (h1 : s ≤ slMany h - 1) :
    (0 ≤ s / h.t / h.r ∧ s / h.t / h.r ≤ h.b - 1) ∧ (0 ≤ s / h.t % h.r ∧ s / h.t % h.r ≤ h.r - 1) ∧ (0 ≤ s % h.t ∧ s % h.t ≤ h.t - 1) ∧ ((s / h.t / h.r) * h.r + s / h.t % h.r) * h.t + s % h.t = s := by
  rw [(slMany_bd hk).2.2] at h1
  obtain ⟨g1, g2, g3, g4, g5, g6⟩ := hlOk_iff.1 hk
  obtain ⟨b, r, t⟩ := h
  simp only [] at *
  clear hk
  rcases (by omega : r = 1 ∨ r = 2 ∨ r = 3) with rfl | rfl | rfl <;> rcases (by omega : t = 1 ∨ t = 2 ∨ t = 3) with rfl | rfl | rfl <;> refine ⟨⟨?_, ?_⟩, ⟨?_, ?_⟩, ⟨?_, ?_⟩, ?_⟩ <;> omega
/-- Slots tell places. -/
theorem pl_sl {h : Hl} {x y z : Int} (hx : 0 ≤ slOf h x y z) : plOf h (slOf h x y z) = (x, y, z) ∧ slOf h x y z < slMany h := by
  by_cases hc : hlOk h = true ∧ (0 ≤ x ∧ x ≤ h.b - 1) ∧ (0 ≤ y ∧ y ≤ h.r - 1) ∧ (0 ≤ z ∧ z ≤ h.t - 1)
  · obtain ⟨hk, hx1, hy1, hz1⟩ := hc
    rw [slOf_yes hk hx1 hy1 hz1] at hx ⊢
    have hlt : (x * h.r + y) * h.t + z < slMany h ∧ ((x * h.r + y) * h.t + z) / h.t / h.r = x ∧ ((x * h.r + y) * h.t + z) / h.t % h.r = y ∧ ((x * h.r + y) * h.t + z) % h.t = z := by
      rw [(slMany_bd hk).2.2]
      obtain ⟨g1, g2, g3, g4, g5, g6⟩ := hlOk_iff.1 hk
      obtain ⟨b, r, t⟩ := h
      simp only [] at *
      clear hk
      rcases (by omega : r = 1 ∨ r = 2 ∨ r = 3) with rfl | rfl | rfl <;> rcases (by omega : t = 1 ∨ t = 2 ∨ t = 3) with rfl | rfl | rfl <;> refine ⟨?_, ?_, ?_, ?_⟩ <;> omega
    refine ⟨?_, hlt.1⟩
    rw [plOf_yes hk hx (by omega), hlt.2.1, hlt.2.2.1, hlt.2.2.2]
  · rw [slOf_no hc] at hx; omega
/-- Places tell slots. -/
theorem sl_pl {h : Hl} {s : Int} (hk : hlOk h = true) (h0 : 0 ≤ s) (h1 : s ≤ slMany h - 1) : slOf h (plOf h s).1 (plOf h s).2.1 (plOf h s).2.2 = s := by
  obtain ⟨p1, p2, p3, p4⟩ := plOf_in hk h0 h1
  rw [plOf_yes hk h0 h1]
  simp only []
  rw [slOf_yes hk p1 p2 p3, p4]
theorem plOf_cases (h : Hl) (s : Int) : (¬ (hlOk h = true ∧ 0 ≤ s ∧ s ≤ slMany h - 1) ∧ plOf h s = (-1, -1, -1)) ∨
    (hlOk h = true ∧ 0 ≤ s ∧ s ≤ slMany h - 1 ∧ 0 ≤ (plOf h s).1 ∧ 0 ≤ (plOf h s).2.1 ∧ 0 ≤ (plOf h s).2.2 ∧ slOf h (plOf h s).1 (plOf h s).2.1 (plOf h s).2.2 = s) := by
  by_cases hc : hlOk h = true ∧ 0 ≤ s ∧ s ≤ slMany h - 1
  · obtain ⟨hk, h0, h1⟩ := hc
    obtain ⟨p1, p2, p3, p4⟩ := plOf_in hk h0 h1
    have := sl_pl hk h0 h1
    refine .inr ⟨hk, h0, h1, ?_, ?_, ?_, this⟩ <;> rw [plOf_yes hk h0 h1]
    · exact p1.1
    · exact p2.1
    · exact p3.1
  · exact .inl ⟨hc, plOf_no hc⟩
/-- Below a slot is one of the same row. -/
theorem slBelow_law (h : Hl) (s : Int) : (slBelow h s = -1 ∧ (plOf h s).2.2 ≤ 0) ∨ (0 ≤ slBelow h s ∧ plOf h (slBelow h s) = ((plOf h s).1, (plOf h s).2.1, (plOf h s).2.2 - 1)) := by
  unfold slBelow
  by_cases hx : 0 ≤ slOf h (plOf h s).1 (plOf h s).2.1 ((plOf h s).2.2 - 1)
  · exact .inr ⟨hx, (pl_sl hx).1⟩
  · left
    have hno : ¬ (hlOk h = true ∧ (0 ≤ (plOf h s).1 ∧ (plOf h s).1 ≤ h.b - 1) ∧ (0 ≤ (plOf h s).2.1 ∧ (plOf h s).2.1 ≤ h.r - 1) ∧ (0 ≤ (plOf h s).2.2 - 1 ∧ (plOf h s).2.2 - 1 ≤ h.t - 1)) := by
      rintro ⟨hk, h1, h2, h3⟩
      rw [slOf_yes hk h1 h2 h3] at hx
      obtain ⟨g1, g2, g3, g4, g5, g6⟩ := hlOk_iff.1 hk
      have m1 : 0 ≤ (plOf h s).1 * h.r := Int.mul_nonneg h1.1 (by omega)
      have m2 : 0 ≤ ((plOf h s).1 * h.r + (plOf h s).2.1) * h.t := Int.mul_nonneg (by omega) (by omega)
      omega
    refine ⟨slOf_no hno, ?_⟩
    rcases plOf_cases h s with ⟨_, e⟩ | ⟨hk, h0, h1, _⟩
    · rw [e]; simp
    · obtain ⟨p1, p2, p3, p4⟩ := plOf_in hk h0 h1
      rw [plOf_yes hk h0 h1] at hno ⊢
      simp only [] at hno ⊢
      rcases Int.lt_or_le 0 (s % h.t) with hlt | hle
      · exact absurd ⟨hk, p1, p2, by omega, by omega⟩ hno
      · exact hle
end Go.Proofs.Ythlcjojhmhoadaa
namespace Go.Proofs.Ythlcjojhmhoadaa
open Go.RowKit
set_option linter.unusedVariables false

theorem mul_bd {h : Hl} (hk : hlOk h = true) : 1 ≤ h.b * h.r ∧ h.b * h.r ≤ 12 ∧ 1 ≤ h.b * h.r * h.t ∧ h.b * h.r * h.t ≤ 36 := by
  obtain ⟨h1, h2, h3, h4, h5, h6⟩ := hlOk_iff.1 hk
  obtain ⟨b, r, t⟩ := h
  simp only [] at *
  clear hk
  rcases (by omega : r = 1 ∨ r = 2 ∨ r = 3) with rfl | rfl | rfl <;> rcases (by omega : t = 1 ∨ t = 2 ∨ t = 3) with rfl | rfl | rfl <;> refine ⟨?_, ?_, ?_, ?_⟩ <;> omega
theorem slot_bd {h : Hl} {x y z : Int} (hk : hlOk h = true) (hx : 0 ≤ x ∧ x ≤ h.b - 1) (hy : 0 ≤ y ∧ y ≤ h.r - 1) (hz : 0 ≤ z ∧ z ≤ h.t - 1) : 0 ≤ x * h.r ∧ x * h.r ≤ 9 ∧ 0 ≤ x * h.r + y ∧ x * h.r + y ≤ 11 ∧ 0 ≤ (x * h.r + y) * h.t ∧ (x * h.r + y) * h.t ≤ 33 := by
  obtain ⟨h1, h2, h3, h4, h5, h6⟩ := hlOk_iff.1 hk
  obtain ⟨b, r, t⟩ := h
  simp only [] at *
  clear hk
  rcases (by omega : r = 1 ∨ r = 2 ∨ r = 3) with rfl | rfl | rfl <;> rcases (by omega : t = 1 ∨ t = 2 ∨ t = 3) with rfl | rfl | rfl <;> refine ⟨?_, ?_, ?_, ?_, ?_, ?_⟩ <;> omega
end Go.Proofs.Ythlcjojhmhoadaa
namespace Go.Proofs.Ythlcjojhmhoadaa
open Go.ChangeShapes Go.WideShapes Go.Deep Go.RowKit
set_option linter.unusedVariables false

/-- The numbers of a ship that came in. -/
def HlFits (h : Hl) : Prop := (Lit.int .i64 h.b).wf = true ∧ (Lit.int .i64 h.r).wf = true ∧ (Lit.int .i64 h.t).wf = true
section
variable {H : Type} {enc : TypeId × Value → H} {w : World} {base : Nat} {spare : Nat → Bool} {held : Bool}

set_option maxRecDepth 20000 in
theorem hull_cells {T : TypeId} {fs : Array Field} {fuel : Nat} {cs : List Value} {x : DataW H × List MemPlace} (hs : Try.prog.underlying T = some (.struct fs)) (hone : oneCellFields Try.prog fs = true) (hC : Try.prog.cellsOf T = 3)
    (hty : fs.map (·.type) = #[3, 3, 3]) (h : DataW.trod enc Try.prog w base spare held fuel T cs = some x) : ∃ hl : Hl, cs = [.int .i64 hl.b, .int .i64 hl.r, .int .i64 hl.t] ∧ HlFits hl := by
  obtain ⟨xs, n, _, hx, hlen, hxl, hg⟩ := DataW.trod_struct hs h
  obtain ⟨l⟩ := fs
  have hl : l.length = 3 := by have := congrArg Array.size hty; simpa using this
  match l, hl with
  | [f0, f1, f2], _ =>
    simp at hty
    obtain ⟨t0, t1, t2⟩ := hty
    match cs, hlen.trans hC with
    | [c0, c1, c2], _ =>
      match xs, hxl with
      | [y0, y1, y2], _ =>
        obtain ⟨o0, k0⟩ := hone_of hone 0 f0 rfl
        obtain ⟨o1, k1⟩ := hone_of hone 1 f1 rfl
        obtain ⟨o2, k2⟩ := hone_of hone 2 f2 rfl
        have g0 := hg 0 f0 rfl
        have g1 := hg 1 f1 rfl
        have g2 := hg 2 f2 rfl
        rw [o0, k0, t0] at g0
        rw [o1, k1, t1] at g1
        rw [o2, k2, t2] at g2
        obtain ⟨a0, e0, _, w0⟩ := DataW.trod_int Try.underlying3 (show DataW.trod enc Try.prog w base spare held n 3 [c0] = some y0 from g0)
        obtain ⟨a1, e1, _, w1⟩ := DataW.trod_int Try.underlying3 (show DataW.trod enc Try.prog w base spare held n 3 [c1] = some y1 from g1)
        obtain ⟨a2, e2, _, w2⟩ := DataW.trod_int Try.underlying3 (show DataW.trod enc Try.prog w base spare held n 3 [c2] = some y2 from g2)
        simp only [List.cons.injEq, and_true] at e0 e1 e2
        subst e0 e1 e2
        exact ⟨⟨a0, a1, a2⟩, rfl, w0, w1, w2⟩

set_option maxRecDepth 20000 in
/-- A ship by value. -/
theorem hull_value {T : TypeId} {fs : Array Field} {r : Reach} {b0 : Nat} {v : Value} {d : DataW H} {p : List MemPlace} (hs : Try.prog.underlying T = some (.struct fs)) (hone : oneCellFields Try.prog fs = true) (hC : Try.prog.cellsOf T = 3)
    (hty : fs.map (·.type) = #[3, 3, 3]) (hv : Value.okWide Try.prog w r b0 T v) (h : DataW.Trod enc Try.prog w base spare held T v d p) :
    ∃ hl : Hl, v = .agg #[.int .i64 hl.b, .int .i64 hl.r, .int .i64 hl.t] ∧ HlFits hl := by
  obtain ⟨cs, rfl, hsz⟩ := okWide_struct hs hv
  obtain ⟨fuel, hf⟩ := h
  obtain ⟨hl, hb, hw⟩ := hull_cells hs hone hC hty hf
  refine ⟨hl, ?_, hw⟩
  congr 1
  apply Array.toList_inj.1
  simpa [Value.cells] using hb
end
end Go.Proofs.Ythlcjojhmhoadaa
namespace Go.Proofs.Ythlcjojhmhoadaa
open Go.RowKit
set_option linter.unusedVariables false

theorem slBelow_tier (h : Hl) (s : Int) : slBelow h s = if (plOf h s).2.2 ≤ 0 then -1 else s - 1 := by
  rcases plOf_cases h s with ⟨hc, e⟩ | ⟨hk, h0, h1, _, _, _, _⟩
  · unfold slBelow
    rw [e]
    simp only []
    rw [slOf_no (fun hc => by have := hc.2.1.1; omega)]
    rfl
  · obtain ⟨p1, p2, p3, p4⟩ := plOf_in hk h0 h1
    unfold slBelow
    rw [plOf_yes hk h0 h1]
    simp only []
    by_cases hz : s % h.t ≤ 0
    · rw [if_pos hz, slOf_no (fun hc => by have := hc.2.2.2.1; omega)]
    · rw [if_neg hz, slOf_yes hk p1 p2 (by omega)]
      omega

end Go.Proofs.Ythlcjojhmhoadaa
namespace Go.Proofs.Ythlcjojhmhoadaa
open Go.RowKit
set_option linter.unusedVariables false

end Go.Proofs.Ythlcjojhmhoadaa
