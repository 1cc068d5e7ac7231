/-
  Contracts of boxes by value: what the exact laws' own copy gives, and the model's BoxValid.
-/
import Derived.Test.YtnnjphhkheocgaaRows
import Derived.WalkKit
import Derived.BigQuiet
import Derived.Deep.QuietTactic
import Derived.Lib.Hide
import Derived.WalkSpells
import Derived.Below
import Derived.Test.YtnnjphhkheocgaaGBase
namespace Go.Proofs.Ytnnjphhkheocgaa
open Go.RowKit
set_option linter.unusedVariables false

/-- A box as a value. -/
abbrev bxV (i g c p : Int) (d : Bool) : Value := .agg #[.int .i64 i, .int .i64 g, .int .i64 c, .int .i64 p, .bool d]

theorem toBox_any (i g c p : Int) (d : Bool) (w : World) :
    Calls Try.prog 59 #[.agg #[.int .i64 i, .int .i64 g, .int .i64 c, .int .i64 p, .bool d]] w fun e w' => e = .returned (.agg #[.int .i64 i, .int .i64 g, .int .i64 c, .int .i64 p, .bool d]) ∧ Below w.heap.size w w' := by
  go_enter Try.func59, Try.ntmps59
  go_wp2
  exact bodyPost_ret (v := bxV i g c p d) (by simp [results, Try.results59, go_sem]) rfl
    ⟨rfl, (((Below.refl _ _).alloc (Nat.le_refl _) _).alloc (by simp) _).alloc (by simp; omega) _⟩

def bxOk (i g c p : Int) : Bool := decide (1 ≤ i ∧ i ≤ 999 ∧ 1 ≤ g ∧ g ≤ 30 ∧ 0 ≤ c ∧ c ≤ 3 ∧ 0 ≤ p ∧ p ≤ 6)
theorem bxOk_yes {i g c p : Int} (h : bxOk i g c p = true) : 1 ≤ i ∧ i ≤ 999 ∧ 1 ≤ g ∧ g ≤ 30 ∧ 0 ≤ c ∧ c ≤ 3 ∧ 0 ≤ p ∧ p ≤ 6 := of_decide_eq_true h
theorem bxOk_no {i g c p : Int} (h : ¬ (1 ≤ i ∧ i ≤ 999 ∧ 1 ≤ g ∧ g ≤ 30 ∧ 0 ≤ c ∧ c ≤ 3 ∧ 0 ≤ p ∧ p ≤ 6)) : bxOk i g c p = false := decide_eq_false h

theorem specBoxValid_any (i g c p : Int) (d : Bool) (w : World) :
    Calls Try.prog 76 #[.agg #[.int .i64 i, .int .i64 g, .int .i64 c, .int .i64 p, .bool d]] w fun e w' => e = .returned (.bool (bxOk i g c p)) ∧ Below w.heap.size w w' := by
  have hb : ∀ o, Below w.heap.size w (w.alloc o) := fun o => (Below.refl _ _).alloc (Nat.le_refl _) o
  have HB := Lib.hid hb
  clear hb
  by_cases h1 : 1 ≤ i ∧ i ≤ 999
  · by_cases h2 : 1 ≤ g ∧ g ≤ 30
    · by_cases h3 : 0 ≤ c ∧ c ≤ 3
      · by_cases h4 : 0 ≤ p ∧ p ≤ 6
        · rw [show bxOk i g c p = true from decide_eq_true (by omega)]
          go_enter Try.func76, Try.ntmps76
          go_wp2_with fail
          refine (l1In_yes i 1 999 _ h1.1 h1.2).mono ?_
          rintro e w' ⟨rfl, rfl⟩
          go_wp2_with fail
          refine (l1In_yes g 1 30 _ h2.1 h2.2).mono ?_
          rintro e w' ⟨rfl, rfl⟩
          go_wp2_with fail
          refine (l1In_yes c 0 3 _ h3.1 h3.2).mono ?_
          rintro e w' ⟨rfl, rfl⟩
          go_wp2_with fail
          refine (l1In_yes p 0 6 _ h4.1 h4.2).mono ?_
          rintro e w' ⟨rfl, rfl⟩
          go_wp2_with fail
          go_ret
          exact ⟨rfl, HB.out _⟩
        · rw [show bxOk i g c p = false from decide_eq_false (by omega)]
          go_enter Try.func76, Try.ntmps76
          go_wp2_with fail
          refine (l1In_yes i 1 999 _ h1.1 h1.2).mono ?_
          rintro e w' ⟨rfl, rfl⟩
          go_wp2_with fail
          refine (l1In_yes g 1 30 _ h2.1 h2.2).mono ?_
          rintro e w' ⟨rfl, rfl⟩
          go_wp2_with fail
          refine (l1In_yes c 0 3 _ h3.1 h3.2).mono ?_
          rintro e w' ⟨rfl, rfl⟩
          go_wp2_with fail
          refine (l1In_no p 0 6 _ (by omega)).mono ?_
          rintro e w' ⟨rfl, rfl⟩
          go_wp2_with fail
          go_ret
          exact ⟨rfl, HB.out _⟩
      · rw [show bxOk i g c p = false from decide_eq_false (by omega)]
        go_enter Try.func76, Try.ntmps76
        go_wp2_with fail
        refine (l1In_yes i 1 999 _ h1.1 h1.2).mono ?_
        rintro e w' ⟨rfl, rfl⟩
        go_wp2_with fail
        refine (l1In_yes g 1 30 _ h2.1 h2.2).mono ?_
        rintro e w' ⟨rfl, rfl⟩
        go_wp2_with fail
        refine (l1In_no c 0 3 _ (by omega)).mono ?_
        rintro e w' ⟨rfl, rfl⟩
        go_wp2_with fail
        go_ret
        exact ⟨rfl, HB.out _⟩
    · rw [show bxOk i g c p = false from decide_eq_false (by omega)]
      go_enter Try.func76, Try.ntmps76
      go_wp2_with fail
      refine (l1In_yes i 1 999 _ h1.1 h1.2).mono ?_
      rintro e w' ⟨rfl, rfl⟩
      go_wp2_with fail
      refine (l1In_no g 1 30 _ (by omega)).mono ?_
      rintro e w' ⟨rfl, rfl⟩
      go_wp2_with fail
      go_ret
      exact ⟨rfl, HB.out _⟩
  · rw [show bxOk i g c p = false from decide_eq_false (by omega)]
    go_enter Try.func76, Try.ntmps76
    go_wp2_with fail
    refine (l1In_no i 1 999 _ (by omega)).mono ?_
    rintro e w' ⟨rfl, rfl⟩
    go_wp2_with fail
    go_ret
    exact ⟨rfl, HB.out _⟩

/-- A box that a call has boxed at its head (block B, the heap's size then) is still there, and nothing that was there has turned. -/
def BoxAt (B : Nat) (i g c p : Int) (d : Bool) (w w' : World) : Prop :=
  (∃ T fr, w'.heap[B]? = some (.cells #[.int .i64 i, .int .i64 g, .int .i64 c, .int .i64 p, .bool d] T fr)) ∧ B < w'.heap.size ∧ Below w.heap.size w w'
theorem BoxAt.new {w w' : World} {i g c p : Int} {d : Bool} {T : TypeId} (hb : Below (w.alloc (.cells #[.int .i64 i, .int .i64 g, .int .i64 c, .int .i64 p, .bool d] T)).heap.size (w.alloc (.cells #[.int .i64 i, .int .i64 g, .int .i64 c, .int .i64 p, .bool d] T)) w') :
    BoxAt w.heap.size i g c p d w w' := by
  have hs : (w.alloc (.cells #[.int .i64 i, .int .i64 g, .int .i64 c, .int .i64 p, .bool d] T)).heap.size = w.heap.size + 1 := by simp
  refine ⟨⟨T, (0, 0), ?_⟩, by have := hb.size; omega, ((Below.refl _ _).alloc (Nat.le_refl _) _).trans (hb.mono (by omega))⟩
  rw [hb.block w.heap.size (by omega)]
  show (w.heap.push _)[w.heap.size]? = _
  simp
theorem BoxAt.keep {B : Nat} {i g c p : Int} {d : Bool} {w w1 w2 : World} (h : BoxAt B i g c p d w w1) (hb : Below w1.heap.size w1 w2) : BoxAt B i g c p d w w2 := by
  obtain ⟨⟨T, fr, h0⟩, h1, h2⟩ := h
  exact ⟨⟨T, fr, by rw [hb.block B h1]; exact h0⟩, Nat.lt_of_lt_of_le h1 hb.size, h2.trans (hb.mono h2.size)⟩
theorem BoxAt.cells {B : Nat} {i g c p : Int} {d : Bool} {w w1 : World} (h : BoxAt B i g c p d w w1) :
    w1.cell? ⟨B, 0, none⟩ = some (.int .i64 i) ∧ w1.cell? ⟨B, 1, none⟩ = some (.int .i64 g) ∧ w1.cell? ⟨B, 2, none⟩ = some (.int .i64 c) ∧ w1.cell? ⟨B, 3, none⟩ = some (.int .i64 p) ∧ w1.cell? ⟨B, 4, none⟩ = some (.bool d) := by
  obtain ⟨⟨T, fr, h0⟩, _, _⟩ := h
  refine ⟨?_, ?_, ?_, ?_, ?_⟩ <;> simp [World.cell?, h0]
end Go.Proofs.Ytnnjphhkheocgaa
