/-
  The contract of the program's portValid (since b6d371d).
  The contract of the program's classValid (since d2745ae).
  The contract of the program's BoxValid (since d2745ae it calls classValid).
  Contracts of the program's functions on lists of boxes: indexOfId, BoxesValid, FindBox.
  The contract of the program's WeightOf.
-/
import Derived.Test.YthlcjojhmhoadaaRows
import Derived.WalkKit
import Derived.Lib.Hide
import Derived.Test.YthlcjojhmhoadaaGBx
import Derived.Test.YthlcjojhmhoadaaGStk
import Derived.Test.YthlcjojhmhoadaaGNo
namespace Go.Proofs.Ythlcjojhmhoadaa
open Go.RowKit
set_option linter.unusedVariables false


end Go.Proofs.Ythlcjojhmhoadaa
namespace Go.Proofs.Ythlcjojhmhoadaa
open Go.RowKit
set_option linter.unusedVariables false


end Go.Proofs.Ythlcjojhmhoadaa
namespace Go.Proofs.Ythlcjojhmhoadaa
open Go.RowKit
set_option linter.unusedVariables false

end Go.Proofs.Ythlcjojhmhoadaa
namespace Go.Proofs.Ythlcjojhmhoadaa
open Go.RowKit
set_option linter.unusedVariables false

/-- A list's beginning holds what the list holds. -/
theorem HoldsBx.take {w : World} {a : Option Addr} {cap : Nat} {l : List Bx} (k : Nat) (hk : k ≤ l.length) (h : HoldsBx w (.slice a l.length cap) l) : HoldsBx w (.slice a k cap) (l.take k) := by
  obtain ⟨a', cap', he, h2, h3, h4⟩ := h
  simp only [Value.slice.injEq, true_and] at he
  obtain ⟨rfl, rfl⟩ := he
  have hl : (l.take k).length = k := by rw [List.length_take]; omega
  refine ⟨a, cap, by rw [hl], by omega, h3, ?_⟩
  rcases h4 with h4 | ⟨b, off, h5, h6, h7⟩
  · exact .inl (by omega)
  · refine .inr ⟨b, off, h5, h6, fun j hj i hi => ?_⟩
    rw [h7 j (by omega) i hi, List.getElem_take]

theorem HasBox.new {w w' : World} {i g c p : Int} {d : Bool} {T : TypeId} (hb : Below w.heap.size w w') : HasBox w'.heap.size i g c p d w (w'.alloc (.cells #[.int .i64 i, .int .i64 g, .int .i64 c, .int .i64 p, .bool d] T)) := by
  refine ⟨by rw [World.cell?_alloc_new]; rfl, by rw [World.cell?_alloc_new]; rfl, by rw [World.cell?_alloc_new]; rfl, by rw [World.cell?_alloc_new]; rfl, by rw [World.cell?_alloc_new]; rfl, by simp, hb.alloc hb.size _⟩
/-- What the rounds' regions bear: the cells that they load, and the rest. -/
def Bears5 (B : Nat) (i g c p : Int) (d : Bool) (w w1 : World) : Prop :=
  w1.cell? ⟨B, 0, none⟩ = some (.int .i64 i) ∧ w1.cell? ⟨B, 1, none⟩ = some (.int .i64 g) ∧ w1.cell? ⟨B, 2, none⟩ = some (.int .i64 c) ∧ w1.cell? ⟨B, 3, none⟩ = some (.int .i64 p) ∧ w1.cell? ⟨B, 4, none⟩ = some (.bool d) ∧ HasBox B i g c p d w w1
theorem HasBox.bears5 {B : Nat} {i g c p : Int} {d : Bool} {w w1 : World} (h : HasBox B i g c p d w w1) :
    w1.cell? ⟨B, 0, none⟩ = some (.int .i64 i) ∧ w1.cell? ⟨B, 1, none⟩ = some (.int .i64 g) ∧ w1.cell? ⟨B, 2, none⟩ = some (.int .i64 c) ∧ w1.cell? ⟨B, 3, none⟩ = some (.int .i64 p) ∧ w1.cell? ⟨B, 4, none⟩ = some (.bool d) ∧ HasBox B i g c p d w w1 :=
  ⟨h.1, h.2.1, h.2.2.1, h.2.2.2.1, h.2.2.2.2.1, h⟩
theorem HasBox.bears5_on {B : Nat} {i g c p : Int} {d : Bool} {w w1 w2 : World} (hb : Below w1.heap.size w1 w2)
    (h : w1.cell? ⟨B, 0, none⟩ = some (.int .i64 i) ∧ w1.cell? ⟨B, 1, none⟩ = some (.int .i64 g) ∧ w1.cell? ⟨B, 2, none⟩ = some (.int .i64 c) ∧ w1.cell? ⟨B, 3, none⟩ = some (.int .i64 p) ∧ w1.cell? ⟨B, 4, none⟩ = some (.bool d) ∧ HasBox B i g c p d w w1) :
    w2.cell? ⟨B, 0, none⟩ = some (.int .i64 i) ∧ w2.cell? ⟨B, 1, none⟩ = some (.int .i64 g) ∧ w2.cell? ⟨B, 2, none⟩ = some (.int .i64 c) ∧ w2.cell? ⟨B, 3, none⟩ = some (.int .i64 p) ∧ w2.cell? ⟨B, 4, none⟩ = some (.bool d) ∧ HasBox B i g c p d w w2 := (h.2.2.2.2.2.keep hb).bears5

/-- A box that is there is found. -/
theorem findB_has {l : List Bx} {k : Nat} (hk : k < l.length) : 0 ≤ findB l l[k].i := by
  rcases Int.lt_or_le (findB l l[k].i) 0 with h | h
  · exfalso
    have : ∀ (l : List Bx) (k : Nat) (hk : k < l.length) (id : Int), l[k].i = id → ¬ findB l id < 0 := by
      intro l
      induction l with
      | nil => intro k hk; exact absurd hk (by simp)
      | cons b l ih =>
        intro k hk id he
        unfold findB
        by_cases e : b.i = id
        · rw [if_pos e]; omega
        · rw [if_neg e]
          cases k with
          | zero => exact absurd he e
          | succ k =>
            have := ih k (by simpa using hk) id he
            rw [if_neg this]; omega
    exact this l k hk _ rfl h
  · exact h

/-- The first with an id in a list's beginning. -/
theorem findB_take : ∀ (l : List Bx) (id : Int) (k : Nat), k ≤ l.length → findB (l.take k) id = if findB l id < k then findB l id else -1
  | [], id, k, h => by
    have : k = 0 := by simpa using h
    subst this; rfl
  | b :: l, id, 0, _ => by
    have := findB_bd (b :: l) id
    show (-1 : Int) = _
    split <;> omega
  | b :: l, id, k + 1, h => by
    have ih := findB_take l id k (by simpa using h)
    have hb := findB_bd l id
    rw [List.take_succ_cons, findB, findB, ih]
    by_cases e : b.i = id
    · rw [if_pos e, if_pos e, if_pos (by omega)]
    · rw [if_neg e, if_neg e]
      by_cases h1 : findB l id < k
      · rw [if_pos h1]
        by_cases h2 : findB l id < 0
        · rw [if_pos h2, if_pos (by omega)]
        · rw [if_neg h2, if_pos (by omega)]
      · rw [if_neg h1, if_pos (by omega), if_neg (by omega : ¬ findB l id < 0), if_neg (by omega)]

theorem bxsOk_long {l : List Bx} (h : 10 < l.length) : bxsOk l = false := by
  unfold bxsOk
  rw [decide_eq_false (by omega), Bool.and_false]

end Go.Proofs.Ythlcjojhmhoadaa
namespace Go.Proofs.Ythlcjojhmhoadaa
open Go.RowKit
set_option linter.unusedVariables false

end Go.Proofs.Ythlcjojhmhoadaa
