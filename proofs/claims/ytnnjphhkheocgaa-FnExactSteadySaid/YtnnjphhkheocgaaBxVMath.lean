/-
  Plain mathematics of lists of boxes: the first with an id; when a list is valid. Nothing of the program.
-/
import Derived.Test.YtnnjphhkheocgaaBxOpen
import Derived.Test.YtnnjphhkheocgaaBx
namespace Go.Proofs.Ytnnjphhkheocgaa
set_option linter.unusedVariables false

/-- The index of the first box with an id, or -1. -/
def findB : List Bx → Int → Int
  | [], _ => -1
  | b :: l, id => if b.i = id then 0 else if findB l id < 0 then -1 else findB l id + 1
theorem findB_hit : ∀ (l : List Bx) (id : Int) (k : Nat) (hk : k < l.length), (∀ j (hj : j < l.length), j < k → l[j].i ≠ id) → l[k].i = id → findB l id = k
  | b :: l, id, 0, _, _, h => by
    have h' : b.i = id := h
    rw [findB, if_pos h']; rfl
  | b :: l, id, k + 1, hk, hn, h => by
    have h0 : b.i ≠ id := hn 0 (by simp) (by omega)
    have ih := findB_hit l id k (by simpa using hk) (fun j hj hjk => hn (j + 1) (by simpa using hj) (by omega)) h
    rw [findB, if_neg h0, ih, if_neg (by omega)]
    rfl
theorem findB_none : ∀ (l : List Bx) (id : Int), (∀ j (hj : j < l.length), l[j].i ≠ id) → findB l id = -1
  | [], _, _ => rfl
  | b :: l, id, hn => by
    have h0 : b.i ≠ id := hn 0 (by simp)
    have ih := findB_none l id (fun j hj => hn (j + 1) (by simpa using hj))
    rw [findB, if_neg h0, ih, if_pos (by omega)]
theorem findB_bd : ∀ (l : List Bx) (id : Int), -1 ≤ findB l id ∧ findB l id < l.length
  | [], id => ⟨by show (-1 : Int) ≤ -1; omega, by show (-1 : Int) < (0 : Nat); omega⟩
  | b :: l, id => by
    have ih := findB_bd l id
    unfold findB
    rw [List.length_cons]
    split
    · omega
    · split <;> omega

def Bx.ok (b : Bx) : Bool := bxOk b.i b.g b.c b.p
/-- Whether the box at a place is valid and the first with its id. -/
def okAt (l : List Bx) (k : Nat) : Bool := (l.getD k Bx.zero).ok && !decide (findB l (l.getD k Bx.zero).i < k)
/-- Whether a list of boxes is valid. -/
def bxsOk (l : List Bx) : Bool := (List.range l.length).all (okAt l) && decide (l.length ≤ 10)
theorem getD_bx {l : List Bx} {k : Nat} (h : k < l.length) : l.getD k Bx.zero = l[k] := by
  rw [List.getD_eq_getElem?_getD, List.getElem?_eq_getElem h, Option.getD_some]
theorem bxsOk_at {l : List Bx} {k : Nat} (h : k < l.length) (hf : okAt l k = false) : bxsOk l = false := by
  unfold bxsOk
  rw [show (List.range l.length).all (okAt l) = false from ?_]
  · rfl
  · rw [List.all_eq_false]
    exact ⟨k, List.mem_range.2 h, by rw [hf]; decide⟩
theorem bxsOk_end {l : List Bx} (h : ∀ k, k < l.length → okAt l k = true) : bxsOk l = decide (l.length ≤ 10) := by
  unfold bxsOk
  rw [show (List.range l.length).all (okAt l) = true from List.all_eq_true.2 fun k hk => h k (List.mem_range.1 hk)]
  rfl
end Go.Proofs.Ytnnjphhkheocgaa
