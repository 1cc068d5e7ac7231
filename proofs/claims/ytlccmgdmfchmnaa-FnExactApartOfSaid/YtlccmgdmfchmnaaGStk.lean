/-
  The contract of the program's idValid.
  Contracts of the library's slices.Index, slices.Contains and slices.Clone on slices of numbers.
  The contract of the program's StackValid.
  The contract of the library's slices.Clone on slices of numbers.
  Contracts of the program's methods put and take on a stack of numbers.
  The contract of the program's StackPut.
  The contract of the program's StackTake.
-/
import Derived.Test.YtlccmgdmfchmnaaRows
import Derived.WalkKit
import Derived.Lib.Hide
import Derived.Test.YtlccmgdmfchmnaaGBase
import Derived.Laws.AppendOwnNone
import Derived.Lib.SliceRun
import Derived.WalkSpells
import Derived.OneCell
namespace Go.Proofs.Ytlccmgdmfchmnaa
open Go.RowKit
set_option linter.unusedVariables false

theorem ret_bool {a b : Bool} (h : a = b) : Ending.returned (.bool a) = Ending.returned (.bool b) := by rw [h]

end Go.Proofs.Ytlccmgdmfchmnaa
namespace Go.Proofs.Ytlccmgdmfchmnaa
open Go.RowKit
set_option linter.unusedVariables false

/-- Where a number first stands, -1 if it does not. -/
def idxI (l : List Int) (n : Int) : Int := match firstI l n with | some k => (k : Int) | none => -1
theorem idxI_hit {l : List Int} {n : Int} {k : Nat} (hk : k < l.length) (hn : ∀ j (hj : j < l.length), j < k → l[j] ≠ n) (h : l[k] = n) : idxI l n = (k : Int) := by
  unfold idxI; rw [firstI_hit l n k hk hn h]
theorem idxI_none {l : List Int} {n : Int} (hn : ∀ j (hj : j < l.length), l[j] ≠ n) : idxI l n = -1 := by
  unfold idxI; rw [firstI_none l n hn]
theorem firstI_mem {n : Int} : ∀ {l : List Int}, n ∈ l → firstI l n ≠ none
  | a :: t, hm => by
    rw [firstI]
    by_cases ha : a = n
    · rw [if_pos ha]; simp
    · rw [if_neg ha]
      intro hc
      rw [Option.map_eq_none_iff] at hc
      rcases List.mem_cons.1 hm with h | h
      · exact ha h.symm
      · exact firstI_mem h hc
theorem idxI_has (l : List Int) (n : Int) : decide (0 ≤ idxI l n) = hasI l n := by
  cases h : firstI l n with
  | none =>
    have e : idxI l n = -1 := by unfold idxI; rw [h]
    rw [e]
    exact (hasI_no fun k hk he => firstI_mem (he ▸ List.getElem_mem hk) h).symm
  | some k =>
    obtain ⟨hk, he⟩ := firstI_some l n k h
    have e : idxI l n = (k : Int) := by unfold idxI; rw [h]
    rw [e, hasI_yes hk he]
    exact decide_eq_true (by omega)

end Go.Proofs.Ytlccmgdmfchmnaa
namespace Go.Proofs.Ytlccmgdmfchmnaa
open Go.RowKit
set_option linter.unusedVariables false

end Go.Proofs.Ytlccmgdmfchmnaa
namespace Go.Proofs.Ytlccmgdmfchmnaa
open Go.RowKit
set_option linter.unusedVariables false

/-- A copy that is the call's own. -/
def CloneGives (l : List Int) (w : World) (e : Ending) (w' : World) : Prop :=
  ∃ v, e = .returned v ∧ w'.ownsRow w.heap.size 3 1 v l.length (rowI l) ∧ Below w.heap.size w w'

end Go.Proofs.Ytlccmgdmfchmnaa
namespace Go.Proofs.Ytlccmgdmfchmnaa
open Go.RowKit
set_option linter.unusedVariables false

end Go.Proofs.Ytlccmgdmfchmnaa
namespace Go.Proofs.Ytlccmgdmfchmnaa
open Go.RowKit
set_option linter.unusedVariables false

/-- What the program's StackPut gives: memory of the call's own, that can be written. -/
def PutGivesF (l : List Int) (high id : Int) (w : World) (e : Ending) (w' : World) : Prop :=
  ∃ v, e = .returned (.tuple #[v, .bool (putS l high id).2]) ∧ FreeE w.heap.size w' v (putS l high id).1 ∧ Below w.heap.size w w'
theorem putS_len {l : List Int} {high id : Int} (h : l.length ≤ 1048576) : (putS l high id).1.length ≤ 1048577 := by
  unfold putS
  split
  · split
    · simp; omega
    · simp; omega
  · simp

end Go.Proofs.Ytlccmgdmfchmnaa
namespace Go.Proofs.Ytlccmgdmfchmnaa
open Go.RowKit
set_option linter.unusedVariables false

/-- What the program's StackTake gives: memory of the call's own, that can be written. -/
def TakeGivesF (l : List Int) (high : Int) (w : World) (e : Ending) (w' : World) : Prop :=
  ∃ v, e = .returned (.tuple #[v, .int .i64 (takeS l high).2]) ∧ FreeE w.heap.size w' v (takeS l high).1 ∧ Below w.heap.size w w'
theorem takeS_len {l : List Int} {high : Int} : (takeS l high).1.length ≤ l.length := by
  unfold takeS
  split
  · simp only [List.length_take]; omega
  · simp
theorem FreeAt.setOther {g B : Nat} {w : World} {v : Value} {l : List Int} (h : FreeAt g w v l) (hne : g ≠ B) (o : Nat) (u : Value) : FreeAt g (w.setCell ⟨B, o, none⟩ u) v l := by
  obtain ⟨cap, h1, h3, h4, h5, cur, T, h6, h7⟩ := h
  exact ⟨cap, h1, by simpa [World.setCell] using h3, h4, h5, cur, T, by rw [Below.heap_setCell _ _ _ _ hne]; exact h6, h7⟩

theorem FreeE.setOther {K B : Nat} {w : World} {v : Value} {l : List Int} (h : FreeE K w v l) (hne : ∀ k, v.ownBlock = some k → k ≠ B) (o : Nat) (u : Value) : FreeE K (w.setCell ⟨B, o, none⟩ u) v l := by
  rcases h with h | ⟨g, hg, h⟩
  · exact .inl h
  · have h1 : v.ownBlock = some g := by obtain ⟨cap, rfl, _⟩ := h; rfl
    exact .inr ⟨g, hg, h.setOther (hne g h1) o u⟩

end Go.Proofs.Ytlccmgdmfchmnaa
