/-
  Tables of the program that are package-level variables: arrays of arrays of integers as a row lists them; a variable stands in every world in which nothing elder has turned.
-/
import Derived.Test.YtlccmgdmfchmnaaRows
import Derived.Lib.LaidTab
import Derived.Below
import Derived.RowKit3
import Derived.WalkKit
namespace Go.Proofs.Ytlccmgdmfchmnaa
open Go.RowKit
set_option linter.unusedVariables false

theorem keepVar {P : Program} {W W' : World} {n : String} {cs : Array Value} (hb : Below W.heap.size W W') (hv : W.var? P n = some cs) : W'.var? P n = some cs := by
  unfold World.var? at hv ⊢
  cases hg : P.globalNamed n with
  | none => simp [hg] at hv
  | some g =>
    simp only [hg, Option.bind_some] at hv ⊢
    have hlt : g < W.heap.size := by
      rcases Nat.lt_or_ge g W.heap.size with h' | h'
      · exact h'
      · simp [Array.getElem?_eq_none h'] at hv
    rw [hb.block g hlt]
    exact hv
theorem chunks {α : Type} (m : Nat) : ∀ (n : Nat) (cs : List α), cs.length = n * m → cs = (List.range n).flatMap fun i => (cs.drop (i * m)).take m
  | 0, cs, h => by
    rw [Nat.zero_mul] at h
    exact List.eq_nil_of_length_eq_zero h
  | n + 1, cs, h => by
    have h2 : (cs.drop m).length = n * m := by rw [List.length_drop, h, Nat.succ_mul]; omega
    have ih := chunks m n (cs.drop m) h2
    rw [List.range_succ_eq_map, List.flatMap_cons, List.flatMap_map, Nat.zero_mul, List.drop_zero]
    have e : ((List.range n).flatMap fun a => (cs.drop (a.succ * m)).take m) = cs.drop m := by
      refine Eq.trans ?_ ih.symm
      congr 1
      funext i
      rw [List.drop_drop, Nat.succ_mul, Nat.add_comm]
    rw [e, List.take_append_drop]
/-- An array of arrays of integers that reads as the table holds the table's numbers, cell for cell. -/
theorem cells_of_tab2 {H : Type} {enc : TypeId × Value → H} {P : Program} {w : World} {base : Nat} {sp : Nat → Bool} {held : Bool} {fuel : Nat} {t e i : TypeId} {n m : Nat} {k : IntKind} {cs : List Value} {zss : List (List Int)} {p : List MemPlace}
    (ht : P.underlying t = some (.array n e)) (he : P.underlying e = some (.array m i)) (hi : P.underlying i = some (.int k)) (hce : P.cellsOf e = m) (hci : P.cellsOf i = 1) (hct : P.cellsOf t = n * m)
    (h : DataW.trod enc P w base sp held fuel t cs = some (.agg (zss.map fun zs => Lib.tabData k zs), p)) : cs = (zss.map fun zs => zs.map fun z => Value.int k z).flatten := by
  cases fuel with
  | zero => simp [DataW.trod] at h
  | succ fuel =>
    simp only [DataW.trod, ht, hce, hct] at h
    split at h
    · rename_i hl
      obtain ⟨xs, hm, hx⟩ := Option.map_eq_some_iff.1 h
      have hxs : xs.map (·.1) = zss.map fun zs => (Lib.tabData k zs : DataW H) := by
        have := congrArg Prod.fst hx
        simpa using this
      have hxl : xs.length = n := by simpa using Lib.mapM_length hm
      have hzl : zss.length = n := by
        have := congrArg List.length hxs
        simp at this
        omega
      refine (chunks m n cs hl).trans ?_
      rw [← List.flatMap_id, List.flatMap_map]
      have hz : zss = (List.range n).map fun j => zss.getD j [] := by
        apply List.ext_getElem
        · simp [hzl]
        · intro j h1 h2
          simp [h1]
      rw [hz, List.flatMap_map]
      have hall : ∀ j, j ∈ List.range n → (cs.drop (j * m)).take m = (zss.getD j []).map fun z => Value.int k z := by
        intro j hj
        have hjn := List.mem_range.1 hj
        obtain ⟨b, hb, hf⟩ := Lib.mapM_at hm j j (by simp [hjn])
        have h2 : (xs.map (·.1))[j]? = some b.1 := by simp [hb]
        rw [hxs] at h2
        have hj2 : j < zss.length := by omega
        simp only [List.getElem?_map, List.getElem?_eq_getElem hj2, Option.map_some, Option.some.injEq] at h2
        obtain ⟨b1, b2⟩ := b
        simp only at h2
        subst h2
        rw [List.getD_eq_getElem?_getD, List.getElem?_eq_getElem hj2, Option.getD_some]
        exact Lib.cells_of_tab he hi hci hce hf
      clear h hm hx hxs hz
      revert hall
      generalize List.range n = js
      intro hall
      induction js with
      | nil => rfl
      | cons j js ih =>
        rw [List.flatMap_cons, List.flatMap_cons, hall j List.mem_cons_self, ih fun j' hj' => hall j' (List.mem_cons_of_mem _ hj')]
        rfl
    · cases h
end Go.Proofs.Ytlccmgdmfchmnaa
