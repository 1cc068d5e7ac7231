/-
  The library's table of powers of ten in a world; strconv.Itoa of small numbers.
-/
import Derived.Test.YtjnoekhdkmgagaaDoorShelf
import Derived.Test.YtjnoekhdkmgagaaDoorGNo
import Derived.Lib.AppendIntMem
import Derived.Lib.Hide
import Derived.Below
namespace Go.Proofs.YtjnoekhdkmgagaaDoor
open Go.RowKit
set_option linter.unusedVariables false

/-- The library's table stands in a world. -/
def Tab (w : World) : Prop := Lib.TabIs Tryd.prog w "internal/strconv.uint64pow10" .u64 Lib.pow10Tab

theorem Tab.drew {w : World} (h : Tab w) : Tab w.drew := h

theorem var?_keep {P : Program} {W W' : World} {n : String} {cs : Array Value} (hb : Below W.heap.size W W') (hv : W.var? P n = some cs) : W'.var? P n = some cs := by
  unfold World.var? at hv ⊢
  cases hg : P.globalNamed n with
  | none => simp [hg] at hv
  | some g =>
    simp only [hg, Option.bind_some] at hv ⊢
    have hlt : g < W.heap.size := by
      rcases Nat.lt_or_ge g W.heap.size with h' | h'
      · exact h'
      · simp [Array.getElem?_eq_none h'] at hv
    rw [hb.block g hlt]
    exact hv
/-- The table stands in every world in which nothing that was there has turned. -/
theorem Tab.keep {w w' : World} (h : Tab w) (hb : Below w.heap.size w w') : Tab w' := var?_keep hb h

theorem itoa_dec (n : Int) (w : World) (h0 : 0 ≤ n) (h1 : n ≤ 999999) (ht : Tab w) :
    Calls Tryd.prog 18 #[.int .i64 n] w fun e w' => e = .returned (.string (decB n)) ∧ Below w.heap.size w w' := by
  have hI := Tryd.strconv_Itoa n (by omega) (by omega) w ht
  rw [show Lib.itoa n = Lib.decDigits n.toNat by unfold Lib.itoa; rw [if_neg (by omega)]] at hI
  refine hI.mono ?_
  rintro e w' ⟨rfl, k, os, rfl⟩
  exact ⟨rfl, Lib.below_grow w.heap.size w (Nat.le_refl _) k os⟩
end Go.Proofs.YtjnoekhdkmgagaaDoor
