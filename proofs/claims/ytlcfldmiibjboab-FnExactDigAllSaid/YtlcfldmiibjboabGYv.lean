/-
  The draws of a yard alone, and of a yard and an id.
  The laws' ascend: of a list that ascends.
  The draw of a yard and a stack: DrawYardTake.
-/
import Derived.Test.YtlcfldmiibjboabGYk
import Derived.Test.YtlcfldmiibjboabGYh
import Derived.Test.YtlcfldmiibjboabGYd
import Derived.Deep.QuietTactic
import Derived.BigQuiet
import Derived.Deep.RegionHeld3
namespace Go.Proofs.Ytlcfldmiibjboab
open Go.RowKit
set_option linter.unusedVariables false

/-- What a draw of a yard gives its law. -/
def DrewY (w : World) (e : Ending) (w' : World) : Prop :=
  ∃ (h : Int) (u : Value) (ss : List (List Int)), ss.length ≤ 7 ∧ ss.flatten.length ≤ 100 ∧ e = .returned (.agg #[.int .i64 h, u]) ∧ HoldsY w' u ss ∧ Below w.heap.size w w'
theorem row8_keep {w w' : World} {a : Option Addr} {len cap : Nat} (h : IsRow8 w a len cap) (hb : Below w.heap.size w w') : IsRow8 w' a len cap := by
  rcases h with h | ⟨x, h1, h2, h3, h4⟩
  · exact .inl h
  · refine .inr ⟨x, h1, h2, h3, fun i hi => ?_⟩
    obtain ⟨c, c0, c1, hc⟩ := h4 i hi
    have hlt : (x.add i).block < w.heap.size := by
      rcases Nat.lt_or_ge (x.add i).block w.heap.size with h' | h'
      · exact h'
      · rw [World.cell?, Array.getElem?_eq_none h'] at hc; cases hc
    exact ⟨c, c0, c1, (hb.cell hlt).trans hc⟩
/-- The reader opened behind the result's block, and the yard drawn. -/
theorem yard_res {w w1 w2 : World} {B : Nat} {h : Int} {u : Value} {ss : List (List Int)} (r0 : BoxY w.heap.size w1 0 (.slice none 0 0)) (b1 : Below w.heap.size w w1) (hB : w.heap.size < B) (hm : MostB B w1 w2) (hn : NewY w1.heap.size w2 u ss) :
    BoxY w.heap.size w2 0 (.slice none 0 0) ∧ HoldsY ((w2.setCell ⟨w.heap.size, 0, none⟩ (.int .i64 h)).setCell ⟨w.heap.size, 1, none⟩ u) u ss ∧ Below w.heap.size w ((w2.setCell ⟨w.heap.size, 0, none⟩ (.int .i64 h)).setCell ⟨w.heap.size, 1, none⟩ u) := by
  have hl := r0.lt
  exact ⟨r0.at_ (hm.block _ (by omega) hl), ((hn.setLow hl _ _).setLow hl _ _).holds,
    (((b1.trans (hm.under (by omega) b1.size)).setCell (p := ⟨w.heap.size, 0, none⟩) (Nat.le_refl _) _).setCell (p := ⟨w.heap.size, 1, none⟩) (Nat.le_refl _) _)⟩

/-- What a draw of a yard and a number gives its law. -/
def DrewYId (w : World) (e : Ending) (w' : World) : Prop :=
  ∃ (h : Int) (u : Value) (ss : List (List Int)) (x : Int), ss.length ≤ 7 ∧ ss.flatten.length ≤ 100 ∧ e = .returned (.tuple #[.agg #[.int .i64 h, u], .int .i64 x]) ∧ HoldsY w' u ss ∧ Below w.heap.size w w'
end Go.Proofs.Ytlcfldmiibjboab
namespace Go.Proofs.Ytlcfldmiibjboab
open Go.RowKit
set_option linter.unusedVariables false

theorem idsY_asc {h : Int} {ss : List (List Int)} (hk : ydOk h ss = true) : ∀ k, k + 1 < (idsY h ss).length → (idsY h ss).getD k 0 < (idsY h ss).getD (k + 1) 0 := by
  intro k hl
  rw [← sortI_idsY hk] at hl ⊢
  have h1 := List.pairwise_iff_getElem.1 (sortI_le ss.flatten) k (k + 1) (by omega) hl (by omega)
  have hn : (sortI ss.flatten).Nodup := (sortI_perm ss.flatten).nodup_iff.2 (ydOk_iff.1 hk).2.1
  have h2 := List.pairwise_iff_getElem.1 hn k (k + 1) (by omega) hl (by omega)
  rw [List.getD_eq_getElem?_getD, List.getD_eq_getElem?_getD, List.getElem?_eq_getElem hl, List.getElem?_eq_getElem (by omega), Option.getD_some, Option.getD_some]
  omega
theorem below_drewN' {B : Nat} {a w : World} (h : Below B a w) (n : Nat) : Below B a (w.drewN n) := ⟨h.os, h.tape, h.output, h.size, h.block⟩
theorem idsY_len_ok {h : Int} {ss : List (List Int)} (hk : ydOk h ss = true) : (idsY h ss).length = ss.flatten.length := by
  rw [← sortI_idsY hk, sortI_len]

end Go.Proofs.Ytlcfldmiibjboab
namespace Go.Proofs.Ytlcfldmiibjboab
open Go.RowKit
set_option linter.unusedVariables false

/-- Nothing but the reader's block has turned since, or the answer's place was written at last. -/
def Laid (R B : Nat) (h : Int) (u : Value) (W w' : World) : Prop := ∃ wm, MostB B W wm ∧ (w' = wm ∨ w' = (wm.setCell ⟨R, 0, none⟩ (.int .i64 h)).setCell ⟨R, 1, none⟩ u)
end Go.Proofs.Ytlcfldmiibjboab
