/-
  An append of nothing.
-/
import Derived.Test.YtlccmgdmfchmnaaDoorGAp
import Derived.OwnWalk
import Derived.Laws.OwnMore
import Derived.Tactics
namespace Go.Proofs.YtlccmgdmfchmnaaDoor
open Go.RowKit
set_option linter.unusedVariables false

/-- Nothing appended: the same. -/
theorem wpList_append_nothing2 {P : Program} {w : World} {ops : Array Oper} {rest : List Oper} {o : Oper} {a : Act} {Q : Exit → Act → World → Prop} (hgd : o.guard = none) (s x : Operand) (t : TypeId)
    (ho : o.op = .call { callee := .builtin .append, args := #[s, x], argTypes := #[t, t] })
    (e : TypeId) (i : TypeInfo) (ht : P.underlying t = some (.slice e)) (hi : P.info? e = some i) (ad : Addr) (n c : Nat) (hn : n ≤ c) (hs : a.eval s = .slice (some ad) n c) (xa : Option Addr) (xc : Nat) (hx : a.eval x = .slice xa 0 xc)
    (h : wpList P ops Q rest (a.put o.dst (.slice (some ad) n c)) w) : wpList P ops Q (o :: rest) a w := by
  refine wpList_plain hgd fun K hK => ?_
  have hrun : (Builtin.append_ #[t, t] o.type #[.slice (some ad) n c, .slice xa 0 xc]).run P w = .ok (.slice (some ad) n c) w := by
    cases xa <;> simp [Builtin.append_, run_underlying ht, sizeOf, typeInfo, hi, Builtin.lenOf, Builtin.firstCells, loadCells, loadCellsFrom, storeCells, hn]
  unfold Oper.wp
  simp [execOp, ho, resolve, invoke, builtin, hs, hx, hrun, Result.andThen]
  exact hK _ _ h
end Go.Proofs.YtlccmgdmfchmnaaDoor
