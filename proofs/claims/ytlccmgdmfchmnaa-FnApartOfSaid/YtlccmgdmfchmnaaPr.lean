/-
  Rows of pairs that a call makes.
-/
import Derived.Test.YtlccmgdmfchmnaaYmM
import Derived.Test.YtlccmgdmfchmnaaGBase
namespace Go.Proofs.Ytlccmgdmfchmnaa
open Go.RowKit
set_option linter.unusedVariables false

def rowQ (l : List (Int × Int)) : List Value := l.flatMap fun m => [.int .i64 m.1, .int .i64 m.2]
theorem rowQ_len : ∀ l : List (Int × Int), (rowQ l).length = l.length * 2
  | [] => rfl
  | b :: l => by
    have e : rowQ (b :: l) = [.int .i64 b.1, .int .i64 b.2] ++ rowQ l := rfl
    rw [e, List.length_append, rowQ_len l, List.length_cons]
    simp
    omega
theorem rowQ_app (l l' : List (Int × Int)) : rowQ (l ++ l') = rowQ l ++ rowQ l' := by simp [rowQ]
theorem rowQ_at : ∀ (l : List (Int × Int)) (k : Nat) (hk : k < l.length), (rowQ l)[k * 2]? = some (.int .i64 l[k].1) ∧ (rowQ l)[k * 2 + 1]? = some (.int .i64 l[k].2)
  | b :: l, 0, _ => ⟨rfl, rfl⟩
  | b :: l, k + 1, hk => by
    have e : rowQ (b :: l) = .int .i64 b.1 :: .int .i64 b.2 :: rowQ l := rfl
    have ih := rowQ_at l k (by simpa using hk)
    have e1 : (k + 1) * 2 = k * 2 + 1 + 1 := by omega
    rw [e, e1]
    exact ih
end Go.Proofs.Ytlccmgdmfchmnaa
