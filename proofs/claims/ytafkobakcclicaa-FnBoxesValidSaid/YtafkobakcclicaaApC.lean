/-
  Words for a region that appends twice: blocks made in either order, what stays of them.
-/
import Derived.Test.YtafkobakcclicaaApB
namespace Go.Proofs.Ytafkobakcclicaa
open Go.RowKit
set_option linter.unusedVariables false

theorem HoldsBx.drop1 {w : World} {b off cap : Nat} {l : List Bx} (h : HoldsBx w (.slice (some ⟨b, off, none⟩) l.length cap) l) (hz : ¬ l.length = 0) : HoldsBx w (.slice (some ⟨b, if cap = 1 then off else off + 5, none⟩) (l.length - 1) (cap - 1)) (l.drop 1) := by
  obtain ⟨a, cap', he, h2, h3, h4⟩ := h
  simp only [Value.slice.injEq, true_and] at he
  obtain ⟨rfl, rfl⟩ := he
  refine ⟨_, cap - 1, by rw [List.length_drop], by rw [List.length_drop]; omega, by omega, ?_⟩
  rcases h4 with h4 | ⟨b', off', h5, h6, h7⟩
  · exact absurd h4 hz
  · simp only [Option.some.injEq, Addr.mk.injEq, and_true] at h5
    obtain ⟨rfl, rfl⟩ := h5
    by_cases hc : cap = 1
    · exact .inl (by rw [List.length_drop]; omega)
    · rw [if_neg hc]
      refine .inr ⟨b, off + 5, rfl, h6, fun k hk j hj => ?_⟩
      have hk' : k + 1 < l.length := by rw [List.length_drop] at hk; omega
      have e := h7 (k + 1) hk' j hj
      rw [show off + 5 + (k * 5 + j) = off + ((k + 1) * 5 + j) by omega, e, List.getElem_drop]
      simp only [Nat.add_comm 1 k]
theorem final_holds {w : World} {base : Nat} {e : TypeId} {v : Value} {l : List Bx} {x : Bx} (h : w.ownsRow base e 5 v (l.length + 1) (rowB l ++ [.int .i64 x.i, .int .i64 x.g, .int .i64 x.c, .int .i64 x.p, .bool x.d])) : HoldsBx w v (l ++ [x]) := by
  refine (NewBx.of_own (base := base) (e := e) (l := l ++ [x]) ?_).holds
  rw [rowB_app, List.length_append]
  exact h

end Go.Proofs.Ytafkobakcclicaa
