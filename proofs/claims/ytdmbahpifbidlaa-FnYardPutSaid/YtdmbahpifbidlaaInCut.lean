/-
  Pieces of a slice of numbers.
-/
import Derived.Test.YtdmbahpifbidlaaInS
namespace Go.Proofs.Ytdmbahpifbidlaa
open Go.RowKit
set_option linter.unusedVariables false

theorem HoldsI.take {w : World} {a : Option Addr} {cap : Nat} {l : List Int} (k : Nat) (hk : k ≤ l.length) (h : HoldsI w (.slice a l.length cap) l) : HoldsI w (.slice a k cap) (l.take k) := by
  obtain ⟨a', cap', he, h2, h3, h4⟩ := h
  simp only [Value.slice.injEq, true_and] at he
  obtain ⟨rfl, rfl⟩ := he
  have hl : (l.take k).length = k := by rw [List.length_take]; omega
  refine ⟨a, cap, by rw [hl], by omega, h3, ?_⟩
  rcases h4 with h4 | ⟨b, off, h5, h6, h7⟩
  · exact .inl (by omega)
  · refine .inr ⟨b, off, h5, h6, fun j hj => ?_⟩
    rw [h7 j (by omega), List.getElem_take]
theorem HoldsI.drop {w : World} {b off cap : Nat} {l : List Int} (k : Nat) (hk : k < l.length) (h : HoldsI w (.slice (some ⟨b, off, none⟩) l.length cap) l) : HoldsI w (.slice (some ⟨b, off + k, none⟩) (l.length - k) (cap - k)) (l.drop k) := by
  obtain ⟨a', cap', he, h2, h3, h4⟩ := h
  simp only [Value.slice.injEq, true_and] at he
  obtain ⟨rfl, rfl⟩ := he
  refine ⟨_, cap - k, by rw [List.length_drop], by rw [List.length_drop]; omega, by omega, ?_⟩
  rcases h4 with h4 | ⟨b', off', h5, h6, h7⟩
  · exact .inl (by rw [List.length_drop]; omega)
  · simp only [Option.some.injEq, Addr.mk.injEq, and_true] at h5
    obtain ⟨rfl, rfl⟩ := h5
    refine .inr ⟨b, off + k, rfl, h6, fun j hj => ?_⟩
    have hj' : k + j < l.length := by rw [List.length_drop] at hj; omega
    rw [Nat.add_assoc, h7 (k + j) hj', List.getElem_drop]
end Go.Proofs.Ytdmbahpifbidlaa
