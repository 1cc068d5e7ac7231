/-
  A drawn owner has three capitals.
-/
import Derived.Test.YtkfpondpepegpaaDoorDr2
import Derived.Test.YtkfpondpepegpaaDoorNoForm
namespace Go.Proofs.YtkfpondpepegpaaDoor
open Go.RowKit
set_option linter.unusedVariables false

theorem owner_cap {s : ByteArray} (h : OwnerOk s) : s.data.toList.length = 3 ∧ ∀ b ∈ s.data.toList, isCap b := by
  obtain ⟨a, b, c, a0, a1, b0, b1, c0, c1, rfl⟩ := h
  have key : ∀ x : Int, 0 ≤ x → x < 26 → isCap (UInt8.ofNat (65 + x).toNat) := fun x h0 h1 => by
    unfold isCap
    rw [UInt8.toNat_ofNat']
    omega
  refine ⟨rfl, fun y hy => ?_⟩
  have hy' : y ∈ [UInt8.ofNat (65 + a).toNat, UInt8.ofNat (65 + b).toNat, UInt8.ofNat (65 + c).toNat] := hy
  simp only [List.mem_cons, List.not_mem_nil, or_false] at hy'
  rcases hy' with rfl | rfl | rfl
  · exact key a a0 a1
  · exact key b b0 b1
  · exact key c c0 c1
theorem owner_size {s : ByteArray} (h : OwnerOk s) : s.size = 3 := by rw [show s.size = s.data.toList.length from by rw [Array.length_toList]; rfl, (owner_cap h).1]

end Go.Proofs.YtkfpondpepegpaaDoor
