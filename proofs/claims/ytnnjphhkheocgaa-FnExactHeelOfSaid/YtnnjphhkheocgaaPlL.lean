/-
  How long the answers on plans are. Nothing of the program.
-/
import Derived.Test.YtnnjphhkheocgaaPlC
namespace Go.Proofs.Ytnnjphhkheocgaa
set_option linter.unusedVariables false

theorem putP_lenX {h : Hl} {bok : Bool} {ids p : List Int} {s id : Int} {n : Nat} (hp : p.length ≤ n) : (putP h bok ids p s id).1.length ≤ n := by
  rcases putP_cases h bok ids p s id with ⟨_, e⟩ | ⟨_, e⟩ | ⟨_, _, _, _, _, _, e⟩ <;> rw [e] <;> simp [hp]
theorem takeP_lenX {h : Hl} {bok : Bool} {ids p : List Int} {s : Int} {n : Nat} (hp : p.length ≤ n) : (takeP h bok ids p s).1.length ≤ n := by
  rcases takeP_cases h bok ids p s with ⟨_, e⟩ | ⟨_, e⟩ | ⟨_, _, _, _, _, _, e⟩ <;> rw [e] <;> simp [hp]
theorem idsP_lenX {h : Hl} {bok : Bool} {ids p : List Int} {n : Nat} (hp : p.length ≤ n) : (idsP h bok ids p).length ≤ n := by
  unfold idsP
  split
  · exact Nat.le_trans (List.length_filter_le _ _) hp
  · simp
theorem nextI_lenX {h : Hl} {bok : Bool} {ids p : List Int} {n : Nat} (hp : p.length ≤ n) : (nextI h bok ids p).length ≤ n := by
  unfold nextI nextP
  split
  · rw [List.length_map]; exact Nat.le_trans (List.length_filter_le _ _) (by rw [List.length_range]; exact hp)
  · simp
end Go.Proofs.Ytnnjphhkheocgaa
