/-
  The rows and tiers of a ship with a valid plan.
-/
import Derived.Test.YtmgnbkiphdlooabGPn
namespace Go.Proofs.Ytmgnbkiphdlooab
set_option linter.unusedVariables false

theorem rows_two2 {h : Hl} {bok : Bool} {ids p : List Int} (hk : plOk h bok ids p = true) : ∃ R T : Nat, h.t = (T : Int) ∧ h.b * h.r = (R : Int) ∧ 0 < T ∧ T ≤ 3 ∧ p.length = R * T ∧ p.length ≤ 36 ∧ R ≤ 36 := by
  obtain ⟨q1, q2, q3, q4⟩ := plOk_iff.1 hk
  obtain ⟨g1, g2, g3, g4, g5, g6⟩ := hlOk_iff.1 q1
  obtain ⟨m1, m2, m3⟩ := slMany_bd q1
  have h0 : 0 ≤ h.b * h.r := Int.mul_nonneg (by omega) (by omega)
  obtain ⟨R, hR⟩ : ∃ R : Nat, h.b * h.r = (R : Int) := ⟨(h.b * h.r).toNat, by omega⟩
  obtain ⟨T, hT⟩ : ∃ T : Nat, h.t = (T : Int) := ⟨h.t.toNat, by omega⟩
  have hn : p.length = R * T := by
    rw [m3, hR, hT] at q3
    have e : ((R * T : Nat) : Int) = (R : Int) * (T : Int) := Int.natCast_mul R T
    omega
  have h1 : R * 1 ≤ R * T := Nat.mul_le_mul_left R (by omega)
  exact ⟨R, T, hT, hR, by omega, by omega, hn, by omega, by omega⟩
end Go.Proofs.Ytmgnbkiphdlooab
