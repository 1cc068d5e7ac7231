/-
  The program's chapter 10, second part: Overstows, PortMoves, AfterPort, VoyageMoves.
-/
import Derived.Test.YtmgnbkiphdlooabOvIa
import Derived.Test.YtmgnbkiphdlooabOvF
import Derived.Test.YtmgnbkiphdlooabPlI
import Derived.Test.YtmgnbkiphdlooabGBl
import Derived.Laws.AppendOwnNone
import Derived.Deep.RegionHeld3
namespace Go.Proofs.Ytmgnbkiphdlooab
open Go.RowKit
set_option linter.unusedVariables false

theorem rows_two {h : Hl} {bok : Bool} {ids p : List Int} (hk : plOk h bok ids p = true) : ∃ R T : Nat, h.t = (T : Int) ∧ h.b * h.r = (R : Int) ∧ 0 < T ∧ T ≤ 3 ∧ p.length = R * T ∧ p.length ≤ 36 ∧ R ≤ 36 := by
  obtain ⟨q1, q2, q3, q4⟩ := plOk_iff.1 hk
  obtain ⟨g1, g2, g3, g4, g5, g6⟩ := hlOk_iff.1 q1
  obtain ⟨m1, m2, m3⟩ := slMany_bd q1
  have h0 : 0 ≤ h.b * h.r := Int.mul_nonneg (by omega) (by omega)
  obtain ⟨R, hR⟩ : ∃ R : Nat, h.b * h.r = (R : Int) := ⟨(h.b * h.r).toNat, by omega⟩
  obtain ⟨T, hT⟩ : ∃ T : Nat, h.t = (T : Int) := ⟨h.t.toNat, by omega⟩
  have hn : p.length = R * T := by
    rw [m3, hR, hT] at q3
    have e : ((R * T : Nat) : Int) = (R : Int) * (T : Int) := Int.natCast_mul R T
    omega
  have h1 : R * 1 ≤ R * T := Nat.mul_le_mul_left R (by omega)
  exact ⟨R, T, hT, hR, by omega, by omega, hn, by omega, by omega⟩
/-- What the rows of a valid plan hold. -/
theorem rows_hold {h : Hl} {bok : Bool} {ids p : List Int} (hk : plOk h bok ids p = true) {T R : Nat} (hT : h.t = (T : Int)) (hT0 : 0 < T) (hn : p.length = R * T) {r : Nat} (hr : r < R) :
    (rowAt (rowsL T p R) r).length = hgtR T p r ∧ (∀ t, t < hgtR T p r → (rowAt (rowsL T p R) r).getD t 0 = ((r * T + t : Nat) : Int)) ∧ hgtR T p r ≤ T ∧ (∀ t, t < hgtR T p r → pAt p (r * T + t) ≠ 0) ∧ (∀ t, hgtR T p r ≤ t → t < T → pAt p (r * T + t) = 0) ∧ r * T + T ≤ p.length := by
  obtain ⟨f1, f2, f3, f4⟩ := row_form hk hT.symm hT0 hn hr
  refine ⟨by rw [rowsL_at hr, rowJ_len], fun t ht => by rw [rowsL_at hr]; exact rowJ_get hk hT.symm hT0 hn hr ht, f2, f3, f4, ?_⟩
  rw [hn]
  have : (r + 1) * T ≤ R * T := Nat.mul_le_mul_right T hr
  rw [Nat.succ_mul] at this
  omega
theorem cnt_rest {T : Nat} {g : Nat → Bool} {r m : Nat} (hm : m ≤ T) (hz : ∀ t, m ≤ t → t < T → g (r * T + t) = false) : cnt g ((r + 1) * T) = cnt g (r * T + m) := by
  have e : (r + 1) * T = (r * T + m) + (T - m) := by rw [Nat.succ_mul]; omega
  rw [e]
  exact cnt_skip fun k h1 h2 => by
    have := hz (k - r * T) (by omega) (by omega)
    rwa [show r * T + (k - r * T) = k by omega] at this
theorem filI_rest {T : Nat} {g : Nat → Bool} {r m : Nat} (hm : m ≤ T) (hz : ∀ t, m ≤ t → t < T → g (r * T + t) = false) : filI g ((r + 1) * T) = filI g (r * T + m) := by
  have e : (r + 1) * T = (r * T + m) + (T - m) := by rw [Nat.succ_mul]; omega
  rw [e]
  have : ∀ d, d ≤ T - m → filI g (r * T + m + d) = filI g (r * T + m) := by
    intro d
    induction d with
    | zero => intro _; rfl
    | succ d ih =>
      intro hd
      rw [← Nat.add_assoc, filI_next, if_neg, ih (by omega)]
      rw [show r * T + m + d = r * T + (m + d) by omega, hz (m + d) (by omega) (by omega)]
      simp
  exact this _ (Nat.le_refl _)

theorem AftAt.rest {T : Nat} {f : Int → Int} {q : Int} {p : List Int} {r m : Nat} {out : List Int} (h : AftAt T f q p r m out) (hm : m ≤ T) (hz : ∀ t, m ≤ t → t < T → pAt p (r * T + t) = 0) : AftAt T f q p (r + 1) 0 out := by
  have : ∀ d, m + d ≤ T → AftAt T f q p r (m + d) out := by
    intro d
    induction d with
    | zero => intro _; exact h
    | succ d ih =>
      intro hd
      rw [← Nat.add_assoc]
      exact (AftAt.skip (ih (by omega)) (.inl (hz (m + d) (by omega) (by omega)))).1
  have h1 := this (T - m) (by omega)
  rw [show m + (T - m) = T by omega] at h1
  exact AftAt.row h1
theorem NewY.rowAt_ {K : Nat} {w : World} {a : Option Addr} {n cap : Nat} {ss : List (List Int)} (h : NewY K w (.slice a n cap) ss) {k : Nat} (hk : k < n) :
    ∃ b off x c, a = some ⟨b, off, none⟩ ∧ K ≤ b ∧ b < w.heap.size ∧ w.cell? ⟨b, off + k, none⟩ = some (.slice x (rowAt ss k).length c) ∧ (rowAt ss k).length ≤ c ∧ c ≤ 9223372036854775807 ∧ NewI K w (.slice x (rowAt ss k).length c) (rowAt ss k) := by
  obtain ⟨a', cap', e, _, _, _, h4⟩ := h
  simp only [Value.slice.injEq] at e
  obtain ⟨rfl, rfl, rfl⟩ := e
  rcases h4 with h4 | ⟨b, off, h5, h6, h7, h8⟩
  · omega
  · obtain ⟨u, q1, q2, q3⟩ := h8 k hk
    have q2' := q2
    obtain ⟨x, c, e, hc1, hc2, _⟩ := q2
    subst e
    exact ⟨b, off, x, c, h5, h6, h7, q1, hc1, by unfold maxLen at hc2; omega, q2'⟩

end Go.Proofs.Ytmgnbkiphdlooab
