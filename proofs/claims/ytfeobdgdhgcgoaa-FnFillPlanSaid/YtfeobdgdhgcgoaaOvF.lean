/-
  The model's chapter 10, third part: AfterPort, VoyageMoves.
-/
import Derived.Test.YtfeobdgdhgcgoaaOvQ
import Derived.Deep.RegionHeld3
namespace Go.Proofs.Ytfeobdgdhgcgoaa
open Go.RowKit
set_option linter.unusedVariables false

/-- The plan behind the port, while it is built: r rows whole, and t slots of the next one looked at. -/
def AftAt (T : Nat) (f : Int → Int) (q : Int) (p : List Int) (r t : Nat) (out : List Int) : Prop :=
  out.length = p.length ∧ ∀ s, s < p.length → pAt out s = if s / T < r then pAt (aftP T f q p) s else if s / T = r then (kpR f q (colT T p r t)).reverse.getD (s % T) 0 else 0
theorem AftAt.zero (T : Nat) (f : Int → Int) (q : Int) (p : List Int) : AftAt T f q p 0 0 (List.replicate p.length 0) := by
  refine ⟨by simp, fun s hs => ?_⟩
  rw [if_neg (Nat.not_lt_zero _)]
  have e : pAt (List.replicate p.length (0 : Int)) s = 0 := by unfold pAt; rw [List.getD_eq_getElem?_getD, List.getElem?_replicate]; split <;> rfl
  rw [e]
  split
  · rfl
  · rfl
theorem AftAt.row {T : Nat} {f : Int → Int} {q : Int} {p : List Int} {r : Nat} {out : List Int} (h : AftAt T f q p r T out) : AftAt T f q p (r + 1) 0 out := by
  refine ⟨h.1, fun s hs => ?_⟩
  rw [h.2 s hs]
  by_cases h1 : s / T < r
  · rw [if_pos h1, if_pos (by omega)]
  · rw [if_neg h1]
    by_cases h2 : s / T = r
    · rw [if_pos h2, if_pos (by omega), aftP_at hs, h2]
    · rw [if_neg h2, if_neg (by omega)]
      split <;> rfl
theorem AftAt.end_ {T : Nat} {f : Int → Int} {q : Int} {p : List Int} {R : Nat} {out : List Int} (hT : 0 < T) (hn : p.length = R * T) (h : AftAt T f q p R 0 out) : out = aftP T f q p := by
  refine List.ext_getElem (by rw [aftP_len]; exact h.1) fun s h1 h2 => ?_
  rw [← pAt_get h1, ← pAt_get h2]
  have hs : s < p.length := by rw [h.1] at h1; exact h1
  rw [h.2 s hs, if_pos (slot_row hT (by omega)).1]
theorem kpR_at {T : Nat} {f : Int → Int} {q : Int} {p : List Int} {r t : Nat} : (kpR f q (colT T p r t)).length ≤ t := by
  have := kpR_len f q (colT T p r t); rw [colT_len] at this; exact this
theorem AftAt.skip {T : Nat} {f : Int → Int} {q : Int} {p : List Int} {r t : Nat} {out : List Int} (h : AftAt T f q p r t out) (hx : pAt p (r * T + t) = 0 ∨ f (pAt p (r * T + t)) = q) : AftAt T f q p r (t + 1) out ∧ (kpR f q (colT T p r (t + 1))).length = (kpR f q (colT T p r t)).length := by
  have e : kpR f q (colT T p r (t + 1)) = kpR f q (colT T p r t) := by
    rw [colT]
    unfold kpR
    rw [List.filter_cons_of_neg]
    simp only [decide_eq_true_eq]
    rintro ⟨h1, h2⟩
    rcases hx with hx | hx
    · exact h1 hx
    · exact h2 hx
  refine ⟨⟨h.1, fun s hs => ?_⟩, by rw [e]⟩
  rw [e]; exact h.2 s hs
theorem AftAt.keep {T : Nat} {f : Int → Int} {q : Int} {p : List Int} {r t : Nat} {out : List Int} (h : AftAt T f q p r t out) (ht : t < T) (hl : r * T + t < p.length) (hz : pAt p (r * T + t) ≠ 0) (hf : f (pAt p (r * T + t)) ≠ q) :
    AftAt T f q p r (t + 1) (out.set (r * T + (kpR f q (colT T p r t)).length) (pAt p (r * T + t))) ∧ (kpR f q (colT T p r (t + 1))).length = (kpR f q (colT T p r t)).length + 1 := by
  have e : kpR f q (colT T p r (t + 1)) = pAt p (r * T + t) :: kpR f q (colT T p r t) := by
    rw [colT]
    unfold kpR
    rw [List.filter_cons_of_pos]
    simp only [decide_eq_true_eq]
    exact ⟨hz, hf⟩
  have hm := kpR_at (T := T) (f := f) (q := q) (p := p) (r := r) (t := t)
  obtain ⟨m, hme⟩ : ∃ m, m = (kpR f q (colT T p r t)).length := ⟨_, rfl⟩
  rw [← hme] at hm ⊢
  refine ⟨⟨by rw [List.length_set]; exact h.1, fun s hs => ?_⟩, by rw [e, List.length_cons, ← hme]⟩
  have hml : r * T + m < out.length := by rw [h.1]; omega
  by_cases hse : r * T + m = s
  · subst hse
    have hd : (r * T + m) / T = r := row_div (by omega)
    have hmo : (r * T + m) % T = m := by rw [Nat.add_comm, Nat.add_mul_mod_self_right, Nat.mod_eq_of_lt (by omega)]
    rw [pAt_set_self hml, hd, if_neg (by omega), if_pos rfl, hmo, e, List.reverse_cons, List.getD_eq_getElem?_getD, List.getElem?_append_right (by rw [List.length_reverse, ← hme]; omega)]
    rw [List.length_reverse, ← hme, Nat.sub_self]
    rfl
  · rw [pAt_set_ne hse, h.2 s hs]
    by_cases h1 : s / T < r
    · rw [if_pos h1, if_pos h1]
    · rw [if_neg h1, if_neg h1]
      by_cases h2 : s / T = r
      · rw [if_pos h2, if_pos h2, e, List.reverse_cons]
        have hsm : s % T ≠ m := fun e9 => hse (by
          have := Nat.div_add_mod s T
          rw [h2, e9, Nat.mul_comm] at this
          exact this)
        rw [List.getD_eq_getElem?_getD, List.getD_eq_getElem?_getD]
        rcases Nat.lt_or_ge (s % T) m with h3 | h3
        · rw [List.getElem?_append_left (by rw [List.length_reverse, ← hme]; exact h3)]
        · rw [List.getElem?_eq_none (by rw [List.length_reverse, ← hme]; exact h3), List.getElem?_append_right (by rw [List.length_reverse, ← hme]; exact h3), List.length_reverse, ← hme]
          rw [List.getElem?_eq_none (by simp; omega)]
      · rw [if_neg h2, if_neg h2]

end Go.Proofs.Ytfeobdgdhgcgoaa
