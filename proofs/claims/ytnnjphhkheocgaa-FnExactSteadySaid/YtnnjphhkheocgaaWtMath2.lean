/-
  Plain mathematics of weights, second part: images of valid plans are valid; what a box weighs that is taken. Nothing of the program.
-/
import Derived.Test.YtnnjphhkheocgaaWtMath
namespace Go.Proofs.Ytnnjphhkheocgaa
set_option linter.unusedVariables false

/-- A turn of the slots that keeps what is below what. -/
structure Rows (h : Hl) (n : Nat) (s : Nat → Nat) : Prop where
  inv : Inv n s
  tier : ∀ k, k < n → ((s k : Nat) : Int) % h.t = (k : Int) % h.t
  below : ∀ k, k < n → ¬ (k : Int) % h.t = 0 → s (k - 1) = s k - 1
theorem img_take {s : Nat → Nat} {p : List Int} (hi : Inv p.length s) {x : Int} {k : Nat} (hm : x ∈ (img s p).take k) : ∃ j, j < k ∧ j < p.length ∧ pAt p (s j) = x := by
  obtain ⟨j, h1, h2, h3⟩ := mem_take hm
  rw [img_len] at h2
  exact ⟨j, h1, h2, by rw [← img_at h2]; exact h3⟩
/-- The image of a valid plan is valid. -/
theorem img_ok {h : Hl} {bok : Bool} {ids p : List Int} {s : Nat → Nat} (hr : Rows h p.length s) (hk : plOk h bok ids p = true) : plOk h bok ids (img s p) = true := by
  obtain ⟨q1, q2, q3, q4⟩ := plOk_iff.1 hk
  refine plOk_iff.2 ⟨q1, q2, by rw [img_len]; exact q3, fun k hl hne => ?_⟩
  rw [img_len] at hl
  rw [img_at hl] at hne ⊢
  have hsl := hr.inv.lt k hl
  obtain ⟨r1, r2, r3⟩ := q4 (s k) hsl hne
  refine ⟨r1, fun hm => ?_, fun ht => ?_⟩
  · obtain ⟨j, h1, h2, h3⟩ := img_take hr.inv hm
    have := plOk_inj hk (hr.inv.lt j h2) hsl h3 (by rw [h3]; exact hne)
    have e : j = k := by rw [← hr.inv.inv j h2, this, hr.inv.inv k hl]
    omega
  · have hk0 : k ≠ 0 := fun e => ht (by subst e; simp)
    rw [img_at (by omega), hr.below k hl ht]
    exact r3 (by rw [hr.tier k hl]; exact ht)
theorem below_parts {h : Hl} (hk : hlOk h = true) {k : Nat} (ht : ¬ (k : Int) % h.t = 0) : ((k - 1 : Nat) : Int) / h.t = (k : Int) / h.t ∧ ((k - 1 : Nat) : Int) % h.t = (k : Int) % h.t - 1 := by
  obtain ⟨g1, g2, g3, g4, g5, g6⟩ := hlOk_iff.1 hk
  obtain ⟨b, r, t⟩ := h
  simp only [] at *
  clear hk
  rcases (by omega : t = 1 ∨ t = 2 ∨ t = 3) with rfl | rfl | rfl <;> constructor <;> omega
theorem mir_rows {h : Hl} (hk : hlOk h = true) {n : Nat} (hn : (n : Int) = slMany h) : Rows h n (mirS h) := by
  refine ⟨mir_inv hk hn, fun k hl => ?_, fun k hl ht => ?_⟩
  · obtain ⟨h1, h2⟩ := mirS_law hk hn hl
    rw [plOf_yes (s := ((mirS h k : Nat) : Int)) hk (by omega) (by omega), plOf_yes (s := (k : Int)) hk (by omega) (by omega)] at h2
    simp only [Prod.mk.injEq] at h2
    exact h2.2.2
  · have hk0 : k ≠ 0 := fun e => ht (by subst e; simp)
    obtain ⟨d1, d2⟩ := below_parts hk ht
    obtain ⟨p1, p2, p3, p4⟩ := plOf_in (s := (k : Int)) hk (by omega) (by omega)
    have e1 := plOf_yes (s := (k : Int)) hk (by omega) (by omega)
    have e2 := plOf_yes (s := ((k - 1 : Nat) : Int)) hk (by omega) (by omega)
    unfold mirS
    rw [e1, e2]
    simp only []
    rw [d1, d2, slOf_yes hk p1 (by omega) p3, slOf_yes hk p1 (by omega) (by omega)]
    omega
theorem trn_rows {h : Hl} (hk : hlOk h = true) {n : Nat} (hn : (n : Int) = slMany h) : Rows h n (trnS h) := by
  refine ⟨trn_inv hk hn, fun k hl => ?_, fun k hl ht => ?_⟩
  · obtain ⟨h1, h2⟩ := trnS_law hk hn hl
    rw [plOf_yes (s := ((trnS h k : Nat) : Int)) hk (by omega) (by omega), plOf_yes (s := (k : Int)) hk (by omega) (by omega)] at h2
    simp only [Prod.mk.injEq] at h2
    exact h2.2.2
  · have hk0 : k ≠ 0 := fun e => ht (by subst e; simp)
    obtain ⟨d1, d2⟩ := below_parts hk ht
    obtain ⟨p1, p2, p3, p4⟩ := plOf_in (s := (k : Int)) hk (by omega) (by omega)
    have e1 := plOf_yes (s := (k : Int)) hk (by omega) (by omega)
    have e2 := plOf_yes (s := ((k - 1 : Nat) : Int)) hk (by omega) (by omega)
    unfold trnS
    rw [e1, e2]
    simp only []
    rw [d1, d2, slOf_yes hk (by omega) p2 p3, slOf_yes hk (by omega) p2 (by omega)]
    omega
/-- With one slot changed the sum changes by that slot's part. -/
theorem wsum_set {w : Int → Int} {f : Nat → Int} {p : List Int} {k : Nat} (hl : k < p.length) (x : Int) : wsum w f (p.set k x) = wsum w f p - w (pAt p k) * f k + w x * f k := by
  unfold wsum
  rw [List.length_set]
  have : ∀ n, n ≤ p.length → ((List.range n).map fun j => w (pAt (p.set k x) j) * f j).sum = ((List.range n).map fun j => w (pAt p j) * f j).sum + if k < n then w x * f k - w (pAt p k) * f k else 0 := by
    intro n
    induction n with
    | zero => intro _; simp
    | succ n ih =>
      intro hn
      rw [List.range_succ, List.map_append, List.map_append, List.sum_append, List.sum_append, ih (by omega)]
      simp only [List.map_cons, List.map_nil, List.sum_cons, List.sum_nil]
      by_cases hkn : k = n
      · subst hkn
        rw [pAt_set_self hl, if_neg (by omega), if_pos (by omega)]
        omega
      · rw [pAt_set_ne hkn]
        by_cases hlt : k < n
        · rw [if_pos hlt, if_pos (by omega)]; omega
        · rw [if_neg hlt, if_neg (by omega)]; omega
  rw [this p.length (Nat.le_refl _), if_pos hl]
  omega
end Go.Proofs.Ytnnjphhkheocgaa
