/-
  Plain mathematics of slots of a ship. Nothing of the program.
-/
import Derived.Test.YtnnjphhkheocgaaGYd
namespace Go.Proofs.Ytnnjphhkheocgaa
set_option linter.unusedVariables false

/-- A ship: bays, rows, tiers. -/
structure Hl where
  b : Int
  r : Int
  t : Int
  deriving DecidableEq
/-- Whether a ship is valid. -/
def hlOk (h : Hl) : Bool := decide (1 ≤ h.b ∧ h.b ≤ 4 ∧ 1 ≤ h.r ∧ h.r ≤ 3 ∧ 1 ≤ h.t ∧ h.t ≤ 3)
theorem hlOk_iff {h : Hl} : hlOk h = true ↔ 1 ≤ h.b ∧ h.b ≤ 4 ∧ 1 ≤ h.r ∧ h.r ≤ 3 ∧ 1 ≤ h.t ∧ h.t ≤ 3 := decide_eq_true_iff
/-- What SlotMany gives. -/
def slMany (h : Hl) : Int := if hlOk h = true then h.b * h.r * h.t else -1
/-- What SlotOf gives. -/
def slOf (h : Hl) (x y z : Int) : Int := if hlOk h = true ∧ (0 ≤ x ∧ x ≤ h.b - 1) ∧ (0 ≤ y ∧ y ≤ h.r - 1) ∧ (0 ≤ z ∧ z ≤ h.t - 1) then (x * h.r + y) * h.t + z else -1
/-- What PlaceOf gives. -/
def plOf (h : Hl) (s : Int) : Int × Int × Int := if hlOk h = true ∧ 0 ≤ s ∧ s ≤ slMany h - 1 then (s / h.t / h.r, s / h.t % h.r, s % h.t) else (-1, -1, -1)
/-- What SlotBelow gives. -/
def slBelow (h : Hl) (s : Int) : Int := slOf h (plOf h s).1 (plOf h s).2.1 ((plOf h s).2.2 - 1)
theorem slMany_bd {h : Hl} (hk : hlOk h = true) : 1 ≤ slMany h ∧ slMany h ≤ 36 ∧ slMany h = h.b * h.r * h.t := by
  obtain ⟨h1, h2, h3, h4, h5, h6⟩ := hlOk_iff.1 hk
  obtain ⟨b, r, t⟩ := h
  simp only [] at *
  unfold slMany
  rw [if_pos hk]
  simp only []
  rcases (by omega : r = 1 ∨ r = 2 ∨ r = 3) with rfl | rfl | rfl <;> rcases (by omega : t = 1 ∨ t = 2 ∨ t = 3) with rfl | rfl | rfl <;> refine ⟨?_, ?_, trivial⟩ <;> omega
theorem slMany_bad {h : Hl} (hk : hlOk h = false) : slMany h = -1 := by unfold slMany; rw [hk]; rfl
theorem slOf_yes {h : Hl} {x y z : Int} (hk : hlOk h = true) (hx : 0 ≤ x ∧ x ≤ h.b - 1) (hy : 0 ≤ y ∧ y ≤ h.r - 1) (hz : 0 ≤ z ∧ z ≤ h.t - 1) : slOf h x y z = (x * h.r + y) * h.t + z := by unfold slOf; rw [if_pos ⟨hk, hx, hy, hz⟩]
theorem slOf_no {h : Hl} {x y z : Int} (hc : ¬ (hlOk h = true ∧ (0 ≤ x ∧ x ≤ h.b - 1) ∧ (0 ≤ y ∧ y ≤ h.r - 1) ∧ (0 ≤ z ∧ z ≤ h.t - 1))) : slOf h x y z = -1 := by unfold slOf; rw [if_neg hc]
theorem plOf_yes {h : Hl} {s : Int} (hk : hlOk h = true) (h0 : 0 ≤ s) (h1 : s ≤ slMany h - 1) : plOf h s = (s / h.t / h.r, s / h.t % h.r, s % h.t) := by unfold plOf; rw [if_pos ⟨hk, h0, h1⟩]
theorem plOf_no {h : Hl} {s : Int} (hc : ¬ (hlOk h = true ∧ 0 ≤ s ∧ s ≤ slMany h - 1)) : plOf h s = (-1, -1, -1) := by unfold plOf; rw [if_neg hc]
/-- A slot's place lies in the ship. -/
theorem plOf_in {h : Hl} {s : Int} (hk : hlOk h = true) (h0 : 0 ≤ s) (h1 : s ≤ slMany h - 1) :
    (0 ≤ s / h.t / h.r ∧ s / h.t / h.r ≤ h.b - 1) ∧ (0 ≤ s / h.t % h.r ∧ s / h.t % h.r ≤ h.r - 1) ∧ (0 ≤ s % h.t ∧ s % h.t ≤ h.t - 1) ∧ ((s / h.t / h.r) * h.r + s / h.t % h.r) * h.t + s % h.t = s := by
  rw [(slMany_bd hk).2.2] at h1
  obtain ⟨g1, g2, g3, g4, g5, g6⟩ := hlOk_iff.1 hk
  obtain ⟨b, r, t⟩ := h
  simp only [] at *
  clear hk
  rcases (by omega : r = 1 ∨ r = 2 ∨ r = 3) with rfl | rfl | rfl <;> rcases (by omega : t = 1 ∨ t = 2 ∨ t = 3) with rfl | rfl | rfl <;> refine ⟨⟨?_, ?_⟩, ⟨?_, ?_⟩, ⟨?_, ?_⟩, ?_⟩ <;> omega
/-- Slots tell places. -/
theorem pl_sl {h : Hl} {x y z : Int} (hx : 0 ≤ slOf h x y z) : plOf h (slOf h x y z) = (x, y, z) ∧ slOf h x y z < slMany h := by
  by_cases hc : hlOk h = true ∧ (0 ≤ x ∧ x ≤ h.b - 1) ∧ (0 ≤ y ∧ y ≤ h.r - 1) ∧ (0 ≤ z ∧ z ≤ h.t - 1)
  · obtain ⟨hk, hx1, hy1, hz1⟩ := hc
    rw [slOf_yes hk hx1 hy1 hz1] at hx ⊢
    have hlt : (x * h.r + y) * h.t + z < slMany h ∧ ((x * h.r + y) * h.t + z) / h.t / h.r = x ∧ ((x * h.r + y) * h.t + z) / h.t % h.r = y ∧ ((x * h.r + y) * h.t + z) % h.t = z := by
      rw [(slMany_bd hk).2.2]
      obtain ⟨g1, g2, g3, g4, g5, g6⟩ := hlOk_iff.1 hk
      obtain ⟨b, r, t⟩ := h
      simp only [] at *
      clear hk
      rcases (by omega : r = 1 ∨ r = 2 ∨ r = 3) with rfl | rfl | rfl <;> rcases (by omega : t = 1 ∨ t = 2 ∨ t = 3) with rfl | rfl | rfl <;> refine ⟨?_, ?_, ?_, ?_⟩ <;> omega
    refine ⟨?_, hlt.1⟩
    rw [plOf_yes hk hx (by omega), hlt.2.1, hlt.2.2.1, hlt.2.2.2]
  · rw [slOf_no hc] at hx; omega
/-- Places tell slots. -/
theorem sl_pl {h : Hl} {s : Int} (hk : hlOk h = true) (h0 : 0 ≤ s) (h1 : s ≤ slMany h - 1) : slOf h (plOf h s).1 (plOf h s).2.1 (plOf h s).2.2 = s := by
  obtain ⟨p1, p2, p3, p4⟩ := plOf_in hk h0 h1
  rw [plOf_yes hk h0 h1]
  simp only []
  rw [slOf_yes hk p1 p2 p3, p4]
theorem plOf_cases (h : Hl) (s : Int) : (¬ (hlOk h = true ∧ 0 ≤ s ∧ s ≤ slMany h - 1) ∧ plOf h s = (-1, -1, -1)) ∨
    (hlOk h = true ∧ 0 ≤ s ∧ s ≤ slMany h - 1 ∧ 0 ≤ (plOf h s).1 ∧ 0 ≤ (plOf h s).2.1 ∧ 0 ≤ (plOf h s).2.2 ∧ slOf h (plOf h s).1 (plOf h s).2.1 (plOf h s).2.2 = s) := by
  by_cases hc : hlOk h = true ∧ 0 ≤ s ∧ s ≤ slMany h - 1
  · obtain ⟨hk, h0, h1⟩ := hc
    obtain ⟨p1, p2, p3, p4⟩ := plOf_in hk h0 h1
    have := sl_pl hk h0 h1
    refine .inr ⟨hk, h0, h1, ?_, ?_, ?_, this⟩ <;> rw [plOf_yes hk h0 h1]
    · exact p1.1
    · exact p2.1
    · exact p3.1
  · exact .inl ⟨hc, plOf_no hc⟩
/-- Below a slot is one of the same row. -/
theorem slBelow_law (h : Hl) (s : Int) : (slBelow h s = -1 ∧ (plOf h s).2.2 ≤ 0) ∨ (0 ≤ slBelow h s ∧ plOf h (slBelow h s) = ((plOf h s).1, (plOf h s).2.1, (plOf h s).2.2 - 1)) := by
  unfold slBelow
  by_cases hx : 0 ≤ slOf h (plOf h s).1 (plOf h s).2.1 ((plOf h s).2.2 - 1)
  · exact .inr ⟨hx, (pl_sl hx).1⟩
  · left
    have hno : ¬ (hlOk h = true ∧ (0 ≤ (plOf h s).1 ∧ (plOf h s).1 ≤ h.b - 1) ∧ (0 ≤ (plOf h s).2.1 ∧ (plOf h s).2.1 ≤ h.r - 1) ∧ (0 ≤ (plOf h s).2.2 - 1 ∧ (plOf h s).2.2 - 1 ≤ h.t - 1)) := by
      rintro ⟨hk, h1, h2, h3⟩
      rw [slOf_yes hk h1 h2 h3] at hx
      obtain ⟨g1, g2, g3, g4, g5, g6⟩ := hlOk_iff.1 hk
      have m1 : 0 ≤ (plOf h s).1 * h.r := Int.mul_nonneg h1.1 (by omega)
      have m2 : 0 ≤ ((plOf h s).1 * h.r + (plOf h s).2.1) * h.t := Int.mul_nonneg (by omega) (by omega)
      omega
    refine ⟨slOf_no hno, ?_⟩
    rcases plOf_cases h s with ⟨_, e⟩ | ⟨hk, h0, h1, _⟩
    · rw [e]; simp
    · obtain ⟨p1, p2, p3, p4⟩ := plOf_in hk h0 h1
      rw [plOf_yes hk h0 h1] at hno ⊢
      simp only [] at hno ⊢
      rcases Int.lt_or_le 0 (s % h.t) with hlt | hle
      · exact absurd ⟨hk, p1, p2, by omega, by omega⟩ hno
      · exact hle
end Go.Proofs.Ytnnjphhkheocgaa
