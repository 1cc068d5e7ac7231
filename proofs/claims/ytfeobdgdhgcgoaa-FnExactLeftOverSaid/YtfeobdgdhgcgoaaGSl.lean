/-
  The program's isIndex.
  Plain mathematics of slots of a ship. Nothing of the program.
  Ships and slots: the model's HullValid, SlotMany, SlotOf, PlaceOf, SlotBelow.
  How a ship that came in reads: its three numbers.
  Ships and slots: the program's HullValid, SlotMany, SlotOf, PlaceOf, SlotBelow.
  The exact laws' own ship, and their copy of it.
-/
import Derived.Test.YtfeobdgdhgcgoaaRows
import Derived.WalkKit
import Derived.IntWalk
import Derived.Lib.Hide
import Derived.WalkSpells
import Derived.Below
import Derived.Test.YtfeobdgdhgcgoaaGYd
import Derived.Deep.RegionHeld3
import Derived.Test.YtfeobdgdhgcgoaaGBase
import Derived.ProofKit
import Derived.OpenShut
import Derived.Deep.Slices
import Derived.Deep.Fields
import Derived.ChangeSame
namespace Go.Proofs.Ytfeobdgdhgcgoaa
open Go.RowKit
set_option linter.unusedVariables false

theorem isIdx_yes (n m : Int) (w : World) (h1 : 0 ≤ n) (h2 : n < m) :
    Calls Try.prog 119 #[.int .i64 n, .int .i64 m] w fun e w' => e = .returned (.bool true) ∧ w = w' := by
  go_enter Try.func119, Try.ntmps119
  go_wp2
  go_ret
  exact ⟨rfl, rfl⟩
theorem isIdx_no (n m : Int) (w : World) (h : n < 0 ∨ m ≤ n) :
    Calls Try.prog 119 #[.int .i64 n, .int .i64 m] w fun e w' => e = .returned (.bool false) ∧ w = w' := by
  by_cases h1 : 0 ≤ n
  · have h2 : decide (n < m) = false := decide_eq_false (by omega)
    clear h
    go_enter Try.func119, Try.ntmps119
    go_wp2
    go_ret
    exact ⟨rfl, rfl⟩
  · have h2 : decide (0 ≤ n) = false := decide_eq_false h1
    clear h h1
    go_enter Try.func119, Try.ntmps119
    go_wp2
    go_ret
    exact ⟨rfl, rfl⟩
theorem isIdx_any (n m : Int) (w : World) :
    Calls Try.prog 119 #[.int .i64 n, .int .i64 m] w fun e w' => e = .returned (.bool (decide (0 ≤ n ∧ n < m))) ∧ w = w' := by
  by_cases h : 0 ≤ n ∧ n < m
  · rw [decide_eq_true h]
    exact isIdx_yes n m w h.1 h.2
  · rw [decide_eq_false h]
    exact isIdx_no n m w (by omega)
end Go.Proofs.Ytfeobdgdhgcgoaa
namespace Go.Proofs.Ytfeobdgdhgcgoaa
set_option linter.unusedVariables false

/-- A ship: bays, rows, tiers. -/
structure Hl where
  b : Int
  r : Int
  t : Int
  deriving DecidableEq
/-- Whether a ship is valid. -/
def hlOk (h : Hl) : Bool := decide (1 ≤ h.b ∧ h.b ≤ 4 ∧ 1 ≤ h.r ∧ h.r ≤ 3 ∧ 1 ≤ h.t ∧ h.t ≤ 3)
theorem hlOk_iff {h : Hl} : hlOk h = true ↔ 1 ≤ h.b ∧ h.b ≤ 4 ∧ 1 ≤ h.r ∧ h.r ≤ 3 ∧ 1 ≤ h.t ∧ h.t ≤ 3 := decide_eq_true_iff
/-- What SlotMany gives. -/
def slMany (h : Hl) : Int := if hlOk h = true then h.b * h.r * h.t else -1
/-- What SlotOf gives. -/
def slOf (h : Hl) (x y z : Int) : Int := if hlOk h = true ∧ (0 ≤ x ∧ x ≤ h.b - 1) ∧ (0 ≤ y ∧ y ≤ h.r - 1) ∧ (0 ≤ z ∧ z ≤ h.t - 1) then (x * h.r + y) * h.t + z else -1
/-- What PlaceOf gives. -/
def plOf (h : Hl) (s : Int) : Int × Int × Int := if hlOk h = true ∧ 0 ≤ s ∧ s ≤ slMany h - 1 then (s / h.t / h.r, s / h.t % h.r, s % h.t) else (-1, -1, -1)
/-- What SlotBelow gives. -/
def slBelow (h : Hl) (s : Int) : Int := slOf h (plOf h s).1 (plOf h s).2.1 ((plOf h s).2.2 - 1)
theorem slMany_bd {h : Hl} (hk : hlOk h = true) : 1 ≤ slMany h ∧ slMany h ≤ 36 ∧ slMany h = h.b * h.r * h.t := by
  obtain ⟨h1, h2, h3, h4, h5, h6⟩ := hlOk_iff.1 hk
  obtain ⟨b, r, t⟩ := h
  simp only [] at *
  unfold slMany
  rw [if_pos hk]
  simp only []
  rcases (by omega : r = 1 ∨ r = 2 ∨ r = 3) with rfl | rfl | rfl <;> rcases (by omega : t = 1 ∨ t = 2 ∨ t = 3) with rfl | rfl | rfl <;> refine ⟨?_, ?_, trivial⟩ <;> omega
theorem slMany_bad {h : Hl} (hk : hlOk h = false) : slMany h = -1 := by unfold slMany; rw [hk]; rfl
theorem slOf_yes {h : Hl} {x y z : Int} (hk : hlOk h = true) (hx : 0 ≤ x ∧ x ≤ h.b - 1) (hy : 0 ≤ y ∧ y ≤ h.r - 1) (hz : 0 ≤ z ∧ z ≤ h.t - 1) : slOf h x y z = (x * h.r + y) * h.t + z := by unfold slOf; rw [if_pos ⟨hk, hx, hy, hz⟩]
theorem slOf_no {h : Hl} {x y z : Int} (hc : ¬ (hlOk h = true ∧ (0 ≤ x ∧ x ≤ h.b - 1) ∧ (0 ≤ y ∧ y ≤ h.r - 1) ∧ (0 ≤ z ∧ z ≤ h.t - 1))) : slOf h x y z = -1 := by unfold slOf; rw [if_neg hc]
theorem plOf_yes {h : Hl} {s : Int} (hk : hlOk h = true) (h0 : 0 ≤ s) (h1 : s ≤ slMany h - 1) : plOf h s = (s / h.t / h.r, s / h.t % h.r, s % h.t) := by unfold plOf; rw [if_pos ⟨hk, h0, h1⟩]
theorem plOf_no {h : Hl} {s : Int} (hc : ¬ (hlOk h = true ∧ 0 ≤ s ∧ s ≤ slMany h - 1)) : plOf h s = (-1, -1, -1) := by unfold plOf; rw [if_neg hc]
/-- A slot's place lies in the ship. -/
theorem plOf_in {h : Hl} {s : Int} (hk : hlOk h = true) (h0 : 0 ≤ s) (h1 : s ≤ slMany h - 1) :
    (0 ≤ s / h.t / h.r ∧ s / h.t / h.r ≤ h.b - 1) ∧ (0 ≤ s / h.t % h.r ∧ s / h.t % h.r ≤ h.r - 1) ∧ (0 ≤ s % h.t ∧ s % h.t ≤ h.t - 1) ∧ ((s / h.t / h.r) * h.r + s / h.t % h.r) * h.t + s % h.t = s := by
  rw [(slMany_bd hk).2.2] at h1
  obtain ⟨g1, g2, g3, g4, g5, g6⟩ := hlOk_iff.1 hk
  obtain ⟨b, r, t⟩ := h
  simp only [] at *
  clear hk
  rcases (by omega : r = 1 ∨ r = 2 ∨ r = 3) with rfl | rfl | rfl <;> rcases (by omega : t = 1 ∨ t = 2 ∨ t = 3) with rfl | rfl | rfl <;> refine ⟨⟨?_, ?_⟩, ⟨?_, ?_⟩, ⟨?_, ?_⟩, ?_⟩ <;> omega
/-- Slots tell places. -/
theorem pl_sl {h : Hl} {x y z : Int} (hx : 0 ≤ slOf h x y z) : plOf h (slOf h x y z) = (x, y, z) ∧ slOf h x y z < slMany h := by
  by_cases hc : hlOk h = true ∧ (0 ≤ x ∧ x ≤ h.b - 1) ∧ (0 ≤ y ∧ y ≤ h.r - 1) ∧ (0 ≤ z ∧ z ≤ h.t - 1)
  · obtain ⟨hk, hx1, hy1, hz1⟩ := hc
    rw [slOf_yes hk hx1 hy1 hz1] at hx ⊢
    have hlt : (x * h.r + y) * h.t + z < slMany h ∧ ((x * h.r + y) * h.t + z) / h.t / h.r = x ∧ ((x * h.r + y) * h.t + z) / h.t % h.r = y ∧ ((x * h.r + y) * h.t + z) % h.t = z := by
      rw [(slMany_bd hk).2.2]
      obtain ⟨g1, g2, g3, g4, g5, g6⟩ := hlOk_iff.1 hk
      obtain ⟨b, r, t⟩ := h
      simp only [] at *
      clear hk
      rcases (by omega : r = 1 ∨ r = 2 ∨ r = 3) with rfl | rfl | rfl <;> rcases (by omega : t = 1 ∨ t = 2 ∨ t = 3) with rfl | rfl | rfl <;> refine ⟨?_, ?_, ?_, ?_⟩ <;> omega
    refine ⟨?_, hlt.1⟩
    rw [plOf_yes hk hx (by omega), hlt.2.1, hlt.2.2.1, hlt.2.2.2]
  · rw [slOf_no hc] at hx; omega
/-- Places tell slots. -/
theorem sl_pl {h : Hl} {s : Int} (hk : hlOk h = true) (h0 : 0 ≤ s) (h1 : s ≤ slMany h - 1) : slOf h (plOf h s).1 (plOf h s).2.1 (plOf h s).2.2 = s := by
  obtain ⟨p1, p2, p3, p4⟩ := plOf_in hk h0 h1
  rw [plOf_yes hk h0 h1]
  simp only []
  rw [slOf_yes hk p1 p2 p3, p4]
theorem plOf_cases (h : Hl) (s : Int) : (¬ (hlOk h = true ∧ 0 ≤ s ∧ s ≤ slMany h - 1) ∧ plOf h s = (-1, -1, -1)) ∨
    (hlOk h = true ∧ 0 ≤ s ∧ s ≤ slMany h - 1 ∧ 0 ≤ (plOf h s).1 ∧ 0 ≤ (plOf h s).2.1 ∧ 0 ≤ (plOf h s).2.2 ∧ slOf h (plOf h s).1 (plOf h s).2.1 (plOf h s).2.2 = s) := by
  by_cases hc : hlOk h = true ∧ 0 ≤ s ∧ s ≤ slMany h - 1
  · obtain ⟨hk, h0, h1⟩ := hc
    obtain ⟨p1, p2, p3, p4⟩ := plOf_in hk h0 h1
    have := sl_pl hk h0 h1
    refine .inr ⟨hk, h0, h1, ?_, ?_, ?_, this⟩ <;> rw [plOf_yes hk h0 h1]
    · exact p1.1
    · exact p2.1
    · exact p3.1
  · exact .inl ⟨hc, plOf_no hc⟩
/-- Below a slot is one of the same row. -/
theorem slBelow_law (h : Hl) (s : Int) : (slBelow h s = -1 ∧ (plOf h s).2.2 ≤ 0) ∨ (0 ≤ slBelow h s ∧ plOf h (slBelow h s) = ((plOf h s).1, (plOf h s).2.1, (plOf h s).2.2 - 1)) := by
  unfold slBelow
  by_cases hx : 0 ≤ slOf h (plOf h s).1 (plOf h s).2.1 ((plOf h s).2.2 - 1)
  · exact .inr ⟨hx, (pl_sl hx).1⟩
  · left
    have hno : ¬ (hlOk h = true ∧ (0 ≤ (plOf h s).1 ∧ (plOf h s).1 ≤ h.b - 1) ∧ (0 ≤ (plOf h s).2.1 ∧ (plOf h s).2.1 ≤ h.r - 1) ∧ (0 ≤ (plOf h s).2.2 - 1 ∧ (plOf h s).2.2 - 1 ≤ h.t - 1)) := by
      rintro ⟨hk, h1, h2, h3⟩
      rw [slOf_yes hk h1 h2 h3] at hx
      obtain ⟨g1, g2, g3, g4, g5, g6⟩ := hlOk_iff.1 hk
      have m1 : 0 ≤ (plOf h s).1 * h.r := Int.mul_nonneg h1.1 (by omega)
      have m2 : 0 ≤ ((plOf h s).1 * h.r + (plOf h s).2.1) * h.t := Int.mul_nonneg (by omega) (by omega)
      omega
    refine ⟨slOf_no hno, ?_⟩
    rcases plOf_cases h s with ⟨_, e⟩ | ⟨hk, h0, h1, _⟩
    · rw [e]; simp
    · obtain ⟨p1, p2, p3, p4⟩ := plOf_in hk h0 h1
      rw [plOf_yes hk h0 h1] at hno ⊢
      simp only [] at hno ⊢
      rcases Int.lt_or_le 0 (s % h.t) with hlt | hle
      · exact absurd ⟨hk, p1, p2, by omega, by omega⟩ hno
      · exact hle
end Go.Proofs.Ytfeobdgdhgcgoaa
namespace Go.Proofs.Ytfeobdgdhgcgoaa
open Go.RowKit
set_option linter.unusedVariables false

/-- A ship in a block of its own. -/
def BoxH (B : Nat) (w : World) (h : Hl) : Prop := w.heap[B]? = some (.cells #[.int .i64 h.b, .int .i64 h.r, .int .i64 h.t] 36 (0, 0))
theorem BoxH.lt {B : Nat} {w : World} {h : Hl} (hb : BoxH B w h) : B < w.heap.size := by
  unfold BoxH at hb
  rcases Nat.lt_or_ge B w.heap.size with h' | h'
  · exact h'
  · rw [Array.getElem?_eq_none h'] at hb; cases hb
theorem BoxH.c0 {B : Nat} {w : World} {h : Hl} (hb : BoxH B w h) : w.cell? ⟨B, 0, none⟩ = some (.int .i64 h.b) := by unfold BoxH at hb; simp [World.cell?, hb]
theorem BoxH.c1 {B : Nat} {w : World} {h : Hl} (hb : BoxH B w h) : w.cell? ⟨B, 1, none⟩ = some (.int .i64 h.r) := by unfold BoxH at hb; simp [World.cell?, hb]
theorem BoxH.c2 {B : Nat} {w : World} {h : Hl} (hb : BoxH B w h) : w.cell? ⟨B, 2, none⟩ = some (.int .i64 h.t) := by unfold BoxH at hb; simp [World.cell?, hb]
theorem BoxH.keep {B : Nat} {w w' : World} {h : Hl} (hb : BoxH B w h) (hk : Below w.heap.size w w') : BoxH B w' h := by
  have := hb.lt
  unfold BoxH at hb ⊢
  rw [hk.block B this]; exact hb
theorem BoxH.new (w : World) (h : Hl) : BoxH w.heap.size (w.alloc (.cells #[.int .i64 h.b, .int .i64 h.r, .int .i64 h.t] 36)) h := by
  show (w.heap.push _)[w.heap.size]? = _
  simp
theorem mul_bd {h : Hl} (hk : hlOk h = true) : 1 ≤ h.b * h.r ∧ h.b * h.r ≤ 12 ∧ 1 ≤ h.b * h.r * h.t ∧ h.b * h.r * h.t ≤ 36 := by
  obtain ⟨h1, h2, h3, h4, h5, h6⟩ := hlOk_iff.1 hk
  obtain ⟨b, r, t⟩ := h
  simp only [] at *
  clear hk
  rcases (by omega : r = 1 ∨ r = 2 ∨ r = 3) with rfl | rfl | rfl <;> rcases (by omega : t = 1 ∨ t = 2 ∨ t = 3) with rfl | rfl | rfl <;> refine ⟨?_, ?_, ?_, ?_⟩ <;> omega
theorem slot_bd {h : Hl} {x y z : Int} (hk : hlOk h = true) (hx : 0 ≤ x ∧ x ≤ h.b - 1) (hy : 0 ≤ y ∧ y ≤ h.r - 1) (hz : 0 ≤ z ∧ z ≤ h.t - 1) : 0 ≤ x * h.r ∧ x * h.r ≤ 9 ∧ 0 ≤ x * h.r + y ∧ x * h.r + y ≤ 11 ∧ 0 ≤ (x * h.r + y) * h.t ∧ (x * h.r + y) * h.t ≤ 33 := by
  obtain ⟨h1, h2, h3, h4, h5, h6⟩ := hlOk_iff.1 hk
  obtain ⟨b, r, t⟩ := h
  simp only [] at *
  clear hk
  rcases (by omega : r = 1 ∨ r = 2 ∨ r = 3) with rfl | rfl | rfl <;> rcases (by omega : t = 1 ∨ t = 2 ∨ t = 3) with rfl | rfl | rfl <;> refine ⟨?_, ?_, ?_, ?_, ?_, ?_⟩ <;> omega
theorem specHullValid_any (h : Hl) (w : World) :
    Calls Try.prog 66 #[.agg #[.int .i64 h.b, .int .i64 h.r, .int .i64 h.t]] w fun e w' => e = .returned (.bool (hlOk h)) ∧ Below w.heap.size w w' := by
  have hb : ∀ o, Below w.heap.size w (w.alloc o) := fun o => (Below.refl _ _).alloc (Nat.le_refl _) o
  have HB := Lib.hid hb
  clear hb
  by_cases h0 : 1 ≤ h.b ∧ h.b ≤ 4
  · by_cases h1 : 1 ≤ h.r ∧ h.r ≤ 3
    · by_cases h2 : 1 ≤ h.t ∧ h.t ≤ 3
      · rw [show hlOk h = true from decide_eq_true (by omega)]
        go_enter Try.func66, Try.ntmps66
        go_wp2_with fail
        refine (l1In_yes h.b 1 4 _ h0.1 h0.2).mono ?_
        rintro e w' ⟨rfl, rfl⟩
        go_wp2_with fail
        refine (l1In_yes h.r 1 3 _ h1.1 h1.2).mono ?_
        rintro e w' ⟨rfl, rfl⟩
        go_wp2_with fail
        refine (l1In_yes h.t 1 3 _ h2.1 h2.2).mono ?_
        rintro e w' ⟨rfl, rfl⟩
        go_wp2_with fail
        go_ret
        exact ⟨rfl, HB.out _⟩
      · rw [show hlOk h = false from decide_eq_false (by omega)]
        go_enter Try.func66, Try.ntmps66
        go_wp2_with fail
        refine (l1In_yes h.b 1 4 _ h0.1 h0.2).mono ?_
        rintro e w' ⟨rfl, rfl⟩
        go_wp2_with fail
        refine (l1In_yes h.r 1 3 _ h1.1 h1.2).mono ?_
        rintro e w' ⟨rfl, rfl⟩
        go_wp2_with fail
        refine (l1In_no h.t 1 3 _ (by omega)).mono ?_
        rintro e w' ⟨rfl, rfl⟩
        go_wp2_with fail
        go_ret
        exact ⟨rfl, HB.out _⟩
    · rw [show hlOk h = false from decide_eq_false (by omega)]
      go_enter Try.func66, Try.ntmps66
      go_wp2_with fail
      refine (l1In_yes h.b 1 4 _ h0.1 h0.2).mono ?_
      rintro e w' ⟨rfl, rfl⟩
      go_wp2_with fail
      refine (l1In_no h.r 1 3 _ (by omega)).mono ?_
      rintro e w' ⟨rfl, rfl⟩
      go_wp2_with fail
      go_ret
      exact ⟨rfl, HB.out _⟩
  · rw [show hlOk h = false from decide_eq_false (by omega)]
    go_enter Try.func66, Try.ntmps66
    go_wp2_with fail
    refine (l1In_no h.b 1 4 _ (by omega)).mono ?_
    rintro e w' ⟨rfl, rfl⟩
    go_wp2_with fail
    go_ret
    exact ⟨rfl, HB.out _⟩

set_option maxRecDepth 10000 in
set_option maxHeartbeats 1000000 in
theorem specSlotMany_any (h : Hl) (w : World) :
    Calls Try.prog 67 #[.agg #[.int .i64 h.b, .int .i64 h.r, .int .i64 h.t]] w fun e w' => e = .returned (.int .i64 (slMany h)) ∧ Below w.heap.size w w' := by
  have hb1 := (Below.refl w.heap.size w).alloc (Nat.le_refl _) (.cells #[.int .i64 h.b, .int .i64 h.r, .int .i64 h.t] 36)
  have hx1 := BoxH.new w h
  obtain ⟨W1, hW1⟩ : ∃ W1, W1 = w.alloc (.cells #[.int .i64 h.b, .int .i64 h.r, .int .i64 h.t] 36) := ⟨_, rfl⟩
  rw [← hW1] at hb1 hx1
  have HW := Lib.hid hW1
  have HB := Lib.hid hb1
  have y0 := hx1.c0
  have y1 := hx1.c1
  have y2 := hx1.c2
  have HX := Lib.hid fun (w' : World) (hs : Below W1.heap.size W1 w') => hx1.keep hs
  have HV := Lib.hid fun w => specHullValid_any h w
  clear hW1 hb1 hx1
  cases hk : hlOk h
  · rw [slMany_bad hk]
    rw [hk] at HV
    clear hk
    go_enter Try.func67, Try.ntmps67
    go_wp2_with fail
    rw [← HW.out]
    go_wp2_with fail
    refine (HV.out W1).mono ?_
    rintro e w2 ⟨rfl, b2⟩
    have C2 := HB.out.trans (b2.mono HB.out.size)
    go_wp2_with fail
    go_ret
    exact ⟨rfl, C2⟩
  · obtain ⟨m0, m1, m2, m3⟩ := mul_bd hk
    rw [(slMany_bd hk).2.2]
    rw [hk] at HV
    have z1 : IntKind.i64.wrap (h.b * h.r) = h.b * h.r := IntWalk.i64_in _ (by omega)
    have z2 : IntKind.i64.wrap (h.b * h.r * h.t) = h.b * h.r * h.t := IntWalk.i64_in _ (by omega)
    clear hk
    go_enter Try.func67, Try.ntmps67
    go_wp2_with fail
    rw [← HW.out]
    go_wp2_with fail
    refine (HV.out W1).mono ?_
    rintro e w2 ⟨rfl, b2⟩
    have C2 := HB.out.trans (b2.mono HB.out.size)
    have x2 := HX.out w2 b2
    have c0 := x2.c0
    have c1 := x2.c1
    have c2 := x2.c2
    clear x2 y0 y1 y2
    go_wp2_with fail
    go_ret
    exact ⟨rfl, C2⟩

set_option maxRecDepth 10000 in
set_option maxHeartbeats 1000000 in
theorem specSlotOf_any (h : Hl) (x y z : Int) (w : World) :
    Calls Try.prog 93 #[.agg #[.int .i64 h.b, .int .i64 h.r, .int .i64 h.t], .int .i64 x, .int .i64 y, .int .i64 z] w fun e w' => e = .returned (.int .i64 (slOf h x y z)) ∧ Below w.heap.size w w' := by
  have hb1 := (Below.refl w.heap.size w).alloc (Nat.le_refl _) (.cells #[.int .i64 h.b, .int .i64 h.r, .int .i64 h.t] 36)
  have hx1 := BoxH.new w h
  obtain ⟨W1, hW1⟩ : ∃ W1, W1 = w.alloc (.cells #[.int .i64 h.b, .int .i64 h.r, .int .i64 h.t] 36) := ⟨_, rfl⟩
  rw [← hW1] at hb1 hx1
  have HW := Lib.hid hW1
  have HB := Lib.hid hb1
  have y0 := hx1.c0
  have y1 := hx1.c1
  have y2 := hx1.c2
  have HX := Lib.hid fun (w' : World) (hs : Below W1.heap.size W1 w') => hx1.keep hs
  have HV := Lib.hid fun w => specHullValid_any h w
  clear hW1 hb1 hx1
  cases hk : hlOk h
  · rw [slOf_no (fun hc => by rw [hk] at hc; cases hc.1)]
    rw [hk] at HV
    clear hk
    go_enter Try.func93, Try.ntmps93
    go_wp2_with fail
    rw [← HW.out]
    go_wp2_with fail
    refine (HV.out W1).mono ?_
    rintro e w2 ⟨rfl, b2⟩
    have C2 := HB.out.trans (b2.mono HB.out.size)
    go_wp2_with fail
    go_ret
    exact ⟨rfl, C2⟩
  · obtain ⟨g1, g2, g3, g4, g5, g6⟩ := hlOk_iff.1 hk
    have zb : IntKind.i64.wrap (h.b - 1) = h.b - 1 := IntWalk.i64_in _ (by omega)
    have zr : IntKind.i64.wrap (h.r - 1) = h.r - 1 := IntWalk.i64_in _ (by omega)
    have zt : IntKind.i64.wrap (h.t - 1) = h.t - 1 := IntWalk.i64_in _ (by omega)
    rw [hk] at HV
    by_cases hx : 0 ≤ x ∧ x ≤ h.b - 1
    · by_cases hy : 0 ≤ y ∧ y ≤ h.r - 1
      · by_cases hz : 0 ≤ z ∧ z ≤ h.t - 1
        · rw [slOf_yes hk hx hy hz]
          obtain ⟨s0, s1, s2, s3, s4, s5⟩ := slot_bd hk hx hy hz
          have e1 : IntKind.i64.wrap (x * h.r) = x * h.r := IntWalk.i64_in _ (by omega)
          have e2 : IntKind.i64.wrap (x * h.r + y) = x * h.r + y := IntWalk.i64_in _ (by omega)
          have e3 : IntKind.i64.wrap ((x * h.r + y) * h.t) = (x * h.r + y) * h.t := IntWalk.i64_in _ (by omega)
          have e4 : IntKind.i64.wrap ((x * h.r + y) * h.t + z) = (x * h.r + y) * h.t + z := IntWalk.i64_in _ (by omega)
          clear hk
          go_enter Try.func93, Try.ntmps93
          go_wp2_with fail
          rw [← HW.out]
          go_wp2_with fail
          refine (HV.out W1).mono ?_
          rintro e w2 ⟨rfl, b2⟩
          have C2 := HB.out.trans (b2.mono HB.out.size)
          have x2 := HX.out w2 b2
          have c0 := x2.c0
          have c1 := x2.c1
          have c2 := x2.c2
          clear x2 y0 y1 y2
          go_wp2_with fail
          refine (l1In_yes x 0 (h.b - 1) _ hx.1 hx.2).mono ?_
          rintro e w' ⟨rfl, rfl⟩
          go_wp2_with fail
          refine (l1In_yes y 0 (h.r - 1) _ hy.1 hy.2).mono ?_
          rintro e w' ⟨rfl, rfl⟩
          go_wp2_with fail
          refine (l1In_yes z 0 (h.t - 1) _ hz.1 hz.2).mono ?_
          rintro e w' ⟨rfl, rfl⟩
          go_wp2_with fail
          go_ret
          exact ⟨rfl, C2⟩
        · rw [slOf_no (fun hc => hz hc.2.2.2)]
          clear hk
          go_enter Try.func93, Try.ntmps93
          go_wp2_with fail
          rw [← HW.out]
          go_wp2_with fail
          refine (HV.out W1).mono ?_
          rintro e w2 ⟨rfl, b2⟩
          have C2 := HB.out.trans (b2.mono HB.out.size)
          have x2 := HX.out w2 b2
          have c0 := x2.c0
          have c1 := x2.c1
          have c2 := x2.c2
          clear x2 y0 y1 y2
          go_wp2_with fail
          refine (l1In_yes x 0 (h.b - 1) _ hx.1 hx.2).mono ?_
          rintro e w' ⟨rfl, rfl⟩
          go_wp2_with fail
          refine (l1In_yes y 0 (h.r - 1) _ hy.1 hy.2).mono ?_
          rintro e w' ⟨rfl, rfl⟩
          go_wp2_with fail
          refine (l1In_no z 0 (h.t - 1) _ (by omega)).mono ?_
          rintro e w' ⟨rfl, rfl⟩
          go_wp2_with fail
          go_ret
          exact ⟨rfl, C2⟩
      · rw [slOf_no (fun hc => hy hc.2.2.1)]
        clear hk
        go_enter Try.func93, Try.ntmps93
        go_wp2_with fail
        rw [← HW.out]
        go_wp2_with fail
        refine (HV.out W1).mono ?_
        rintro e w2 ⟨rfl, b2⟩
        have C2 := HB.out.trans (b2.mono HB.out.size)
        have x2 := HX.out w2 b2
        have c0 := x2.c0
        have c1 := x2.c1
        have c2 := x2.c2
        clear x2 y0 y1 y2
        go_wp2_with fail
        refine (l1In_yes x 0 (h.b - 1) _ hx.1 hx.2).mono ?_
        rintro e w' ⟨rfl, rfl⟩
        go_wp2_with fail
        refine (l1In_no y 0 (h.r - 1) _ (by omega)).mono ?_
        rintro e w' ⟨rfl, rfl⟩
        go_wp2_with fail
        go_ret
        exact ⟨rfl, C2⟩
    · rw [slOf_no (fun hc => hx hc.2.1)]
      clear hk
      go_enter Try.func93, Try.ntmps93
      go_wp2_with fail
      rw [← HW.out]
      go_wp2_with fail
      refine (HV.out W1).mono ?_
      rintro e w2 ⟨rfl, b2⟩
      have C2 := HB.out.trans (b2.mono HB.out.size)
      have x2 := HX.out w2 b2
      have c0 := x2.c0
      have c1 := x2.c1
      have c2 := x2.c2
      clear x2 y0 y1 y2
      go_wp2_with fail
      refine (l1In_no x 0 (h.b - 1) _ (by omega)).mono ?_
      rintro e w' ⟨rfl, rfl⟩
      go_wp2_with fail
      go_ret
      exact ⟨rfl, C2⟩

set_option maxRecDepth 10000 in
set_option maxHeartbeats 1000000 in
theorem specPlaceOf_any (h : Hl) (s : Int) (w : World) :
    Calls Try.prog 92 #[.agg #[.int .i64 h.b, .int .i64 h.r, .int .i64 h.t], .int .i64 s] w fun e w' => e = .returned (.tuple #[.int .i64 (plOf h s).1, .int .i64 (plOf h s).2.1, .int .i64 (plOf h s).2.2]) ∧ Below w.heap.size w w' := by
  have hb1 := (Below.refl w.heap.size w).alloc (Nat.le_refl _) (.cells #[.int .i64 h.b, .int .i64 h.r, .int .i64 h.t] 36)
  have hx1 := BoxH.new w h
  obtain ⟨W1, hW1⟩ : ∃ W1, W1 = w.alloc (.cells #[.int .i64 h.b, .int .i64 h.r, .int .i64 h.t] 36) := ⟨_, rfl⟩
  rw [← hW1] at hb1 hx1
  have HW := Lib.hid hW1
  have HB := Lib.hid hb1
  have y0 := hx1.c0
  have y1 := hx1.c1
  have y2 := hx1.c2
  have HX := Lib.hid fun (w' : World) (hs : Below W1.heap.size W1 w') => hx1.keep hs
  have HV := Lib.hid fun w => specHullValid_any h w
  clear hW1 hb1 hx1
  cases hk : hlOk h
  · rw [plOf_no (fun hc => by rw [hk] at hc; cases hc.1)]
    rw [hk] at HV
    clear hk
    go_enter Try.func92, Try.ntmps92
    go_wp2_with fail
    rw [← HW.out]
    go_wp2_with fail
    refine (HV.out W1).mono ?_
    rintro e w2 ⟨rfl, b2⟩
    have C2 := HB.out.trans (b2.mono HB.out.size)
    have C9 := C2
    go_wp2_with fail
    exact bodyPost_ret (v := .tuple #[.int .i64 (-1), .int .i64 (-1), .int .i64 (-1)]) (by simp [results, Try.results92, go_sem]) rfl ⟨rfl, C9⟩
  · obtain ⟨g1, g2, g3, g4, g5, g6⟩ := hlOk_iff.1 hk
    obtain ⟨m1, m2, -⟩ := slMany_bd hk
    have zm : IntKind.i64.wrap (slMany h - 1) = slMany h - 1 := IntWalk.i64_in _ (by omega)
    rw [hk] at HV
    by_cases hs : 0 ≤ s ∧ s ≤ slMany h - 1
    · rw [plOf_yes hk hs.1 hs.2]
      obtain ⟨p1, p2, p3, -⟩ := plOf_in hk hs.1 hs.2
      have hs0 := hs.1
      have hs36 : s ≤ 35 := by omega
      have d0 : 0 ≤ s / h.t := Int.ediv_nonneg hs0 (by omega)
      have d1 : s / h.t ≤ 35 := Int.le_trans (Int.ediv_le_self _ hs0) hs36
      have nt : ¬ h.t = 0 := by omega
      have nr : ¬ h.r = 0 := by omega
      have t1 : s.tdiv h.t = s / h.t := Int.tdiv_eq_ediv_of_nonneg hs0
      have t2 : s.tmod h.t = s % h.t := Int.tmod_eq_emod_of_nonneg hs0
      have t3 : (s / h.t).tdiv h.r = s / h.t / h.r := Int.tdiv_eq_ediv_of_nonneg d0
      have t4 : (s / h.t).tmod h.r = s / h.t % h.r := Int.tmod_eq_emod_of_nonneg d0
      have e1 : IntKind.i64.wrap (s / h.t) = s / h.t := IntWalk.i64_in _ (by omega)
      have e2 : IntKind.i64.wrap (s / h.t / h.r) = s / h.t / h.r := IntWalk.i64_in _ (by omega)
      have e3 : IntKind.i64.wrap (s / h.t % h.r) = s / h.t % h.r := IntWalk.i64_in _ (by omega)
      have e4 : IntKind.i64.wrap (s % h.t) = s % h.t := IntWalk.i64_in _ (by omega)
      clear hk
      go_enter Try.func92, Try.ntmps92
      go_wp2_with fail
      rw [← HW.out]
      go_wp2_with fail
      refine (HV.out W1).mono ?_
      rintro e w2 ⟨rfl, b2⟩
      have C2 := HB.out.trans (b2.mono HB.out.size)
      have HM := Lib.hid (specSlotMany_any h w2)
      have x2 := HX.out w2 b2
      have c0 := x2.c0
      have c1 := x2.c1
      have c2 := x2.c2
      clear y0 y1 y2
      go_wp2_with fail
      refine HM.out.mono ?_
      rintro e w3 ⟨rfl, b3⟩
      have C9 := C2.trans (b3.mono C2.size)
      have x3 := x2.keep b3
      have c0 := x3.c0
      have c1 := x3.c1
      have c2 := x3.c2
      clear x2 x3
      go_wp2_with fail
      refine (l1In_yes s 0 (slMany h - 1) _ hs.1 hs.2).mono ?_
      rintro e w' ⟨rfl, rfl⟩
      go_wp2_with fail
      have hstart : w3.drew.cell? ⟨w.heap.size, 0, none⟩ = some (.int .i64 h.b) ∧ w3.drew.cell? ⟨w.heap.size, 1, none⟩ = some (.int .i64 h.r) ∧ w3.drew.cell? ⟨w.heap.size, 2, none⟩ = some (.int .i64 h.t) := ⟨c0, c1, c2⟩
      have C9 := C9.drew
      go_region_held3 (fun w' => w'.cell? ⟨w.heap.size, 0, none⟩ = some (.int .i64 h.b) ∧ w'.cell? ⟨w.heap.size, 1, none⟩ = some (.int .i64 h.r) ∧ w'.cell? ⟨w.heap.size, 2, none⟩ = some (.int .i64 h.t)) (first | exact hstart | fail) (fail)
      go_wp2_with fail
      exact bodyPost_ret (v := .tuple #[.int .i64 (s / h.t / h.r), .int .i64 (s / h.t % h.r), .int .i64 (s % h.t)]) (by simp [results, Try.results92, go_sem]) rfl ⟨rfl, C9⟩
    · rw [plOf_no (fun hc => hs hc.2)]
      clear hk
      go_enter Try.func92, Try.ntmps92
      go_wp2_with fail
      rw [← HW.out]
      go_wp2_with fail
      refine (HV.out W1).mono ?_
      rintro e w2 ⟨rfl, b2⟩
      have C2 := HB.out.trans (b2.mono HB.out.size)
      have HM := Lib.hid (specSlotMany_any h w2)
      have x2 := HX.out w2 b2
      have c0 := x2.c0
      have c1 := x2.c1
      have c2 := x2.c2
      clear y0 y1 y2
      go_wp2_with fail
      refine HM.out.mono ?_
      rintro e w3 ⟨rfl, b3⟩
      have C9 := C2.trans (b3.mono C2.size)
      have x3 := x2.keep b3
      have c0 := x3.c0
      have c1 := x3.c1
      have c2 := x3.c2
      clear x2 x3
      go_wp2_with fail
      refine (l1In_no s 0 (slMany h - 1) _ (by omega)).mono ?_
      rintro e w' ⟨rfl, rfl⟩
      go_wp2_with fail
      exact bodyPost_ret (v := .tuple #[.int .i64 (-1), .int .i64 (-1), .int .i64 (-1)]) (by simp [results, Try.results92, go_sem]) rfl ⟨rfl, C9⟩

set_option maxRecDepth 10000 in
set_option maxHeartbeats 1000000 in
theorem specSlotBelow_any (h : Hl) (s : Int) (w : World) :
    Calls Try.prog 68 #[.agg #[.int .i64 h.b, .int .i64 h.r, .int .i64 h.t], .int .i64 s] w fun e w' => e = .returned (.int .i64 (slBelow h s)) ∧ Below w.heap.size w w' := by
  have hb1 := (Below.refl w.heap.size w).alloc (Nat.le_refl _) (.cells #[.int .i64 h.b, .int .i64 h.r, .int .i64 h.t] 36)
  have hx1 := BoxH.new w h
  obtain ⟨W1, hW1⟩ : ∃ W1, W1 = w.alloc (.cells #[.int .i64 h.b, .int .i64 h.r, .int .i64 h.t] 36) := ⟨_, rfl⟩
  rw [← hW1] at hb1 hx1
  have HW := Lib.hid hW1
  have HB := Lib.hid hb1
  have y0 := hx1.c0
  have y1 := hx1.c1
  have y2 := hx1.c2
  have HX := Lib.hid fun (w' : World) (hs : Below W1.heap.size W1 w') => hx1.keep hs
  have HV := Lib.hid fun w => specHullValid_any h w
  clear hW1 hb1 hx1
  have HP := Lib.hid (specPlaceOf_any h s W1)
  have hbd : -1 ≤ (plOf h s).2.2 ∧ (plOf h s).2.2 ≤ 2 := by
    rcases plOf_cases h s with ⟨_, e⟩ | ⟨hk, h0, h1, _, _, _, _⟩
    · rw [e]; simp
    · obtain ⟨_, _, p3, _⟩ := plOf_in hk h0 h1
      obtain ⟨g1, g2, g3, g4, g5, g6⟩ := hlOk_iff.1 hk
      rw [plOf_yes hk h0 h1]
      simp only []
      omega
  unfold slBelow
  generalize plOf h s = p at HP hbd ⊢
  obtain ⟨x, y, z⟩ := p
  have hbd : -1 ≤ z ∧ z ≤ 2 := hbd
  have HP' : Hid (Calls Try.prog 92 #[.agg #[.int .i64 h.b, .int .i64 h.r, .int .i64 h.t], .int .i64 s] W1 fun e w' => e = .returned (.tuple #[.int .i64 x, .int .i64 y, .int .i64 z]) ∧ Below W1.heap.size W1 w') := HP
  have zz : IntKind.i64.wrap (z - 1) = z - 1 := IntWalk.i64_in _ (by omega)
  have HS := Lib.hid fun w => specSlotOf_any h x y (z - 1) w
  clear HP HV
  go_enter Try.func68, Try.ntmps68
  go_wp2_with fail
  rw [← HW.out]
  go_wp2_with fail
  refine HP'.out.mono ?_
  rintro e w2 ⟨rfl, b2⟩
  have C2 := HB.out.trans (b2.mono HB.out.size)
  have x2 := HX.out w2 b2
  have c0 := x2.c0
  have c1 := x2.c1
  have c2 := x2.c2
  clear x2 y0 y1 y2
  go_wp2_with fail
  refine (HS.out w2).mono ?_
  rintro e w3 ⟨rfl, b3⟩
  go_wp2_with fail
  go_ret
  exact ⟨rfl, C2.trans (b3.mono C2.size)⟩

end Go.Proofs.Ytfeobdgdhgcgoaa
namespace Go.Proofs.Ytfeobdgdhgcgoaa
open Go.ChangeShapes Go.WideShapes Go.Deep Go.RowKit
set_option linter.unusedVariables false

/-- The numbers of a ship that came in. -/
def HlFits (h : Hl) : Prop := (Lit.int .i64 h.b).wf = true ∧ (Lit.int .i64 h.r).wf = true ∧ (Lit.int .i64 h.t).wf = true
section
variable {H : Type} {enc : TypeId × Value → H} {w : World} {base : Nat} {spare : Nat → Bool} {held : Bool}

set_option maxRecDepth 20000 in
theorem hull_cells {T : TypeId} {fs : Array Field} {fuel : Nat} {cs : List Value} {x : DataW H × List MemPlace} (hs : Try.prog.underlying T = some (.struct fs)) (hone : oneCellFields Try.prog fs = true) (hC : Try.prog.cellsOf T = 3)
    (hty : fs.map (·.type) = #[3, 3, 3]) (h : DataW.trod enc Try.prog w base spare held fuel T cs = some x) : ∃ hl : Hl, cs = [.int .i64 hl.b, .int .i64 hl.r, .int .i64 hl.t] ∧ HlFits hl := by
  obtain ⟨xs, n, _, hx, hlen, hxl, hg⟩ := DataW.trod_struct hs h
  obtain ⟨l⟩ := fs
  have hl : l.length = 3 := by have := congrArg Array.size hty; simpa using this
  match l, hl with
  | [f0, f1, f2], _ =>
    simp at hty
    obtain ⟨t0, t1, t2⟩ := hty
    match cs, hlen.trans hC with
    | [c0, c1, c2], _ =>
      match xs, hxl with
      | [y0, y1, y2], _ =>
        obtain ⟨o0, k0⟩ := hone_of hone 0 f0 rfl
        obtain ⟨o1, k1⟩ := hone_of hone 1 f1 rfl
        obtain ⟨o2, k2⟩ := hone_of hone 2 f2 rfl
        have g0 := hg 0 f0 rfl
        have g1 := hg 1 f1 rfl
        have g2 := hg 2 f2 rfl
        rw [o0, k0, t0] at g0
        rw [o1, k1, t1] at g1
        rw [o2, k2, t2] at g2
        obtain ⟨a0, e0, _, w0⟩ := DataW.trod_int Try.underlying3 (show DataW.trod enc Try.prog w base spare held n 3 [c0] = some y0 from g0)
        obtain ⟨a1, e1, _, w1⟩ := DataW.trod_int Try.underlying3 (show DataW.trod enc Try.prog w base spare held n 3 [c1] = some y1 from g1)
        obtain ⟨a2, e2, _, w2⟩ := DataW.trod_int Try.underlying3 (show DataW.trod enc Try.prog w base spare held n 3 [c2] = some y2 from g2)
        simp only [List.cons.injEq, and_true] at e0 e1 e2
        subst e0 e1 e2
        exact ⟨⟨a0, a1, a2⟩, rfl, w0, w1, w2⟩

set_option maxRecDepth 20000 in
/-- A ship by value. -/
theorem hull_value {T : TypeId} {fs : Array Field} {r : Reach} {b0 : Nat} {v : Value} {d : DataW H} {p : List MemPlace} (hs : Try.prog.underlying T = some (.struct fs)) (hone : oneCellFields Try.prog fs = true) (hC : Try.prog.cellsOf T = 3)
    (hty : fs.map (·.type) = #[3, 3, 3]) (hv : Value.okWide Try.prog w r b0 T v) (h : DataW.Trod enc Try.prog w base spare held T v d p) :
    ∃ hl : Hl, v = .agg #[.int .i64 hl.b, .int .i64 hl.r, .int .i64 hl.t] ∧ HlFits hl := by
  obtain ⟨cs, rfl, hsz⟩ := okWide_struct hs hv
  obtain ⟨fuel, hf⟩ := h
  obtain ⟨hl, hb, hw⟩ := hull_cells hs hone hC hty hf
  refine ⟨hl, ?_, hw⟩
  congr 1
  apply Array.toList_inj.1
  simpa [Value.cells] using hb
end
end Go.Proofs.Ytfeobdgdhgcgoaa
namespace Go.Proofs.Ytfeobdgdhgcgoaa
open Go.RowKit
set_option linter.unusedVariables false

set_option maxRecDepth 10000 in
set_option maxHeartbeats 1000000 in
theorem implHullValid_any (h : Hl) (w : World) :
    Calls Try.prog 53 #[.agg #[.int .i64 h.b, .int .i64 h.r, .int .i64 h.t]] w fun e w' => e = .returned (.bool (hlOk h)) ∧ Below w.heap.size w w' := by
  have hb := (Below.refl w.heap.size w).alloc (Nat.le_refl _) (.cells #[.int .i64 h.b, .int .i64 h.r, .int .i64 h.t] 36)
  have HB := Lib.hid hb
  clear hb
  by_cases h0 : 1 ≤ h.b
  · by_cases h1 : h.b ≤ 4
    · by_cases h2 : 1 ≤ h.r
      · by_cases h3 : h.r ≤ 3
        · by_cases h4 : 1 ≤ h.t
          · by_cases h5 : h.t ≤ 3
            · rw [show hlOk h = true from decide_eq_true (by omega)]
              have d0 : decide (1 ≤ h.b) = true := decide_eq_true h0
              have d1 : decide (h.b ≤ 4) = true := decide_eq_true h1
              have d2 : decide (1 ≤ h.r) = true := decide_eq_true h2
              have d3 : decide (h.r ≤ 3) = true := decide_eq_true h3
              have d4 : decide (1 ≤ h.t) = true := decide_eq_true h4
              have d5 : decide (h.t ≤ 3) = true := decide_eq_true h5
              clear h0 h1 h2 h3 h4 h5
              go_enter Try.func53, Try.ntmps53
              go_wp2_with fail
              go_ret
              exact ⟨rfl, HB.out⟩
            · rw [show hlOk h = false from decide_eq_false (by omega)]
              have d0 : decide (1 ≤ h.b) = true := decide_eq_true h0
              have d1 : decide (h.b ≤ 4) = true := decide_eq_true h1
              have d2 : decide (1 ≤ h.r) = true := decide_eq_true h2
              have d3 : decide (h.r ≤ 3) = true := decide_eq_true h3
              have d4 : decide (1 ≤ h.t) = true := decide_eq_true h4
              have d5 : decide (h.t ≤ 3) = false := decide_eq_false h5
              clear h0 h1 h2 h3 h4 h5
              go_enter Try.func53, Try.ntmps53
              go_wp2_with fail
              go_ret
              exact ⟨rfl, HB.out⟩
          · rw [show hlOk h = false from decide_eq_false (by omega)]
            have d0 : decide (1 ≤ h.b) = true := decide_eq_true h0
            have d1 : decide (h.b ≤ 4) = true := decide_eq_true h1
            have d2 : decide (1 ≤ h.r) = true := decide_eq_true h2
            have d3 : decide (h.r ≤ 3) = true := decide_eq_true h3
            have d4 : decide (1 ≤ h.t) = false := decide_eq_false h4
            clear h0 h1 h2 h3 h4
            go_enter Try.func53, Try.ntmps53
            go_wp2_with fail
            go_ret
            exact ⟨rfl, HB.out⟩
        · rw [show hlOk h = false from decide_eq_false (by omega)]
          have d0 : decide (1 ≤ h.b) = true := decide_eq_true h0
          have d1 : decide (h.b ≤ 4) = true := decide_eq_true h1
          have d2 : decide (1 ≤ h.r) = true := decide_eq_true h2
          have d3 : decide (h.r ≤ 3) = false := decide_eq_false h3
          clear h0 h1 h2 h3
          go_enter Try.func53, Try.ntmps53
          go_wp2_with fail
          go_ret
          exact ⟨rfl, HB.out⟩
      · rw [show hlOk h = false from decide_eq_false (by omega)]
        have d0 : decide (1 ≤ h.b) = true := decide_eq_true h0
        have d1 : decide (h.b ≤ 4) = true := decide_eq_true h1
        have d2 : decide (1 ≤ h.r) = false := decide_eq_false h2
        clear h0 h1 h2
        go_enter Try.func53, Try.ntmps53
        go_wp2_with fail
        go_ret
        exact ⟨rfl, HB.out⟩
    · rw [show hlOk h = false from decide_eq_false (by omega)]
      have d0 : decide (1 ≤ h.b) = true := decide_eq_true h0
      have d1 : decide (h.b ≤ 4) = false := decide_eq_false h1
      clear h0 h1
      go_enter Try.func53, Try.ntmps53
      go_wp2_with fail
      go_ret
      exact ⟨rfl, HB.out⟩
  · rw [show hlOk h = false from decide_eq_false (by omega)]
    have d0 : decide (1 ≤ h.b) = false := decide_eq_false h0
    clear h0
    go_enter Try.func53, Try.ntmps53
    go_wp2_with fail
    go_ret
    exact ⟨rfl, HB.out⟩

set_option maxRecDepth 10000 in
set_option maxHeartbeats 1000000 in
theorem implSlotMany_any (h : Hl) (w : World) :
    Calls Try.prog 24 #[.agg #[.int .i64 h.b, .int .i64 h.r, .int .i64 h.t]] w fun e w' => e = .returned (.int .i64 (slMany h)) ∧ Below w.heap.size w w' := by
  have hb1 := (Below.refl w.heap.size w).alloc (Nat.le_refl _) (.cells #[.int .i64 h.b, .int .i64 h.r, .int .i64 h.t] 36)
  have hx1 := BoxH.new w h
  obtain ⟨W1, hW1⟩ : ∃ W1, W1 = w.alloc (.cells #[.int .i64 h.b, .int .i64 h.r, .int .i64 h.t] 36) := ⟨_, rfl⟩
  rw [← hW1] at hb1 hx1
  have HW := Lib.hid hW1
  have HB := Lib.hid hb1
  have y0 := hx1.c0
  have y1 := hx1.c1
  have y2 := hx1.c2
  have HX := Lib.hid fun (w' : World) (hs : Below W1.heap.size W1 w') => hx1.keep hs
  have HV := Lib.hid fun w => implHullValid_any h w
  clear hW1 hb1 hx1
  cases hk : hlOk h
  · rw [slMany_bad hk]
    rw [hk] at HV
    clear hk
    go_enter Try.func24, Try.ntmps24
    go_wp2_with fail
    rw [← HW.out]
    go_wp2_with fail
    refine (HV.out W1).mono ?_
    rintro e w2 ⟨rfl, b2⟩
    have C2 := HB.out.trans (b2.mono HB.out.size)
    go_wp2_with fail
    go_ret
    exact ⟨rfl, C2⟩
  · obtain ⟨m0, m1, m2, m3⟩ := mul_bd hk
    rw [(slMany_bd hk).2.2]
    rw [hk] at HV
    have z1 : IntKind.i64.wrap (h.b * h.r) = h.b * h.r := IntWalk.i64_in _ (by omega)
    have z2 : IntKind.i64.wrap (h.b * h.r * h.t) = h.b * h.r * h.t := IntWalk.i64_in _ (by omega)
    clear hk
    go_enter Try.func24, Try.ntmps24
    go_wp2_with fail
    rw [← HW.out]
    go_wp2_with fail
    refine (HV.out W1).mono ?_
    rintro e w2 ⟨rfl, b2⟩
    have C2 := HB.out.trans (b2.mono HB.out.size)
    have x2 := HX.out w2 b2
    have c0 := x2.c0
    have c1 := x2.c1
    have c2 := x2.c2
    clear x2 y0 y1 y2
    go_wp2_with fail
    go_ret
    exact ⟨rfl, C2⟩

set_option maxRecDepth 10000 in
set_option maxHeartbeats 1000000 in
theorem implPlaceOf_any (h : Hl) (s : Int) (w : World) :
    Calls Try.prog 111 #[.agg #[.int .i64 h.b, .int .i64 h.r, .int .i64 h.t], .int .i64 s] w fun e w' => e = .returned (.tuple #[.int .i64 (plOf h s).1, .int .i64 (plOf h s).2.1, .int .i64 (plOf h s).2.2]) ∧ Below w.heap.size w w' := by
  have hb1 := (Below.refl w.heap.size w).alloc (Nat.le_refl _) (.cells #[.int .i64 h.b, .int .i64 h.r, .int .i64 h.t] 36)
  have hx1 := BoxH.new w h
  obtain ⟨W1, hW1⟩ : ∃ W1, W1 = w.alloc (.cells #[.int .i64 h.b, .int .i64 h.r, .int .i64 h.t] 36) := ⟨_, rfl⟩
  rw [← hW1] at hb1 hx1
  have HW := Lib.hid hW1
  have HB := Lib.hid hb1
  have y0 := hx1.c0
  have y1 := hx1.c1
  have y2 := hx1.c2
  have HX := Lib.hid fun (w' : World) (hs : Below W1.heap.size W1 w') => hx1.keep hs
  have HV := Lib.hid fun w => implHullValid_any h w
  clear hW1 hb1 hx1
  clear HV
  have HM := Lib.hid fun w => implSlotMany_any h w
  by_cases hs : 0 ≤ s ∧ s ≤ slMany h - 1
  · have hk : hlOk h = true := by
      cases hk : hlOk h
      · have := slMany_bad hk; omega
      · rfl
    obtain ⟨g1, g2, g3, g4, g5, g6⟩ := hlOk_iff.1 hk
    obtain ⟨m1, m2, -⟩ := slMany_bd hk
    rw [plOf_yes hk hs.1 hs.2]
    obtain ⟨p1, p2, p3, -⟩ := plOf_in hk hs.1 hs.2
    have hs0 := hs.1
    have hs36 : s ≤ 35 := by omega
    have hslt : s < slMany h := by omega
    have d0 : 0 ≤ s / h.t := Int.ediv_nonneg hs0 (by omega)
    have d1 : s / h.t ≤ 35 := Int.le_trans (Int.ediv_le_self _ hs0) hs36
    have nt : ¬ h.t = 0 := by omega
    have nr : ¬ h.r = 0 := by omega
    have t1 : s.tdiv h.t = s / h.t := Int.tdiv_eq_ediv_of_nonneg hs0
    have t2 : s.tmod h.t = s % h.t := Int.tmod_eq_emod_of_nonneg hs0
    have t3 : (s / h.t).tdiv h.r = s / h.t / h.r := Int.tdiv_eq_ediv_of_nonneg d0
    have t4 : (s / h.t).tmod h.r = s / h.t % h.r := Int.tmod_eq_emod_of_nonneg d0
    have e1 : IntKind.i64.wrap (s / h.t) = s / h.t := IntWalk.i64_in _ (by omega)
    have e2 : IntKind.i64.wrap (s / h.t / h.r) = s / h.t / h.r := IntWalk.i64_in _ (by omega)
    have e3 : IntKind.i64.wrap (s / h.t % h.r) = s / h.t % h.r := IntWalk.i64_in _ (by omega)
    have e4 : IntKind.i64.wrap (s % h.t) = s % h.t := IntWalk.i64_in _ (by omega)
    clear hk
    go_enter Try.func111, Try.ntmps111
    go_wp2_with fail
    rw [← HW.out]
    go_wp2_with fail
    refine (HM.out W1).mono ?_
    rintro e w3 ⟨rfl, b3⟩
    have C9 := HB.out.trans (b3.mono HB.out.size)
    have x3 := HX.out w3 b3
    have c0 := x3.c0
    have c1 := x3.c1
    have c2 := x3.c2
    clear x3 y0 y1 y2
    go_wp2_with fail
    refine (isIdx_yes s (slMany h) _ hs0 hslt).mono ?_
    rintro e w' ⟨rfl, rfl⟩
    go_wp2_with fail
    trace_state
    have hstart : w3.drew.cell? ⟨w.heap.size, 1, none⟩ = some (.int .i64 h.r) ∧ w3.drew.cell? ⟨w.heap.size, 2, none⟩ = some (.int .i64 h.t) := ⟨c1, c2⟩
    have C9 := C9.drew
    go_region_held3 (fun w' => w'.cell? ⟨w.heap.size, 1, none⟩ = some (.int .i64 h.r) ∧ w'.cell? ⟨w.heap.size, 2, none⟩ = some (.int .i64 h.t)) (first | exact hstart | fail) (fail)
    go_wp2_with fail
    exact bodyPost_ret (v := .tuple #[.int .i64 (s / h.t / h.r), .int .i64 (s / h.t % h.r), .int .i64 (s % h.t)]) (by simp [results, Try.results111, go_sem]) rfl ⟨rfl, C9⟩
  · rw [plOf_no (fun hc => hs hc.2)]
    go_enter Try.func111, Try.ntmps111
    go_wp2_with fail
    rw [← HW.out]
    go_wp2_with fail
    refine (HM.out W1).mono ?_
    rintro e w3 ⟨rfl, b3⟩
    have C9 := HB.out.trans (b3.mono HB.out.size)
    have x3 := HX.out w3 b3
    have c0 := x3.c0
    have c1 := x3.c1
    have c2 := x3.c2
    clear x3 y0 y1 y2
    go_wp2_with fail
    refine (isIdx_no s (slMany h) _ (by omega)).mono ?_
    rintro e w' ⟨rfl, rfl⟩
    go_wp2_with fail
    exact bodyPost_ret (v := .tuple #[.int .i64 (-1), .int .i64 (-1), .int .i64 (-1)]) (by simp [results, Try.results111, go_sem]) rfl ⟨rfl, C9⟩

theorem slBelow_tier (h : Hl) (s : Int) : slBelow h s = if (plOf h s).2.2 ≤ 0 then -1 else s - 1 := by
  rcases plOf_cases h s with ⟨hc, e⟩ | ⟨hk, h0, h1, _, _, _, _⟩
  · unfold slBelow
    rw [e]
    simp only []
    rw [slOf_no (fun hc => by have := hc.2.1.1; omega)]
    rfl
  · obtain ⟨p1, p2, p3, p4⟩ := plOf_in hk h0 h1
    unfold slBelow
    rw [plOf_yes hk h0 h1]
    simp only []
    by_cases hz : s % h.t ≤ 0
    · rw [if_pos hz, slOf_no (fun hc => by have := hc.2.2.2.1; omega)]
    · rw [if_neg hz, slOf_yes hk p1 p2 (by omega)]
      omega

set_option maxRecDepth 10000 in
set_option maxHeartbeats 1000000 in
theorem implSlotBelow_any (h : Hl) (s : Int) (w : World) :
    Calls Try.prog 89 #[.agg #[.int .i64 h.b, .int .i64 h.r, .int .i64 h.t], .int .i64 s] w fun e w' => e = .returned (.int .i64 (slBelow h s)) ∧ Below w.heap.size w w' := by
  have hb1 := (Below.refl w.heap.size w).alloc (Nat.le_refl _) (.cells #[.int .i64 h.b, .int .i64 h.r, .int .i64 h.t] 36)
  have hx1 := BoxH.new w h
  obtain ⟨W1, hW1⟩ : ∃ W1, W1 = w.alloc (.cells #[.int .i64 h.b, .int .i64 h.r, .int .i64 h.t] 36) := ⟨_, rfl⟩
  rw [← hW1] at hb1 hx1
  have HW := Lib.hid hW1
  have HB := Lib.hid hb1
  have y0 := hx1.c0
  have y1 := hx1.c1
  have y2 := hx1.c2
  have HX := Lib.hid fun (w' : World) (hs : Below W1.heap.size W1 w') => hx1.keep hs
  have HV := Lib.hid fun w => implHullValid_any h w
  clear hW1 hb1 hx1
  have HP := Lib.hid (implPlaceOf_any h s W1)
  have hbd : 0 < (plOf h s).2.2 → 0 ≤ s ∧ s ≤ 35 := by
    intro hlt
    rcases plOf_cases h s with ⟨_, e⟩ | ⟨hk, h0, h1, _, _, _, _⟩
    · rw [e] at hlt; simp at hlt
    · have := (slMany_bd hk).2.1
      omega
  rw [slBelow_tier]
  generalize plOf h s = p at HP hbd ⊢
  obtain ⟨x, y, z⟩ := p
  have hbd : 0 < z → 0 ≤ s ∧ s ≤ 35 := hbd
  have HP' : Hid (Calls Try.prog 111 #[.agg #[.int .i64 h.b, .int .i64 h.r, .int .i64 h.t], .int .i64 s] W1 fun e w' => e = .returned (.tuple #[.int .i64 x, .int .i64 y, .int .i64 z]) ∧ Below W1.heap.size W1 w') := HP
  clear HP HV
  simp only []
  by_cases hz : z ≤ 0
  · rw [if_pos hz]
    have dz : decide (z ≤ 0) = true := decide_eq_true hz
    go_enter Try.func89, Try.ntmps89
    go_wp2_with fail
    rw [← HW.out]
    go_wp2_with fail
    refine HP'.out.mono ?_
    rintro e w2 ⟨rfl, b2⟩
    have C2 := HB.out.trans (b2.mono HB.out.size)
    go_wp2_with fail
    go_ret
    exact ⟨rfl, C2⟩
  · rw [if_neg hz]
    have hb := hbd (by omega)
    have dz : decide (z ≤ 0) = false := decide_eq_false hz
    have zz : IntKind.i64.wrap (s - 1) = s - 1 := IntWalk.i64_in _ (by omega)
    go_enter Try.func89, Try.ntmps89
    go_wp2_with fail
    rw [← HW.out]
    go_wp2_with fail
    refine HP'.out.mono ?_
    rintro e w2 ⟨rfl, b2⟩
    have C2 := HB.out.trans (b2.mono HB.out.size)
    go_wp2_with fail
    go_ret
    exact ⟨rfl, C2⟩

end Go.Proofs.Ytfeobdgdhgcgoaa
namespace Go.Proofs.Ytfeobdgdhgcgoaa
open Go.RowKit
set_option linter.unusedVariables false

/-- The law's own ship in a block of its own. -/
def BoxG (B : Nat) (w : World) (h : Hl) : Prop := w.heap[B]? = some (.cells #[.int .i64 h.b, .int .i64 h.r, .int .i64 h.t] 52 (0, 0))
theorem BoxG.lt {B : Nat} {w : World} {h : Hl} (hb : BoxG B w h) : B < w.heap.size := by
  unfold BoxG at hb
  rcases Nat.lt_or_ge B w.heap.size with h' | h'
  · exact h'
  · rw [Array.getElem?_eq_none h'] at hb; cases hb
theorem BoxG.c0 {B : Nat} {w : World} {h : Hl} (hb : BoxG B w h) : w.cell? ⟨B, 0, none⟩ = some (.int .i64 h.b) := by unfold BoxG at hb; simp [World.cell?, hb]
theorem BoxG.c1 {B : Nat} {w : World} {h : Hl} (hb : BoxG B w h) : w.cell? ⟨B, 1, none⟩ = some (.int .i64 h.r) := by unfold BoxG at hb; simp [World.cell?, hb]
theorem BoxG.c2 {B : Nat} {w : World} {h : Hl} (hb : BoxG B w h) : w.cell? ⟨B, 2, none⟩ = some (.int .i64 h.t) := by unfold BoxG at hb; simp [World.cell?, hb]
theorem BoxG.keep {B : Nat} {w w' : World} {h : Hl} (hb : BoxG B w h) (hk : Below w.heap.size w w') : BoxG B w' h := by
  have := hb.lt
  unfold BoxG at hb ⊢
  rw [hk.block B this]; exact hb
theorem BoxG.new (w : World) (h : Hl) : BoxG w.heap.size (w.alloc (.cells #[.int .i64 h.b, .int .i64 h.r, .int .i64 h.t] 52)) h := by
  show (w.heap.push _)[w.heap.size]? = _
  simp
theorem toHull_any (h : Hl) (w : World) :
    Calls Try.prog 36 #[.agg #[.int .i64 h.b, .int .i64 h.r, .int .i64 h.t]] w fun e w' => e = .returned (.agg #[.int .i64 h.b, .int .i64 h.r, .int .i64 h.t]) ∧ Below w.heap.size w w' := by
  go_enter Try.func36, Try.ntmps36
  go_wp2
  exact bodyPost_ret (v := .agg #[.int .i64 h.b, .int .i64 h.r, .int .i64 h.t]) (by simp [results, Try.results36, go_sem]) rfl
    ⟨rfl, (((Below.refl _ _).alloc (Nat.le_refl _) _).alloc (by simp) _).alloc (by simp; omega) _⟩
end Go.Proofs.Ytfeobdgdhgcgoaa
