/-
  Ships and slots: the model's HullValid, SlotMany, SlotOf, PlaceOf, SlotBelow.
-/
import Derived.Test.YtnnjphhkheocgaaRows
import Derived.WalkKit
import Derived.IntWalk
import Derived.Lib.Hide
import Derived.WalkSpells
import Derived.Below
import Derived.Deep.RegionHeld3
import Derived.Test.YtnnjphhkheocgaaGBase
import Derived.Test.YtnnjphhkheocgaaSlMath
namespace Go.Proofs.Ytnnjphhkheocgaa
open Go.RowKit
set_option linter.unusedVariables false

/-- A ship in a block of its own. -/
def BoxH (B : Nat) (w : World) (h : Hl) : Prop := w.heap[B]? = some (.cells #[.int .i64 h.b, .int .i64 h.r, .int .i64 h.t] 24 (0, 0))
theorem BoxH.lt {B : Nat} {w : World} {h : Hl} (hb : BoxH B w h) : B < w.heap.size := by
  unfold BoxH at hb
  rcases Nat.lt_or_ge B w.heap.size with h' | h'
  · exact h'
  · rw [Array.getElem?_eq_none h'] at hb; cases hb
theorem BoxH.c0 {B : Nat} {w : World} {h : Hl} (hb : BoxH B w h) : w.cell? ⟨B, 0, none⟩ = some (.int .i64 h.b) := by unfold BoxH at hb; simp [World.cell?, hb]
theorem BoxH.c1 {B : Nat} {w : World} {h : Hl} (hb : BoxH B w h) : w.cell? ⟨B, 1, none⟩ = some (.int .i64 h.r) := by unfold BoxH at hb; simp [World.cell?, hb]
theorem BoxH.c2 {B : Nat} {w : World} {h : Hl} (hb : BoxH B w h) : w.cell? ⟨B, 2, none⟩ = some (.int .i64 h.t) := by unfold BoxH at hb; simp [World.cell?, hb]
theorem BoxH.keep {B : Nat} {w w' : World} {h : Hl} (hb : BoxH B w h) (hk : Below w.heap.size w w') : BoxH B w' h := by
  have := hb.lt
  unfold BoxH at hb ⊢
  rw [hk.block B this]; exact hb
theorem BoxH.new (w : World) (h : Hl) : BoxH w.heap.size (w.alloc (.cells #[.int .i64 h.b, .int .i64 h.r, .int .i64 h.t] 24)) h := by
  show (w.heap.push _)[w.heap.size]? = _
  simp
theorem mul_bd {h : Hl} (hk : hlOk h = true) : 1 ≤ h.b * h.r ∧ h.b * h.r ≤ 12 ∧ 1 ≤ h.b * h.r * h.t ∧ h.b * h.r * h.t ≤ 36 := by
  obtain ⟨h1, h2, h3, h4, h5, h6⟩ := hlOk_iff.1 hk
  obtain ⟨b, r, t⟩ := h
  simp only [] at *
  clear hk
  rcases (by omega : r = 1 ∨ r = 2 ∨ r = 3) with rfl | rfl | rfl <;> rcases (by omega : t = 1 ∨ t = 2 ∨ t = 3) with rfl | rfl | rfl <;> refine ⟨?_, ?_, ?_, ?_⟩ <;> omega
theorem slot_bd {h : Hl} {x y z : Int} (hk : hlOk h = true) (hx : 0 ≤ x ∧ x ≤ h.b - 1) (hy : 0 ≤ y ∧ y ≤ h.r - 1) (hz : 0 ≤ z ∧ z ≤ h.t - 1) : 0 ≤ x * h.r ∧ x * h.r ≤ 9 ∧ 0 ≤ x * h.r + y ∧ x * h.r + y ≤ 11 ∧ 0 ≤ (x * h.r + y) * h.t ∧ (x * h.r + y) * h.t ≤ 33 := by
  obtain ⟨h1, h2, h3, h4, h5, h6⟩ := hlOk_iff.1 hk
  obtain ⟨b, r, t⟩ := h
  simp only [] at *
  clear hk
  rcases (by omega : r = 1 ∨ r = 2 ∨ r = 3) with rfl | rfl | rfl <;> rcases (by omega : t = 1 ∨ t = 2 ∨ t = 3) with rfl | rfl | rfl <;> refine ⟨?_, ?_, ?_, ?_, ?_, ?_⟩ <;> omega
theorem specHullValid_any (h : Hl) (w : World) :
    Calls Try.prog 53 #[.agg #[.int .i64 h.b, .int .i64 h.r, .int .i64 h.t]] w fun e w' => e = .returned (.bool (hlOk h)) ∧ Below w.heap.size w w' := by
  have hb : ∀ o, Below w.heap.size w (w.alloc o) := fun o => (Below.refl _ _).alloc (Nat.le_refl _) o
  have HB := Lib.hid hb
  clear hb
  by_cases h0 : 1 ≤ h.b ∧ h.b ≤ 4
  · by_cases h1 : 1 ≤ h.r ∧ h.r ≤ 3
    · by_cases h2 : 1 ≤ h.t ∧ h.t ≤ 3
      · rw [show hlOk h = true from decide_eq_true (by omega)]
        go_enter Try.func53, Try.ntmps53
        go_wp2_with fail
        refine (l1In_yes h.b 1 4 _ h0.1 h0.2).mono ?_
        rintro e w' ⟨rfl, rfl⟩
        go_wp2_with fail
        refine (l1In_yes h.r 1 3 _ h1.1 h1.2).mono ?_
        rintro e w' ⟨rfl, rfl⟩
        go_wp2_with fail
        refine (l1In_yes h.t 1 3 _ h2.1 h2.2).mono ?_
        rintro e w' ⟨rfl, rfl⟩
        go_wp2_with fail
        go_ret
        exact ⟨rfl, HB.out _⟩
      · rw [show hlOk h = false from decide_eq_false (by omega)]
        go_enter Try.func53, Try.ntmps53
        go_wp2_with fail
        refine (l1In_yes h.b 1 4 _ h0.1 h0.2).mono ?_
        rintro e w' ⟨rfl, rfl⟩
        go_wp2_with fail
        refine (l1In_yes h.r 1 3 _ h1.1 h1.2).mono ?_
        rintro e w' ⟨rfl, rfl⟩
        go_wp2_with fail
        refine (l1In_no h.t 1 3 _ (by omega)).mono ?_
        rintro e w' ⟨rfl, rfl⟩
        go_wp2_with fail
        go_ret
        exact ⟨rfl, HB.out _⟩
    · rw [show hlOk h = false from decide_eq_false (by omega)]
      go_enter Try.func53, Try.ntmps53
      go_wp2_with fail
      refine (l1In_yes h.b 1 4 _ h0.1 h0.2).mono ?_
      rintro e w' ⟨rfl, rfl⟩
      go_wp2_with fail
      refine (l1In_no h.r 1 3 _ (by omega)).mono ?_
      rintro e w' ⟨rfl, rfl⟩
      go_wp2_with fail
      go_ret
      exact ⟨rfl, HB.out _⟩
  · rw [show hlOk h = false from decide_eq_false (by omega)]
    go_enter Try.func53, Try.ntmps53
    go_wp2_with fail
    refine (l1In_no h.b 1 4 _ (by omega)).mono ?_
    rintro e w' ⟨rfl, rfl⟩
    go_wp2_with fail
    go_ret
    exact ⟨rfl, HB.out _⟩

set_option maxRecDepth 10000 in
set_option maxHeartbeats 1000000 in
theorem specSlotMany_any (h : Hl) (w : World) :
    Calls Try.prog 55 #[.agg #[.int .i64 h.b, .int .i64 h.r, .int .i64 h.t]] w fun e w' => e = .returned (.int .i64 (slMany h)) ∧ Below w.heap.size w w' := by
  have hb1 := (Below.refl w.heap.size w).alloc (Nat.le_refl _) (.cells #[.int .i64 h.b, .int .i64 h.r, .int .i64 h.t] 24)
  have hx1 := BoxH.new w h
  obtain ⟨W1, hW1⟩ : ∃ W1, W1 = w.alloc (.cells #[.int .i64 h.b, .int .i64 h.r, .int .i64 h.t] 24) := ⟨_, rfl⟩
  rw [← hW1] at hb1 hx1
  have HW := Lib.hid hW1
  have HB := Lib.hid hb1
  have y0 := hx1.c0
  have y1 := hx1.c1
  have y2 := hx1.c2
  have HX := Lib.hid fun (w' : World) (hs : Below W1.heap.size W1 w') => hx1.keep hs
  have HV := Lib.hid fun w => specHullValid_any h w
  clear hW1 hb1 hx1
  cases hk : hlOk h
  · rw [slMany_bad hk]
    rw [hk] at HV
    clear hk
    go_enter Try.func55, Try.ntmps55
    go_wp2_with fail
    rw [← HW.out]
    go_wp2_with fail
    refine (HV.out W1).mono ?_
    rintro e w2 ⟨rfl, b2⟩
    have C2 := HB.out.trans (b2.mono HB.out.size)
    go_wp2_with fail
    go_ret
    exact ⟨rfl, C2⟩
  · obtain ⟨m0, m1, m2, m3⟩ := mul_bd hk
    rw [(slMany_bd hk).2.2]
    rw [hk] at HV
    have z1 : IntKind.i64.wrap (h.b * h.r) = h.b * h.r := IntWalk.i64_in _ (by omega)
    have z2 : IntKind.i64.wrap (h.b * h.r * h.t) = h.b * h.r * h.t := IntWalk.i64_in _ (by omega)
    clear hk
    go_enter Try.func55, Try.ntmps55
    go_wp2_with fail
    rw [← HW.out]
    go_wp2_with fail
    refine (HV.out W1).mono ?_
    rintro e w2 ⟨rfl, b2⟩
    have C2 := HB.out.trans (b2.mono HB.out.size)
    have x2 := HX.out w2 b2
    have c0 := x2.c0
    have c1 := x2.c1
    have c2 := x2.c2
    clear x2 y0 y1 y2
    go_wp2_with fail
    go_ret
    exact ⟨rfl, C2⟩

set_option maxRecDepth 10000 in
set_option maxHeartbeats 1000000 in
theorem specSlotOf_any (h : Hl) (x y z : Int) (w : World) :
    Calls Try.prog 77 #[.agg #[.int .i64 h.b, .int .i64 h.r, .int .i64 h.t], .int .i64 x, .int .i64 y, .int .i64 z] w fun e w' => e = .returned (.int .i64 (slOf h x y z)) ∧ Below w.heap.size w w' := by
  have hb1 := (Below.refl w.heap.size w).alloc (Nat.le_refl _) (.cells #[.int .i64 h.b, .int .i64 h.r, .int .i64 h.t] 24)
  have hx1 := BoxH.new w h
  obtain ⟨W1, hW1⟩ : ∃ W1, W1 = w.alloc (.cells #[.int .i64 h.b, .int .i64 h.r, .int .i64 h.t] 24) := ⟨_, rfl⟩
  rw [← hW1] at hb1 hx1
  have HW := Lib.hid hW1
  have HB := Lib.hid hb1
  have y0 := hx1.c0
  have y1 := hx1.c1
  have y2 := hx1.c2
  have HX := Lib.hid fun (w' : World) (hs : Below W1.heap.size W1 w') => hx1.keep hs
  have HV := Lib.hid fun w => specHullValid_any h w
  clear hW1 hb1 hx1
  cases hk : hlOk h
  · rw [slOf_no (fun hc => by rw [hk] at hc; cases hc.1)]
    rw [hk] at HV
    clear hk
    go_enter Try.func77, Try.ntmps77
    go_wp2_with fail
    rw [← HW.out]
    go_wp2_with fail
    refine (HV.out W1).mono ?_
    rintro e w2 ⟨rfl, b2⟩
    have C2 := HB.out.trans (b2.mono HB.out.size)
    go_wp2_with fail
    go_ret
    exact ⟨rfl, C2⟩
  · obtain ⟨g1, g2, g3, g4, g5, g6⟩ := hlOk_iff.1 hk
    have zb : IntKind.i64.wrap (h.b - 1) = h.b - 1 := IntWalk.i64_in _ (by omega)
    have zr : IntKind.i64.wrap (h.r - 1) = h.r - 1 := IntWalk.i64_in _ (by omega)
    have zt : IntKind.i64.wrap (h.t - 1) = h.t - 1 := IntWalk.i64_in _ (by omega)
    rw [hk] at HV
    by_cases hx : 0 ≤ x ∧ x ≤ h.b - 1
    · by_cases hy : 0 ≤ y ∧ y ≤ h.r - 1
      · by_cases hz : 0 ≤ z ∧ z ≤ h.t - 1
        · rw [slOf_yes hk hx hy hz]
          obtain ⟨s0, s1, s2, s3, s4, s5⟩ := slot_bd hk hx hy hz
          have e1 : IntKind.i64.wrap (x * h.r) = x * h.r := IntWalk.i64_in _ (by omega)
          have e2 : IntKind.i64.wrap (x * h.r + y) = x * h.r + y := IntWalk.i64_in _ (by omega)
          have e3 : IntKind.i64.wrap ((x * h.r + y) * h.t) = (x * h.r + y) * h.t := IntWalk.i64_in _ (by omega)
          have e4 : IntKind.i64.wrap ((x * h.r + y) * h.t + z) = (x * h.r + y) * h.t + z := IntWalk.i64_in _ (by omega)
          clear hk
          go_enter Try.func77, Try.ntmps77
          go_wp2_with fail
          rw [← HW.out]
          go_wp2_with fail
          refine (HV.out W1).mono ?_
          rintro e w2 ⟨rfl, b2⟩
          have C2 := HB.out.trans (b2.mono HB.out.size)
          have x2 := HX.out w2 b2
          have c0 := x2.c0
          have c1 := x2.c1
          have c2 := x2.c2
          clear x2 y0 y1 y2
          go_wp2_with fail
          refine (l1In_yes x 0 (h.b - 1) _ hx.1 hx.2).mono ?_
          rintro e w' ⟨rfl, rfl⟩
          go_wp2_with fail
          refine (l1In_yes y 0 (h.r - 1) _ hy.1 hy.2).mono ?_
          rintro e w' ⟨rfl, rfl⟩
          go_wp2_with fail
          refine (l1In_yes z 0 (h.t - 1) _ hz.1 hz.2).mono ?_
          rintro e w' ⟨rfl, rfl⟩
          go_wp2_with fail
          go_ret
          exact ⟨rfl, C2⟩
        · rw [slOf_no (fun hc => hz hc.2.2.2)]
          clear hk
          go_enter Try.func77, Try.ntmps77
          go_wp2_with fail
          rw [← HW.out]
          go_wp2_with fail
          refine (HV.out W1).mono ?_
          rintro e w2 ⟨rfl, b2⟩
          have C2 := HB.out.trans (b2.mono HB.out.size)
          have x2 := HX.out w2 b2
          have c0 := x2.c0
          have c1 := x2.c1
          have c2 := x2.c2
          clear x2 y0 y1 y2
          go_wp2_with fail
          refine (l1In_yes x 0 (h.b - 1) _ hx.1 hx.2).mono ?_
          rintro e w' ⟨rfl, rfl⟩
          go_wp2_with fail
          refine (l1In_yes y 0 (h.r - 1) _ hy.1 hy.2).mono ?_
          rintro e w' ⟨rfl, rfl⟩
          go_wp2_with fail
          refine (l1In_no z 0 (h.t - 1) _ (by omega)).mono ?_
          rintro e w' ⟨rfl, rfl⟩
          go_wp2_with fail
          go_ret
          exact ⟨rfl, C2⟩
      · rw [slOf_no (fun hc => hy hc.2.2.1)]
        clear hk
        go_enter Try.func77, Try.ntmps77
        go_wp2_with fail
        rw [← HW.out]
        go_wp2_with fail
        refine (HV.out W1).mono ?_
        rintro e w2 ⟨rfl, b2⟩
        have C2 := HB.out.trans (b2.mono HB.out.size)
        have x2 := HX.out w2 b2
        have c0 := x2.c0
        have c1 := x2.c1
        have c2 := x2.c2
        clear x2 y0 y1 y2
        go_wp2_with fail
        refine (l1In_yes x 0 (h.b - 1) _ hx.1 hx.2).mono ?_
        rintro e w' ⟨rfl, rfl⟩
        go_wp2_with fail
        refine (l1In_no y 0 (h.r - 1) _ (by omega)).mono ?_
        rintro e w' ⟨rfl, rfl⟩
        go_wp2_with fail
        go_ret
        exact ⟨rfl, C2⟩
    · rw [slOf_no (fun hc => hx hc.2.1)]
      clear hk
      go_enter Try.func77, Try.ntmps77
      go_wp2_with fail
      rw [← HW.out]
      go_wp2_with fail
      refine (HV.out W1).mono ?_
      rintro e w2 ⟨rfl, b2⟩
      have C2 := HB.out.trans (b2.mono HB.out.size)
      have x2 := HX.out w2 b2
      have c0 := x2.c0
      have c1 := x2.c1
      have c2 := x2.c2
      clear x2 y0 y1 y2
      go_wp2_with fail
      refine (l1In_no x 0 (h.b - 1) _ (by omega)).mono ?_
      rintro e w' ⟨rfl, rfl⟩
      go_wp2_with fail
      go_ret
      exact ⟨rfl, C2⟩

set_option maxRecDepth 10000 in
set_option maxHeartbeats 1000000 in
theorem specPlaceOf_any (h : Hl) (s : Int) (w : World) :
    Calls Try.prog 73 #[.agg #[.int .i64 h.b, .int .i64 h.r, .int .i64 h.t], .int .i64 s] w fun e w' => e = .returned (.tuple #[.int .i64 (plOf h s).1, .int .i64 (plOf h s).2.1, .int .i64 (plOf h s).2.2]) ∧ Below w.heap.size w w' := by
  have hb1 := (Below.refl w.heap.size w).alloc (Nat.le_refl _) (.cells #[.int .i64 h.b, .int .i64 h.r, .int .i64 h.t] 24)
  have hx1 := BoxH.new w h
  obtain ⟨W1, hW1⟩ : ∃ W1, W1 = w.alloc (.cells #[.int .i64 h.b, .int .i64 h.r, .int .i64 h.t] 24) := ⟨_, rfl⟩
  rw [← hW1] at hb1 hx1
  have HW := Lib.hid hW1
  have HB := Lib.hid hb1
  have y0 := hx1.c0
  have y1 := hx1.c1
  have y2 := hx1.c2
  have HX := Lib.hid fun (w' : World) (hs : Below W1.heap.size W1 w') => hx1.keep hs
  have HV := Lib.hid fun w => specHullValid_any h w
  clear hW1 hb1 hx1
  cases hk : hlOk h
  · rw [plOf_no (fun hc => by rw [hk] at hc; cases hc.1)]
    rw [hk] at HV
    clear hk
    go_enter Try.func73, Try.ntmps73
    go_wp2_with fail
    rw [← HW.out]
    go_wp2_with fail
    refine (HV.out W1).mono ?_
    rintro e w2 ⟨rfl, b2⟩
    have C2 := HB.out.trans (b2.mono HB.out.size)
    have C9 := C2
    go_wp2_with fail
    exact bodyPost_ret (v := .tuple #[.int .i64 (-1), .int .i64 (-1), .int .i64 (-1)]) (by simp [results, Try.results73, go_sem]) rfl ⟨rfl, C9⟩
  · obtain ⟨g1, g2, g3, g4, g5, g6⟩ := hlOk_iff.1 hk
    obtain ⟨m1, m2, -⟩ := slMany_bd hk
    have zm : IntKind.i64.wrap (slMany h - 1) = slMany h - 1 := IntWalk.i64_in _ (by omega)
    rw [hk] at HV
    by_cases hs : 0 ≤ s ∧ s ≤ slMany h - 1
    · rw [plOf_yes hk hs.1 hs.2]
      obtain ⟨p1, p2, p3, -⟩ := plOf_in hk hs.1 hs.2
      have hs0 := hs.1
      have hs36 : s ≤ 35 := by omega
      have d0 : 0 ≤ s / h.t := Int.ediv_nonneg hs0 (by omega)
      have d1 : s / h.t ≤ 35 := Int.le_trans (Int.ediv_le_self _ hs0) hs36
      have nt : ¬ h.t = 0 := by omega
      have nr : ¬ h.r = 0 := by omega
      have t1 : s.tdiv h.t = s / h.t := Int.tdiv_eq_ediv_of_nonneg hs0
      have t2 : s.tmod h.t = s % h.t := Int.tmod_eq_emod_of_nonneg hs0
      have t3 : (s / h.t).tdiv h.r = s / h.t / h.r := Int.tdiv_eq_ediv_of_nonneg d0
      have t4 : (s / h.t).tmod h.r = s / h.t % h.r := Int.tmod_eq_emod_of_nonneg d0
      have e1 : IntKind.i64.wrap (s / h.t) = s / h.t := IntWalk.i64_in _ (by omega)
      have e2 : IntKind.i64.wrap (s / h.t / h.r) = s / h.t / h.r := IntWalk.i64_in _ (by omega)
      have e3 : IntKind.i64.wrap (s / h.t % h.r) = s / h.t % h.r := IntWalk.i64_in _ (by omega)
      have e4 : IntKind.i64.wrap (s % h.t) = s % h.t := IntWalk.i64_in _ (by omega)
      clear hk
      go_enter Try.func73, Try.ntmps73
      go_wp2_with fail
      rw [← HW.out]
      go_wp2_with fail
      refine (HV.out W1).mono ?_
      rintro e w2 ⟨rfl, b2⟩
      have C2 := HB.out.trans (b2.mono HB.out.size)
      have HM := Lib.hid (specSlotMany_any h w2)
      have x2 := HX.out w2 b2
      have c0 := x2.c0
      have c1 := x2.c1
      have c2 := x2.c2
      clear y0 y1 y2
      go_wp2_with fail
      refine HM.out.mono ?_
      rintro e w3 ⟨rfl, b3⟩
      have C9 := C2.trans (b3.mono C2.size)
      have x3 := x2.keep b3
      have c0 := x3.c0
      have c1 := x3.c1
      have c2 := x3.c2
      clear x2 x3
      go_wp2_with fail
      refine (l1In_yes s 0 (slMany h - 1) _ hs.1 hs.2).mono ?_
      rintro e w' ⟨rfl, rfl⟩
      go_wp2_with fail
      have hstart : w3.drew.cell? ⟨w.heap.size, 0, none⟩ = some (.int .i64 h.b) ∧ w3.drew.cell? ⟨w.heap.size, 1, none⟩ = some (.int .i64 h.r) ∧ w3.drew.cell? ⟨w.heap.size, 2, none⟩ = some (.int .i64 h.t) := ⟨c0, c1, c2⟩
      have C9 := C9.drew
      go_region_held3 (fun w' => w'.cell? ⟨w.heap.size, 0, none⟩ = some (.int .i64 h.b) ∧ w'.cell? ⟨w.heap.size, 1, none⟩ = some (.int .i64 h.r) ∧ w'.cell? ⟨w.heap.size, 2, none⟩ = some (.int .i64 h.t)) (first | exact hstart | fail) (fail)
      go_wp2_with fail
      exact bodyPost_ret (v := .tuple #[.int .i64 (s / h.t / h.r), .int .i64 (s / h.t % h.r), .int .i64 (s % h.t)]) (by simp [results, Try.results73, go_sem]) rfl ⟨rfl, C9⟩
    · rw [plOf_no (fun hc => hs hc.2)]
      clear hk
      go_enter Try.func73, Try.ntmps73
      go_wp2_with fail
      rw [← HW.out]
      go_wp2_with fail
      refine (HV.out W1).mono ?_
      rintro e w2 ⟨rfl, b2⟩
      have C2 := HB.out.trans (b2.mono HB.out.size)
      have HM := Lib.hid (specSlotMany_any h w2)
      have x2 := HX.out w2 b2
      have c0 := x2.c0
      have c1 := x2.c1
      have c2 := x2.c2
      clear y0 y1 y2
      go_wp2_with fail
      refine HM.out.mono ?_
      rintro e w3 ⟨rfl, b3⟩
      have C9 := C2.trans (b3.mono C2.size)
      have x3 := x2.keep b3
      have c0 := x3.c0
      have c1 := x3.c1
      have c2 := x3.c2
      clear x2 x3
      go_wp2_with fail
      refine (l1In_no s 0 (slMany h - 1) _ (by omega)).mono ?_
      rintro e w' ⟨rfl, rfl⟩
      go_wp2_with fail
      exact bodyPost_ret (v := .tuple #[.int .i64 (-1), .int .i64 (-1), .int .i64 (-1)]) (by simp [results, Try.results73, go_sem]) rfl ⟨rfl, C9⟩

set_option maxRecDepth 10000 in
set_option maxHeartbeats 1000000 in
theorem specSlotBelow_any (h : Hl) (s : Int) (w : World) :
    Calls Try.prog 56 #[.agg #[.int .i64 h.b, .int .i64 h.r, .int .i64 h.t], .int .i64 s] w fun e w' => e = .returned (.int .i64 (slBelow h s)) ∧ Below w.heap.size w w' := by
  have hb1 := (Below.refl w.heap.size w).alloc (Nat.le_refl _) (.cells #[.int .i64 h.b, .int .i64 h.r, .int .i64 h.t] 24)
  have hx1 := BoxH.new w h
  obtain ⟨W1, hW1⟩ : ∃ W1, W1 = w.alloc (.cells #[.int .i64 h.b, .int .i64 h.r, .int .i64 h.t] 24) := ⟨_, rfl⟩
  rw [← hW1] at hb1 hx1
  have HW := Lib.hid hW1
  have HB := Lib.hid hb1
  have y0 := hx1.c0
  have y1 := hx1.c1
  have y2 := hx1.c2
  have HX := Lib.hid fun (w' : World) (hs : Below W1.heap.size W1 w') => hx1.keep hs
  have HV := Lib.hid fun w => specHullValid_any h w
  clear hW1 hb1 hx1
  have HP := Lib.hid (specPlaceOf_any h s W1)
  have hbd : -1 ≤ (plOf h s).2.2 ∧ (plOf h s).2.2 ≤ 2 := by
    rcases plOf_cases h s with ⟨_, e⟩ | ⟨hk, h0, h1, _, _, _, _⟩
    · rw [e]; simp
    · obtain ⟨_, _, p3, _⟩ := plOf_in hk h0 h1
      obtain ⟨g1, g2, g3, g4, g5, g6⟩ := hlOk_iff.1 hk
      rw [plOf_yes hk h0 h1]
      simp only []
      omega
  unfold slBelow
  generalize plOf h s = p at HP hbd ⊢
  obtain ⟨x, y, z⟩ := p
  have hbd : -1 ≤ z ∧ z ≤ 2 := hbd
  have HP' : Hid (Calls Try.prog 73 #[.agg #[.int .i64 h.b, .int .i64 h.r, .int .i64 h.t], .int .i64 s] W1 fun e w' => e = .returned (.tuple #[.int .i64 x, .int .i64 y, .int .i64 z]) ∧ Below W1.heap.size W1 w') := HP
  have zz : IntKind.i64.wrap (z - 1) = z - 1 := IntWalk.i64_in _ (by omega)
  have HS := Lib.hid fun w => specSlotOf_any h x y (z - 1) w
  clear HP HV
  go_enter Try.func56, Try.ntmps56
  go_wp2_with fail
  rw [← HW.out]
  go_wp2_with fail
  refine HP'.out.mono ?_
  rintro e w2 ⟨rfl, b2⟩
  have C2 := HB.out.trans (b2.mono HB.out.size)
  have x2 := HX.out w2 b2
  have c0 := x2.c0
  have c1 := x2.c1
  have c2 := x2.c2
  clear x2 y0 y1 y2
  go_wp2_with fail
  refine (HS.out w2).mono ?_
  rintro e w3 ⟨rfl, b3⟩
  go_wp2_with fail
  go_ret
  exact ⟨rfl, C2.trans (b3.mono C2.size)⟩

end Go.Proofs.Ytnnjphhkheocgaa
