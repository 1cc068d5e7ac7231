/-
  Ships and slots: the program's HullValid, SlotMany, SlotOf, PlaceOf, SlotBelow.
-/
import Derived.Test.YtnnjphhkheocgaaSlS
import Derived.Test.YtnnjphhkheocgaaIx
import Derived.WalkKit
import Derived.IntWalk
import Derived.Deep.RegionHeld3
namespace Go.Proofs.Ytnnjphhkheocgaa
open Go.RowKit
set_option linter.unusedVariables false

set_option maxRecDepth 10000 in
set_option maxHeartbeats 1000000 in
theorem implHullValid_any (h : Hl) (w : World) :
    Calls Try.prog 74 #[.agg #[.int .i64 h.b, .int .i64 h.r, .int .i64 h.t]] w fun e w' => e = .returned (.bool (hlOk h)) ∧ Below w.heap.size w w' := by
  have hb := (Below.refl w.heap.size w).alloc (Nat.le_refl _) (.cells #[.int .i64 h.b, .int .i64 h.r, .int .i64 h.t] 24)
  have HB := Lib.hid hb
  clear hb
  by_cases h0 : 1 ≤ h.b
  · by_cases h1 : h.b ≤ 4
    · by_cases h2 : 1 ≤ h.r
      · by_cases h3 : h.r ≤ 3
        · by_cases h4 : 1 ≤ h.t
          · by_cases h5 : h.t ≤ 3
            · rw [show hlOk h = true from decide_eq_true (by omega)]
              have d0 : decide (1 ≤ h.b) = true := decide_eq_true h0
              have d1 : decide (h.b ≤ 4) = true := decide_eq_true h1
              have d2 : decide (1 ≤ h.r) = true := decide_eq_true h2
              have d3 : decide (h.r ≤ 3) = true := decide_eq_true h3
              have d4 : decide (1 ≤ h.t) = true := decide_eq_true h4
              have d5 : decide (h.t ≤ 3) = true := decide_eq_true h5
              clear h0 h1 h2 h3 h4 h5
              go_enter Try.func74, Try.ntmps74
              go_wp2_with fail
              go_ret
              exact ⟨rfl, HB.out⟩
            · rw [show hlOk h = false from decide_eq_false (by omega)]
              have d0 : decide (1 ≤ h.b) = true := decide_eq_true h0
              have d1 : decide (h.b ≤ 4) = true := decide_eq_true h1
              have d2 : decide (1 ≤ h.r) = true := decide_eq_true h2
              have d3 : decide (h.r ≤ 3) = true := decide_eq_true h3
              have d4 : decide (1 ≤ h.t) = true := decide_eq_true h4
              have d5 : decide (h.t ≤ 3) = false := decide_eq_false h5
              clear h0 h1 h2 h3 h4 h5
              go_enter Try.func74, Try.ntmps74
              go_wp2_with fail
              go_ret
              exact ⟨rfl, HB.out⟩
          · rw [show hlOk h = false from decide_eq_false (by omega)]
            have d0 : decide (1 ≤ h.b) = true := decide_eq_true h0
            have d1 : decide (h.b ≤ 4) = true := decide_eq_true h1
            have d2 : decide (1 ≤ h.r) = true := decide_eq_true h2
            have d3 : decide (h.r ≤ 3) = true := decide_eq_true h3
            have d4 : decide (1 ≤ h.t) = false := decide_eq_false h4
            clear h0 h1 h2 h3 h4
            go_enter Try.func74, Try.ntmps74
            go_wp2_with fail
            go_ret
            exact ⟨rfl, HB.out⟩
        · rw [show hlOk h = false from decide_eq_false (by omega)]
          have d0 : decide (1 ≤ h.b) = true := decide_eq_true h0
          have d1 : decide (h.b ≤ 4) = true := decide_eq_true h1
          have d2 : decide (1 ≤ h.r) = true := decide_eq_true h2
          have d3 : decide (h.r ≤ 3) = false := decide_eq_false h3
          clear h0 h1 h2 h3
          go_enter Try.func74, Try.ntmps74
          go_wp2_with fail
          go_ret
          exact ⟨rfl, HB.out⟩
      · rw [show hlOk h = false from decide_eq_false (by omega)]
        have d0 : decide (1 ≤ h.b) = true := decide_eq_true h0
        have d1 : decide (h.b ≤ 4) = true := decide_eq_true h1
        have d2 : decide (1 ≤ h.r) = false := decide_eq_false h2
        clear h0 h1 h2
        go_enter Try.func74, Try.ntmps74
        go_wp2_with fail
        go_ret
        exact ⟨rfl, HB.out⟩
    · rw [show hlOk h = false from decide_eq_false (by omega)]
      have d0 : decide (1 ≤ h.b) = true := decide_eq_true h0
      have d1 : decide (h.b ≤ 4) = false := decide_eq_false h1
      clear h0 h1
      go_enter Try.func74, Try.ntmps74
      go_wp2_with fail
      go_ret
      exact ⟨rfl, HB.out⟩
  · rw [show hlOk h = false from decide_eq_false (by omega)]
    have d0 : decide (1 ≤ h.b) = false := decide_eq_false h0
    clear h0
    go_enter Try.func74, Try.ntmps74
    go_wp2_with fail
    go_ret
    exact ⟨rfl, HB.out⟩

set_option maxRecDepth 10000 in
set_option maxHeartbeats 1000000 in
theorem implSlotMany_any (h : Hl) (w : World) :
    Calls Try.prog 67 #[.agg #[.int .i64 h.b, .int .i64 h.r, .int .i64 h.t]] w fun e w' => e = .returned (.int .i64 (slMany h)) ∧ Below w.heap.size w w' := by
  have hb1 := (Below.refl w.heap.size w).alloc (Nat.le_refl _) (.cells #[.int .i64 h.b, .int .i64 h.r, .int .i64 h.t] 24)
  have hx1 := BoxH.new w h
  obtain ⟨W1, hW1⟩ : ∃ W1, W1 = w.alloc (.cells #[.int .i64 h.b, .int .i64 h.r, .int .i64 h.t] 24) := ⟨_, rfl⟩
  rw [← hW1] at hb1 hx1
  have HW := Lib.hid hW1
  have HB := Lib.hid hb1
  have y0 := hx1.c0
  have y1 := hx1.c1
  have y2 := hx1.c2
  have HX := Lib.hid fun (w' : World) (hs : Below W1.heap.size W1 w') => hx1.keep hs
  have HV := Lib.hid fun w => implHullValid_any h w
  clear hW1 hb1 hx1
  cases hk : hlOk h
  · rw [slMany_bad hk]
    rw [hk] at HV
    clear hk
    go_enter Try.func67, Try.ntmps67
    go_wp2_with fail
    rw [← HW.out]
    go_wp2_with fail
    refine (HV.out W1).mono ?_
    rintro e w2 ⟨rfl, b2⟩
    have C2 := HB.out.trans (b2.mono HB.out.size)
    go_wp2_with fail
    go_ret
    exact ⟨rfl, C2⟩
  · obtain ⟨m0, m1, m2, m3⟩ := mul_bd hk
    rw [(slMany_bd hk).2.2]
    rw [hk] at HV
    have z1 : IntKind.i64.wrap (h.b * h.r) = h.b * h.r := IntWalk.i64_in _ (by omega)
    have z2 : IntKind.i64.wrap (h.b * h.r * h.t) = h.b * h.r * h.t := IntWalk.i64_in _ (by omega)
    clear hk
    go_enter Try.func67, Try.ntmps67
    go_wp2_with fail
    rw [← HW.out]
    go_wp2_with fail
    refine (HV.out W1).mono ?_
    rintro e w2 ⟨rfl, b2⟩
    have C2 := HB.out.trans (b2.mono HB.out.size)
    have x2 := HX.out w2 b2
    have c0 := x2.c0
    have c1 := x2.c1
    have c2 := x2.c2
    clear x2 y0 y1 y2
    go_wp2_with fail
    go_ret
    exact ⟨rfl, C2⟩

set_option maxRecDepth 10000 in
set_option maxHeartbeats 1000000 in
theorem implSlotOf_any (h : Hl) (x y z : Int) (w : World) :
    Calls Try.prog 49 #[.agg #[.int .i64 h.b, .int .i64 h.r, .int .i64 h.t], .int .i64 x, .int .i64 y, .int .i64 z] w fun e w' => e = .returned (.int .i64 (slOf h x y z)) ∧ Below w.heap.size w w' := by
  have hb1 := (Below.refl w.heap.size w).alloc (Nat.le_refl _) (.cells #[.int .i64 h.b, .int .i64 h.r, .int .i64 h.t] 24)
  have hx1 := BoxH.new w h
  obtain ⟨W1, hW1⟩ : ∃ W1, W1 = w.alloc (.cells #[.int .i64 h.b, .int .i64 h.r, .int .i64 h.t] 24) := ⟨_, rfl⟩
  rw [← hW1] at hb1 hx1
  have HW := Lib.hid hW1
  have HB := Lib.hid hb1
  have y0 := hx1.c0
  have y1 := hx1.c1
  have y2 := hx1.c2
  have HX := Lib.hid fun (w' : World) (hs : Below W1.heap.size W1 w') => hx1.keep hs
  have HV := Lib.hid fun w => implHullValid_any h w
  clear hW1 hb1 hx1
  cases hk : hlOk h
  · rw [slOf_no (fun hc => by rw [hk] at hc; cases hc.1)]
    rw [hk] at HV
    clear hk
    go_enter Try.func49, Try.ntmps49
    go_wp2_with fail
    rw [← HW.out]
    go_wp2_with fail
    refine (HV.out W1).mono ?_
    rintro e w2 ⟨rfl, b2⟩
    have C2 := HB.out.trans (b2.mono HB.out.size)
    go_wp2_with fail
    go_ret
    exact ⟨rfl, C2⟩
  · obtain ⟨g1, g2, g3, g4, g5, g6⟩ := hlOk_iff.1 hk
    have zb : IntKind.i64.wrap (h.b - 1) = h.b - 1 := IntWalk.i64_in _ (by omega)
    have zr : IntKind.i64.wrap (h.r - 1) = h.r - 1 := IntWalk.i64_in _ (by omega)
    have zt : IntKind.i64.wrap (h.t - 1) = h.t - 1 := IntWalk.i64_in _ (by omega)
    rw [hk] at HV
    by_cases hx : 0 ≤ x ∧ x ≤ h.b - 1
    · by_cases hy : 0 ≤ y ∧ y ≤ h.r - 1
      · by_cases hz : 0 ≤ z ∧ z ≤ h.t - 1
        · rw [slOf_yes hk hx hy hz]
          obtain ⟨s0, s1, s2, s3, s4, s5⟩ := slot_bd hk hx hy hz
          have e1 : IntKind.i64.wrap (x * h.r) = x * h.r := IntWalk.i64_in _ (by omega)
          have e2 : IntKind.i64.wrap (x * h.r + y) = x * h.r + y := IntWalk.i64_in _ (by omega)
          have e3 : IntKind.i64.wrap ((x * h.r + y) * h.t) = (x * h.r + y) * h.t := IntWalk.i64_in _ (by omega)
          have e4 : IntKind.i64.wrap ((x * h.r + y) * h.t + z) = (x * h.r + y) * h.t + z := IntWalk.i64_in _ (by omega)
          clear hk
          go_enter Try.func49, Try.ntmps49
          go_wp2_with fail
          rw [← HW.out]
          go_wp2_with fail
          refine (HV.out W1).mono ?_
          rintro e w2 ⟨rfl, b2⟩
          have C2 := HB.out.trans (b2.mono HB.out.size)
          have x2 := HX.out w2 b2
          have c0 := x2.c0
          have c1 := x2.c1
          have c2 := x2.c2
          clear x2 y0 y1 y2
          go_wp2_with fail
          refine (isIdx_yes x h.b _ hx.1 (by omega)).mono ?_
          rintro e w' ⟨rfl, rfl⟩
          go_wp2_with fail
          refine (isIdx_yes y h.r _ hy.1 (by omega)).mono ?_
          rintro e w' ⟨rfl, rfl⟩
          go_wp2_with fail
          refine (isIdx_yes z h.t _ hz.1 (by omega)).mono ?_
          rintro e w' ⟨rfl, rfl⟩
          go_wp2_with fail
          go_ret
          exact ⟨rfl, C2⟩
        · rw [slOf_no (fun hc => hz hc.2.2.2)]
          clear hk
          go_enter Try.func49, Try.ntmps49
          go_wp2_with fail
          rw [← HW.out]
          go_wp2_with fail
          refine (HV.out W1).mono ?_
          rintro e w2 ⟨rfl, b2⟩
          have C2 := HB.out.trans (b2.mono HB.out.size)
          have x2 := HX.out w2 b2
          have c0 := x2.c0
          have c1 := x2.c1
          have c2 := x2.c2
          clear x2 y0 y1 y2
          go_wp2_with fail
          refine (isIdx_yes x h.b _ hx.1 (by omega)).mono ?_
          rintro e w' ⟨rfl, rfl⟩
          go_wp2_with fail
          refine (isIdx_yes y h.r _ hy.1 (by omega)).mono ?_
          rintro e w' ⟨rfl, rfl⟩
          go_wp2_with fail
          refine (isIdx_no z h.t _ (by omega)).mono ?_
          rintro e w' ⟨rfl, rfl⟩
          go_wp2_with fail
          go_ret
          exact ⟨rfl, C2⟩
      · rw [slOf_no (fun hc => hy hc.2.2.1)]
        clear hk
        go_enter Try.func49, Try.ntmps49
        go_wp2_with fail
        rw [← HW.out]
        go_wp2_with fail
        refine (HV.out W1).mono ?_
        rintro e w2 ⟨rfl, b2⟩
        have C2 := HB.out.trans (b2.mono HB.out.size)
        have x2 := HX.out w2 b2
        have c0 := x2.c0
        have c1 := x2.c1
        have c2 := x2.c2
        clear x2 y0 y1 y2
        go_wp2_with fail
        refine (isIdx_yes x h.b _ hx.1 (by omega)).mono ?_
        rintro e w' ⟨rfl, rfl⟩
        go_wp2_with fail
        refine (isIdx_no y h.r _ (by omega)).mono ?_
        rintro e w' ⟨rfl, rfl⟩
        go_wp2_with fail
        go_ret
        exact ⟨rfl, C2⟩
    · rw [slOf_no (fun hc => hx hc.2.1)]
      clear hk
      go_enter Try.func49, Try.ntmps49
      go_wp2_with fail
      rw [← HW.out]
      go_wp2_with fail
      refine (HV.out W1).mono ?_
      rintro e w2 ⟨rfl, b2⟩
      have C2 := HB.out.trans (b2.mono HB.out.size)
      have x2 := HX.out w2 b2
      have c0 := x2.c0
      have c1 := x2.c1
      have c2 := x2.c2
      clear x2 y0 y1 y2
      go_wp2_with fail
      refine (isIdx_no x h.b _ (by omega)).mono ?_
      rintro e w' ⟨rfl, rfl⟩
      go_wp2_with fail
      go_ret
      exact ⟨rfl, C2⟩

set_option maxRecDepth 10000 in
set_option maxHeartbeats 1000000 in
theorem implPlaceOf_any (h : Hl) (s : Int) (w : World) :
    Calls Try.prog 45 #[.agg #[.int .i64 h.b, .int .i64 h.r, .int .i64 h.t], .int .i64 s] w fun e w' => e = .returned (.tuple #[.int .i64 (plOf h s).1, .int .i64 (plOf h s).2.1, .int .i64 (plOf h s).2.2]) ∧ Below w.heap.size w w' := by
  have hb1 := (Below.refl w.heap.size w).alloc (Nat.le_refl _) (.cells #[.int .i64 h.b, .int .i64 h.r, .int .i64 h.t] 24)
  have hx1 := BoxH.new w h
  obtain ⟨W1, hW1⟩ : ∃ W1, W1 = w.alloc (.cells #[.int .i64 h.b, .int .i64 h.r, .int .i64 h.t] 24) := ⟨_, rfl⟩
  rw [← hW1] at hb1 hx1
  have HW := Lib.hid hW1
  have HB := Lib.hid hb1
  have y0 := hx1.c0
  have y1 := hx1.c1
  have y2 := hx1.c2
  have HX := Lib.hid fun (w' : World) (hs : Below W1.heap.size W1 w') => hx1.keep hs
  have HV := Lib.hid fun w => implHullValid_any h w
  clear hW1 hb1 hx1
  clear HV
  have HM := Lib.hid fun w => implSlotMany_any h w
  by_cases hs : 0 ≤ s ∧ s ≤ slMany h - 1
  · have hk : hlOk h = true := by
      cases hk : hlOk h
      · have := slMany_bad hk; omega
      · rfl
    obtain ⟨g1, g2, g3, g4, g5, g6⟩ := hlOk_iff.1 hk
    obtain ⟨m1, m2, -⟩ := slMany_bd hk
    rw [plOf_yes hk hs.1 hs.2]
    obtain ⟨p1, p2, p3, -⟩ := plOf_in hk hs.1 hs.2
    have hs0 := hs.1
    have hs36 : s ≤ 35 := by omega
    have hslt : s < slMany h := by omega
    have d0 : 0 ≤ s / h.t := Int.ediv_nonneg hs0 (by omega)
    have d1 : s / h.t ≤ 35 := Int.le_trans (Int.ediv_le_self _ hs0) hs36
    have nt : ¬ h.t = 0 := by omega
    have nr : ¬ h.r = 0 := by omega
    have t1 : s.tdiv h.t = s / h.t := Int.tdiv_eq_ediv_of_nonneg hs0
    have t2 : s.tmod h.t = s % h.t := Int.tmod_eq_emod_of_nonneg hs0
    have t3 : (s / h.t).tdiv h.r = s / h.t / h.r := Int.tdiv_eq_ediv_of_nonneg d0
    have t4 : (s / h.t).tmod h.r = s / h.t % h.r := Int.tmod_eq_emod_of_nonneg d0
    have e1 : IntKind.i64.wrap (s / h.t) = s / h.t := IntWalk.i64_in _ (by omega)
    have e2 : IntKind.i64.wrap (s / h.t / h.r) = s / h.t / h.r := IntWalk.i64_in _ (by omega)
    have e3 : IntKind.i64.wrap (s / h.t % h.r) = s / h.t % h.r := IntWalk.i64_in _ (by omega)
    have e4 : IntKind.i64.wrap (s % h.t) = s % h.t := IntWalk.i64_in _ (by omega)
    clear hk
    go_enter Try.func45, Try.ntmps45
    go_wp2_with fail
    rw [← HW.out]
    go_wp2_with fail
    refine (HM.out W1).mono ?_
    rintro e w3 ⟨rfl, b3⟩
    have C9 := HB.out.trans (b3.mono HB.out.size)
    have x3 := HX.out w3 b3
    have c0 := x3.c0
    have c1 := x3.c1
    have c2 := x3.c2
    clear x3 y0 y1 y2
    go_wp2_with fail
    refine (isIdx_yes s (slMany h) _ hs0 hslt).mono ?_
    rintro e w' ⟨rfl, rfl⟩
    go_wp2_with fail
    trace_state
    have hstart : w3.drew.cell? ⟨w.heap.size, 1, none⟩ = some (.int .i64 h.r) ∧ w3.drew.cell? ⟨w.heap.size, 2, none⟩ = some (.int .i64 h.t) := ⟨c1, c2⟩
    have C9 := C9.drew
    go_region_held3 (fun w' => w'.cell? ⟨w.heap.size, 1, none⟩ = some (.int .i64 h.r) ∧ w'.cell? ⟨w.heap.size, 2, none⟩ = some (.int .i64 h.t)) (first | exact hstart | fail) (fail)
    go_wp2_with fail
    exact bodyPost_ret (v := .tuple #[.int .i64 (s / h.t / h.r), .int .i64 (s / h.t % h.r), .int .i64 (s % h.t)]) (by simp [results, Try.results45, go_sem]) rfl ⟨rfl, C9⟩
  · rw [plOf_no (fun hc => hs hc.2)]
    go_enter Try.func45, Try.ntmps45
    go_wp2_with fail
    rw [← HW.out]
    go_wp2_with fail
    refine (HM.out W1).mono ?_
    rintro e w3 ⟨rfl, b3⟩
    have C9 := HB.out.trans (b3.mono HB.out.size)
    have x3 := HX.out w3 b3
    have c0 := x3.c0
    have c1 := x3.c1
    have c2 := x3.c2
    clear x3 y0 y1 y2
    go_wp2_with fail
    refine (isIdx_no s (slMany h) _ (by omega)).mono ?_
    rintro e w' ⟨rfl, rfl⟩
    go_wp2_with fail
    exact bodyPost_ret (v := .tuple #[.int .i64 (-1), .int .i64 (-1), .int .i64 (-1)]) (by simp [results, Try.results45, go_sem]) rfl ⟨rfl, C9⟩

theorem slBelow_tier (h : Hl) (s : Int) : slBelow h s = if (plOf h s).2.2 ≤ 0 then -1 else s - 1 := by
  rcases plOf_cases h s with ⟨hc, e⟩ | ⟨hk, h0, h1, _, _, _, _⟩
  · unfold slBelow
    rw [e]
    simp only []
    rw [slOf_no (fun hc => by have := hc.2.1.1; omega)]
    rfl
  · obtain ⟨p1, p2, p3, p4⟩ := plOf_in hk h0 h1
    unfold slBelow
    rw [plOf_yes hk h0 h1]
    simp only []
    by_cases hz : s % h.t ≤ 0
    · rw [if_pos hz, slOf_no (fun hc => by have := hc.2.2.2.1; omega)]
    · rw [if_neg hz, slOf_yes hk p1 p2 (by omega)]
      omega

set_option maxRecDepth 10000 in
set_option maxHeartbeats 1000000 in
theorem implSlotBelow_any (h : Hl) (s : Int) (w : World) :
    Calls Try.prog 80 #[.agg #[.int .i64 h.b, .int .i64 h.r, .int .i64 h.t], .int .i64 s] w fun e w' => e = .returned (.int .i64 (slBelow h s)) ∧ Below w.heap.size w w' := by
  have hb1 := (Below.refl w.heap.size w).alloc (Nat.le_refl _) (.cells #[.int .i64 h.b, .int .i64 h.r, .int .i64 h.t] 24)
  have hx1 := BoxH.new w h
  obtain ⟨W1, hW1⟩ : ∃ W1, W1 = w.alloc (.cells #[.int .i64 h.b, .int .i64 h.r, .int .i64 h.t] 24) := ⟨_, rfl⟩
  rw [← hW1] at hb1 hx1
  have HW := Lib.hid hW1
  have HB := Lib.hid hb1
  have y0 := hx1.c0
  have y1 := hx1.c1
  have y2 := hx1.c2
  have HX := Lib.hid fun (w' : World) (hs : Below W1.heap.size W1 w') => hx1.keep hs
  have HV := Lib.hid fun w => implHullValid_any h w
  clear hW1 hb1 hx1
  have HP := Lib.hid (implPlaceOf_any h s W1)
  have hbd : 0 < (plOf h s).2.2 → 0 ≤ s ∧ s ≤ 35 := by
    intro hlt
    rcases plOf_cases h s with ⟨_, e⟩ | ⟨hk, h0, h1, _, _, _, _⟩
    · rw [e] at hlt; simp at hlt
    · have := (slMany_bd hk).2.1
      omega
  rw [slBelow_tier]
  generalize plOf h s = p at HP hbd ⊢
  obtain ⟨x, y, z⟩ := p
  have hbd : 0 < z → 0 ≤ s ∧ s ≤ 35 := hbd
  have HP' : Hid (Calls Try.prog 45 #[.agg #[.int .i64 h.b, .int .i64 h.r, .int .i64 h.t], .int .i64 s] W1 fun e w' => e = .returned (.tuple #[.int .i64 x, .int .i64 y, .int .i64 z]) ∧ Below W1.heap.size W1 w') := HP
  clear HP HV
  simp only []
  by_cases hz : z ≤ 0
  · rw [if_pos hz]
    have dz : decide (z ≤ 0) = true := decide_eq_true hz
    go_enter Try.func80, Try.ntmps80
    go_wp2_with fail
    rw [← HW.out]
    go_wp2_with fail
    refine HP'.out.mono ?_
    rintro e w2 ⟨rfl, b2⟩
    have C2 := HB.out.trans (b2.mono HB.out.size)
    go_wp2_with fail
    go_ret
    exact ⟨rfl, C2⟩
  · rw [if_neg hz]
    have hb := hbd (by omega)
    have dz : decide (z ≤ 0) = false := decide_eq_false hz
    have zz : IntKind.i64.wrap (s - 1) = s - 1 := IntWalk.i64_in _ (by omega)
    go_enter Try.func80, Try.ntmps80
    go_wp2_with fail
    rw [← HW.out]
    go_wp2_with fail
    refine HP'.out.mono ?_
    rintro e w2 ⟨rfl, b2⟩
    have C2 := HB.out.trans (b2.mono HB.out.size)
    go_wp2_with fail
    go_ret
    exact ⟨rfl, C2⟩

end Go.Proofs.Ytnnjphhkheocgaa
