/-
  The draws of a stack, a height and an id: DrawStackPut, DrawStackAbove.
-/
import Derived.Test.YtnjmdfjplmakpaaDrSt
namespace Go.Proofs.Ytnjmdfjplmakpaa
open Go.RowKit
set_option linter.unusedVariables false

/-- What a draw of a stack, a height and an id gives. -/
def DrewStkId (w : World) (e : Ending) (w' : World) : Prop :=
  ∃ (l : List Int) (g cp : Nat) (x d : Int), l.length ≤ 11 ∧ 0 ≤ x ∧ x ≤ 6 ∧ e = .returned (.tuple #[.slice (some ⟨g, 0, none⟩) l.length cp, .int .i64 x, .int .i64 d]) ∧ HoldsI w' (.slice (some ⟨g, 0, none⟩) l.length cp) l ∧ Below w.heap.size w w'
theorem below_drewN {B : Nat} {a w : World} (h : Below B a w) (n : Nat) : Below B a (w.drewN n) := ⟨h.os, h.tape, h.output, h.size, h.block⟩
theorem NewI.at_ {K : Nat} {w : World} {g n cp : Nat} {l : List Int} (h : NewI K w (.slice (some ⟨g, 0, none⟩) n cp) l) : cp ≤ 9223372036854775807 ∧ l.length ≤ cp ∧ ∀ k (hk : k < l.length), w.cell? ⟨g, k, none⟩ = some (.int .i64 l[k]) := by
  obtain ⟨a, cap, h1, h2, h3, h4⟩ := h
  simp only [Value.slice.injEq] at h1
  obtain ⟨rfl, -, rfl⟩ := h1
  refine ⟨by unfold maxLen at h3; omega, h2, fun k hk => ?_⟩
  rcases h4 with h4 | ⟨b, off, h5, _, _, h8⟩
  · omega
  · simp only [Option.some.injEq, Addr.mk.injEq] at h5
    obtain ⟨rfl, rfl, -⟩ := h5
    have := h8 k hk
    rwa [Nat.zero_add] at this

set_option maxHeartbeats 1000000 in
theorem drawStackPut_any (a : Option Addr) (len cap : Nat) (w : World) (h : IsRow8 w a len cap) :
    Calls Try.prog 15 #[.slice a len cap] w (DrewStkId w) := by
  go_enter Try.func15, Try.ntmps15
  go_wp2_with fail
  refine (open_any a len cap _ h).mono ?_
  rintro e w1 ⟨rfl, hr, hb, hz1⟩
  go_wp2_with fail
  refine (l20High_any _ _ 0 12 w1 hr (by omega) (by omega) (by omega)).mono ?_
  rintro e w2 ⟨x, q, hq, x0, x1, rfl, hr2, hm2⟩
  have hbb := hb.trans (hm2.under (Nat.le_refl _) hb.size)
  have hz2 := hbb.size
  have hB2 := hr2.2.1
  clear hr hb hz1 hm2
  rcases (by omega : x = 0 ∨ x = 6 ∨ 1 ≤ x ∧ x ≤ 5) with hx | hx | ⟨hx, hx5⟩
  · subst hx
    go_wp2_with fail
    refine (l20Stack_any _ _ q _ 12 w2 hr2 (by omega) (by omega) (by omega) (by omega) (by omega)).mono ?_
    rintro e w3 ⟨l, g, cp, q3, hq3, hl, rfl, hn, hr3, hm3⟩
    have hh3 := Lib.hid hn
    have hk := hn.at_
    clear hn
    by_cases hl0 : l.length = 0
    · obtain rfl := List.eq_nil_of_length_eq_zero hl0
      clear hk
      go_wp2_with fail
      refine (pick_any _ _ q3 50 w3 hr3 (by omega) (by omega)).mono ?_
      rintro e w5 ⟨z, z0, z1, rfl, hr5, ho5⟩
      have hh5 := Lib.hid (hh3.out.most ho5.mostB hB2)
      have hm5 := hm3.trans ho5.mostB
      clear hr3 hm3 ho5 hh3
      go_wp2_with fail
      refine (pick_any _ _ (q3 + 1) 20 w5 hr5 (by omega) (by omega)).mono ?_
      rintro e w6 ⟨z2, z20, z21, rfl, hr6, ho6⟩
      have hh6 := Lib.hid (hh5.out.most ho6.mostB hB2).holds
      have hm6 := hm5.trans ho6.mostB
      have d0 : 0 ≤ z2 / 19 := Int.ediv_nonneg z20 (by omega)
      have d1 : z2 / 19 ≤ 1 := by omega
      have hbw := hbb.trans (hm6.under (Nat.le_refl _) hz2)
      clear hr5 hm5 ho6 hh5 hr6 hm6 hbb
      go_wp2_with fail
      go_ret3
      exact ⟨[], g, cp, _, _, hl, by omega, by omega, rfl, hh6.out, hbw⟩
    · have c0 : (0 : Int) < (l.length : Int) := by omega
      have c1 : 0 < l.length := by omega
      go_wp2_with fail
      refine (pick_any _ _ q3 6 w3 hr3 (by omega) (by omega)).mono ?_
      rintro e w4 ⟨y, y0, y1, rfl, hr4, ho4⟩
      have hh4 := Lib.hid (hh3.out.most ho4.mostB hB2)
      have hm4 := hm3.trans ho4.mostB
      clear hh3 hr3 hm3 ho4 hk
      by_cases hy : y = 0
      · subst hy
        have s0 : w4.cell? ⟨g, 0, none⟩ = some (.int .i64 l[0]) := hh4.out.at_.2.2 0 c1
        generalize l[0] = d at s0
        have hbw := hbb.trans (hm4.under (Nat.le_refl _) hz2)
        clear hr4 hm4 hbb
        go_wp2_with fail
        go_quiet (fail)
        go_wp2_with fail
        go_ret3
        exact ⟨l, g, cp, _, d, hl, by omega, by omega, rfl, (hh4.out.keep (below_drewN (Below.refl _ _) _)).holds, below_drewN hbw _⟩
      · have b1 : (y == 0) = false := by rw [beq_eq_false_iff_ne]; exact hy
        go_wp2_with fail
        refine (pick_any _ _ (q3 + 1) 50 w4 hr4 (by omega) (by omega)).mono ?_
        rintro e w5 ⟨z, z0, z1, rfl, hr5, ho5⟩
        have hh5 := Lib.hid (hh4.out.most ho5.mostB hB2)
        have hm5 := hm4.trans ho5.mostB
        clear hr4 hm4 ho5 hh4
        go_wp2_with fail
        refine (pick_any _ _ ((q3 + 1) + 1) 20 w5 hr5 (by omega) (by omega)).mono ?_
        rintro e w6 ⟨z2, z20, z21, rfl, hr6, ho6⟩
        have hh6 := Lib.hid (hh5.out.most ho6.mostB hB2).holds
        have hm6 := hm5.trans ho6.mostB
        have d0 : 0 ≤ z2 / 19 := Int.ediv_nonneg z20 (by omega)
        have d1 : z2 / 19 ≤ 1 := by omega
        have hbw := hbb.trans (hm6.under (Nat.le_refl _) hz2)
        clear hr5 hm5 ho6 hh5 hr6 hm6 hbb
        go_wp2_with fail
        go_ret3
        exact ⟨l, g, cp, _, _, hl, by omega, by omega, rfl, hh6.out, hbw⟩
  · subst hx
    go_wp2_with fail
    refine (l20Stack_any _ _ q _ 12 w2 hr2 (by omega) (by omega) (by omega) (by omega) (by omega)).mono ?_
    rintro e w3 ⟨l, g, cp, q3, hq3, hl, rfl, hn, hr3, hm3⟩
    have hh3 := Lib.hid hn
    have hk := hn.at_
    clear hn
    by_cases hl0 : l.length = 0
    · obtain rfl := List.eq_nil_of_length_eq_zero hl0
      clear hk
      go_wp2_with fail
      refine (pick_any _ _ q3 50 w3 hr3 (by omega) (by omega)).mono ?_
      rintro e w5 ⟨z, z0, z1, rfl, hr5, ho5⟩
      have hh5 := Lib.hid (hh3.out.most ho5.mostB hB2)
      have hm5 := hm3.trans ho5.mostB
      clear hr3 hm3 ho5 hh3
      go_wp2_with fail
      refine (pick_any _ _ (q3 + 1) 20 w5 hr5 (by omega) (by omega)).mono ?_
      rintro e w6 ⟨z2, z20, z21, rfl, hr6, ho6⟩
      have hh6 := Lib.hid (hh5.out.most ho6.mostB hB2).holds
      have hm6 := hm5.trans ho6.mostB
      have d0 : 0 ≤ z2 / 19 := Int.ediv_nonneg z20 (by omega)
      have d1 : z2 / 19 ≤ 1 := by omega
      have hbw := hbb.trans (hm6.under (Nat.le_refl _) hz2)
      clear hr5 hm5 ho6 hh5 hr6 hm6 hbb
      go_wp2_with fail
      go_ret3
      exact ⟨[], g, cp, _, _, hl, by omega, by omega, rfl, hh6.out, hbw⟩
    · have c0 : (0 : Int) < (l.length : Int) := by omega
      have c1 : 0 < l.length := by omega
      go_wp2_with fail
      refine (pick_any _ _ q3 6 w3 hr3 (by omega) (by omega)).mono ?_
      rintro e w4 ⟨y, y0, y1, rfl, hr4, ho4⟩
      have hh4 := Lib.hid (hh3.out.most ho4.mostB hB2)
      have hm4 := hm3.trans ho4.mostB
      clear hh3 hr3 hm3 ho4 hk
      by_cases hy : y = 0
      · subst hy
        have s0 : w4.cell? ⟨g, 0, none⟩ = some (.int .i64 l[0]) := hh4.out.at_.2.2 0 c1
        generalize l[0] = d at s0
        have hbw := hbb.trans (hm4.under (Nat.le_refl _) hz2)
        clear hr4 hm4 hbb
        go_wp2_with fail
        go_quiet (fail)
        go_wp2_with fail
        go_ret3
        exact ⟨l, g, cp, _, d, hl, by omega, by omega, rfl, (hh4.out.keep (below_drewN (Below.refl _ _) _)).holds, below_drewN hbw _⟩
      · have b1 : (y == 0) = false := by rw [beq_eq_false_iff_ne]; exact hy
        go_wp2_with fail
        refine (pick_any _ _ (q3 + 1) 50 w4 hr4 (by omega) (by omega)).mono ?_
        rintro e w5 ⟨z, z0, z1, rfl, hr5, ho5⟩
        have hh5 := Lib.hid (hh4.out.most ho5.mostB hB2)
        have hm5 := hm4.trans ho5.mostB
        clear hr4 hm4 ho5 hh4
        go_wp2_with fail
        refine (pick_any _ _ ((q3 + 1) + 1) 20 w5 hr5 (by omega) (by omega)).mono ?_
        rintro e w6 ⟨z2, z20, z21, rfl, hr6, ho6⟩
        have hh6 := Lib.hid (hh5.out.most ho6.mostB hB2).holds
        have hm6 := hm5.trans ho6.mostB
        have d0 : 0 ≤ z2 / 19 := Int.ediv_nonneg z20 (by omega)
        have d1 : z2 / 19 ≤ 1 := by omega
        have hbw := hbb.trans (hm6.under (Nat.le_refl _) hz2)
        clear hr5 hm5 ho6 hh5 hr6 hm6 hbb
        go_wp2_with fail
        go_ret3
        exact ⟨l, g, cp, _, _, hl, by omega, by omega, rfl, hh6.out, hbw⟩
  · have hx1 : ¬ x < 1 := by omega
    have hx6 : ¬ 5 < x := by omega
    go_wp2_with fail
    refine (l20Stack_any _ _ q _ 12 w2 hr2 (by omega) (by omega) (by omega) (by omega) (by omega)).mono ?_
    rintro e w3 ⟨l, g, cp, q3, hq3, hl, rfl, hn, hr3, hm3⟩
    have hh3 := Lib.hid hn
    have hk := hn.at_
    clear hn
    by_cases hl0 : l.length = 0
    · obtain rfl := List.eq_nil_of_length_eq_zero hl0
      clear hk
      go_wp2_with fail
      refine (pick_any _ _ q3 50 w3 hr3 (by omega) (by omega)).mono ?_
      rintro e w5 ⟨z, z0, z1, rfl, hr5, ho5⟩
      have hh5 := Lib.hid (hh3.out.most ho5.mostB hB2)
      have hm5 := hm3.trans ho5.mostB
      clear hr3 hm3 ho5 hh3
      go_wp2_with fail
      refine (pick_any _ _ (q3 + 1) 20 w5 hr5 (by omega) (by omega)).mono ?_
      rintro e w6 ⟨z2, z20, z21, rfl, hr6, ho6⟩
      have hh6 := Lib.hid (hh5.out.most ho6.mostB hB2).holds
      have hm6 := hm5.trans ho6.mostB
      have d0 : 0 ≤ z2 / 19 := Int.ediv_nonneg z20 (by omega)
      have d1 : z2 / 19 ≤ 1 := by omega
      have hbw := hbb.trans (hm6.under (Nat.le_refl _) hz2)
      clear hr5 hm5 ho6 hh5 hr6 hm6 hbb
      go_wp2_with fail
      go_ret3
      exact ⟨[], g, cp, _, _, hl, by omega, by omega, rfl, hh6.out, hbw⟩
    · have c0 : (0 : Int) < (l.length : Int) := by omega
      have c1 : 0 < l.length := by omega
      go_wp2_with fail
      refine (pick_any _ _ q3 6 w3 hr3 (by omega) (by omega)).mono ?_
      rintro e w4 ⟨y, y0, y1, rfl, hr4, ho4⟩
      have hh4 := Lib.hid (hh3.out.most ho4.mostB hB2)
      have hm4 := hm3.trans ho4.mostB
      clear hh3 hr3 hm3 ho4 hk
      by_cases hy : y = 0
      · subst hy
        have s0 : w4.cell? ⟨g, 0, none⟩ = some (.int .i64 l[0]) := hh4.out.at_.2.2 0 c1
        generalize l[0] = d at s0
        have hbw := hbb.trans (hm4.under (Nat.le_refl _) hz2)
        clear hr4 hm4 hbb
        go_wp2_with fail
        go_quiet (fail)
        go_wp2_with fail
        go_ret3
        exact ⟨l, g, cp, _, d, hl, by omega, by omega, rfl, (hh4.out.keep (below_drewN (Below.refl _ _) _)).holds, below_drewN hbw _⟩
      · have b1 : (y == 0) = false := by rw [beq_eq_false_iff_ne]; exact hy
        go_wp2_with fail
        refine (pick_any _ _ (q3 + 1) 50 w4 hr4 (by omega) (by omega)).mono ?_
        rintro e w5 ⟨z, z0, z1, rfl, hr5, ho5⟩
        have hh5 := Lib.hid (hh4.out.most ho5.mostB hB2)
        have hm5 := hm4.trans ho5.mostB
        clear hr4 hm4 ho5 hh4
        go_wp2_with fail
        refine (pick_any _ _ ((q3 + 1) + 1) 20 w5 hr5 (by omega) (by omega)).mono ?_
        rintro e w6 ⟨z2, z20, z21, rfl, hr6, ho6⟩
        have hh6 := Lib.hid (hh5.out.most ho6.mostB hB2).holds
        have hm6 := hm5.trans ho6.mostB
        have d0 : 0 ≤ z2 / 19 := Int.ediv_nonneg z20 (by omega)
        have d1 : z2 / 19 ≤ 1 := by omega
        have hbw := hbb.trans (hm6.under (Nat.le_refl _) hz2)
        clear hr5 hm5 ho6 hh5 hr6 hm6 hbb
        go_wp2_with fail
        go_ret3
        exact ⟨l, g, cp, _, _, hl, by omega, by omega, rfl, hh6.out, hbw⟩
end Go.Proofs.Ytnjmdfjplmakpaa
