/-
  The draw of a stack, a height and an id: DrawStackAbove.
-/
import Derived.Test.YtnjmdfjplmakpaaDrSp
namespace Go.Proofs.Ytnjmdfjplmakpaa
open Go.RowKit
set_option linter.unusedVariables false

set_option maxHeartbeats 1000000 in
theorem drawStackAbove_any (a : Option Addr) (len cap : Nat) (w : World) (h : IsRow8 w a len cap) :
    Calls Try.prog 23 #[.slice a len cap] w (DrewStkId w) := by
  go_enter Try.func23, Try.ntmps23
  go_wp2_with fail
  refine (open_any a len cap _ h).mono ?_
  rintro e w1 ⟨rfl, hr, hb, hz1⟩
  go_wp2_with fail
  refine (l20High_any _ _ 0 12 w1 hr (by omega) (by omega) (by omega)).mono ?_
  rintro e w2 ⟨x, q, hq, x0, x1, rfl, hr2, hm2⟩
  have hbb := hb.trans (hm2.under (Nat.le_refl _) hb.size)
  have hz2 := hbb.size
  have hB2 := hr2.2.1
  clear hr hb hz1 hm2
  rcases (by omega : x = 0 ∨ x = 6 ∨ 1 ≤ x ∧ x ≤ 5) with hx | hx | ⟨hx, hx5⟩
  · subst hx
    go_wp2_with fail
    refine (l20Stack_any _ _ q _ 12 w2 hr2 (by omega) (by omega) (by omega) (by omega) (by omega)).mono ?_
    rintro e w3 ⟨l, g, cp, q3, hq3, hl, rfl, hn, hr3, hm3⟩
    have hh3 := Lib.hid hn
    have hk := hn.at_
    clear hn
    by_cases hl0 : l.length = 0
    · obtain rfl := List.eq_nil_of_length_eq_zero hl0
      clear hk
      go_wp2_with fail
      refine (pick_any _ _ q3 30 w3 hr3 (by omega) (by omega)).mono ?_
      rintro e w5 ⟨z, z0, z1, rfl, hr5, ho5⟩
      have hh5 := Lib.hid (hh3.out.most ho5.mostB hB2).holds
      have hm5 := hm3.trans ho5.mostB
      have hbw := hbb.trans (hm5.under (Nat.le_refl _) hz2)
      clear hr3 hm3 ho5 hh3 hr5 hm5 hbb
      go_wp2_with fail
      go_ret3
      exact ⟨[], g, cp, _, _, hl, by omega, by omega, rfl, hh5.out, hbw⟩
    · have c0 : (0 : Int) < (l.length : Int) := by omega
      have c1 : 0 < l.length := by omega
      go_wp2_with fail
      refine (pick_any _ _ q3 4 w3 hr3 (by omega) (by omega)).mono ?_
      rintro e w4 ⟨y, y0, y1, rfl, hr4, ho4⟩
      have hh4 := Lib.hid (hh3.out.most ho4.mostB hB2)
      have hm4 := hm3.trans ho4.mostB
      clear hh3 hr3 hm3 ho4 hk
      by_cases hy : 0 < y
      · have hd4 : Below w4.heap.size w4 w4.drew := (Below.refl _ _).drew
        have hB4 : w.heap.size < w4.heap.size := Nat.lt_of_lt_of_le hB2 hm4.size
        have hr4' := hr4.keepK hd4 hB4
        have HX := Lib.hid fun (w5 : World) (k : Nat) (hk : k < l.length) (ho : Only w.heap.size w4.drew w5) => (show ∃ d, w5.cell? ⟨g, k, none⟩ = some (.int .i64 d) from ⟨_, ((hh4.out.keep hd4).most ho.mostB hB2).at_.2.2 k hk⟩)
        have hcl := hh4.out.at_.2.1
        have PK := Lib.hid (pick_any _ _ (q3 + 1) (l.length : Int) _ hr4' (by omega) (by have := hh4.out.at_.1; omega))
        clear hr4 hr4'
        go_wp2_with fail
        (first | go_region_with (go_at_call 38; (with_reducible refine PK.out.mono ?_); rintro e w5 ⟨z, z0, z1, rfl, hr5, ho5⟩; obtain ⟨k, rfl⟩ := Int.eq_ofNat_of_zero_le z0; obtain ⟨d, s5⟩ := HX.out w5 k (by omega) ho5) | fail)
        all_goals
          have hh5 := Lib.hid ((hh4.out.keep hd4).most ho5.mostB hB2).holds
          have hbw := hbb.trans (((hm4.below_ ((Below.refl _ _).drew)).trans ho5.mostB).under (Nat.le_refl _) hz2)
          clear PK HX ho5 hr5 hd4
          go_wp2_with fail
          go_ret3
          exact ⟨l, g, cp, _, d, hl, by omega, by omega, rfl, hh5.out, hbw⟩
      · have b1 : ¬ 0 < y := hy
        go_wp2_with fail
        refine (pick_any _ _ (q3 + 1) 30 w4 hr4 (by omega) (by omega)).mono ?_
        rintro e w5 ⟨z, z0, z1, rfl, hr5, ho5⟩
        have hh5 := Lib.hid (hh4.out.most ho5.mostB hB2).holds
        have hm5 := hm4.trans ho5.mostB
        have hbw := hbb.trans (hm5.under (Nat.le_refl _) hz2)
        clear hr4 hm4 ho5 hh4 hr5 hm5 hbb
        go_wp2_with fail
        go_ret3
        exact ⟨l, g, cp, _, _, hl, by omega, by omega, rfl, hh5.out, hbw⟩
  · subst hx
    go_wp2_with fail
    refine (l20Stack_any _ _ q _ 12 w2 hr2 (by omega) (by omega) (by omega) (by omega) (by omega)).mono ?_
    rintro e w3 ⟨l, g, cp, q3, hq3, hl, rfl, hn, hr3, hm3⟩
    have hh3 := Lib.hid hn
    have hk := hn.at_
    clear hn
    by_cases hl0 : l.length = 0
    · obtain rfl := List.eq_nil_of_length_eq_zero hl0
      clear hk
      go_wp2_with fail
      refine (pick_any _ _ q3 30 w3 hr3 (by omega) (by omega)).mono ?_
      rintro e w5 ⟨z, z0, z1, rfl, hr5, ho5⟩
      have hh5 := Lib.hid (hh3.out.most ho5.mostB hB2).holds
      have hm5 := hm3.trans ho5.mostB
      have hbw := hbb.trans (hm5.under (Nat.le_refl _) hz2)
      clear hr3 hm3 ho5 hh3 hr5 hm5 hbb
      go_wp2_with fail
      go_ret3
      exact ⟨[], g, cp, _, _, hl, by omega, by omega, rfl, hh5.out, hbw⟩
    · have c0 : (0 : Int) < (l.length : Int) := by omega
      have c1 : 0 < l.length := by omega
      go_wp2_with fail
      refine (pick_any _ _ q3 4 w3 hr3 (by omega) (by omega)).mono ?_
      rintro e w4 ⟨y, y0, y1, rfl, hr4, ho4⟩
      have hh4 := Lib.hid (hh3.out.most ho4.mostB hB2)
      have hm4 := hm3.trans ho4.mostB
      clear hh3 hr3 hm3 ho4 hk
      by_cases hy : 0 < y
      · have hd4 : Below w4.heap.size w4 w4.drew := (Below.refl _ _).drew
        have hB4 : w.heap.size < w4.heap.size := Nat.lt_of_lt_of_le hB2 hm4.size
        have hr4' := hr4.keepK hd4 hB4
        have HX := Lib.hid fun (w5 : World) (k : Nat) (hk : k < l.length) (ho : Only w.heap.size w4.drew w5) => (show ∃ d, w5.cell? ⟨g, k, none⟩ = some (.int .i64 d) from ⟨_, ((hh4.out.keep hd4).most ho.mostB hB2).at_.2.2 k hk⟩)
        have hcl := hh4.out.at_.2.1
        have PK := Lib.hid (pick_any _ _ (q3 + 1) (l.length : Int) _ hr4' (by omega) (by have := hh4.out.at_.1; omega))
        clear hr4 hr4'
        go_wp2_with fail
        (first | go_region_with (go_at_call 38; (with_reducible refine PK.out.mono ?_); rintro e w5 ⟨z, z0, z1, rfl, hr5, ho5⟩; obtain ⟨k, rfl⟩ := Int.eq_ofNat_of_zero_le z0; obtain ⟨d, s5⟩ := HX.out w5 k (by omega) ho5) | fail)
        all_goals
          have hh5 := Lib.hid ((hh4.out.keep hd4).most ho5.mostB hB2).holds
          have hbw := hbb.trans (((hm4.below_ ((Below.refl _ _).drew)).trans ho5.mostB).under (Nat.le_refl _) hz2)
          clear PK HX ho5 hr5 hd4
          go_wp2_with fail
          go_ret3
          exact ⟨l, g, cp, _, d, hl, by omega, by omega, rfl, hh5.out, hbw⟩
      · have b1 : ¬ 0 < y := hy
        go_wp2_with fail
        refine (pick_any _ _ (q3 + 1) 30 w4 hr4 (by omega) (by omega)).mono ?_
        rintro e w5 ⟨z, z0, z1, rfl, hr5, ho5⟩
        have hh5 := Lib.hid (hh4.out.most ho5.mostB hB2).holds
        have hm5 := hm4.trans ho5.mostB
        have hbw := hbb.trans (hm5.under (Nat.le_refl _) hz2)
        clear hr4 hm4 ho5 hh4 hr5 hm5 hbb
        go_wp2_with fail
        go_ret3
        exact ⟨l, g, cp, _, _, hl, by omega, by omega, rfl, hh5.out, hbw⟩
  · have hx1 : ¬ x < 1 := by omega
    have hx6 : ¬ 5 < x := by omega
    go_wp2_with fail
    refine (l20Stack_any _ _ q _ 12 w2 hr2 (by omega) (by omega) (by omega) (by omega) (by omega)).mono ?_
    rintro e w3 ⟨l, g, cp, q3, hq3, hl, rfl, hn, hr3, hm3⟩
    have hh3 := Lib.hid hn
    have hk := hn.at_
    clear hn
    by_cases hl0 : l.length = 0
    · obtain rfl := List.eq_nil_of_length_eq_zero hl0
      clear hk
      go_wp2_with fail
      refine (pick_any _ _ q3 30 w3 hr3 (by omega) (by omega)).mono ?_
      rintro e w5 ⟨z, z0, z1, rfl, hr5, ho5⟩
      have hh5 := Lib.hid (hh3.out.most ho5.mostB hB2).holds
      have hm5 := hm3.trans ho5.mostB
      have hbw := hbb.trans (hm5.under (Nat.le_refl _) hz2)
      clear hr3 hm3 ho5 hh3 hr5 hm5 hbb
      go_wp2_with fail
      go_ret3
      exact ⟨[], g, cp, _, _, hl, by omega, by omega, rfl, hh5.out, hbw⟩
    · have c0 : (0 : Int) < (l.length : Int) := by omega
      have c1 : 0 < l.length := by omega
      go_wp2_with fail
      refine (pick_any _ _ q3 4 w3 hr3 (by omega) (by omega)).mono ?_
      rintro e w4 ⟨y, y0, y1, rfl, hr4, ho4⟩
      have hh4 := Lib.hid (hh3.out.most ho4.mostB hB2)
      have hm4 := hm3.trans ho4.mostB
      clear hh3 hr3 hm3 ho4 hk
      by_cases hy : 0 < y
      · have hd4 : Below w4.heap.size w4 w4.drew := (Below.refl _ _).drew
        have hB4 : w.heap.size < w4.heap.size := Nat.lt_of_lt_of_le hB2 hm4.size
        have hr4' := hr4.keepK hd4 hB4
        have HX := Lib.hid fun (w5 : World) (k : Nat) (hk : k < l.length) (ho : Only w.heap.size w4.drew w5) => (show ∃ d, w5.cell? ⟨g, k, none⟩ = some (.int .i64 d) from ⟨_, ((hh4.out.keep hd4).most ho.mostB hB2).at_.2.2 k hk⟩)
        have hcl := hh4.out.at_.2.1
        have PK := Lib.hid (pick_any _ _ (q3 + 1) (l.length : Int) _ hr4' (by omega) (by have := hh4.out.at_.1; omega))
        clear hr4 hr4'
        go_wp2_with fail
        (first | go_region_with (go_at_call 38; (with_reducible refine PK.out.mono ?_); rintro e w5 ⟨z, z0, z1, rfl, hr5, ho5⟩; obtain ⟨k, rfl⟩ := Int.eq_ofNat_of_zero_le z0; obtain ⟨d, s5⟩ := HX.out w5 k (by omega) ho5) | fail)
        all_goals
          have hh5 := Lib.hid ((hh4.out.keep hd4).most ho5.mostB hB2).holds
          have hbw := hbb.trans (((hm4.below_ ((Below.refl _ _).drew)).trans ho5.mostB).under (Nat.le_refl _) hz2)
          clear PK HX ho5 hr5 hd4
          go_wp2_with fail
          go_ret3
          exact ⟨l, g, cp, _, d, hl, by omega, by omega, rfl, hh5.out, hbw⟩
      · have b1 : ¬ 0 < y := hy
        go_wp2_with fail
        refine (pick_any _ _ (q3 + 1) 30 w4 hr4 (by omega) (by omega)).mono ?_
        rintro e w5 ⟨z, z0, z1, rfl, hr5, ho5⟩
        have hh5 := Lib.hid (hh4.out.most ho5.mostB hB2).holds
        have hm5 := hm4.trans ho5.mostB
        have hbw := hbb.trans (hm5.under (Nat.le_refl _) hz2)
        clear hr4 hm4 ho5 hh4 hr5 hm5 hbb
        go_wp2_with fail
        go_ret3
        exact ⟨l, g, cp, _, _, hl, by omega, by omega, rfl, hh5.out, hbw⟩
end Go.Proofs.Ytnjmdfjplmakpaa
