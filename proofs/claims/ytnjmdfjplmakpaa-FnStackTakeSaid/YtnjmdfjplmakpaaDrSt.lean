/-
  The draws for the stacks: DrawStackValid, DrawStackTake, DrawStackPut, DrawStackAbove.
-/
import Derived.Test.YtnjmdfjplmakpaaDrS
namespace Go.Proofs.Ytnjmdfjplmakpaa
open Go.RowKit
set_option linter.unusedVariables false

/-- What a draw of a stack and a height gives. -/
def DrewStk (w : World) (e : Ending) (w' : World) : Prop :=
  ∃ (l : List Int) (g cp : Nat) (x : Int), l.length ≤ 11 ∧ 0 ≤ x ∧ x ≤ 6 ∧ e = .returned (.tuple #[.slice (some ⟨g, 0, none⟩) l.length cp, .int .i64 x]) ∧ HoldsI w' (.slice (some ⟨g, 0, none⟩) l.length cp) l ∧ Below w.heap.size w w'

set_option maxHeartbeats 1000000 in
theorem drawStackValid_any (a : Option Addr) (len cap : Nat) (w : World) (h : IsRow8 w a len cap) :
    Calls Try.prog 11 #[.slice a len cap] w (DrewStk w) := by
  go_enter Try.func11, Try.ntmps11
  go_wp2_with fail
  refine (open_any a len cap _ h).mono ?_
  rintro e w1 ⟨rfl, hr, hb, hz1⟩
  go_wp2_with fail
  refine (l20High_any _ _ 0 9 w1 hr (by omega) (by omega) (by omega)).mono ?_
  rintro e w2 ⟨x, q, hq, x0, x1, rfl, hr2, hm2⟩
  have hbb := hb.trans (hm2.under (Nat.le_refl _) hb.size)
  have hz2 := hbb.size
  clear hr hb hz1 hm2
  rcases (by omega : x = 0 ∨ x = 6 ∨ 1 ≤ x ∧ x ≤ 5) with hx | hx | ⟨hx, hx5⟩
  · subst hx
    go_wp2_with fail
    refine (l20Stack_any _ _ q _ 3 w2 hr2 (by omega) (by omega) (by omega) (by omega) (by omega)).mono ?_
    rintro e w3 ⟨l, g, cp, q3, hq3, hl, rfl, hn, hr3, hm3⟩
    have hh := Lib.hid hn.holds
    have hbw := hbb.trans (hm3.under (Nat.le_refl _) hz2)
    clear hn hr3 hm3 hbb
    go_wp2_with fail
    go_ret2
    exact ⟨l, g, cp, _, hl, by omega, by omega, rfl, hh.out, hbw⟩
  · subst hx
    go_wp2_with fail
    refine (l20Stack_any _ _ q _ 3 w2 hr2 (by omega) (by omega) (by omega) (by omega) (by omega)).mono ?_
    rintro e w3 ⟨l, g, cp, q3, hq3, hl, rfl, hn, hr3, hm3⟩
    have hh := Lib.hid hn.holds
    have hbw := hbb.trans (hm3.under (Nat.le_refl _) hz2)
    clear hn hr3 hm3 hbb
    go_wp2_with fail
    go_ret2
    exact ⟨l, g, cp, _, hl, by omega, by omega, rfl, hh.out, hbw⟩
  · have hx1 : ¬ x < 1 := by omega
    have hx6 : ¬ 5 < x := by omega
    go_wp2_with fail
    refine (l20Stack_any _ _ q _ 3 w2 hr2 (by omega) (by omega) (by omega) (by omega) (by omega)).mono ?_
    rintro e w3 ⟨l, g, cp, q3, hq3, hl, rfl, hn, hr3, hm3⟩
    have hh := Lib.hid hn.holds
    have hbw := hbb.trans (hm3.under (Nat.le_refl _) hz2)
    clear hn hr3 hm3 hbb
    go_wp2_with fail
    go_ret2
    exact ⟨l, g, cp, _, hl, by omega, by omega, rfl, hh.out, hbw⟩

set_option maxHeartbeats 1000000 in
theorem drawStackTake_any (a : Option Addr) (len cap : Nat) (w : World) (h : IsRow8 w a len cap) :
    Calls Try.prog 21 #[.slice a len cap] w (DrewStk w) := by
  go_enter Try.func21, Try.ntmps21
  go_wp2_with fail
  refine (open_any a len cap _ h).mono ?_
  rintro e w1 ⟨rfl, hr, hb, hz1⟩
  go_wp2_with fail
  refine (l20High_any _ _ 0 12 w1 hr (by omega) (by omega) (by omega)).mono ?_
  rintro e w2 ⟨x, q, hq, x0, x1, rfl, hr2, hm2⟩
  have hbb := hb.trans (hm2.under (Nat.le_refl _) hb.size)
  have hz2 := hbb.size
  clear hr hb hz1 hm2
  rcases (by omega : x = 0 ∨ x = 6 ∨ 1 ≤ x ∧ x ≤ 5) with hx | hx | ⟨hx, hx5⟩
  · subst hx
    go_wp2_with fail
    refine (l20Stack_any _ _ q _ 12 w2 hr2 (by omega) (by omega) (by omega) (by omega) (by omega)).mono ?_
    rintro e w3 ⟨l, g, cp, q3, hq3, hl, rfl, hn, hr3, hm3⟩
    have hh := Lib.hid hn.holds
    have hbw := hbb.trans (hm3.under (Nat.le_refl _) hz2)
    clear hn hr3 hm3 hbb
    go_wp2_with fail
    go_ret2
    exact ⟨l, g, cp, _, hl, by omega, by omega, rfl, hh.out, hbw⟩
  · subst hx
    go_wp2_with fail
    refine (l20Stack_any _ _ q _ 12 w2 hr2 (by omega) (by omega) (by omega) (by omega) (by omega)).mono ?_
    rintro e w3 ⟨l, g, cp, q3, hq3, hl, rfl, hn, hr3, hm3⟩
    have hh := Lib.hid hn.holds
    have hbw := hbb.trans (hm3.under (Nat.le_refl _) hz2)
    clear hn hr3 hm3 hbb
    go_wp2_with fail
    go_ret2
    exact ⟨l, g, cp, _, hl, by omega, by omega, rfl, hh.out, hbw⟩
  · have hx1 : ¬ x < 1 := by omega
    have hx6 : ¬ 5 < x := by omega
    go_wp2_with fail
    refine (l20Stack_any _ _ q _ 12 w2 hr2 (by omega) (by omega) (by omega) (by omega) (by omega)).mono ?_
    rintro e w3 ⟨l, g, cp, q3, hq3, hl, rfl, hn, hr3, hm3⟩
    have hh := Lib.hid hn.holds
    have hbw := hbb.trans (hm3.under (Nat.le_refl _) hz2)
    clear hn hr3 hm3 hbb
    go_wp2_with fail
    go_ret2
    exact ⟨l, g, cp, _, hl, by omega, by omega, rfl, hh.out, hbw⟩

end Go.Proofs.Ytnjmdfjplmakpaa
