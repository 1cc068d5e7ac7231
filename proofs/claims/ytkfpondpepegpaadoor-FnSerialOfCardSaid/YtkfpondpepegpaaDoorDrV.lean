/-
  The contracts of DrawNumberValid and DrawSerialOf: a text of bounded length, and nothing that was there has turned.
-/
import Derived.Test.YtkfpondpepegpaaDoorDr3
import Derived.Test.YtkfpondpepegpaaDoorOwnCap
namespace Go.Proofs.YtkfpondpepegpaaDoor
open Go.RowKit
set_option linter.unusedVariables false

set_option maxHeartbeats 1000000 in
theorem drawNumberValid_any (a : Option Addr) (len cap : Nat) (w : World) (h : IsRow8 w a len cap) :
    Calls Tryd.prog 9 #[.slice a len cap] w (DrewText 11 w) := by
  go_enter Tryd.func9, Tryd.ntmps9
  go_wp2_with fail
  refine (open_any a len cap w h).mono ?_
  rintro e w1 ⟨rfl, hr, hb, hz⟩
  have hN : w.heap.size ≤ w1.heap.size := hb.size
  clear hz h
  go_wp2_with fail
  refine (owner_zero w.heap.size w.heap.size 0 w1 hr (by omega)).mono ?_
  rintro e w2 ⟨o, hoOk, rfl, hr2, m2⟩
  go_wp2_with fail
  refine (pick_any w.heap.size w.heap.size (0 + 3) 3 w2 hr2 (by omega) (by omega)).mono ?_
  rintro e w3 ⟨k, k0, k1, rfl, hr3, o3⟩
  go_wp2_with fail
  refine (serial_any w.heap.size w.heap.size (0 + 3 + 1) w3 hr3 (by omega)).mono ?_
  rintro e w4 ⟨m, m0, m9, rfl, hr4, m4⟩
  have hoz := owner_size hoOk
  have htz := numS_size (owner_cap hoOk).1 (owner_cap hoOk).2 k0 (show k ≤ 2 by omega) m0 m9
  go_wp2_with fail
  refine (specNumberOf_any o k m w4 (by omega)).mono ?_
  rintro e w5 ⟨rfl, b5⟩
  have hr5 := hr4.keep b5
  have mm := ((m2.trans o3.most).trans m4).trans (Most.of_below b5)
  have hb5 := hb.trans (mm.below (Nat.le_refl _) hN)
  have x1 : (numS o k m).size ≤ 11 := by omega
  have x2 : 0 < (numS o k m).size := by omega
  clear htz hoz hoOk
  generalize numS o k m = s at x1 x2
  go_wp2_with fail
  refine (pick_any w.heap.size w.heap.size (0 + 3 + 1 + 3) 3 w5 hr5 (by omega) (by omega)).mono ?_
  rintro e w6 ⟨v, v0, v1, rfl, hr6, o6⟩
  have hb6 := hb5.trans (o6.below (Nat.le_refl _))
  by_cases hv : v = 0
  · have hv' : (v == 0) = true := by rw [beq_iff_eq]; exact hv
    clear hv
    go_wp2_with fail
    refine (spoil_some w.heap.size w.heap.size (0 + 3 + 1 + 3 + 1) s w6 hr6 (by omega) (by omega) x2 hb6.size).mono ?_
    rintro e w7 ⟨y, hy, rfl, b7⟩
    go_wp2_with fail
    go_ret
    exact ⟨y, by omega, rfl, hb6.trans b7⟩
  · have hv' : (v == 0) = false := by rw [beq_eq_false_iff_ne]; exact hv
    clear hv
    go_wp2_with fail
    go_ret
    exact ⟨s, x1, rfl, hb6⟩

theorem drawSerialOf_any (a : Option Addr) (len cap : Nat) (w : World) (h : IsRow8 w a len cap) :
    Calls Tryd.prog 17 #[.slice a len cap] w (DrewText 11 w) := by
  have hD := drawNumberValid_any a len cap w h
  clear h
  go_enter Tryd.func17, Tryd.ntmps17
  go_wp2_with fail
  refine hD.mono ?_
  rintro e w1 ⟨s, hs, rfl, hb⟩
  go_wp2_with fail
  go_ret
  exact ⟨s, hs, rfl, hb⟩
end Go.Proofs.YtkfpondpepegpaaDoor
