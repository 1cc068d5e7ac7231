/-
  Draws of two classes; of a ship and two of its slots.
-/
import Derived.Test.YtlccmgdmfchmnaaDoorGPw
import Derived.Test.YtlccmgdmfchmnaaDoorDaS
namespace Go.Proofs.YtlccmgdmfchmnaaDoor
open Go.RowKit
set_option linter.unusedVariables false

/-- Two small numbers. -/
def DrewAB (w : World) (e : Ending) (w' : World) : Prop := ∃ x y : Int, e = .returned (.tuple #[.int .i64 x, .int .i64 y]) ∧ Below w.heap.size w w'
set_option maxRecDepth 10000 in
set_option maxHeartbeats 2000000 in
theorem drawApartNeed_any (a : Option Addr) (len cap : Nat) (w : World) (h : IsRow8 w a len cap) :
    Calls Tryd.prog 9 #[.slice a len cap] w (DrewAB w) := by
  go_enter Tryd.func9, Tryd.ntmps9
  go_wp2_with fail
  refine (open_any a len cap w h).mono ?_
  rintro e w1 ⟨rfl, hr1, b1, hz1⟩
  clear h
  go_wp2_with fail
  refine (pick_any _ _ (0) 5 w1 hr1 (by omega) (by omega)).mono ?_
  rintro e w2 ⟨x1, x1a, x1b, rfl, hr2, ho⟩
  have b2 : Below w.heap.size w w2 := b1.trans (ho.below (Nat.le_refl _))
  clear b1 hr1 ho
  go_wp2_with fail
  refine (pick_any _ _ (0 + 1) 9 w2 hr2 (by omega) (by omega)).mono ?_
  rintro e w3 ⟨x2, x2a, x2b, rfl, hr3, ho⟩
  have b3 : Below w.heap.size w w3 := b2.trans (ho.below (Nat.le_refl _))
  clear b2 hr2 ho
  have t2 : 0 ≤ x2.tdiv 8 ∧ x2.tdiv 8 ≤ 1 := by
    rw [Int.tdiv_eq_ediv_of_nonneg x2a]
    omega
  have z2 : IntKind.i64.wrap (x2.tdiv 8) = x2.tdiv 8 := IntWalk.i64_in _ (by omega)
  have y2 : IntKind.i64.wrap (x1 - x2.tdiv 8) = x1 - x2.tdiv 8 := IntWalk.i64_in _ (by omega)
  go_wp2_with fail
  refine (pick_any _ _ (0 + 1 + 1) 5 w3 hr3 (by omega) (by omega)).mono ?_
  rintro e w4 ⟨x3, x3a, x3b, rfl, hr4, ho⟩
  have b4 : Below w.heap.size w w4 := b3.trans (ho.below (Nat.le_refl _))
  clear b3 hr3 ho
  go_wp2_with fail
  refine (pick_any _ _ (0 + 1 + 1 + 1) 9 w4 hr4 (by omega) (by omega)).mono ?_
  rintro e w5 ⟨x4, x4a, x4b, rfl, hr5, ho⟩
  have b5 : Below w.heap.size w w5 := b4.trans (ho.below (Nat.le_refl _))
  clear b4 hr4 ho
  have t4 : 0 ≤ x4.tdiv 8 ∧ x4.tdiv 8 ≤ 1 := by
    rw [Int.tdiv_eq_ediv_of_nonneg x4a]
    omega
  have z4 : IntKind.i64.wrap (x4.tdiv 8) = x4.tdiv 8 := IntWalk.i64_in _ (by omega)
  have y4 : IntKind.i64.wrap (x3 - x4.tdiv 8) = x3 - x4.tdiv 8 := IntWalk.i64_in _ (by omega)
  go_wp2_with fail
  go_ret2
  exact ⟨_, _, rfl, b5⟩

/-- A ship and two numbers. -/
def DrewH2 (w : World) (e : Ending) (w' : World) : Prop := ∃ (h : Hl) (x y : Int), e = .returned (.tuple #[.agg #[.int .i64 h.b, .int .i64 h.r, .int .i64 h.t], .int .i64 x, .int .i64 y]) ∧ Below w.heap.size w w'
end Go.Proofs.YtlccmgdmfchmnaaDoor
