/-
  The draws of a height and of a stack: l20High, l20Stack.
-/
import Derived.Test.YtnjmdfjplmakpaaOwI
namespace Go.Proofs.Ytnjmdfjplmakpaa
open Go.RowKit
set_option linter.unusedVariables false

/-- What a draw of a height gives. -/
def DrewHigh (base B p : Nat) (w : World) (e : Ending) (w' : World) : Prop :=
  ∃ (x : Int) (q : Nat), q ≤ p + 2 ∧ 0 ≤ x ∧ x ≤ 6 ∧ e = .returned (.int .i64 x) ∧ Rdr base B q w' ∧ MostB B w w'

set_option maxHeartbeats 1000000 in
theorem l20High_any (base B p : Nat) (n : Int) (w : World) (h : Rdr base B p w) (hp : p ≤ 100000) (hn0 : 1 ≤ n) (hn1 : n ≤ 1000) :
    Calls Try.prog 31 #[.pointer (some ⟨B, 0, none⟩), .int .i64 n] w (DrewHigh base B p w) := by
  go_enter Try.func31, Try.ntmps31
  go_wp2_with fail
  refine (odd_any base B p n _ h (by omega) hn0 (by omega)).mono ?_
  rintro e w1 ⟨v, rfl, h1, o1⟩
  have hm1 := o1.mostB
  have hB1 := h1.2.1
  clear h o1
  cases v
  · go_wp2_with fail
    refine (pick_any base B (p + 1) 5 _ h1 (by omega) (by omega)).mono ?_
    rintro e w2 ⟨x, x0, x1, rfl, h2, o2⟩
    have hm2 := hm1.trans o2.mostB
    clear h1 hm1 o2
    go_wp2_with fail
    go_ret
    exact ⟨1 + x, p + 1 + 1, by omega, by omega, by omega, rfl, h2, hm2⟩
  · go_wp2_with fail
    refine (pick_any base B (p + 1) 2 _ (h1.keep ((Below.refl _ _).alloc (Nat.le_refl _) _)) (by omega) (by omega)).mono ?_
    rintro e w2 ⟨x, x0, x1, rfl, h2, o2⟩
    have hm2 := (hm1.alloc (.cells #[.int .i64 0, .int .i64 6] 3)).trans o2.mostB
    have hblk : w2.heap[w1.heap.size]? = some (.cells #[.int .i64 0, .int .i64 6] 3 (0, 0)) := by
      rw [o2.block w1.heap.size (by omega)]
      show (w1.heap.push _)[w1.heap.size]? = _
      simp
    clear h1 hm1 o2
    rcases (by omega : x = 0 ∨ x = 1) with hx | hx
    · subst hx
      have s0 : w2.cell? ⟨w1.heap.size, 0, none⟩ = some (.int .i64 0) := by
        simp [World.cell?, hblk]
      clear hblk
      go_wp2_with fail
      go_ret
      exact ⟨0, p + 1 + 1, by omega, by omega, by omega, rfl, h2, hm2⟩
    · subst hx
      have s0 : w2.cell? ⟨w1.heap.size, 1, none⟩ = some (.int .i64 6) := by
        simp [World.cell?, hblk]
      clear hblk
      go_wp2_with fail
      go_ret
      exact ⟨6, p + 1 + 1, by omega, by omega, by omega, rfl, h2, hm2⟩
end Go.Proofs.Ytnjmdfjplmakpaa
