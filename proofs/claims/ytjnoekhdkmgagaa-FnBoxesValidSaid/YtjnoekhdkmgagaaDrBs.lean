/-
  The draw of a list of boxes: DrawBoxesValid.
-/
import Derived.Test.YtjnoekhdkmgagaaGDr
namespace Go.Proofs.Ytjnoekhdkmgagaa
open Go.RowKit
set_option linter.unusedVariables false

/-- What a draw of a list gives. -/
def DrewList (w : World) (e : Ending) (w' : World) : Prop :=
  ∃ (l : List Bx) (v : Value), e = .returned v ∧ HoldsBx w' v l ∧ l.length ≤ 40 ∧ Below w.heap.size w w'

theorem drawBoxesValid_any (a : Option Addr) (len cap : Nat) (w : World) (h : IsRow8 w a len cap) :
    Calls Try.prog 16 #[.slice a len cap] w (DrewList w) := by
  go_enter Try.func16, Try.ntmps16
  go_wp2_with fail
  refine (open_any a len cap _ h).mono ?_
  rintro e w1 ⟨rfl, hr, hb, hz1⟩
  go_wp2_with fail
  refine (l20Boxes_any _ _ 0 10 2 w1 hr (by omega) (by omega) (by omega) (by omega) (by omega)).mono ?_
  rintro e w2 ⟨l, v, q, hq, hl, rfl, hn, hr2, hm⟩
  have hh := Lib.hid hn.holds
  have hbb := hb.trans (hm.under (Nat.le_refl _) hb.size)
  clear hn hr2 hm
  go_wp2_with fail
  go_ret
  exact ⟨l, v, rfl, hh.out, hl, hbb⟩
end Go.Proofs.Ytjnoekhdkmgagaa
