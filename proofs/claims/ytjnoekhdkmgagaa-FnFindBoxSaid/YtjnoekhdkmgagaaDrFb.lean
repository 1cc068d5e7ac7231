/-
  The draw of a list of boxes and an id: DrawFindBox.
-/
import Derived.Test.YtjnoekhdkmgagaaGDr
namespace Go.Proofs.Ytjnoekhdkmgagaa
open Go.RowKit
set_option linter.unusedVariables false

/-- What a draw of a list and an id gives. -/
def DrewListId (w : World) (e : Ending) (w' : World) : Prop :=
  ∃ (l : List Bx) (v : Value) (x : Int), 0 ≤ x ∧ x < 12 ∧ e = .returned (.tuple #[v, .int .i64 x]) ∧ HoldsBx w' v l ∧ l.length ≤ 40 ∧ Below w.heap.size w w'

theorem drawFindBox_any (a : Option Addr) (len cap : Nat) (w : World) (h : IsRow8 w a len cap) :
    Calls Try.prog 19 #[.slice a len cap] w (DrewListId w) := by
  go_enter Try.func19, Try.ntmps19
  go_wp2_with fail
  refine (open_any a len cap _ h).mono ?_
  rintro e w1 ⟨rfl, hr, hb, hz1⟩
  go_wp2_with fail
  refine (l20Boxes_any _ _ 0 10 9 w1 hr (by omega) (by omega) (by omega) (by omega) (by omega)).mono ?_
  rintro e w2 ⟨l, v, q, hq, hl, rfl, hn, hr2, hm⟩
  have hN := Lib.hid hn
  have hbb := hb.trans (hm.under (Nat.le_refl _) hb.size)
  have hB1 := hr.2.1
  clear hn hm
  go_wp2_with fail
  refine (pick_any _ _ q 12 w2 hr2 (by omega) (by omega)).mono ?_
  rintro e w3 ⟨x, x0, x1, rfl, hr3, ho⟩
  have hh := Lib.hid (hN.out.most ho.mostB hB1).holds
  have hb3 := hbb.trans (ho.below (Nat.le_refl _))
  clear hr2 hr3 ho
  go_wp2_with fail
  go_ret2
  exact ⟨l, v, x, x0, x1, rfl, hh.out, hl, hb3⟩
end Go.Proofs.Ytjnoekhdkmgagaa
