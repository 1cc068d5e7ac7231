/-
  The draw of one box: DrawBoxText.
-/
import Derived.Test.YtjnoekhdkmgagaaDoorGDr
namespace Go.Proofs.YtjnoekhdkmgagaaDoor
open Go.RowKit
set_option linter.unusedVariables false

set_option maxHeartbeats 1000000 in
theorem drawBoxText_any (a : Option Addr) (len cap : Nat) (w : World) (h : IsRow8 w a len cap) :
    Calls Tryd.prog 6 #[.slice a len cap] w (DrewOne w) := by
  go_enter Tryd.func6, Tryd.ntmps6
  go_wp2_with fail
  have ba := (Below.refl w.heap.size w).alloc (Nat.le_refl _) (.cells #[.int .i64 0, .int .i64 0, .int .i64 0, .int .i64 0, .bool false] 24)
  have ea : (w.alloc (.cells #[.int .i64 0, .int .i64 0, .int .i64 0, .int .i64 0, .bool false] 24)).heap[w.heap.size]? = some (.cells #[.int .i64 0, .int .i64 0, .int .i64 0, .int .i64 0, .bool false] 24 (0, 0)) := by
    show (w.heap.push _)[w.heap.size]? = _
    simp
  have hz : (w.alloc (.cells #[.int .i64 0, .int .i64 0, .int .i64 0, .int .i64 0, .bool false] 24)).heap.size = w.heap.size + 1 := by simp
  refine (open_any a len cap _ (h.keep ba)).mono ?_
  generalize (w.alloc (.cells #[.int .i64 0, .int .i64 0, .int .i64 0, .int .i64 0, .bool false] 24)) = wa at ba ea hz ⊢
  rintro e w1 ⟨rfl, hr, hb, hz1⟩
  generalize wa.heap.size = B at hz hr hb hz1 ⊢
  subst hz
  have e1 : w1.heap[w.heap.size]? = _ := (hb.block w.heap.size (by omega)).trans ea
  have b1 : Below w.heap.size w w1 := ba.trans (hb.mono (by omega))
  clear h hb ba ea
  go_wp2_with fail
  refine (pick_any _ _ 0 200 w1 hr (by omega) (by omega)).mono ?_
  rintro e w2 ⟨x, x0, x1, rfl, hr2, ho⟩
  have e2 : w2.heap[w.heap.size]? = _ := (ho.block w.heap.size (by omega)).trans e1
  have b2 : Below w.heap.size w w2 := b1.trans (ho.below (by omega))
  clear e1 b1 hr
  go_wp2_with fail
  refine (pick_any _ _ (0 + 1) 5 w2 hr2 (by omega) (by omega)).mono ?_
  rintro e w2' ⟨y, y0, y1, rfl, hr2', ho'⟩
  have e2' : w2'.heap[w.heap.size]? = _ := (ho'.block w.heap.size (by omega)).trans e2
  have b2' : Below w.heap.size w w2' := b2.trans (ho'.below (by omega))
  clear e2 b2 hr2 ho ho'
  have hxy0 : 0 ≤ x * y := Int.mul_nonneg x0 y0
  have hxy1 : x * y ≤ 199 * 4 := Int.mul_le_mul (by omega) (by omega) y0 (by omega)
  have hk : IntKind.i64.wrap (x * y) = x * y := IntWalk.i64_in _ (by omega)
  generalize hm : x * y = m at hxy0 hxy1 hk
  go_wp2_with fail
  refine (l20Box_any _ _ (0 + 1 + 1) (1 + m) 6 w2' hr2' (by omega) (by omega) (by omega) (by omega) (by omega)).mono ?_
  rintro e w3 ⟨b, q, hq, rfl, hr3, hm⟩
  have hl2 : w.heap.size < w2'.heap.size := by
    rcases Nat.lt_or_ge w.heap.size w2'.heap.size with h' | h'
    · exact h'
    · rw [Array.getElem?_eq_none h'] at e2'; cases e2'
  have e3 : w3.heap[w.heap.size]? = _ := (hm.block w.heap.size (by omega) hl2).trans e2'
  have b3 : Below w.heap.size w w3 := b2'.trans (hm.below (by omega) (by omega))
  clear e2' b2' hr2' hr3 hm
  obtain ⟨⟨c0, c1, c2, c3, c4⟩, hf⟩ := five_open e3
  have f0 := hf 0
  have f1 := hf 1
  have f2 := hf 2
  have f3 := hf 3
  have f4 := hf 4
  clear hf
  go_wp2_with fail
  obtain ⟨z, ze⟩ := DrewOne.ends b3 e3 (Nat.le_refl _) rfl (.int .i64 b.i) (.int .i64 b.g) (.int .i64 b.c) (.int .i64 b.p) (.bool b.d)
  obtain ⟨⟨z0, z1, z2, z3, z4⟩, -⟩ := five_open ze
  exact bodyPost_ret (v := .agg #[.int .i64 b.i, .int .i64 b.g, .int .i64 b.c, .int .i64 b.p, .bool b.d]) (by simp [results, Tryd.results6, go_sem, z0, z1, z2, z3, z4]) rfl ⟨b, rfl, z⟩
end Go.Proofs.YtjnoekhdkmgagaaDoor
