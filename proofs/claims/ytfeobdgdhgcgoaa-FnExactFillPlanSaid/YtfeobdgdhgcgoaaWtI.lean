/-
  The program's chapter 8: weights.
-/
import Derived.Test.YtfeobdgdhgcgoaaPlI
import Derived.Test.YtfeobdgdhgcgoaaGBl
import Derived.Test.YtfeobdgdhgcgoaaWtS
import Derived.Deep.RegionHeld3
namespace Go.Proofs.Ytfeobdgdhgcgoaa
open Go.RowKit
set_option linter.unusedVariables false

/-- The weight of what is found by an id; nothing weighs 0. -/
def gIn (l : List Bx) (x : Int) : Int := if findB l x < 0 then 0 else wAt l x
theorem gIn_plan {h : Hl} {l : List Bx} {p : List Int} (hk : plOk h (bxsOk l) (bxIds l) p = true) {k : Nat} (hl : k < p.length) : gIn l (pAt p k) = wBx l (pAt p k) := by
  unfold gIn wBx
  by_cases hz : pAt p k = 0
  · rw [if_pos hz, if_pos]
    apply Classical.byContradiction
    intro hc
    have := bxIds_pos (plOk_bok hk) _ ((findB_mem l (pAt p k)).1 (by omega))
    omega
  · have := pl_find hk hl hz
    rw [if_neg hz, if_neg (by omega)]

set_option maxRecDepth 10000 in
set_option maxHeartbeats 1000000 in
theorem weightIn_any (u : Value) (l : List Bx) (x : Int) (w : World) (hb : HoldsBx w u l) :
    Calls Try.prog 110 #[u, .int .i64 x] w fun e w' => e = .returned (.int .i64 (gIn l x)) ∧ Below w.heap.size w w' := by
  have HF := Lib.hid (indexOf_any u l x w hb)
  have hbd := (findB_bd l x).2
  by_cases hneg : findB l x < 0
  · have hr := Lib.hid (show gIn l x = 0 from if_pos hneg)
    clear hb hbd
    obtain ⟨y, hy⟩ : ∃ y, y = findB l x := ⟨_, rfl⟩
    rw [← hy] at HF hneg
    clear hy
    go_enter Try.func110, Try.ntmps110
    go_wp2_with fail
    refine HF.out.mono ?_
    rintro e w' ⟨rfl, b2⟩
    go_wp2_with fail
    go_ret
    exact ⟨by rw [hr.out]; rfl, b2⟩
  · have hr := Lib.hid (show gIn l x = wAt l x from if_neg hneg)
    obtain ⟨i, hi⟩ : ∃ i : Nat, findB l x = (i : Int) := ⟨(findB l x).toNat, by omega⟩
    have hil : i < l.length := by omega
    have hw : wAt l x = l[i].g := by
      unfold wAt
      rw [hi, Int.toNat_natCast, getD_bx hil]
    obtain ⟨bb, bo, bc, rfl, hbl, hc1⟩ : ∃ bb bo bc, u = .slice (some ⟨bb, bo, none⟩) l.length bc ∧ bb < w.heap.size ∧ w.cell? ⟨bb, bo + i * 5 + 1, none⟩ = some (.int .i64 l[i].g) := by
      obtain ⟨a', c', e, q1, q2, q3⟩ := hb
      rcases q3 with q3 | ⟨b', off', q4, q5, q6⟩
      · omega
      · exact ⟨b', off', c', by rw [e, q4], q5, q6 i hil 1 (by omega)⟩
    rw [hi] at HF
    rw [hw] at hr
    generalize l[i].g = g at hc1 hr
    have ii : (i : Int) < (l.length : Int) := by omega
    have i0i : (0 : Int) ≤ (i : Int) := by omega
    have hd0 : decide ((i : Int) < 0) = false := decide_eq_false (by omega)
    obtain ⟨m, hm⟩ : ∃ m, m = l.length := ⟨_, rfl⟩
    rw [← hm] at ii HF ⊢
    clear hb hbd hneg hi hil hw hm
    go_enter Try.func110, Try.ntmps110
    go_wp2_with fail
    refine HF.out.mono ?_
    rintro e w' ⟨rfl, b2⟩
    have hc2 : w'.cell? ⟨bb, bo + i * 5 + 1, none⟩ = some (.int .i64 g) := (b2.cell (p := ⟨bb, bo + i * 5 + 1, none⟩) hbl).trans hc1
    clear hc1
    go_wp2_with fail
    go_ret
    exact ⟨by rw [hr.out]; rfl, b2⟩

end Go.Proofs.Ytfeobdgdhgcgoaa
