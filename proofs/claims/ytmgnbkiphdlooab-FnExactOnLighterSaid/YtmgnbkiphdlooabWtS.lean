/-
  The model's chapter 8: weights.
-/
import Derived.Test.YtmgnbkiphdlooabGWm
import Derived.Test.YtmgnbkiphdlooabGPl
import Derived.Test.YtmgnbkiphdlooabGSl
import Derived.Deep.RegionHeld3
namespace Go.Proofs.Ytmgnbkiphdlooab
open Go.RowKit
set_option linter.unusedVariables false

set_option maxRecDepth 10000 in
set_option maxHeartbeats 1000000 in
theorem specWeight_any (u v : Value) (l : List Bx) (p : List Int) (k : Nat) (w : World) (hb : HoldsBx w u l) (hp : HoldsI w v p) (hl : k < p.length) (hf : pAt p k ≠ 0 → 0 ≤ findB l (pAt p k)) :
    Calls Try.prog 46 #[u, v, .int .i64 k] w fun e w' => e = .returned (.int .i64 (wBx l (pAt p k))) ∧ w = w' := by
  obtain ⟨pa, pc, rfl⟩ := hp.form
  obtain ⟨b, off, rfl, hbl, s0⟩ := hp.at_ hl
  have ik : (k : Int) < (p.length : Int) := by omega
  have i0k : (0 : Int) ≤ (k : Int) := by omega
  have e1 : p.getD k 0 = pAt p k := rfl
  rw [e1] at s0
  clear e1
  by_cases hz : pAt p k = 0
  · have hr := Lib.hid (show wBx l (pAt p k) = 0 from by unfold wBx; rw [if_pos hz])
    rw [hr.out]
    rw [hz] at s0
    clear hz hr hf hb hp
    go_enter Try.func46, Try.ntmps46
    go_wp2_with fail
    go_ret
    exact ⟨rfl, rfl⟩
  · have hx0 := hf hz
    have hbd := (findB_bd l (pAt p k)).2
    have HF := Lib.hid (l2Find_any u l (pAt p k) w hb)
    obtain ⟨i, hi⟩ : ∃ i : Nat, findB l (pAt p k) = (i : Int) := ⟨(findB l (pAt p k)).toNat, by omega⟩
    have hil : i < l.length := by omega
    have hw : wBx l (pAt p k) = l[i].g := by
      unfold wBx wAt
      rw [if_neg hz, hi, Int.toNat_natCast, getD_bx hil]
    obtain ⟨bb, bo, bc, rfl, hc1⟩ : ∃ bb bo bc, u = .slice (some ⟨bb, bo, none⟩) l.length bc ∧ w.cell? ⟨bb, bo + i * 5 + 1, none⟩ = some (.int .i64 l[i].g) := by
      obtain ⟨a', c', e, q1, q2, q3⟩ := hb
      rcases q3 with q3 | ⟨b', off', q4, q5, q6⟩
      · omega
      · exact ⟨b', off', c', by rw [e, q4], q6 i hil 1 (by omega)⟩
    rw [hw]
    rw [hi] at HF
    obtain ⟨x, hxx⟩ : ∃ x, x = pAt p k := ⟨_, rfl⟩
    have hdz : (x == 0) = false := by rw [hxx]; simpa using hz
    rw [← hxx] at s0 HF
    generalize l[i].g = g at hc1 ⊢
    have ii : (i : Int) < (l.length : Int) := by omega
    have i0i : (0 : Int) ≤ (i : Int) := by omega
    obtain ⟨n, hn⟩ : ∃ n, n = p.length := ⟨_, rfl⟩
    obtain ⟨m, hm⟩ : ∃ m, m = l.length := ⟨_, rfl⟩
    rw [← hn] at ik ⊢
    rw [← hm] at ii HF ⊢
    clear hz hf hb hp hx0 hbd hi hil hw hxx hn hm hl
    go_enter Try.func46, Try.ntmps46
    go_wp2_with fail
    refine HF.out.mono ?_
    rintro e w' ⟨rfl, rfl⟩
    go_wp2_with fail
    go_ret
    exact ⟨rfl, rfl⟩

end Go.Proofs.Ytmgnbkiphdlooab
