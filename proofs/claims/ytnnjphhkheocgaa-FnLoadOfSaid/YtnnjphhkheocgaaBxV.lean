/-
  Contracts of the model's l2Find, BoxesValid and FindBox.
-/
import Derived.Test.YtnnjphhkheocgaaBxS
import Derived.Test.YtnnjphhkheocgaaBxVMath
namespace Go.Proofs.Ytnnjphhkheocgaa
open Go.RowKit
set_option linter.unusedVariables false

set_option maxHeartbeats 400000 in
theorem l2Find_any (v : Value) (l : List Bx) (id : Int) (w : World) (h : HoldsBx w v l) :
    Calls Try.prog 57 #[v, .int .i64 id] w fun e w' => e = .returned (.int .i64 (findB l id)) ∧ w = w' := by
  obtain ⟨a, cap, rfl, h2, h3, h4⟩ := h
  have hm : l.length ≤ 9223372036854775807 := by unfold maxLen at h3; omega
  obtain ⟨n, hn⟩ : ∃ n, n = l.length := ⟨_, rfl⟩
  have HN := Lib.hid hn.symm
  rw [← hn]
  have hm' : n ≤ 9223372036854775807 := by omega
  have H4 := Lib.hid h4
  clear hn h2 h3 h4 hm
  go_enter Try.func57, Try.ntmps57
  go_wp2_with fail
  go_loop [5] (fun i => ∃ k : Nat, k ≤ n ∧ i = .int .i64 k ∧ Hid (∀ j (hj : j < l.length), j < k → l[j].i ≠ id)) (fun i => n - (intOf i).toNat)
  case atStart => exact ⟨0, by omega, rfl, Lib.hid fun j _ hj => by omega⟩
  case round =>
    obtain ⟨k, hk, rfl, HF⟩ := hrel
    by_cases hlt : k < n
    · rcases H4.out with h4 | ⟨b, off, rfl, h6, h7⟩
      · have := HN.out; omega
      · have hkl : k < l.length := by rw [HN.out]; exact hlt
        have s0 : w.cell? ⟨b, off + k * 5, none⟩ = some (.int .i64 l[k].i) := h7 k hkl 0 (by omega)
        have H7 := Lib.hid h7
        clear h7
        by_cases he : l[k].i = id
        · have b1 : (l[k].i == id) = true := by rw [beq_iff_eq]; exact he
          have hr := Lib.hid (findB_hit l id k hkl HF.out he)
          clear he
          go_wp2_with fail
          go_ret
          exact ⟨by rw [hr.out]; rfl, rfl⟩
        · have b1 : (l[k].i == id) = false := by rw [beq_eq_false_iff_ne]; exact he
          have HE := Lib.hid he
          clear he
          go_wp2_with fail
          go_round
          case rel => exact ⟨k + 1, by omega, by go_num, Lib.hid fun j hj hjk => by
            by_cases e : j = k
            · subst e; exact HE.out
            · exact HF.out j hj (by omega)⟩
          case measure => simp [intOf]; omega
    · have hr := Lib.hid (findB_none l id fun j hj => HF.out j hj (by rw [HN.out] at hj; omega))
      go_wp2_with fail
      go_ret
      exact ⟨by rw [hr.out]; rfl, rfl⟩

set_option maxHeartbeats 1000000 in
theorem specBoxesValid_any (v : Value) (l : List Bx) (w : World) (h : HoldsBx w v l) :
    Calls Try.prog 54 #[v] w fun e w' => e = .returned (.bool (bxsOk l)) ∧ Below w.heap.size w w' := by
  have HF := Lib.hid fun w (h : HoldsBx w v l) id => l2Find_any v l id w h
  have HH := Lib.hid h
  obtain ⟨a, cap, rfl, h2, h3, h4⟩ := h
  have hm : l.length ≤ 9223372036854775807 := by unfold maxLen at h3; omega
  obtain ⟨n, hn⟩ : ∃ n, n = l.length := ⟨_, rfl⟩
  have HN := Lib.hid hn.symm
  rw [← hn] at HF HH ⊢
  have hm' : n ≤ 9223372036854775807 := by omega
  have H4 := Lib.hid h4
  clear hn h2 h3 h4 hm
  go_enter Try.func54, Try.ntmps54
  go_wp2_with fail
  go_loopw [3] (fun i wr => ∃ k : Nat, k ≤ n ∧ i = .int .i64 k ∧ Hid (∀ j, j < k → okAt l j = true) ∧ Below w.heap.size w wr) (fun i _ => n - (intOf i).toNat)
  case atStart => exact ⟨0, by omega, rfl, Lib.hid fun j hj => by omega, Below.refl _ _⟩
  case round =>
    obtain ⟨k, hk, rfl, HA, hbr⟩ := hrel
    have HHr := Lib.hid (HH.out.keep hbr)
    by_cases hlt : k < n
    · have hkl : k < l.length := by rw [HN.out]; exact hlt
      rcases H4.out with h4 | ⟨b, off, rfl, h6, h7⟩
      · have := HN.out; omega
      · have hs : ∀ j, j < 5 → wr.cell? ⟨b, off + (k * 5 + j), none⟩ = l[k].cells[j]? := fun j hj => (hbr.cell (p := ⟨b, off + (k * 5 + j), none⟩) h6).trans (h7 k hkl j hj)
        have s0 : wr.cell? ⟨b, off + k * 5, none⟩ = some (.int .i64 l[k].i) := hs 0 (by omega)
        have s1 : wr.cell? ⟨b, off + k * 5 + 1, none⟩ = some (.int .i64 l[k].g) := hs 1 (by omega)
        have s2 : wr.cell? ⟨b, off + k * 5 + 2, none⟩ = some (.int .i64 l[k].c) := hs 2 (by omega)
        have s3 : wr.cell? ⟨b, off + k * 5 + 3, none⟩ = some (.int .i64 l[k].p) := hs 3 (by omega)
        have s4 : wr.cell? ⟨b, off + k * 5 + 4, none⟩ = some (.bool l[k].d) := hs 4 (by omega)
        have HV := Lib.hid fun w => specBoxValid_any l[k].i l[k].g l[k].c l[k].p l[k].d w
        have hgd := getD_bx hkl
        have hat : okAt l k = (bxOk l[k].i l[k].g l[k].c l[k].p && !decide (findB l l[k].i < k)) := by unfold okAt Bx.ok; rw [hgd]
        have H7 := Lib.hid h7
        clear hs h7 hgd
        cases hok : bxOk l[k].i l[k].g l[k].c l[k].p
        · rw [hok] at HV hat
          have hr := Lib.hid (bxsOk_at hkl (show okAt l k = false by rw [hat]; rfl))
          clear hat hok
          go_wp2_with fail
          refine (HV.out _).mono ?_
          rintro e w2 ⟨rfl, b2⟩
          go_wp2_with fail
          go_ret
          exact ⟨by rw [hr.out]; rfl, hbr.trans (b2.mono hbr.size)⟩
        · rw [hok] at HV hat
          have HAT := Lib.hid hat
          clear hat hok
          go_wp2_with fail
          refine (HV.out _).mono ?_
          rintro e w2 ⟨rfl, b2⟩
          have u0 : w2.cell? ⟨b, off + k * 5, none⟩ = some (.int .i64 l[k].i) := (b2.cell (p := ⟨b, off + k * 5, none⟩) (World.block_lt_of_cell? _ _ s0)).trans s0
          have HF2 := Lib.hid (HF.out w2 (HHr.out.keep b2) l[k].i)
          clear s0 s1 s2 s3 s4
          by_cases hlt2 : findB l l[k].i < k
          · have d1 : decide (findB l l[k].i < (k : Int)) = true := decide_eq_true hlt2
            have hr := Lib.hid (bxsOk_at hkl (show okAt l k = false by rw [HAT.out, d1]; rfl))
            clear hlt2
            go_wp2_with fail
            refine HF2.out.mono ?_
            rintro e w3 ⟨rfl, rfl⟩
            go_wp2_with fail
            go_ret
            exact ⟨by rw [hr.out]; rfl, hbr.trans (b2.mono hbr.size)⟩
          · have d1 : decide (findB l l[k].i < (k : Int)) = false := decide_eq_false hlt2
            have hr := Lib.hid (show okAt l k = true by rw [HAT.out, d1]; rfl)
            clear hlt2
            go_wp2_with fail
            refine HF2.out.mono ?_
            rintro e w3 ⟨rfl, rfl⟩
            go_wp2_with fail
            go_roundw
            case rel => exact ⟨k + 1, by omega, by go_num, Lib.hid fun j hj => by
              by_cases e : j = k
              · subst e; exact hr.out
              · exact HA.out j (by omega), hbr.trans (b2.mono hbr.size)⟩
            case measure => simp [intOf]; omega
    · have hr := Lib.hid (bxsOk_end fun j hj => HA.out j (by rw [HN.out] at hj; omega))
      have hN2 := HN.out
      rw [hN2] at hr
      clear hN2
      go_wp2_with fail
      go_ret
      exact ⟨by rw [hr.out]; simp; omega, hbr⟩

/-- What FindBox gives. -/
def findS (l : List Bx) (id : Int) : Int := if bxsOk l = true then findB l id else -1
end Go.Proofs.Ytnnjphhkheocgaa
