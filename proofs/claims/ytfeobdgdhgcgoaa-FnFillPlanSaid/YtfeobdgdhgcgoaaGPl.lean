/-
  The model's PlanValid.
  Slices of numbers that a call has made, whole, in a block of their own; the model's PlanEmpty.
  The model's PlanFind.
  What stands while other blocks change; a place of a row of the call's own.
-/
import Derived.Test.YtfeobdgdhgcgoaaGSl
import Derived.Test.YtfeobdgdhgcgoaaGBx
import Derived.Test.YtfeobdgdhgcgoaaGBase
import Derived.Test.YtfeobdgdhgcgoaaGYh
import Derived.Test.YtfeobdgdhgcgoaaGPm
import Derived.Deep.RegionHeld3
namespace Go.Proofs.Ytfeobdgdhgcgoaa
open Go.RowKit
set_option linter.unusedVariables false

set_option maxRecDepth 10000 in
set_option maxHeartbeats 4000000 in
theorem specPlanValid_any (h : Hl) (u v : Value) (l : List Bx) (p : List Int) (w : World) (hb : HoldsBx w u l) (hp : HoldsI w v p) :
    Calls Try.prog 28 #[.agg #[.int .i64 h.b, .int .i64 h.r, .int .i64 h.t], u, v] w fun e w' => e = .returned (.bool (plOk h (bxsOk l) (bxIds l) p)) ∧ Below w.heap.size w w' := by
  have hb1 := (Below.refl w.heap.size w).alloc (Nat.le_refl _) (.cells #[.int .i64 h.b, .int .i64 h.r, .int .i64 h.t] 36)
  have hx1 := BoxH.new w h
  obtain ⟨W1, hW1⟩ : ∃ W1, W1 = w.alloc (.cells #[.int .i64 h.b, .int .i64 h.r, .int .i64 h.t] 36) := ⟨_, rfl⟩
  rw [← hW1] at hb1 hx1
  have HW := Lib.hid hW1
  have HB := Lib.hid hb1
  have y0 := hx1.c0
  have y1 := hx1.c1
  have y2 := hx1.c2
  have HX := Lib.hid fun (w' : World) (hs : Below W1.heap.size W1 w') => hx1.keep hs
  have HV := Lib.hid fun w => specHullValid_any h w
  have HM := Lib.hid fun w => specSlotMany_any h w
  have BK := Lib.hid fun (w' : World) (hs : Below w.heap.size w w') => hb.keep hs
  have PK := Lib.hid fun (w' : World) (hs : Below w.heap.size w w') => hp.keep hs
  have HBV := Lib.hid fun (w' : World) (hs : Below w.heap.size w w') => specBoxesValid_any u l w' (hb.keep hs)
  have HF := Lib.hid fun (w' : World) (hs : Below w.heap.size w w') x => l2Find_any u l x w' (hb.keep hs)
  obtain ⟨ba, bc, rfl⟩ : ∃ a c, u = .slice a l.length c := by obtain ⟨a, c, e, _⟩ := hb; exact ⟨a, c, e⟩
  obtain ⟨pa, pc, rfl⟩ := hp.form
  have hpc : p.length ≤ pc ∧ pc ≤ 9223372036854775807 := by
    obtain ⟨a', c', e, q1, q2, _⟩ := hp
    simp only [Value.slice.injEq] at e
    obtain ⟨-, -, rfl⟩ := e
    unfold maxLen at q2
    omega
  have HT := Lib.hid fun k (hk : k ≤ p.length) x (w' : World) (hs : Below w.heap.size w w') => l1Has_any (.slice pa k pc) (p.take k) x w' (HoldsI.take k hk (hp.keep hs))
  clear hW1 hb1 hx1 hb hp
  cases hk : hlOk h
  · rw [plOk_no (fun hc => by rw [hk] at hc; cases hc.1)]
    rw [hk] at HV
    clear hk
    go_enter Try.func28, Try.ntmps28
    go_wp2_with fail
    rw [← HW.out]
    go_wp2_with fail
    refine (HV.out W1).mono ?_
    rintro e w2 ⟨rfl, b2⟩
    go_wp2_with fail
    go_ret
    exact ⟨rfl, HB.out.trans (b2.mono HB.out.size)⟩
  rw [hk] at HV
  cases hbk : bxsOk l
  · rw [plOk_no (fun hc => by cases hc.2.1)]
    rw [hbk] at HBV
    clear hk hbk
    go_enter Try.func28, Try.ntmps28
    go_wp2_with fail
    rw [← HW.out]
    go_wp2_with fail
    refine (HV.out W1).mono ?_
    rintro e w2 ⟨rfl, b2⟩
    have C2 := HB.out.trans (b2.mono HB.out.size)
    go_wp2_with fail
    refine (HBV.out w2 C2).mono ?_
    rintro e w3 ⟨rfl, b3⟩
    go_wp2_with fail
    go_ret
    exact ⟨rfl, C2.trans (b3.mono C2.size)⟩
  rw [hbk] at HBV
  have PRE := Lib.hid hk
  by_cases hlen : (p.length : Int) = slMany h
  · have HBE := Lib.hid fun k (hl : k < p.length) => pl_below hk hlen hl
    have HSB := Lib.hid fun k w => specSlotBelow_any h k w
    have BAD1 := Lib.hid fun k (hl : k < p.length) hz hf => pl_bad1 (h := h) (bok := true) (l := l) (p := p) (k := k) hl hz hf
    have BAD2 := Lib.hid fun k (hl : k < p.length) hz hf => pl_bad2 (h := h) (bok := true) (ids := bxIds l) (p := p) (k := k) hl hz hf
    have BAD3 := Lib.hid fun k (hl : k < p.length) hz ht hf => pl_bad3 (h := h) (bok := true) (ids := bxIds l) (p := p) (k := k) hl hz ht hf
    have GOOD := Lib.hid fun k hf hh hb => pl_good (h := h) (l := l) (p := p) (k := k) hf hh hb
    have ZERO := Lib.hid fun k hz => pl_zero (h := h) (ids := bxIds l) (p := p) (k := k) hz
    have END := Lib.hid fun ha => pl_end (ids := bxIds l) hk hlen ha
    obtain ⟨res, hres⟩ : ∃ res, res = plOk h true (bxIds l) p := ⟨_, rfl⟩
    rw [← hres] at BAD1 BAD2 BAD3 END ⊢
    rw [← hlen] at HM
    obtain ⟨n, hn⟩ : ∃ n, n = p.length := ⟨_, rfl⟩
    rw [← hn] at HBE BAD1 BAD2 BAD3 END PK HT HM hpc ⊢
    clear hk hbk hlen hres hn PRE
    have hnn : ((n : Int) != (n : Int)) = false := by simp
    go_enter Try.func28, Try.ntmps28
    go_wp2_with fail
    rw [← HW.out]
    go_wp2_with fail
    refine (HV.out W1).mono ?_
    rintro e w2 ⟨rfl, b2⟩
    have C2 := HB.out.trans (b2.mono HB.out.size)
    have D2 := b2
    clear b2 y0 y1 y2
    go_wp2_with fail
    refine (HBV.out w2 C2).mono ?_
    rintro e w3 ⟨rfl, b3⟩
    have D3 := D2.trans (b3.mono D2.size)
    have C3 := C2.trans (b3.mono C2.size)
    have y := HX.out w3 D3
    have y0 := y.c0
    have y1 := y.c1
    have y2 := y.c2
    clear y D2 C2 b3
    go_wp2_with fail
    refine (HM.out w3).mono ?_
    rintro e w4 ⟨rfl, b4⟩
    have D4 := Lib.hid (D3.trans (b4.mono D3.size))
    have C4 := Lib.hid (C3.trans (b4.mono C3.size))
    clear D3 C3 y0 y1 y2 b4 HV HBV HM
    go_wp2_with fail
    go_loopw [7] (fun i wr => ∃ k : Nat, k ≤ n ∧ i = .int .i64 k ∧ Hid (∀ j, j < k → slotOk h (bxIds l) p j) ∧ Hid (Below W1.heap.size W1 wr) ∧ Hid (Below w.heap.size w wr)) (fun i _ => n - (intOf i).toNat)
    case atStart => exact ⟨0, by omega, rfl, Lib.hid fun j hj => by omega, D4, C4⟩
    case round =>
      clear D4 C4
      obtain ⟨k, hkn, rfl, HA, DR, BR⟩ := hrel
      by_cases hlt : k < n
      · obtain ⟨b, off, rfl, hbl, s0⟩ := (PK.out wr BR.out).at_ hlt
        have ik : (k : Int) < (n : Int) := by omega
        have i0k : (0 : Int) ≤ (k : Int) := by omega
        have ikc : (k : Int) ≤ (pc : Int) := by omega
        have e1 : p.getD k 0 = pAt p k := rfl
        rw [e1] at s0
        clear e1
        by_cases hz : pAt p k = 0
        · have hs := Lib.hid (ZERO.out k hz)
          rw [hz] at s0
          clear hz
          go_wp2_with fail
          go_roundw
          case rel => exact ⟨k + 1, by omega, by go_num, Lib.hid fun j hj => by
            by_cases e : j = k
            · subst e; exact hs.out
            · exact HA.out j (by omega), DR, BR⟩
          case measure => simp [intOf]; omega
        · have B1 := Lib.hid fun hf => BAD1.out k hlt hz hf
          have B2 := Lib.hid fun hf => BAD2.out k hlt hz hf
          have B3 := Lib.hid fun ht hf => BAD3.out k hlt hz ht hf
          have GD := Lib.hid fun hf hh hb => GOOD.out k hf hh hb
          have HFk := Lib.hid fun (w' : World) (hs : Since wr w') => HF.out w' (BR.out.trans (Below.mono hs BR.out.size)) (pAt p k)
          have HTk := Lib.hid fun (w' : World) (hs : Since wr w') => HT.out k (by omega) (pAt p k) w' (BR.out.trans (Below.mono hs BR.out.size))
          have HSk := Lib.hid (HSB.out k wr)
          have hbe := HBE.out k hlt
          have y := HX.out wr DR.out
          have y0 := y.c0
          have y1 := y.c1
          have y2 := y.c2
          clear y
          generalize slBelow h k = bl at HSk hbe
          generalize hzz : findB l (pAt p k) = z at HFk B1 GD
          generalize hqq : hasI (p.take k) (pAt p k) = q at HTk B2 GD
          have hx0 : (pAt p k == 0) = false := by simpa using hz
          obtain ⟨x, hxx⟩ : ∃ x, x = pAt p k := ⟨_, rfl⟩
          rw [← hxx] at s0 HFk HTk hx0
          clear hzz hqq hxx hz
          go_wp2_with fail
          refine HSk.out.mono ?_
          rintro e w5 ⟨rfl, b5⟩
          have BR5 := Lib.hid (BR.out.trans (b5.mono BR.out.size))
          have DR5 := Lib.hid (DR.out.trans (b5.mono DR.out.size))
          have hbl5 : b < w5.heap.size := Nat.lt_of_lt_of_le hbl b5.size
          have s5 : w5.cell? ⟨b, off + k, none⟩ = some (.int .i64 x) := (b5.cell (p := ⟨b, off + k, none⟩) hbl).trans s0
          have HFk := Lib.hid fun (w' : World) (hs : Since w5 w') => HFk.out w' (Since.call (w := w5) b5 hs)
          have HTk := Lib.hid fun (w' : World) (hs : Since w5 w') => HTk.out w' (Since.call (w := w5) b5 hs)
          clear s0 hbl b5 y0 y1 y2 BR DR HSk
          have BR := BR5
          have DR := DR5
          clear BR5 DR5
          generalize w5 = wr at *
          have HK := Lib.hid fun (w' : World) (hs : Since wr w') => (show w'.cell? ⟨b, off + k, none⟩ = some (.int .i64 x) ∧ Since wr w' from ⟨(Below.cell hs (p := ⟨b, off + k, none⟩) hbl5).trans s5, hs⟩)
          have hstart := HK.out _ (show Since wr wr.drew from (Below.refl _ _).drew)
          by_cases hz : z < 0
          · have hr := Lib.hid (B1.out hz)
            have hdz : decide (z < 0) = true := decide_eq_true hz
            go_wp2_with fail
            clear s5
            refine wp_region_held_drew (S := (fun w' => w'.cell? ⟨b, off + k, none⟩ = some (.int .i64 x) ∧ Since wr w')) (by kernel_rfl) hstart (fun hHeld => ?_)
            refine wpAnyH_take (i := 0) (v := ?v0) rfl (by kernel_rfl) (by kernel_rfl) (by kernel_rfl) (fun _ _ _ h => h) (Or.inl ⟨by rfl, ?hy0⟩) (by assumption) ?rest0
            case hy0 => (intro w5 hSw; (try dsimp only at hSw); go_simp; try with_reducible rfl)
            simp only [Act.put, List.getElem_toArray, List.getElem_cons_zero, List.setIfInBounds_toArray, List.set_cons_zero, List.set_cons_succ]
            refine wpAnyH_take (i := 1) (v := ?v1) rfl (by kernel_rfl) (by kernel_rfl) (by kernel_rfl) (fun _ _ _ h => h) (Or.inl ⟨by rfl, ?hy1⟩) (by assumption) ?rest1
            case hy1 => (intro w5 hSw; (try dsimp only at hSw); go_simp; try with_reducible rfl)
            simp only [Act.put, List.getElem_toArray, List.getElem_cons_zero, List.getElem_cons_succ, List.setIfInBounds_toArray, List.set_cons_zero, List.set_cons_succ]
            refine wpAnyH_take (i := 2) (v := ?v2) rfl (by kernel_rfl) (by kernel_rfl) (by kernel_rfl) (fun _ _ _ h => h) (Or.inl ⟨by rfl, ?hy2⟩) (by assumption) ?rest2
            case hy2 => (intro w5 hSw; (try dsimp only at hSw); go_simp; try with_reducible rfl)
            simp only [Act.put, List.getElem_toArray, List.getElem_cons_zero, List.getElem_cons_succ, List.setIfInBounds_toArray, List.set_cons_zero, List.set_cons_succ]
            refine wpAnyH_take (i := 3) (v := ?v3) rfl (by kernel_rfl) (by kernel_rfl) (by kernel_rfl) (fun _ _ _ h => h) (Or.inl ⟨by rfl, ?hy3⟩) (by assumption) ?rest3
            case hy3 => (intro w5 hSw; (try dsimp only at hSw); go_simp; try with_reducible rfl)
            simp only [Act.put, List.getElem_toArray, List.getElem_cons_zero, List.getElem_cons_succ, List.setIfInBounds_toArray, List.set_cons_zero, List.set_cons_succ]
            refine wpAnyH_take (i := 4) (v := ?v4) rfl (by kernel_rfl) (by kernel_rfl) (by kernel_rfl) (fun _ _ _ h => h) (Or.inl ⟨by rfl, ?hy4⟩) (by assumption) ?rest4
            case hy4 => (intro w5 hSw; (try dsimp only at hSw); go_simp; try with_reducible rfl)
            simp only [Act.put, List.getElem_toArray, List.getElem_cons_zero, List.getElem_cons_succ, List.setIfInBounds_toArray, List.set_cons_zero, List.set_cons_succ]
            refine wpAnyH_ready (rs := [5]) (by kernel_rfl) (by simp) ?_
            refine AllReadyH.cons rfl (fun K hK => ?_) AllReadyH.nil
            go_simp
            refine (HFk.out _ hHeld.2).mono ?_
            rintro e w2 ⟨rfl, rfl⟩
            refine hK.out _ _ hHeld (fun _ => ?_)
            refine wpAnyH_take (i := 6) (v := ?v6) rfl (by kernel_rfl) (by kernel_rfl) (by kernel_rfl) (fun _ _ _ h => h) (Or.inl ⟨by rfl, ?hy6⟩) (by assumption) ?rest6
            case hy6 => (intro w5 hSw; (try dsimp only at hSw); go_simp; try with_reducible rfl)
            simp only [Act.put, List.getElem_toArray, List.getElem_cons_zero, List.getElem_cons_succ, List.setIfInBounds_toArray, List.set_cons_zero, List.set_cons_succ]
            refine wpAnyH_take (i := 7) (v := ?v7) rfl (by kernel_rfl) (by kernel_rfl) (by kernel_rfl) (fun _ _ _ h => h) (Or.inl ⟨by rfl, ?hy7⟩) (by assumption) ?rest7
            case hy7 => (intro w5 hSw; (try dsimp only at hSw); go_simp; try with_reducible rfl)
            simp only [Act.put, List.getElem_toArray, List.getElem_cons_zero, List.getElem_cons_succ, List.setIfInBounds_toArray, List.set_cons_zero, List.set_cons_succ]
            refine wpAnyH_take (i := 8) (v := undef) rfl (by kernel_rfl) (by kernel_rfl) (by kernel_rfl) (fun _ _ _ h => h) (Or.inr ⟨by rfl, rfl⟩) (by assumption) ?_
            simp only [Act.put, List.getElem_toArray, List.getElem_cons_zero, List.getElem_cons_succ, List.setIfInBounds_toArray, List.set_cons_zero, List.set_cons_succ]
            refine wpAnyH_take (i := 9) (v := undef) rfl (by kernel_rfl) (by kernel_rfl) (by kernel_rfl) (fun _ _ _ h => h) (Or.inr ⟨by rfl, rfl⟩) (by assumption) ?_
            simp only [Act.put, List.getElem_toArray, List.getElem_cons_zero, List.getElem_cons_succ, List.setIfInBounds_toArray, List.set_cons_zero, List.set_cons_succ]
            refine wpAnyH_take (i := 10) (v := undef) rfl (by kernel_rfl) (by kernel_rfl) (by kernel_rfl) (fun _ _ _ h => h) (Or.inr ⟨by rfl, rfl⟩) (by assumption) ?_
            simp only [Act.put, List.getElem_toArray, List.getElem_cons_zero, List.getElem_cons_succ, List.setIfInBounds_toArray, List.set_cons_zero, List.set_cons_succ]
            refine wpAnyH_take (i := 11) (v := undef) rfl (by kernel_rfl) (by kernel_rfl) (by kernel_rfl) (fun _ _ _ h => h) (Or.inr ⟨by rfl, rfl⟩) (by assumption) ?_
            simp only [Act.put, List.getElem_toArray, List.getElem_cons_zero, List.getElem_cons_succ, List.setIfInBounds_toArray, List.set_cons_zero, List.set_cons_succ]
            refine wpAnyH_take (i := 12) (v := undef) rfl (by kernel_rfl) (by kernel_rfl) (by kernel_rfl) (fun _ _ _ h => h) (Or.inr ⟨by rfl, rfl⟩) (by assumption) ?_
            simp only [Act.put, List.getElem_toArray, List.getElem_cons_zero, List.getElem_cons_succ, List.setIfInBounds_toArray, List.set_cons_zero, List.set_cons_succ]
            refine wpAnyH_take (i := 13) (v := undef) rfl (by kernel_rfl) (by kernel_rfl) (by kernel_rfl) (fun _ _ _ h => h) (Or.inr ⟨by rfl, rfl⟩) (by assumption) ?_
            simp only [Act.put, List.getElem_toArray, List.getElem_cons_zero, List.getElem_cons_succ, List.setIfInBounds_toArray, List.set_cons_zero, List.set_cons_succ]
            refine wpAnyH_take (i := 14) (v := undef) rfl (by kernel_rfl) (by kernel_rfl) (by kernel_rfl) (fun _ _ _ h => h) (Or.inr ⟨by rfl, rfl⟩) (by assumption) ?_
            simp only [Act.put, List.getElem_toArray, List.getElem_cons_zero, List.getElem_cons_succ, List.setIfInBounds_toArray, List.set_cons_zero, List.set_cons_succ]
            refine wpAnyH_take (i := 15) (v := undef) rfl (by kernel_rfl) (by kernel_rfl) (by kernel_rfl) (fun _ _ _ h => h) (Or.inr ⟨by rfl, rfl⟩) (by assumption) ?_
            simp only [Act.put, List.getElem_toArray, List.getElem_cons_zero, List.getElem_cons_succ, List.setIfInBounds_toArray, List.set_cons_zero, List.set_cons_succ]
            refine wpAnyH_take (i := 16) (v := ?v16) rfl (by kernel_rfl) (by kernel_rfl) (by kernel_rfl) (fun _ _ _ h => h) (Or.inl ⟨by rfl, ?hy16⟩) (by assumption) ?rest16
            case hy16 => (intro w5 hSw; (try dsimp only at hSw); go_simp; try with_reducible rfl)
            simp only [Act.put, List.getElem_toArray, List.getElem_cons_zero, List.getElem_cons_succ, List.setIfInBounds_toArray, List.set_cons_zero, List.set_cons_succ]
            refine wpAnyH_take (i := 17) (v := ?v17) rfl (by kernel_rfl) (by kernel_rfl) (by kernel_rfl) (fun _ _ _ h => h) (Or.inl ⟨by rfl, ?hy17⟩) (by assumption) ?rest17
            case hy17 => (intro w5 hSw; (try dsimp only at hSw); go_simp; try with_reducible rfl)
            simp only [Act.put, List.getElem_toArray, List.getElem_cons_zero, List.getElem_cons_succ, List.setIfInBounds_toArray, List.set_cons_zero, List.set_cons_succ]
            refine wpAnyH_take (i := 18) (v := undef) rfl (by kernel_rfl) (by kernel_rfl) (by kernel_rfl) (fun _ _ _ h => h) (Or.inr ⟨by rfl, rfl⟩) (by assumption) ?_
            simp only [Act.put, List.getElem_toArray, List.getElem_cons_zero, List.getElem_cons_succ, List.setIfInBounds_toArray, List.set_cons_zero, List.set_cons_succ]
            refine wpAnyH_take (i := 19) (v := undef) rfl (by kernel_rfl) (by kernel_rfl) (by kernel_rfl) (fun _ _ _ h => h) (Or.inr ⟨by rfl, rfl⟩) (by assumption) ?_
            simp only [Act.put, List.getElem_toArray, List.getElem_cons_zero, List.getElem_cons_succ, List.setIfInBounds_toArray, List.set_cons_zero, List.set_cons_succ]
            refine wpAnyH_take (i := 20) (v := undef) rfl (by kernel_rfl) (by kernel_rfl) (by kernel_rfl) (fun _ _ _ h => h) (Or.inr ⟨by rfl, rfl⟩) (by assumption) ?_
            simp only [Act.put, List.getElem_toArray, List.getElem_cons_zero, List.getElem_cons_succ, List.setIfInBounds_toArray, List.set_cons_zero, List.set_cons_succ]
            refine wpAnyH_take (i := 21) (v := undef) rfl (by kernel_rfl) (by kernel_rfl) (by kernel_rfl) (fun _ _ _ h => h) (Or.inr ⟨by rfl, rfl⟩) (by assumption) ?_
            simp only [Act.put, List.getElem_toArray, List.getElem_cons_zero, List.getElem_cons_succ, List.setIfInBounds_toArray, List.set_cons_zero, List.set_cons_succ]
            refine wpAnyH_take (i := 22) (v := undef) rfl (by kernel_rfl) (by kernel_rfl) (by kernel_rfl) (fun _ _ _ h => h) (Or.inr ⟨by rfl, rfl⟩) (by assumption) ?_
            simp only [Act.put, List.getElem_toArray, List.getElem_cons_zero, List.getElem_cons_succ, List.setIfInBounds_toArray, List.set_cons_zero, List.set_cons_succ]
            refine wpAnyH_take (i := 23) (v := undef) rfl (by kernel_rfl) (by kernel_rfl) (by kernel_rfl) (fun _ _ _ h => h) (Or.inr ⟨by rfl, rfl⟩) (by assumption) ?_
            simp only [Act.put, List.getElem_toArray, List.getElem_cons_zero, List.getElem_cons_succ, List.setIfInBounds_toArray, List.set_cons_zero, List.set_cons_succ]
            refine wpAnyH_take (i := 24) (v := undef) rfl (by kernel_rfl) (by kernel_rfl) (by kernel_rfl) (fun _ _ _ h => h) (Or.inr ⟨by rfl, rfl⟩) (by assumption) ?_
            simp only [Act.put, List.getElem_toArray, List.getElem_cons_zero, List.getElem_cons_succ, List.setIfInBounds_toArray, List.set_cons_zero, List.set_cons_succ]
            refine wpAnyH_take (i := 25) (v := undef) rfl (by kernel_rfl) (by kernel_rfl) (by kernel_rfl) (fun _ _ _ h => h) (Or.inr ⟨by rfl, rfl⟩) (by assumption) ?_
            simp only [Act.put, List.getElem_toArray, List.getElem_cons_zero, List.getElem_cons_succ, List.setIfInBounds_toArray, List.set_cons_zero, List.set_cons_succ]
            refine wpAnyH_take (i := 26) (v := undef) rfl (by kernel_rfl) (by kernel_rfl) (by kernel_rfl) (fun _ _ _ h => h) (Or.inr ⟨by rfl, rfl⟩) (by assumption) ?_
            simp only [Act.put, List.getElem_toArray, List.getElem_cons_zero, List.getElem_cons_succ, List.setIfInBounds_toArray, List.set_cons_zero, List.set_cons_succ]
            refine wpAnyH_take (i := 27) (v := ?v27) rfl (by kernel_rfl) (by kernel_rfl) (by kernel_rfl) (fun _ _ _ h => h) (Or.inl ⟨by rfl, ?hy27⟩) (by assumption) ?rest27
            case hy27 => (intro w5 hSw; (try dsimp only at hSw); go_simp; try with_reducible rfl)
            simp only [Act.put, List.getElem_toArray, List.getElem_cons_zero, List.getElem_cons_succ, List.setIfInBounds_toArray, List.set_cons_zero, List.set_cons_succ]
            refine wpAnyH_done (by kernel_rfl) ?_ _
            have hx := BR.out.trans (Below.mono hHeld.2 BR.out.size)
            clear hHeld hK
            go_wp2_with fail
            go_ret
            exact ⟨by rw [hr.out]; rfl, hx⟩
          · have hdz : decide (z < 0) = false := decide_eq_false hz
            cases q
            · rcases hbe with ⟨rfl, ht⟩ | ⟨j, hj, rfl, ht⟩
              · have hs := Lib.hid (GD.out (by omega) (by first | rfl | trivial) (.inl ht))
                go_wp2_with fail
                clear s5
                refine wp_region_held_drew (S := (fun w' => w'.cell? ⟨b, off + k, none⟩ = some (.int .i64 x) ∧ Since wr w')) (by kernel_rfl) hstart (fun hHeld => ?_)
                refine wpAnyH_take (i := 0) (v := ?vc0) rfl (by kernel_rfl) (by kernel_rfl) (by kernel_rfl) (fun _ _ _ h => h) (Or.inl ⟨by rfl, ?hyc0⟩) (by assumption) ?restc0
                case hyc0 => (intro w5 hSw; (try dsimp only at hSw); go_simp; try with_reducible rfl)
                simp only [Act.put, List.getElem_toArray, List.getElem_cons_zero, List.setIfInBounds_toArray, List.set_cons_zero, List.set_cons_succ]
                refine wpAnyH_take (i := 1) (v := ?vc1) rfl (by kernel_rfl) (by kernel_rfl) (by kernel_rfl) (fun _ _ _ h => h) (Or.inl ⟨by rfl, ?hyc1⟩) (by assumption) ?restc1
                case hyc1 => (intro w5 hSw; (try dsimp only at hSw); go_simp; try with_reducible rfl)
                simp only [Act.put, List.getElem_toArray, List.getElem_cons_zero, List.getElem_cons_succ, List.setIfInBounds_toArray, List.set_cons_zero, List.set_cons_succ]
                refine wpAnyH_take (i := 2) (v := ?vc2) rfl (by kernel_rfl) (by kernel_rfl) (by kernel_rfl) (fun _ _ _ h => h) (Or.inl ⟨by rfl, ?hyc2⟩) (by assumption) ?restc2
                case hyc2 => (intro w5 hSw; (try dsimp only at hSw); go_simp; try with_reducible rfl)
                simp only [Act.put, List.getElem_toArray, List.getElem_cons_zero, List.getElem_cons_succ, List.setIfInBounds_toArray, List.set_cons_zero, List.set_cons_succ]
                refine wpAnyH_take (i := 3) (v := ?vc3) rfl (by kernel_rfl) (by kernel_rfl) (by kernel_rfl) (fun _ _ _ h => h) (Or.inl ⟨by rfl, ?hyc3⟩) (by assumption) ?restc3
                case hyc3 => (intro w5 hSw; (try dsimp only at hSw); go_simp; try with_reducible rfl)
                simp only [Act.put, List.getElem_toArray, List.getElem_cons_zero, List.getElem_cons_succ, List.setIfInBounds_toArray, List.set_cons_zero, List.set_cons_succ]
                refine wpAnyH_take (i := 4) (v := ?vc4) rfl (by kernel_rfl) (by kernel_rfl) (by kernel_rfl) (fun _ _ _ h => h) (Or.inl ⟨by rfl, ?hyc4⟩) (by assumption) ?restc4
                case hyc4 => (intro w5 hSw; (try dsimp only at hSw); go_simp; try with_reducible rfl)
                simp only [Act.put, List.getElem_toArray, List.getElem_cons_zero, List.getElem_cons_succ, List.setIfInBounds_toArray, List.set_cons_zero, List.set_cons_succ]
                refine wpAnyH_ready (rs := [5]) (by kernel_rfl) (by simp) ?_
                refine AllReadyH.cons rfl (fun K hK => ?_) AllReadyH.nil
                go_simp
                refine (HFk.out _ hHeld.2).mono ?_
                rintro e w2 ⟨rfl, rfl⟩
                refine hK.out _ _ hHeld (fun _ => ?_)
                refine wpAnyH_take (i := 6) (v := ?vc6) rfl (by kernel_rfl) (by kernel_rfl) (by kernel_rfl) (fun _ _ _ h => h) (Or.inl ⟨by rfl, ?hyc6⟩) (by assumption) ?restc6
                case hyc6 => (intro w5 hSw; (try dsimp only at hSw); go_simp; try with_reducible rfl)
                simp only [Act.put, List.getElem_toArray, List.getElem_cons_zero, List.getElem_cons_succ, List.setIfInBounds_toArray, List.set_cons_zero, List.set_cons_succ]
                refine wpAnyH_take (i := 7) (v := ?vc7) rfl (by kernel_rfl) (by kernel_rfl) (by kernel_rfl) (fun _ _ _ h => h) (Or.inl ⟨by rfl, ?hyc7⟩) (by assumption) ?restc7
                case hyc7 => (intro w5 hSw; (try dsimp only at hSw); go_simp; try with_reducible rfl)
                simp only [Act.put, List.getElem_toArray, List.getElem_cons_zero, List.getElem_cons_succ, List.setIfInBounds_toArray, List.set_cons_zero, List.set_cons_succ]
                refine wpAnyH_take (i := 8) (v := ?vc8) rfl (by kernel_rfl) (by kernel_rfl) (by kernel_rfl) (fun _ _ _ h => h) (Or.inl ⟨by rfl, ?hyc8⟩) (by assumption) ?restc8
                case hyc8 => (intro w5 hSw; (try dsimp only at hSw); go_simp; try with_reducible rfl)
                simp only [Act.put, List.getElem_toArray, List.getElem_cons_zero, List.getElem_cons_succ, List.setIfInBounds_toArray, List.set_cons_zero, List.set_cons_succ]
                refine wpAnyH_take (i := 9) (v := ?vc9) rfl (by kernel_rfl) (by kernel_rfl) (by kernel_rfl) (fun _ _ _ h => h) (Or.inl ⟨by rfl, ?hyc9⟩) (by assumption) ?restc9
                case hyc9 => (intro w5 hSw; (try dsimp only at hSw); go_simp; try with_reducible rfl)
                simp only [Act.put, List.getElem_toArray, List.getElem_cons_zero, List.getElem_cons_succ, List.setIfInBounds_toArray, List.set_cons_zero, List.set_cons_succ]
                refine wpAnyH_take (i := 10) (v := ?vc10) rfl (by kernel_rfl) (by kernel_rfl) (by kernel_rfl) (fun _ _ _ h => h) (Or.inl ⟨by rfl, ?hyc10⟩) (by assumption) ?restc10
                case hyc10 => (intro w5 hSw; (try dsimp only at hSw); go_simp; try with_reducible rfl)
                simp only [Act.put, List.getElem_toArray, List.getElem_cons_zero, List.getElem_cons_succ, List.setIfInBounds_toArray, List.set_cons_zero, List.set_cons_succ]
                refine wpAnyH_take (i := 11) (v := ?vc11) rfl (by kernel_rfl) (by kernel_rfl) (by kernel_rfl) (fun _ _ _ h => h) (Or.inl ⟨by rfl, ?hyc11⟩) (by assumption) ?restc11
                case hyc11 => (intro w5 hSw; (try dsimp only at hSw); go_simp; try with_reducible rfl)
                simp only [Act.put, List.getElem_toArray, List.getElem_cons_zero, List.getElem_cons_succ, List.setIfInBounds_toArray, List.set_cons_zero, List.set_cons_succ]
                refine wpAnyH_take (i := 12) (v := ?vc12) rfl (by kernel_rfl) (by kernel_rfl) (by kernel_rfl) (fun _ _ _ h => h) (Or.inl ⟨by rfl, ?hyc12⟩) (by assumption) ?restc12
                case hyc12 => (intro w5 hSw; (try dsimp only at hSw); go_simp; try with_reducible rfl)
                simp only [Act.put, List.getElem_toArray, List.getElem_cons_zero, List.getElem_cons_succ, List.setIfInBounds_toArray, List.set_cons_zero, List.set_cons_succ]
                refine wpAnyH_take (i := 13) (v := ?vc13) rfl (by kernel_rfl) (by kernel_rfl) (by kernel_rfl) (fun _ _ _ h => h) (Or.inl ⟨by rfl, ?hyc13⟩) (by assumption) ?restc13
                case hyc13 => (intro w5 hSw; (try dsimp only at hSw); go_simp; try with_reducible rfl)
                simp only [Act.put, List.getElem_toArray, List.getElem_cons_zero, List.getElem_cons_succ, List.setIfInBounds_toArray, List.set_cons_zero, List.set_cons_succ]
                refine wpAnyH_take (i := 14) (v := ?vc14) rfl (by kernel_rfl) (by kernel_rfl) (by kernel_rfl) (fun _ _ _ h => h) (Or.inl ⟨by rfl, ?hyc14⟩) (by assumption) ?restc14
                case hyc14 => (intro w5 hSw; (try dsimp only at hSw); go_simp; try with_reducible rfl)
                simp only [Act.put, List.getElem_toArray, List.getElem_cons_zero, List.getElem_cons_succ, List.setIfInBounds_toArray, List.set_cons_zero, List.set_cons_succ]
                refine wpAnyH_ready (rs := [15]) (by kernel_rfl) (by simp) ?_
                refine AllReadyH.cons rfl (fun K hK => ?_) AllReadyH.nil
                go_simp
                refine (HTk.out _ hHeld.2).mono ?_
                rintro e w2 ⟨rfl, rfl⟩
                refine hK.out _ _ hHeld (fun _ => ?_)
                refine wpAnyH_take (i := 16) (v := ?vc16) rfl (by kernel_rfl) (by kernel_rfl) (by kernel_rfl) (fun _ _ _ h => h) (Or.inl ⟨by rfl, ?hyc16⟩) (by assumption) ?restc16
                case hyc16 => (intro w5 hSw; (try dsimp only at hSw); go_simp; try with_reducible rfl)
                simp only [Act.put, List.getElem_toArray, List.getElem_cons_zero, List.getElem_cons_succ, List.setIfInBounds_toArray, List.set_cons_zero, List.set_cons_succ]
                refine wpAnyH_take (i := 17) (v := ?vc17) rfl (by kernel_rfl) (by kernel_rfl) (by kernel_rfl) (fun _ _ _ h => h) (Or.inl ⟨by rfl, ?hyc17⟩) (by assumption) ?restc17
                case hyc17 => (intro w5 hSw; (try dsimp only at hSw); go_simp; try with_reducible rfl)
                simp only [Act.put, List.getElem_toArray, List.getElem_cons_zero, List.getElem_cons_succ, List.setIfInBounds_toArray, List.set_cons_zero, List.set_cons_succ]
                refine wpAnyH_take (i := 18) (v := ?vc18) rfl (by kernel_rfl) (by kernel_rfl) (by kernel_rfl) (fun _ _ _ h => h) (Or.inl ⟨by rfl, ?hyc18⟩) (by assumption) ?restc18
                case hyc18 => (intro w5 hSw; (try dsimp only at hSw); go_simp; try with_reducible rfl)
                simp only [Act.put, List.getElem_toArray, List.getElem_cons_zero, List.getElem_cons_succ, List.setIfInBounds_toArray, List.set_cons_zero, List.set_cons_succ]
                refine wpAnyH_take (i := 19) (v := ?vc19) rfl (by kernel_rfl) (by kernel_rfl) (by kernel_rfl) (fun _ _ _ h => h) (Or.inl ⟨by rfl, ?hyc19⟩) (by assumption) ?restc19
                case hyc19 => (intro w5 hSw; (try dsimp only at hSw); go_simp; try with_reducible rfl)
                simp only [Act.put, List.getElem_toArray, List.getElem_cons_zero, List.getElem_cons_succ, List.setIfInBounds_toArray, List.set_cons_zero, List.set_cons_succ]
                refine wpAnyH_take (i := 20) (v := ?vc20) rfl (by kernel_rfl) (by kernel_rfl) (by kernel_rfl) (fun _ _ _ h => h) (Or.inl ⟨by rfl, ?hyc20⟩) (by assumption) ?restc20
                case hyc20 => (intro w5 hSw; (try dsimp only at hSw); go_simp; try with_reducible rfl)
                simp only [Act.put, List.getElem_toArray, List.getElem_cons_zero, List.getElem_cons_succ, List.setIfInBounds_toArray, List.set_cons_zero, List.set_cons_succ]
                refine wpAnyH_take (i := 21) (v := undef) rfl (by kernel_rfl) (by kernel_rfl) (by kernel_rfl) (fun _ _ _ h => h) (Or.inr ⟨by rfl, rfl⟩) (by assumption) ?_
                simp only [Act.put, List.getElem_toArray, List.getElem_cons_zero, List.getElem_cons_succ, List.setIfInBounds_toArray, List.set_cons_zero, List.set_cons_succ]
                refine wpAnyH_take (i := 22) (v := undef) rfl (by kernel_rfl) (by kernel_rfl) (by kernel_rfl) (fun _ _ _ h => h) (Or.inr ⟨by rfl, rfl⟩) (by assumption) ?_
                simp only [Act.put, List.getElem_toArray, List.getElem_cons_zero, List.getElem_cons_succ, List.setIfInBounds_toArray, List.set_cons_zero, List.set_cons_succ]
                refine wpAnyH_take (i := 23) (v := undef) rfl (by kernel_rfl) (by kernel_rfl) (by kernel_rfl) (fun _ _ _ h => h) (Or.inr ⟨by rfl, rfl⟩) (by assumption) ?_
                simp only [Act.put, List.getElem_toArray, List.getElem_cons_zero, List.getElem_cons_succ, List.setIfInBounds_toArray, List.set_cons_zero, List.set_cons_succ]
                refine wpAnyH_take (i := 24) (v := undef) rfl (by kernel_rfl) (by kernel_rfl) (by kernel_rfl) (fun _ _ _ h => h) (Or.inr ⟨by rfl, rfl⟩) (by assumption) ?_
                simp only [Act.put, List.getElem_toArray, List.getElem_cons_zero, List.getElem_cons_succ, List.setIfInBounds_toArray, List.set_cons_zero, List.set_cons_succ]
                refine wpAnyH_take (i := 25) (v := undef) rfl (by kernel_rfl) (by kernel_rfl) (by kernel_rfl) (fun _ _ _ h => h) (Or.inr ⟨by rfl, rfl⟩) (by assumption) ?_
                simp only [Act.put, List.getElem_toArray, List.getElem_cons_zero, List.getElem_cons_succ, List.setIfInBounds_toArray, List.set_cons_zero, List.set_cons_succ]
                refine wpAnyH_take (i := 26) (v := ?vc26) rfl (by kernel_rfl) (by kernel_rfl) (by kernel_rfl) (fun _ _ _ h => h) (Or.inl ⟨by rfl, ?hyc26⟩) (by assumption) ?restc26
                case hyc26 => (intro w5 hSw; (try dsimp only at hSw); go_simp; try with_reducible rfl)
                simp only [Act.put, List.getElem_toArray, List.getElem_cons_zero, List.getElem_cons_succ, List.setIfInBounds_toArray, List.set_cons_zero, List.set_cons_succ]
                refine wpAnyH_take (i := 27) (v := ?vc27) rfl (by kernel_rfl) (by kernel_rfl) (by kernel_rfl) (fun _ _ _ h => h) (Or.inl ⟨by rfl, ?hyc27⟩) (by assumption) ?restc27
                case hyc27 => (intro w5 hSw; (try dsimp only at hSw); go_simp; try with_reducible rfl)
                simp only [Act.put, List.getElem_toArray, List.getElem_cons_zero, List.getElem_cons_succ, List.setIfInBounds_toArray, List.set_cons_zero, List.set_cons_succ]
                refine wpAnyH_done (by kernel_rfl) ?_ _
                have hx := BR.out.trans (Below.mono hHeld.2 BR.out.size)
                clear hHeld hK
                have dx := DR.out.trans (Below.mono (show Since wr wr.drew from (Below.refl _ _).drew) DR.out.size)
                go_wp2_with fail
                go_roundw
                case rel => exact ⟨k + 1, by omega, by go_num, Lib.hid fun j' hj => by
                  by_cases e : j' = k
                  · subst e; exact hs.out
                  · exact HA.out j' (by omega), Lib.hid dx, Lib.hid hx⟩
                case measure => simp [intOf]; omega
              · obtain ⟨b', off', e', -, s6⟩ := (PK.out wr BR.out).at_ (k := j) (by omega)
                obtain ⟨rfl, rfl⟩ : b = b' ∧ off = off' := by simpa using e'
                have e2 : p.getD j 0 = pAt p j := rfl
                rw [e2] at s6
                have ij : (j : Int) < (n : Int) := by omega
                have i0j : (0 : Int) ≤ (j : Int) := by omega
                have hjn : j < n := by omega
                have hpj : pAt p (k - 1) = pAt p j := by rw [hj]; rfl
                rw [hpj] at B3 GD
                clear hj
                obtain ⟨y, hyy⟩ : ∃ y, y = pAt p j := ⟨_, rfl⟩
                rw [← hyy] at s6 B3 GD
                clear hyy e2 e' hpj hstart HK
                have HK := Lib.hid fun (w' : World) (hs : Since wr w') => (show w'.cell? ⟨b, off + k, none⟩ = some (.int .i64 x) ∧ w'.cell? ⟨b, off + j, none⟩ = some (.int .i64 y) ∧ Since wr w' from ⟨(Below.cell hs (p := ⟨b, off + k, none⟩) hbl5).trans s5, (Below.cell hs (p := ⟨b, off + j, none⟩) hbl5).trans s6, hs⟩)
                have hstart := HK.out _ (show Since wr wr.drew from (Below.refl _ _).drew)
                go_wp2_with fail
                clear s5 s6
                go_region_held3 (fun w' => w'.cell? ⟨b, off + k, none⟩ = some (.int .i64 x) ∧ w'.cell? ⟨b, off + j, none⟩ = some (.int .i64 y) ∧ Since wr w')
                  (first | exact hstart | exact HK.out _ (by exact (‹_ ∧ _› : _ ∧ _ ∧ Since wr _).2.2) | fail)
                  (first
                    | (go_at_call 49; ((with_reducible refine (HFk.out _ (by exact (‹_ ∧ _› : _ ∧ _ ∧ Since wr _).2.2)).mono ?_); rintro e w2 ⟨rfl, rfl⟩))
                    | (go_at_call 46; ((with_reducible refine (HTk.out _ (by exact (‹_ ∧ _› : _ ∧ _ ∧ Since wr _).2.2)).mono ?_); rintro e w3 ⟨rfl, rfl⟩))
                    | fail)
                rename_i hheld
                have hx := BR.out.trans (Below.mono hheld.2.2 BR.out.size)
                have dx := DR.out.trans (Below.mono hheld.2.2 DR.out.size)
                clear hheld hstart
                by_cases hy : y = 0
                · have hr := Lib.hid (B3.out ht hy)
                  have hy0 : (y == 0) = true := by simpa using hy
                  go_wp2_with fail
                  go_ret
                  exact ⟨by rw [hr.out]; rfl, hx⟩
                · have hs := Lib.hid (GD.out (by omega) (by first | rfl | trivial) (.inr hy))
                  have hy0 : (y == 0) = false := by simpa using hy
                  go_wp2_with fail
                  go_roundw
                  case rel => exact ⟨k + 1, by omega, by go_num, Lib.hid fun j' hj => by
                    by_cases e : j' = k
                    · subst e; exact hs.out
                    · exact HA.out j' (by omega), Lib.hid dx, Lib.hid hx⟩
                  case measure => simp [intOf]; omega
            · have hr := Lib.hid (B2.out rfl)
              go_wp2_with fail
              clear s5
              refine wp_region_held_drew (S := (fun w' => w'.cell? ⟨b, off + k, none⟩ = some (.int .i64 x) ∧ Since wr w')) (by kernel_rfl) hstart (fun hHeld => ?_)
              refine wpAnyH_take (i := 0) (v := ?vb0) rfl (by kernel_rfl) (by kernel_rfl) (by kernel_rfl) (fun _ _ _ h => h) (Or.inl ⟨by rfl, ?hyb0⟩) (by assumption) ?restb0
              case hyb0 => (intro w5 hSw; (try dsimp only at hSw); go_simp; try with_reducible rfl)
              simp only [Act.put, List.getElem_toArray, List.getElem_cons_zero, List.setIfInBounds_toArray, List.set_cons_zero, List.set_cons_succ]
              refine wpAnyH_take (i := 1) (v := ?vb1) rfl (by kernel_rfl) (by kernel_rfl) (by kernel_rfl) (fun _ _ _ h => h) (Or.inl ⟨by rfl, ?hyb1⟩) (by assumption) ?restb1
              case hyb1 => (intro w5 hSw; (try dsimp only at hSw); go_simp; try with_reducible rfl)
              simp only [Act.put, List.getElem_toArray, List.getElem_cons_zero, List.getElem_cons_succ, List.setIfInBounds_toArray, List.set_cons_zero, List.set_cons_succ]
              refine wpAnyH_take (i := 2) (v := ?vb2) rfl (by kernel_rfl) (by kernel_rfl) (by kernel_rfl) (fun _ _ _ h => h) (Or.inl ⟨by rfl, ?hyb2⟩) (by assumption) ?restb2
              case hyb2 => (intro w5 hSw; (try dsimp only at hSw); go_simp; try with_reducible rfl)
              simp only [Act.put, List.getElem_toArray, List.getElem_cons_zero, List.getElem_cons_succ, List.setIfInBounds_toArray, List.set_cons_zero, List.set_cons_succ]
              refine wpAnyH_take (i := 3) (v := ?vb3) rfl (by kernel_rfl) (by kernel_rfl) (by kernel_rfl) (fun _ _ _ h => h) (Or.inl ⟨by rfl, ?hyb3⟩) (by assumption) ?restb3
              case hyb3 => (intro w5 hSw; (try dsimp only at hSw); go_simp; try with_reducible rfl)
              simp only [Act.put, List.getElem_toArray, List.getElem_cons_zero, List.getElem_cons_succ, List.setIfInBounds_toArray, List.set_cons_zero, List.set_cons_succ]
              refine wpAnyH_take (i := 4) (v := ?vb4) rfl (by kernel_rfl) (by kernel_rfl) (by kernel_rfl) (fun _ _ _ h => h) (Or.inl ⟨by rfl, ?hyb4⟩) (by assumption) ?restb4
              case hyb4 => (intro w5 hSw; (try dsimp only at hSw); go_simp; try with_reducible rfl)
              simp only [Act.put, List.getElem_toArray, List.getElem_cons_zero, List.getElem_cons_succ, List.setIfInBounds_toArray, List.set_cons_zero, List.set_cons_succ]
              refine wpAnyH_ready (rs := [5]) (by kernel_rfl) (by simp) ?_
              refine AllReadyH.cons rfl (fun K hK => ?_) AllReadyH.nil
              go_simp
              refine (HFk.out _ hHeld.2).mono ?_
              rintro e w2 ⟨rfl, rfl⟩
              refine hK.out _ _ hHeld (fun _ => ?_)
              refine wpAnyH_take (i := 6) (v := ?vb6) rfl (by kernel_rfl) (by kernel_rfl) (by kernel_rfl) (fun _ _ _ h => h) (Or.inl ⟨by rfl, ?hyb6⟩) (by assumption) ?restb6
              case hyb6 => (intro w5 hSw; (try dsimp only at hSw); go_simp; try with_reducible rfl)
              simp only [Act.put, List.getElem_toArray, List.getElem_cons_zero, List.getElem_cons_succ, List.setIfInBounds_toArray, List.set_cons_zero, List.set_cons_succ]
              refine wpAnyH_take (i := 7) (v := ?vb7) rfl (by kernel_rfl) (by kernel_rfl) (by kernel_rfl) (fun _ _ _ h => h) (Or.inl ⟨by rfl, ?hyb7⟩) (by assumption) ?restb7
              case hyb7 => (intro w5 hSw; (try dsimp only at hSw); go_simp; try with_reducible rfl)
              simp only [Act.put, List.getElem_toArray, List.getElem_cons_zero, List.getElem_cons_succ, List.setIfInBounds_toArray, List.set_cons_zero, List.set_cons_succ]
              refine wpAnyH_take (i := 8) (v := ?vb8) rfl (by kernel_rfl) (by kernel_rfl) (by kernel_rfl) (fun _ _ _ h => h) (Or.inl ⟨by rfl, ?hyb8⟩) (by assumption) ?restb8
              case hyb8 => (intro w5 hSw; (try dsimp only at hSw); go_simp; try with_reducible rfl)
              simp only [Act.put, List.getElem_toArray, List.getElem_cons_zero, List.getElem_cons_succ, List.setIfInBounds_toArray, List.set_cons_zero, List.set_cons_succ]
              refine wpAnyH_take (i := 9) (v := ?vb9) rfl (by kernel_rfl) (by kernel_rfl) (by kernel_rfl) (fun _ _ _ h => h) (Or.inl ⟨by rfl, ?hyb9⟩) (by assumption) ?restb9
              case hyb9 => (intro w5 hSw; (try dsimp only at hSw); go_simp; try with_reducible rfl)
              simp only [Act.put, List.getElem_toArray, List.getElem_cons_zero, List.getElem_cons_succ, List.setIfInBounds_toArray, List.set_cons_zero, List.set_cons_succ]
              refine wpAnyH_take (i := 10) (v := ?vb10) rfl (by kernel_rfl) (by kernel_rfl) (by kernel_rfl) (fun _ _ _ h => h) (Or.inl ⟨by rfl, ?hyb10⟩) (by assumption) ?restb10
              case hyb10 => (intro w5 hSw; (try dsimp only at hSw); go_simp; try with_reducible rfl)
              simp only [Act.put, List.getElem_toArray, List.getElem_cons_zero, List.getElem_cons_succ, List.setIfInBounds_toArray, List.set_cons_zero, List.set_cons_succ]
              refine wpAnyH_take (i := 11) (v := ?vb11) rfl (by kernel_rfl) (by kernel_rfl) (by kernel_rfl) (fun _ _ _ h => h) (Or.inl ⟨by rfl, ?hyb11⟩) (by assumption) ?restb11
              case hyb11 => (intro w5 hSw; (try dsimp only at hSw); go_simp; try with_reducible rfl)
              simp only [Act.put, List.getElem_toArray, List.getElem_cons_zero, List.getElem_cons_succ, List.setIfInBounds_toArray, List.set_cons_zero, List.set_cons_succ]
              refine wpAnyH_take (i := 12) (v := ?vb12) rfl (by kernel_rfl) (by kernel_rfl) (by kernel_rfl) (fun _ _ _ h => h) (Or.inl ⟨by rfl, ?hyb12⟩) (by assumption) ?restb12
              case hyb12 => (intro w5 hSw; (try dsimp only at hSw); go_simp; try with_reducible rfl)
              simp only [Act.put, List.getElem_toArray, List.getElem_cons_zero, List.getElem_cons_succ, List.setIfInBounds_toArray, List.set_cons_zero, List.set_cons_succ]
              refine wpAnyH_take (i := 13) (v := ?vb13) rfl (by kernel_rfl) (by kernel_rfl) (by kernel_rfl) (fun _ _ _ h => h) (Or.inl ⟨by rfl, ?hyb13⟩) (by assumption) ?restb13
              case hyb13 => (intro w5 hSw; (try dsimp only at hSw); go_simp; try with_reducible rfl)
              simp only [Act.put, List.getElem_toArray, List.getElem_cons_zero, List.getElem_cons_succ, List.setIfInBounds_toArray, List.set_cons_zero, List.set_cons_succ]
              refine wpAnyH_take (i := 14) (v := ?vb14) rfl (by kernel_rfl) (by kernel_rfl) (by kernel_rfl) (fun _ _ _ h => h) (Or.inl ⟨by rfl, ?hyb14⟩) (by assumption) ?restb14
              case hyb14 => (intro w5 hSw; (try dsimp only at hSw); go_simp; try with_reducible rfl)
              simp only [Act.put, List.getElem_toArray, List.getElem_cons_zero, List.getElem_cons_succ, List.setIfInBounds_toArray, List.set_cons_zero, List.set_cons_succ]
              refine wpAnyH_ready (rs := [15]) (by kernel_rfl) (by simp) ?_
              refine AllReadyH.cons rfl (fun K hK => ?_) AllReadyH.nil
              go_simp
              refine (HTk.out _ hHeld.2).mono ?_
              rintro e w2 ⟨rfl, rfl⟩
              refine hK.out _ _ hHeld (fun _ => ?_)
              refine wpAnyH_take (i := 16) (v := ?vb16) rfl (by kernel_rfl) (by kernel_rfl) (by kernel_rfl) (fun _ _ _ h => h) (Or.inl ⟨by rfl, ?hyb16⟩) (by assumption) ?restb16
              case hyb16 => (intro w5 hSw; (try dsimp only at hSw); go_simp; try with_reducible rfl)
              simp only [Act.put, List.getElem_toArray, List.getElem_cons_zero, List.getElem_cons_succ, List.setIfInBounds_toArray, List.set_cons_zero, List.set_cons_succ]
              refine wpAnyH_take (i := 17) (v := ?vb17) rfl (by kernel_rfl) (by kernel_rfl) (by kernel_rfl) (fun _ _ _ h => h) (Or.inl ⟨by rfl, ?hyb17⟩) (by assumption) ?restb17
              case hyb17 => (intro w5 hSw; (try dsimp only at hSw); go_simp; try with_reducible rfl)
              simp only [Act.put, List.getElem_toArray, List.getElem_cons_zero, List.getElem_cons_succ, List.setIfInBounds_toArray, List.set_cons_zero, List.set_cons_succ]
              refine wpAnyH_take (i := 18) (v := undef) rfl (by kernel_rfl) (by kernel_rfl) (by kernel_rfl) (fun _ _ _ h => h) (Or.inr ⟨by rfl, rfl⟩) (by assumption) ?_
              simp only [Act.put, List.getElem_toArray, List.getElem_cons_zero, List.getElem_cons_succ, List.setIfInBounds_toArray, List.set_cons_zero, List.set_cons_succ]
              refine wpAnyH_take (i := 19) (v := undef) rfl (by kernel_rfl) (by kernel_rfl) (by kernel_rfl) (fun _ _ _ h => h) (Or.inr ⟨by rfl, rfl⟩) (by assumption) ?_
              simp only [Act.put, List.getElem_toArray, List.getElem_cons_zero, List.getElem_cons_succ, List.setIfInBounds_toArray, List.set_cons_zero, List.set_cons_succ]
              refine wpAnyH_take (i := 20) (v := undef) rfl (by kernel_rfl) (by kernel_rfl) (by kernel_rfl) (fun _ _ _ h => h) (Or.inr ⟨by rfl, rfl⟩) (by assumption) ?_
              simp only [Act.put, List.getElem_toArray, List.getElem_cons_zero, List.getElem_cons_succ, List.setIfInBounds_toArray, List.set_cons_zero, List.set_cons_succ]
              refine wpAnyH_take (i := 21) (v := undef) rfl (by kernel_rfl) (by kernel_rfl) (by kernel_rfl) (fun _ _ _ h => h) (Or.inr ⟨by rfl, rfl⟩) (by assumption) ?_
              simp only [Act.put, List.getElem_toArray, List.getElem_cons_zero, List.getElem_cons_succ, List.setIfInBounds_toArray, List.set_cons_zero, List.set_cons_succ]
              refine wpAnyH_take (i := 22) (v := undef) rfl (by kernel_rfl) (by kernel_rfl) (by kernel_rfl) (fun _ _ _ h => h) (Or.inr ⟨by rfl, rfl⟩) (by assumption) ?_
              simp only [Act.put, List.getElem_toArray, List.getElem_cons_zero, List.getElem_cons_succ, List.setIfInBounds_toArray, List.set_cons_zero, List.set_cons_succ]
              refine wpAnyH_take (i := 23) (v := undef) rfl (by kernel_rfl) (by kernel_rfl) (by kernel_rfl) (fun _ _ _ h => h) (Or.inr ⟨by rfl, rfl⟩) (by assumption) ?_
              simp only [Act.put, List.getElem_toArray, List.getElem_cons_zero, List.getElem_cons_succ, List.setIfInBounds_toArray, List.set_cons_zero, List.set_cons_succ]
              refine wpAnyH_take (i := 24) (v := undef) rfl (by kernel_rfl) (by kernel_rfl) (by kernel_rfl) (fun _ _ _ h => h) (Or.inr ⟨by rfl, rfl⟩) (by assumption) ?_
              simp only [Act.put, List.getElem_toArray, List.getElem_cons_zero, List.getElem_cons_succ, List.setIfInBounds_toArray, List.set_cons_zero, List.set_cons_succ]
              refine wpAnyH_take (i := 25) (v := undef) rfl (by kernel_rfl) (by kernel_rfl) (by kernel_rfl) (fun _ _ _ h => h) (Or.inr ⟨by rfl, rfl⟩) (by assumption) ?_
              simp only [Act.put, List.getElem_toArray, List.getElem_cons_zero, List.getElem_cons_succ, List.setIfInBounds_toArray, List.set_cons_zero, List.set_cons_succ]
              refine wpAnyH_take (i := 26) (v := undef) rfl (by kernel_rfl) (by kernel_rfl) (by kernel_rfl) (fun _ _ _ h => h) (Or.inr ⟨by rfl, rfl⟩) (by assumption) ?_
              simp only [Act.put, List.getElem_toArray, List.getElem_cons_zero, List.getElem_cons_succ, List.setIfInBounds_toArray, List.set_cons_zero, List.set_cons_succ]
              refine wpAnyH_take (i := 27) (v := ?vb27) rfl (by kernel_rfl) (by kernel_rfl) (by kernel_rfl) (fun _ _ _ h => h) (Or.inl ⟨by rfl, ?hyb27⟩) (by assumption) ?restb27
              case hyb27 => (intro w5 hSw; (try dsimp only at hSw); go_simp; try with_reducible rfl)
              simp only [Act.put, List.getElem_toArray, List.getElem_cons_zero, List.getElem_cons_succ, List.setIfInBounds_toArray, List.set_cons_zero, List.set_cons_succ]
              refine wpAnyH_done (by kernel_rfl) ?_ _
              have hx := BR.out.trans (Below.mono hHeld.2 BR.out.size)
              clear hHeld hK
              go_wp2_with fail
              go_ret
              exact ⟨by rw [hr.out]; rfl, hx⟩
      · obtain rfl : k = n := by omega
        have hr := Lib.hid (END.out fun j hj => HA.out j hj)
        have C9 := BR.out
        go_wp2_with fail
        go_ret
        exact ⟨by rw [hr.out]; rfl, C9⟩
  · have hr := Lib.hid (plOk_no (h := h) (bok := true) (ids := bxIds l) (p := p) (fun hc => hlen hc.2.2))
    have hne : ((p.length : Int) != slMany h) = true := by simpa using hlen
    clear hk hbk hlen PRE
    go_enter Try.func28, Try.ntmps28
    go_wp2_with fail
    rw [← HW.out]
    go_wp2_with fail
    refine (HV.out W1).mono ?_
    rintro e w2 ⟨rfl, b2⟩
    have C2 := HB.out.trans (b2.mono HB.out.size)
    have D2 := b2
    clear b2 y0 y1 y2
    go_wp2_with fail
    refine (HBV.out w2 C2).mono ?_
    rintro e w3 ⟨rfl, b3⟩
    have D3 := D2.trans (b3.mono D2.size)
    have C3 := C2.trans (b3.mono C2.size)
    have y := HX.out w3 D3
    have y0 := y.c0
    have y1 := y.c1
    have y2 := y.c2
    clear y D2 C2 b3
    go_wp2_with fail
    refine (HM.out w3).mono ?_
    rintro e w4 ⟨rfl, b4⟩
    go_wp2_with fail
    go_ret
    exact ⟨by rw [hr.out]; rfl, C3.trans (b4.mono C3.size)⟩
end Go.Proofs.Ytfeobdgdhgcgoaa
namespace Go.Proofs.Ytfeobdgdhgcgoaa
open Go.RowKit
set_option linter.unusedVariables false

/-- A slice that holds these numbers, at the head of a block of its own, from K on. -/
def OwnI (K : Nat) (w : World) (v : Value) (l : List Int) : Prop := w.ownsRow K 3 1 v l.length (rowI l)
theorem OwnI.new {K : Nat} {w : World} {v : Value} {l : List Int} (h : OwnI K w v l) : NewI K w v l := NewI.of_own h
theorem OwnI.holds {K : Nat} {w : World} {v : Value} {l : List Int} (h : OwnI K w v l) : HoldsI w v l := h.new.holds
theorem OwnI.keep {K : Nat} {w w' : World} {v : Value} {l : List Int} (h : OwnI K w v l) (hb : Below w.heap.size w w') : OwnI K w' v l := own_keep h fun k _ hk => hb.block k hk
theorem OwnI.from_ {K K' : Nat} {w : World} {v : Value} {l : List Int} (h : OwnI K w v l) (hk : K' ≤ K) : OwnI K' w v l := by
  obtain ⟨h1, h2⟩ := h
  refine ⟨h1, ?_⟩
  rcases h2 with h2 | ⟨g, cap, cur, e1, e2, e3⟩
  · exact .inl h2
  · exact .inr ⟨g, cap, cur, e1, Nat.le_trans hk e2, e3⟩
theorem OwnI.zero {K : Nat} {w : World} (hk : K ≤ w.heap.size) : OwnI K (w.alloc (.cells #[] 3)) (.slice (some ⟨w.heap.size, 0, none⟩) 0 0) [] := own_empty hk (heap_alloc_new _ _)
theorem OwnI.form {K : Nat} {w : World} {v : Value} {l : List Int} (h : OwnI K w v l) (hn : 0 < l.length) :
    ∃ g cap cur, v = .slice (some ⟨g, 0, none⟩) l.length cap ∧ K ≤ g ∧ g < w.heap.size ∧ w.heap[g]? = some (.cells cur 3 (0, 0)) ∧ l.length ≤ cap ∧ cap ≤ maxLen ∧ cur.size = cap ∧ cur.toList.take l.length = rowI l := by
  obtain ⟨h1, h2⟩ := h
  rcases h2 with ⟨_, h2⟩ | ⟨g, cap, cur, e1, e2, e3, e4, e5, e6, e7⟩
  · omega
  · refine ⟨g, cap, cur, e1, e2, free_lt e3, e3, e4, e5, by omega, by rw [Nat.mul_one] at e7; exact e7⟩
theorem OwnI.free {K : Nat} {w : World} {v : Value} {l : List Int} (h : OwnI K w v l) (hn : 0 < l.length) : FreeI K w v l := by
  obtain ⟨g, cap, cur, e1, e2, e3, e4, e5, e6, e7, e8⟩ := h.form hn
  refine ⟨g, cap, e1, e2, e3, e5, e6, cur, 3, e4, by omega, fun k hk => ?_⟩
  have : (cur.toList.take l.length)[k]? = (rowI l)[k]? := by rw [e8]
  rw [List.getElem?_take, if_pos hk] at this
  rw [← Array.getElem?_toList, this]
  simp [rowI, hk]
/-- A number is stored. -/
theorem OwnI.set {K g cap : Nat} {w : World} {l : List Int} (h : OwnI K w (.slice (some ⟨g, 0, none⟩) l.length cap) l) {k : Nat} (hk : k < l.length) (x : Int) :
    OwnI K (w.setCell ⟨g, k, none⟩ (.int .i64 x)) (.slice (some ⟨g, 0, none⟩) l.length cap) (l.set k x) := by
  obtain ⟨g', cap', cur, e1, e2, e3, e4, e5, e6, e7, e8⟩ := h.form (by omega)
  simp only [Value.slice.injEq, Option.some.injEq, Addr.mk.injEq] at e1
  obtain ⟨⟨rfl, -, -⟩, -, rfl⟩ := e1
  refine ⟨by simp [rowI], .inr ⟨g, cap, _, by rw [List.length_set], e2, Joins.block_setCell e4 _, by rw [List.length_set]; exact e5, e6, by simpa using e7, ?_⟩⟩
  rw [List.length_set, Nat.mul_one, Array.toList_setIfInBounds, List.take_set, e8]
  simp [rowI, List.map_set]
theorem OwnI.made {K n : Nat} {w : World} {v : Value} (h : w.ownsRow K 3 1 v n (madeCells (Value.int .i64 0).cells (n * 1)).toList) : OwnI K w v (List.replicate n 0) := by
  have e : (madeCells (Value.int .i64 0).cells (n * 1)).toList = rowI (List.replicate n 0) := by
    apply List.ext_getElem
    · simp [madeCells, rowI]
    · intro i h1 h2
      simp [madeCells, rowI, Value.cells, Nat.mod_one]
  rw [e] at h
  unfold OwnI
  rw [List.length_replicate]
  exact h

/-- What PlanEmpty gives. -/
def emptyP (h : Hl) : List Int := if hlOk h = true then List.replicate (slMany h).toNat 0 else []

set_option maxRecDepth 10000 in
set_option maxHeartbeats 1000000 in
theorem specPlanEmpty_any (h : Hl) (w : World) :
    Calls Try.prog 56 #[.agg #[.int .i64 h.b, .int .i64 h.r, .int .i64 h.t]] w fun e w' => ∃ v, e = .returned v ∧ OwnI w.heap.size w' v (emptyP h) ∧ Below w.heap.size w w' := by
  obtain ⟨i0, hi, hz0, hz1, hz2⟩ := info_parts infoInt
  have hb1 := (Below.refl w.heap.size w).alloc (Nat.le_refl _) (.cells #[.int .i64 h.b, .int .i64 h.r, .int .i64 h.t] 36)
  have hx1 := BoxH.new w h
  obtain ⟨W1, hW1⟩ : ∃ W1, W1 = w.alloc (.cells #[.int .i64 h.b, .int .i64 h.r, .int .i64 h.t] 36) := ⟨_, rfl⟩
  rw [← hW1] at hb1 hx1
  have HW := Lib.hid hW1
  have HB := Lib.hid hb1
  have y0 := hx1.c0
  have y1 := hx1.c1
  have y2 := hx1.c2
  have HX := Lib.hid fun (w' : World) (hs : Below W1.heap.size W1 w') => hx1.keep hs
  have HV := Lib.hid fun w => specHullValid_any h w
  have HM := Lib.hid fun w => specSlotMany_any h w
  clear hW1 hb1 hx1
  cases hk : hlOk h
  · have HE := Lib.hid (show emptyP h = [] by unfold emptyP; rw [hk]; rfl)
    rw [hk] at HV
    clear hk HM
    go_enter Try.func56, Try.ntmps56
    go_wp2_with fail
    rw [← HW.out]
    go_wp2_with fail
    refine (HV.out W1).mono ?_
    rintro e w2 ⟨rfl, b2⟩
    have C2 := HB.out.trans (b2.mono HB.out.size)
    go_wp2_with fail
    go_ret
    exact ⟨_, rfl, by rw [HE.out]; exact OwnI.zero C2.size, C2.alloc C2.size _⟩
  · obtain ⟨m1, m2, -⟩ := slMany_bd hk
    obtain ⟨n, hn⟩ : ∃ n : Nat, slMany h = (n : Int) := ⟨(slMany h).toNat, by omega⟩
    have HE := Lib.hid (show emptyP h = List.replicate n 0 by unfold emptyP; rw [if_pos hk, hn]; rfl)
    rw [hk] at HV
    rw [hn] at HM m1 m2
    have hb2 : i0.bytes * n ≤ 281474976710656 := by rw [hz2]; omega
    have hb3 : n ≤ maxLen := by unfold maxLen; omega
    clear hk hn
    go_enter Try.func56, Try.ntmps56
    go_wp2_with fail
    rw [← HW.out]
    go_wp2_with fail
    refine (HV.out W1).mono ?_
    rintro e w2 ⟨rfl, b2⟩
    have C2 := HB.out.trans (b2.mono HB.out.size)
    have x2 := HX.out w2 b2
    have c0 := x2.c0
    have c1 := x2.c1
    have c2 := x2.c2
    clear x2 y0 y1 y2
    go_wp2_with fail
    refine (HM.out w2).mono ?_
    rintro e w3 ⟨rfl, b3⟩
    have C3 := C2.trans (b3.mono C2.size)
    go_wp2_with (at_make; refine wpList_make_full _ rfl _ _ _ rfl w.heap.size 3 i0 (.int .i64 0) 1 Try.underlying25 hi hz0 hz1 .i64 .i64 _ _ n rfl rfl rfl rfl hb2 hb3 C3.size ?_; intro w4 hown hgrow)
    have hbel : Below w.heap.size w3 w4 := (Below.refl _ _).grown hgrow C3.size (fun k hk => by cases hk)
    go_ret
    exact ⟨_, rfl, by rw [HE.out]; exact OwnI.made hown, C3.trans hbel⟩
end Go.Proofs.Ytfeobdgdhgcgoaa
namespace Go.Proofs.Ytfeobdgdhgcgoaa
open Go.RowKit
set_option linter.unusedVariables false

end Go.Proofs.Ytfeobdgdhgcgoaa
namespace Go.Proofs.Ytfeobdgdhgcgoaa
open Go.RowKit
set_option linter.unusedVariables false

/-- The blocks from one on that were there stand as they were. -/
def Mid (a : Nat) (w w' : World) : Prop := w.heap.size ≤ w'.heap.size ∧ ∀ k, a ≤ k → k < w.heap.size → w'.heap[k]? = w.heap[k]?
theorem Mid.refl (a : Nat) (w : World) : Mid a w w := ⟨Nat.le_refl _, fun _ _ _ => rfl⟩
theorem Mid.on {a : Nat} {w w1 w2 : World} (h : Mid a w w1) (hb : Below w1.heap.size w1 w2) : Mid a w w2 := ⟨Nat.le_trans h.1 hb.size, fun k hk hl => (hb.block k (Nat.lt_of_lt_of_le hl h.1)).trans (h.2 k hk hl)⟩
theorem Mid.alloc {a : Nat} {w w1 : World} (h : Mid a w w1) (o : Obj) : Mid a w (w1.alloc o) := h.on ((Below.refl _ _).alloc (Nat.le_refl _) o)
theorem Mid.grown {a : Nat} {w w1 w2 : World} {row : Option Nat} (h : Mid a w w1) (hg : w1.grownBy w2 row) (hr : ∀ k, row = some k → k < a ∨ w.heap.size ≤ k) : Mid a w w2 :=
  ⟨Nat.le_trans h.1 hg.size, fun k hk hl => (hg.block k (Nat.lt_of_lt_of_le hl h.1) (fun e => by
    rcases hr k e.symm with e2 | e2 <;> omega)).trans (h.2 k hk hl)⟩
theorem NewI.mid {a : Nat} {w w' : World} {v : Value} {l : List Int} (h : NewI a w v l) (hm : Mid a w w') : NewI a w' v l := by
  obtain ⟨x, cap, h1, h2, h3, h4⟩ := h
  refine ⟨x, cap, h1, h2, h3, ?_⟩
  rcases h4 with h4 | ⟨b, off, h5, h6, h7, h8⟩
  · exact .inl h4
  · exact .inr ⟨b, off, h5, h6, Nat.lt_of_lt_of_le h7 hm.1, fun k hk => (World.cell?_of_block (w := w) (hm.2 b h6 h7)).trans (h8 k hk)⟩
/-- A place of a row of the call's own can be written. -/
theorem OwnI.slot {K g cap n : Nat} {w : World} {q : List Int} (h : OwnI K w (.slice (some ⟨g, 0, none⟩) n cap) q) {k : Nat} (hk : k < q.length) : K ≤ g ∧ g < w.heap.size ∧ n = q.length ∧ (∃ x, w.cell? ⟨g, k, none⟩ = some x) ∧ w.frozen? ⟨g, k, none⟩ = false := by
  obtain ⟨g', cap', cur, e, hg1, hg2, hcur, hcap, hcapm, hcs, hct⟩ := h.form (by omega)
  simp only [Value.slice.injEq, Option.some.injEq, Addr.mk.injEq, and_true] at e
  obtain ⟨rfl, rfl, rfl⟩ := e
  refine ⟨hg1, hg2, rfl, ⟨cur[k]'(by omega), ?_⟩, by simp [World.frozen?, hcur]⟩
  simp only [World.cell?, hcur]
  exact Array.getElem?_eq_getElem _
end Go.Proofs.Ytfeobdgdhgcgoaa
