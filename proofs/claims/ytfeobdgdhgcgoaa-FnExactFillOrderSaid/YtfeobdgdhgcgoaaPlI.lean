/-
  The program's chapter 7: plans.
-/
import Derived.Test.YtfeobdgdhgcgoaaPlC
import Derived.Test.YtfeobdgdhgcgoaaPlT
import Derived.Test.YtfeobdgdhgcgoaaPlP
import Derived.Test.YtfeobdgdhgcgoaaGPl
import Derived.Test.YtfeobdgdhgcgoaaGSl
import Derived.Test.YtfeobdgdhgcgoaaGBl
import Derived.Test.YtfeobdgdhgcgoaaGPn
import Derived.Test.YtfeobdgdhgcgoaaGStk
import Derived.Test.YtfeobdgdhgcgoaaGBase
import Derived.Laws.AppendOwnNone
import Derived.Deep.RegionHeld3
namespace Go.Proofs.Ytfeobdgdhgcgoaa
open Go.RowKit
set_option linter.unusedVariables false

theorem OwnI.freeE {K : Nat} {w : World} {v : Value} {l : List Int} (h : OwnI K w v l) : FreeE K w v l := FreeE.of_own h

/-- Whether a slot is a lowest one or above a box. -/
def carr (h : Hl) (p : List Int) (k : Nat) : Bool := decide ((k : Int) % h.t = 0 ∨ pAt p (k - 1) ≠ 0)
theorem carr_bad {h : Hl} {bok : Bool} {ids p : List Int} {k : Nat} (hk : k < p.length) (hz : pAt p k ≠ 0) (hc : carr h p k = false) : plOk h bok ids p = false := by
  have h1 := of_decide_eq_false hc
  exact pl_bad3 hk hz (fun e => h1 (.inl e)) (Classical.byContradiction fun e => h1 (.inr e))
theorem carr_good {h : Hl} {l : List Bx} {p : List Int} {k : Nat} (hf : ¬ findB l (pAt p k) < 0) (hh : hasI (p.take k) (pAt p k) = false) (hc : carr h p k = true) : slotOk h (bxIds l) p k := pl_good hf hh (of_decide_eq_true hc)
theorem nextOk_carr {h : Hl} {l : List Bx} {p : List Int} (hok : plOk h (bxsOk l) (bxIds l) p = true) {k : Nat} (hk : k < p.length) : nextOk h p k = (decide (pAt p k = 0) && carr h p k) := by
  have hp := (pAt_pos (bxIds_pos (plOk_bok hok)) hok (k := k - 1) (by omega))
  unfold nextOk carr
  by_cases h1 : pAt p k = 0
  · rw [decide_eq_true h1, Bool.true_and]
    apply decide_eq_decide.2
    constructor
    · rintro ⟨-, h2 | h2⟩
      · exact .inl h2
      · exact .inr (by omega)
    · rintro (h2 | h2)
      · exact ⟨h1, .inl h2⟩
      · exact ⟨h1, .inr (hp.2 h2)⟩
  · rw [decide_eq_false h1, Bool.false_and]
    exact decide_eq_false fun hc => h1 hc.1

set_option maxRecDepth 10000 in
set_option maxHeartbeats 1000000 in
theorem implCarried_any (h : Hl) (v : Value) (p : List Int) (k : Nat) (w : World) (hp : HoldsI w v p) (hk : hlOk h = true) (hn : (p.length : Int) = slMany h) (hl : k < p.length) :
    Calls Try.prog 60 #[.agg #[.int .i64 h.b, .int .i64 h.r, .int .i64 h.t], v, .int .i64 k] w fun e w' => e = .returned (.bool (carr h p k)) ∧ Below w.heap.size w w' := by
  have hb1 := (Below.refl w.heap.size w).alloc (Nat.le_refl _) (.cells #[.int .i64 h.b, .int .i64 h.r, .int .i64 h.t] 36)
  have hx1 := BoxH.new w h
  obtain ⟨W1, hW1⟩ : ∃ W1, W1 = w.alloc (.cells #[.int .i64 h.b, .int .i64 h.r, .int .i64 h.t] 36) := ⟨_, rfl⟩
  rw [← hW1] at hb1 hx1
  have HW := Lib.hid hW1
  have HB := Lib.hid hb1
  have y0 := hx1.c0
  have y1 := hx1.c1
  have y2 := hx1.c2
  have HX := Lib.hid fun (w' : World) (hs : Below W1.heap.size W1 w') => hx1.keep hs
  clear hW1 hb1 hx1
  have HS := Lib.hid (implSlotBelow_any h k W1)
  have PK := Lib.hid fun (w' : World) (hs : Below w.heap.size w w') => hp.keep hs
  have hpl : (p.length : Int) ≤ 36 := by
    obtain ⟨m1, m2, _⟩ := slMany_bd hk
    omega
  rcases pl_below hk hn hl with ⟨hb, ht⟩ | ⟨j, hj, hb, ht⟩
  · rw [hb] at HS
    have hr := Lib.hid (show carr h p k = true from decide_eq_true (.inl ht))
    clear hp hk hn hl hb ht hpl
    go_enter Try.func60, Try.ntmps60
    go_wp2_with fail
    rw [← HW.out]
    go_wp2_with fail
    refine HS.out.mono ?_
    rintro e w2 ⟨rfl, b2⟩
    go_wp2_with fail
    go_ret
    exact ⟨by rw [hr.out]; rfl, HB.out.trans (b2.mono HB.out.size)⟩
  · rw [hb] at HS
    have hr := Lib.hid (show carr h p k = (pAt p j != 0) from by
      unfold carr
      have e1 : k - 1 = j := by omega
      rw [e1]
      by_cases hz : pAt p j = 0
      · rw [hz]; exact decide_eq_false (by rintro (h1 | h1); exact ht h1; exact h1 rfl)
      · rw [decide_eq_true (.inr hz)]; simpa using hz)
    have hjl : j < p.length := by omega
    obtain ⟨pa, pc, rfl⟩ := hp.form
    have ij : (j : Int) < (p.length : Int) := by omega
    have i0j : (0 : Int) ≤ (j : Int) := by omega
    have hd0 : decide ((j : Int) < 0) = false := decide_eq_false (by omega)
    obtain ⟨n, hn⟩ : ∃ n, n = p.length := ⟨_, rfl⟩
    rw [← hn] at PK hjl ij ⊢
    clear hp hk hl hb ht hpl hn hj
    go_enter Try.func60, Try.ntmps60
    go_wp2_with fail
    rw [← HW.out]
    go_wp2_with fail
    refine HS.out.mono ?_
    rintro e w2 ⟨rfl, b2⟩
    have C2 := HB.out.trans (b2.mono HB.out.size)
    obtain ⟨b, off, rfl, hbl, s0⟩ := (PK.out w2 C2).at_ hjl
    have e1 : p.getD j 0 = pAt p j := rfl
    rw [e1] at s0
    obtain ⟨x, hxx⟩ : ∃ x, x = pAt p j := ⟨_, rfl⟩
    rw [← hxx] at s0 hr
    clear e1 hxx y0 y1 y2
    go_wp2_with fail
    go_ret
    exact ⟨by rw [hr.out]; rfl, C2⟩

set_option maxRecDepth 10000 in
set_option maxHeartbeats 4000000 in
theorem implPlanValid_any (h : Hl) (u v : Value) (l : List Bx) (p : List Int) (w : World) (hb : HoldsBx w u l) (hp : HoldsI w v p) :
    Calls Try.prog 21 #[.agg #[.int .i64 h.b, .int .i64 h.r, .int .i64 h.t], u, v] w fun e w' => e = .returned (.bool (plOk h (bxsOk l) (bxIds l) p)) ∧ Below w.heap.size w w' := by
  have hb1 := (Below.refl w.heap.size w).alloc (Nat.le_refl _) (.cells #[.int .i64 h.b, .int .i64 h.r, .int .i64 h.t] 36)
  have hx1 := BoxH.new w h
  obtain ⟨W1, hW1⟩ : ∃ W1, W1 = w.alloc (.cells #[.int .i64 h.b, .int .i64 h.r, .int .i64 h.t] 36) := ⟨_, rfl⟩
  rw [← hW1] at hb1 hx1
  have HW := Lib.hid hW1
  have HB := Lib.hid hb1
  have y0 := hx1.c0
  have y1 := hx1.c1
  have y2 := hx1.c2
  have HX := Lib.hid fun (w' : World) (hs : Below W1.heap.size W1 w') => hx1.keep hs
  clear hW1 hb1 hx1
  have HM := Lib.hid fun w => implSlotMany_any h w
  have BK := Lib.hid fun (w' : World) (hs : Below w.heap.size w w') => hb.keep hs
  have PK := Lib.hid fun (w' : World) (hs : Below w.heap.size w w') => hp.keep hs
  have HBV := Lib.hid fun (w' : World) (hs : Below w.heap.size w w') => implBoxesValid_any u l w' (hb.keep hs)
  have HF := Lib.hid fun (w' : World) (hs : Below w.heap.size w w') x => indexOf_any u l x w' (hb.keep hs)
  obtain ⟨ba, bc, rfl⟩ : ∃ a c, u = .slice a l.length c := by obtain ⟨a, c, e, _⟩ := hb; exact ⟨a, c, e⟩
  obtain ⟨pa, pc, rfl⟩ := hp.form
  have hpc : p.length ≤ pc ∧ pc ≤ 9223372036854775807 := by
    obtain ⟨a', c', e, q1, q2, _⟩ := hp
    simp only [Value.slice.injEq] at e
    obtain ⟨-, -, rfl⟩ := e
    unfold maxLen at q2
    omega
  have HT := Lib.hid fun k (hk : k ≤ p.length) x (w' : World) (hs : Below w.heap.size w w') => slContains_any (.slice pa k pc) (p.take k) x w' (HoldsI.take k hk (hp.keep hs))
  have HCR := Lib.hid fun (hk : hlOk h = true) (hn : (p.length : Int) = slMany h) k (hl : k < p.length) (w' : World) (hs : Below w.heap.size w w') => implCarried_any h _ p k w' (hp.keep hs) hk hn hl
  clear hb hp
  by_cases hlen : (p.length : Int) = slMany h
  · have hk : hlOk h = true := by
      cases hk : hlOk h
      · have e := slMany_bad hk
        rw [e] at hlen
        omega
      · rfl
    rw [← hlen] at HM
    have hnn : ((p.length : Int) != (p.length : Int)) = false := by simp
    cases hbk : bxsOk l
    · have hr := Lib.hid (plOk_no (h := h) (bok := false) (ids := bxIds l) (p := p) (fun hc => by cases hc.2.1))
      rw [hbk] at HBV
      obtain ⟨n, hn⟩ : ∃ n, n = p.length := ⟨_, rfl⟩
      rw [← hn] at HM hpc hnn ⊢
      clear hk hbk hlen hn PK HT HCR BK HF
      go_enter Try.func21, Try.ntmps21
      go_wp2_with fail
      rw [← HW.out]
      go_wp2_with fail
      refine (HM.out W1).mono ?_
      rintro e w2 ⟨rfl, b2⟩
      have C2 := HB.out.trans (b2.mono HB.out.size)
      go_wp2_with fail
      refine (HBV.out w2 C2).mono ?_
      rintro e w3 ⟨rfl, b3⟩
      go_wp2_with fail
      go_ret
      exact ⟨by rw [hr.out]; rfl, C2.trans (b3.mono C2.size)⟩
    · rw [hbk] at HBV
      have HCR := Lib.hid (HCR.out hk hlen)
      have BAD1 := Lib.hid fun k (hl : k < p.length) hz hf => pl_bad1 (h := h) (bok := true) (l := l) (p := p) (k := k) hl hz hf
      have BAD2 := Lib.hid fun k (hl : k < p.length) hz hf => pl_bad2 (h := h) (bok := true) (ids := bxIds l) (p := p) (k := k) hl hz hf
      have BAD3 := Lib.hid fun k (hl : k < p.length) hz hf => carr_bad (h := h) (bok := true) (ids := bxIds l) (p := p) (k := k) hl hz hf
      have GOOD := Lib.hid fun k hf hh hb => carr_good (h := h) (l := l) (p := p) (k := k) hf hh hb
      have ZERO := Lib.hid fun k hz => pl_zero (h := h) (ids := bxIds l) (p := p) (k := k) hz
      have END := Lib.hid fun ha => pl_end (ids := bxIds l) hk hlen ha
      obtain ⟨res, hres⟩ : ∃ res, res = plOk h true (bxIds l) p := ⟨_, rfl⟩
      rw [← hres] at BAD1 BAD2 BAD3 END ⊢
      obtain ⟨n, hn⟩ : ∃ n, n = p.length := ⟨_, rfl⟩
      rw [← hn] at HM hpc hnn BAD1 BAD2 BAD3 END HCR PK HT ⊢
      clear hk hbk hlen hn hres
      go_enter Try.func21, Try.ntmps21
      go_wp2_with fail
      rw [← HW.out]
      go_wp2_with fail
      refine (HM.out W1).mono ?_
      rintro e w2 ⟨rfl, b2⟩
      have D2 := b2
      have C2 := HB.out.trans (b2.mono HB.out.size)
      clear b2 y0 y1 y2
      go_wp2_with fail
      refine (HBV.out w2 C2).mono ?_
      rintro e w3 ⟨rfl, b3⟩
      have D3 := Lib.hid (D2.trans (b3.mono D2.size))
      have C3 := Lib.hid (C2.trans (b3.mono C2.size))
      clear D2 C2 b3 HBV HM
      go_wp2_with fail
      go_loopw [21] (fun i wr => ∃ k : Nat, k ≤ n ∧ i = .int .i64 k ∧ Hid (∀ j, j < k → slotOk h (bxIds l) p j) ∧ Hid (Below W1.heap.size W1 wr) ∧ Hid (Below w.heap.size w wr)) (fun i _ => n - (intOf i).toNat)
      case atStart => exact ⟨0, by omega, rfl, Lib.hid fun j hj => by omega, D3, C3⟩
      case round =>
        clear D3 C3
        obtain ⟨k, hkn, rfl, HA, DR, BR⟩ := hrel
        by_cases hlt : k < n
        · obtain ⟨b, off, rfl, hbl, s0⟩ := (PK.out wr BR.out).at_ hlt
          have ik : (k : Int) < (n : Int) := by omega
          have i0k : (0 : Int) ≤ (k : Int) := by omega
          have ikc : (k : Int) ≤ (pc : Int) := by omega
          have e1 : p.getD k 0 = pAt p k := rfl
          rw [e1] at s0
          clear e1
          by_cases hz : pAt p k = 0
          · have hs := Lib.hid (ZERO.out k hz)
            rw [hz] at s0
            clear hz
            go_wp2_with fail
            go_roundw
            case rel => exact ⟨k + 1, by omega, by go_num, Lib.hid fun j hj => by
              by_cases e : j = k
              · subst e; exact hs.out
              · exact HA.out j (by omega), DR, BR⟩
            case measure => simp [intOf]; omega
          · have B1 := Lib.hid fun hf => BAD1.out k hlt hz hf
            have B2 := Lib.hid fun hf => BAD2.out k hlt hz hf
            have B3 := Lib.hid fun hf => BAD3.out k hlt hz hf
            have GD := Lib.hid fun hf hh hb => GOOD.out k hf hh hb
            have HFk := Lib.hid (HF.out wr BR.out (pAt p k))
            have HTk := Lib.hid fun (w' : World) (hs : Below wr.heap.size wr w') => HT.out k (by omega) (pAt p k) w' (BR.out.trans (Below.mono hs BR.out.size))
            have HSk := Lib.hid fun (w' : World) (hs : Below wr.heap.size wr w') => HCR.out k hlt w' (BR.out.trans (Below.mono hs BR.out.size))
            have y := HX.out wr DR.out
            have y0 := y.c0
            have y1 := y.c1
            have y2 := y.c2
            have YK := Lib.hid fun (w' : World) (hs : Below wr.heap.size wr w') => y.keep hs
            clear y
            generalize hzz : findB l (pAt p k) = z at HFk B1 GD
            generalize hqq : hasI (p.take k) (pAt p k) = q at HTk B2 GD
            generalize hcc : carr h p k = c at HSk B3 GD
            have hx0 : (pAt p k == 0) = false := by simpa using hz
            obtain ⟨x, hxx⟩ : ∃ x, x = pAt p k := ⟨_, rfl⟩
            rw [← hxx] at s0 HFk HTk hx0
            clear hzz hqq hcc hxx hz
            by_cases hz : z < 0
            · have hr := Lib.hid (B1.out hz)
              go_wp2_with fail
              refine (HFk.out).mono ?_
              rintro e w5 ⟨rfl, b5⟩
              have C5 := BR.out.trans (b5.mono BR.out.size)
              go_wp2_with fail
              go_ret
              exact ⟨by rw [hr.out]; rfl, C5⟩
            · have hzl : 0 ≤ z := by omega
              go_wp2_with fail
              refine (HFk.out).mono ?_
              rintro e w5 ⟨rfl, b5⟩
              have s5 : w5.cell? ⟨b, off + k, none⟩ = some (.int .i64 x) := (b5.cell (p := ⟨b, off + k, none⟩) hbl).trans s0
              have HT5 := Lib.hid (HTk.out w5 b5)
              have HS5 := Lib.hid (HSk.out w5 b5)
              have yy := YK.out w5 b5
              clear s0 y0 y1 y2
              have y0 := yy.c0
              have y1 := yy.c1
              have y2 := yy.c2
              have C5 := Lib.hid (BR.out.trans (b5.mono BR.out.size))
              have D5 := Lib.hid (DR.out.trans (b5.mono DR.out.size))
              clear yy b5 BR DR
              go_wp2_with fail
              refine (HT5.out).mono ?_
              rintro e w' ⟨rfl, rfl⟩
              cases q
              · go_wp2_with fail
                refine (HS5.out).mono ?_
                rintro e w6 ⟨rfl, b6⟩
                have C6 := Lib.hid (C5.out.trans (b6.mono C5.out.size))
                have D6 := Lib.hid (D5.out.trans (b6.mono D5.out.size))
                clear b6
                cases c
                · have hr := Lib.hid (B3.out rfl)
                  have C9 := C6.out
                  go_wp2_with fail
                  go_ret
                  exact ⟨by rw [hr.out]; rfl, C9⟩
                · have hs := Lib.hid (GD.out hz (by first | rfl | trivial) (by first | rfl | trivial))
                  go_wp2_with fail
                  go_roundw
                  case rel => exact ⟨k + 1, by omega, by go_num, Lib.hid fun j hj => by
                    by_cases e : j = k
                    · subst e; exact hs.out
                    · exact HA.out j (by omega), D6, C6⟩
                  case measure => simp [intOf]; omega
              · have hr := Lib.hid (B2.out rfl)
                have C9 := C5.out
                go_wp2_with fail
                go_ret
                exact ⟨by rw [hr.out]; rfl, C9⟩
        · obtain rfl : k = n := by omega
          have hr := Lib.hid (END.out fun j hj => HA.out j hj)
          have C9 := BR.out
          go_wp2_with fail
          go_ret
          exact ⟨by rw [hr.out]; rfl, C9⟩
  · have hr := Lib.hid (plOk_no (h := h) (bok := bxsOk l) (ids := bxIds l) (p := p) (fun hc => hlen hc.2.2))
    have hne : ((p.length : Int) != slMany h) = true := by simpa using hlen
    obtain ⟨n, hn⟩ : ∃ n, n = p.length := ⟨_, rfl⟩
    rw [← hn] at hne hpc ⊢
    clear hlen hn PK HT HCR
    go_enter Try.func21, Try.ntmps21
    go_wp2_with fail
    rw [← HW.out]
    go_wp2_with fail
    refine (HM.out W1).mono ?_
    rintro e w2 ⟨rfl, b2⟩
    go_wp2_with fail
    go_ret
    exact ⟨by rw [hr.out]; rfl, HB.out.trans (b2.mono HB.out.size)⟩

theorem FreeE.zero {K : Nat} {w : World} : FreeE K w (.slice none 0 0) [] := .inl ⟨rfl, none, 0, rfl, by unfold maxLen; omega, fun _ => rfl⟩
theorem OwnI.nil {K : Nat} {w : World} : OwnI K w (.slice none 0 0) [] := ⟨by simp [rowI], .inl ⟨rfl, rfl⟩⟩
set_option maxRecDepth 10000 in
set_option maxHeartbeats 1000000 in
theorem implPlanEmpty_any (h : Hl) (w : World) :
    Calls Try.prog 54 #[.agg #[.int .i64 h.b, .int .i64 h.r, .int .i64 h.t]] w fun e w' => ∃ v, e = .returned v ∧ FreeE w.heap.size w' v (emptyP h) ∧ Below w.heap.size w w' := by
  obtain ⟨i0, hi, hz0, hz1, hz2⟩ := info_parts infoInt
  have hb1 := (Below.refl w.heap.size w).alloc (Nat.le_refl _) (.cells #[.int .i64 h.b, .int .i64 h.r, .int .i64 h.t] 36)
  have hx1 := BoxH.new w h
  obtain ⟨W1, hW1⟩ : ∃ W1, W1 = w.alloc (.cells #[.int .i64 h.b, .int .i64 h.r, .int .i64 h.t] 36) := ⟨_, rfl⟩
  rw [← hW1] at hb1 hx1
  have HW := Lib.hid hW1
  have HB := Lib.hid hb1
  have y0 := hx1.c0
  have y1 := hx1.c1
  have y2 := hx1.c2
  have HX := Lib.hid fun (w' : World) (hs : Below W1.heap.size W1 w') => hx1.keep hs
  clear hW1 hb1 hx1
  have HV := Lib.hid fun w => implHullValid_any h w
  have HM := Lib.hid fun w => implSlotMany_any h w
  cases hk : hlOk h
  · have HE := Lib.hid (show emptyP h = [] by unfold emptyP; rw [hk]; rfl)
    rw [hk] at HV
    clear hk HM
    go_enter Try.func54, Try.ntmps54
    go_wp2_with fail
    rw [← HW.out]
    go_wp2_with fail
    refine (HV.out W1).mono ?_
    rintro e w2 ⟨rfl, b2⟩
    have C2 := HB.out.trans (b2.mono HB.out.size)
    go_wp2_with fail
    go_ret
    exact ⟨_, rfl, by rw [HE.out]; exact FreeE.zero, C2⟩
  · obtain ⟨m1, m2, -⟩ := slMany_bd hk
    obtain ⟨n, hn⟩ : ∃ n : Nat, slMany h = (n : Int) := ⟨(slMany h).toNat, by omega⟩
    have HE := Lib.hid (show emptyP h = List.replicate n 0 by unfold emptyP; rw [if_pos hk, hn]; rfl)
    rw [hk] at HV
    rw [hn] at HM m1 m2
    have hb2 : i0.bytes * n ≤ 281474976710656 := by rw [hz2]; omega
    have hb3 : n ≤ maxLen := by unfold maxLen; omega
    clear hk hn
    go_enter Try.func54, Try.ntmps54
    go_wp2_with fail
    rw [← HW.out]
    go_wp2_with fail
    refine (HV.out W1).mono ?_
    rintro e w2 ⟨rfl, b2⟩
    have C2 := HB.out.trans (b2.mono HB.out.size)
    have x2 := HX.out w2 b2
    have c0 := x2.c0
    have c1 := x2.c1
    have c2 := x2.c2
    clear x2 y0 y1 y2
    go_wp2_with fail
    refine (HM.out w2).mono ?_
    rintro e w3 ⟨rfl, b3⟩
    have C3 := C2.trans (b3.mono C2.size)
    go_wp2_with (at_make; refine wpList_make_full _ rfl _ _ _ rfl w.heap.size 3 i0 (.int .i64 0) 1 Try.underlying25 hi hz0 hz1 .i64 .i64 _ _ n rfl rfl rfl rfl hb2 hb3 C3.size ?_; intro w4 hown hgrow)
    have hbel : Below w.heap.size w3 w4 := (Below.refl _ _).grown hgrow C3.size (fun k hk => by cases hk)
    go_ret
    exact ⟨_, rfl, by rw [HE.out]; exact (OwnI.made hown).freeE, C3.trans hbel⟩

theorem findP_idx {h : Hl} {bok : Bool} {ids p : List Int} {id : Int} (h0 : 0 < id) (hk : plOk h bok ids p = true) : findP h bok ids p id = idxI p id := by
  unfold idxI
  cases hf : firstI p id with
  | none => exact findP_none fun hc => firstI_mem hc.2.2 hf
  | some k =>
    obtain ⟨hl, he⟩ := firstI_some p id k hf
    exact findP_hit h0 hk hl (by rw [pAt_get hl]; exact he)

set_option maxRecDepth 10000 in
set_option maxHeartbeats 4000000 in
theorem implPlanIds_any (h : Hl) (u v : Value) (l : List Bx) (p : List Int) (w : World) (hb : HoldsBx w u l) (hp : HoldsI w v p) :
    Calls Try.prog 20 #[.agg #[.int .i64 h.b, .int .i64 h.r, .int .i64 h.t], u, v] w fun e w' => ∃ v', e = .returned v' ∧ FreeE w.heap.size w' v' (idsP h (bxsOk l) (bxIds l) p) ∧ Below w.heap.size w w' := by
  have hb1 := (Below.refl w.heap.size w).alloc (Nat.le_refl _) (.cells #[.int .i64 h.b, .int .i64 h.r, .int .i64 h.t] 36)
  have hx1 := BoxH.new w h
  obtain ⟨W1, hW1⟩ : ∃ W1, W1 = w.alloc (.cells #[.int .i64 h.b, .int .i64 h.r, .int .i64 h.t] 36) := ⟨_, rfl⟩
  rw [← hW1] at hb1 hx1
  have HW := Lib.hid hW1
  have HB := Lib.hid hb1
  have y0 := hx1.c0
  have y1 := hx1.c1
  have y2 := hx1.c2
  have HX := Lib.hid fun (w' : World) (hs : Below W1.heap.size W1 w') => hx1.keep hs
  have hs1 : W1.heap.size = w.heap.size + 1 := by rw [hW1]; simp
  clear hW1 hb1 hx1
  have PK := Lib.hid fun (w' : World) (hs : Below w.heap.size w w') => hp.keep hs
  have BK := Lib.hid fun (w' : World) (hs : Below w.heap.size w w') => hb.keep hs
  have HPV := Lib.hid fun (w' : World) (hs : Below w.heap.size w w') => implPlanValid_any h u v l p w' (hb.keep hs) (hp.keep hs)
  have HPV2 := Lib.hid fun v' q (w' : World) (hs : Below w.heap.size w w') (hq : HoldsI w' v' q) => implPlanValid_any h u v' l q w' (hb.keep hs) hq
  have hform := hp.form
  obtain ⟨i0, hi, hz0, hz1, hz2⟩ := info_parts infoInt
  have HI := Lib.hid hi
  have HZ0 := Lib.hid hz0
  have HZ1 := Lib.hid hz1
  have HZ2 := Lib.hid hz2
  clear hi hz0 hz1 hz2 HPV2 hform
  rw [hs1] at HX
  cases hok : plOk h (bxsOk l) (bxIds l) p
  · have HE := Lib.hid (idsP_bad hok)
    rw [hok] at HPV
    clear hok hb hp
    go_enter Try.func20, Try.ntmps20
    go_wp2_with fail
    rw [← HW.out]
    go_wp2_with fail
    refine (HPV.out _ HB.out).mono ?_
    rintro e w2 ⟨rfl, b2⟩
    go_wp2_with fail
    go_ret
    exact ⟨_, rfl, by rw [HE.out]; exact FreeE.zero, HB.out.trans (b2.mono HB.out.size)⟩
  · have HEND := Lib.hid (filP_end hok)
    obtain ⟨pa, pc, rfl⟩ := hp.form
    have hpc : p.length ≤ pc ∧ pc ≤ 9223372036854775807 := by
      obtain ⟨a', c', e, q1, q2, _⟩ := hp
      simp only [Value.slice.injEq] at e
      obtain ⟨-, -, rfl⟩ := e
      unfold maxLen at q2
      omega
    have hlen : 1 ≤ p.length ∧ p.length ≤ 36 := by
      obtain ⟨q1, _, q3, _⟩ := plOk_iff.1 hok
      obtain ⟨m1, m2, _⟩ := slMany_bd q1
      omega
    have HCR := Lib.hid fun k (hl : k < p.length) (w' : World) (hs : Below w.heap.size w w') => implCarried_any h _ p k w' (hp.keep hs) (plOk_iff.1 hok).1 (plOk_iff.1 hok).2.2.1 hl
    have HPX := Lib.hid fun k (hk : k < p.length) hz => plOk_posX hok (k := k) hk hz
    rw [hok] at HPV
    obtain ⟨n, hn⟩ : ∃ n, n = p.length := ⟨_, rfl⟩
    have HNX := Lib.hid fun k (hk : k < p.length) => filP_next (p := p) (k := k) hk
    rw [← hn] at HPV PK hpc hlen HEND HCR HNX HPX ⊢
    have HLN := Lib.hid fun k => filP_len p k
    clear hok hb hp hn
    go_enter Try.func20, Try.ntmps20
    go_wp2_with fail
    rw [← HW.out]
    go_wp2_with fail
    refine (HPV.out _ HB.out).mono ?_
    rintro e w3 ⟨rfl, b3⟩
    rw [hs1] at b3
    have HD3 := Lib.hid b3
    clear b3 HPV y0 y1 y2
    go_wp2_with fail
    go_loopw [7, 17] (fun va i wr => ∃ k : Nat, k ≤ n ∧ i = .int .i64 k ∧ Hid (OwnI (w.heap.size + 1) wr va (filP p k)) ∧ Hid (Below (w.heap.size + 1) W1 wr)) (fun _ i _ => n - (intOf i).toNat)
    case atStart => exact ⟨0, by omega, rfl, Lib.hid OwnI.nil, HD3⟩
    case round =>
      clear HD3
      obtain ⟨k, hkn, rfl, HO, DR⟩ := hrel
      have BR := Lib.hid (HB.out.trans (DR.out.mono (by have := HB.out.size; omega)))
      by_cases hlt : k < n
      · obtain ⟨b, off, rfl, hbl, s0⟩ := (PK.out wr BR.out).at_ hlt
        have ik : (k : Int) < (n : Int) := by omega
        have i0k : (0 : Int) ≤ (k : Int) := by omega
        have e1 : p.getD k 0 = pAt p k := rfl
        rw [e1] at s0
        clear e1
        have hfl := HLN.out k
        have HNk := Lib.hid (HNX.out k hlt)
        by_cases hz : pAt p k = 0
        · have HN2 := Lib.hid (HNk.out.trans (if_neg (by omega)))
          have HOW := HO
          rw [hz] at s0
          clear HNk hz
          go_wp2_with fail
          go_roundw
          case rel => exact ⟨k + 1, by omega, by go_num, by rw [HN2.out]; exact HOW, Lib.hid DR.out⟩
          case measure => simp [intOf]; omega
        · have HN2 := Lib.hid (HNk.out.trans (if_pos (HPX.out k hlt hz)))
          have HOW := HO
          have hdz : (pAt p k != 0) = true := by simpa using hz
          obtain ⟨x, hxx⟩ : ∃ x, x = pAt p k := ⟨_, rfl⟩
          rw [← hxx] at s0 hdz HN2
          clear hxx HNk hz
          go_wp2_with (at_builtin; refine wpList_append_own _ rfl _ _ 25 rfl (w.heap.size + 1) 3 i0 (.int .i64 0) 1 8 Try.underlying25 HI.out HZ0.out HZ1.out HZ2.out rfl (by decide) _ (filP p k).length (rowI (filP p k)) rfl (HOW.out.alloc _) ⟨wr.heap.size, 0, none⟩ 1 1 [.int .i64 x] rfl rfl (fun j u hu => cells_new j u hu) (by simp [Value.oneCell']) (by unfold maxLen; omega) (by omega) (by have := DR.out.size; simp; omega) ?_; intro v5 w5 hown5 hgrow _)
          have hb5 : Below (w.heap.size + 1) wr w5 := ((Below.refl _ _).alloc (by have := DR.out.size; omega) _).trans (own_below hgrow (by have := DR.out.size; simp; omega) (fun k' hk' => (own_lt HOW.out k' hk').1))
          have hO5 : OwnI (w.heap.size + 1) w5 v5 (filP p k ++ [x]) := own_put hown5
          clear hgrow hown5
          go_roundw
          case rel =>
            rw [← HN2.out] at hO5
            exact ⟨k + 1, by omega, by go_num, Lib.hid hO5, Lib.hid (DR.out.trans hb5)⟩
          case measure => simp [intOf]; omega
      · obtain rfl : k = n := by omega
        have C9 := BR.out
        have O9 := HO.out
        go_wp2_with fail
        go_ret
        exact ⟨_, rfl, by rw [HEND.out]; exact (O9.from_ (by omega)).freeE, C9⟩

set_option maxRecDepth 10000 in
set_option maxHeartbeats 4000000 in
theorem implPlanNext_any (h : Hl) (u v : Value) (l : List Bx) (p : List Int) (w : World) (hb : HoldsBx w u l) (hp : HoldsI w v p) :
    Calls Try.prog 81 #[.agg #[.int .i64 h.b, .int .i64 h.r, .int .i64 h.t], u, v] w fun e w' => ∃ v', e = .returned v' ∧ FreeE w.heap.size w' v' (nextI h (bxsOk l) (bxIds l) p) ∧ Below w.heap.size w w' := by
  have hb1 := (Below.refl w.heap.size w).alloc (Nat.le_refl _) (.cells #[.int .i64 h.b, .int .i64 h.r, .int .i64 h.t] 36)
  have hx1 := BoxH.new w h
  obtain ⟨W1, hW1⟩ : ∃ W1, W1 = w.alloc (.cells #[.int .i64 h.b, .int .i64 h.r, .int .i64 h.t] 36) := ⟨_, rfl⟩
  rw [← hW1] at hb1 hx1
  have HW := Lib.hid hW1
  have HB := Lib.hid hb1
  have y0 := hx1.c0
  have y1 := hx1.c1
  have y2 := hx1.c2
  have HX := Lib.hid fun (w' : World) (hs : Below W1.heap.size W1 w') => hx1.keep hs
  have hs1 : W1.heap.size = w.heap.size + 1 := by rw [hW1]; simp
  clear hW1 hb1 hx1
  have PK := Lib.hid fun (w' : World) (hs : Below w.heap.size w w') => hp.keep hs
  have BK := Lib.hid fun (w' : World) (hs : Below w.heap.size w w') => hb.keep hs
  have HPV := Lib.hid fun (w' : World) (hs : Below w.heap.size w w') => implPlanValid_any h u v l p w' (hb.keep hs) (hp.keep hs)
  have HPV2 := Lib.hid fun v' q (w' : World) (hs : Below w.heap.size w w') (hq : HoldsI w' v' q) => implPlanValid_any h u v' l q w' (hb.keep hs) hq
  have hform := hp.form
  obtain ⟨i0, hi, hz0, hz1, hz2⟩ := info_parts infoInt
  have HI := Lib.hid hi
  have HZ0 := Lib.hid hz0
  have HZ1 := Lib.hid hz1
  have HZ2 := Lib.hid hz2
  clear hi hz0 hz1 hz2 HPV2 hform
  rw [hs1] at HX
  cases hok : plOk h (bxsOk l) (bxIds l) p
  · have HE := Lib.hid (nextI_bad hok)
    rw [hok] at HPV
    clear hok hb hp
    go_enter Try.func81, Try.ntmps81
    go_wp2_with fail
    rw [← HW.out]
    go_wp2_with fail
    refine (HPV.out _ HB.out).mono ?_
    rintro e w2 ⟨rfl, b2⟩
    go_wp2_with fail
    go_ret
    exact ⟨_, rfl, by rw [HE.out]; exact FreeE.zero, HB.out.trans (b2.mono HB.out.size)⟩
  · have HEND := Lib.hid (nxtP_end hok)
    obtain ⟨pa, pc, rfl⟩ := hp.form
    have hpc : p.length ≤ pc ∧ pc ≤ 9223372036854775807 := by
      obtain ⟨a', c', e, q1, q2, _⟩ := hp
      simp only [Value.slice.injEq] at e
      obtain ⟨-, -, rfl⟩ := e
      unfold maxLen at q2
      omega
    have hlen : 1 ≤ p.length ∧ p.length ≤ 36 := by
      obtain ⟨q1, _, q3, _⟩ := plOk_iff.1 hok
      obtain ⟨m1, m2, _⟩ := slMany_bd q1
      omega
    have HCR := Lib.hid fun k (hl : k < p.length) (w' : World) (hs : Below w.heap.size w w') => implCarried_any h _ p k w' (hp.keep hs) (plOk_iff.1 hok).1 (plOk_iff.1 hok).2.2.1 hl
    have HPX := Lib.hid fun k (hk : k < p.length) hz => plOk_posX hok (k := k) hk hz
    rw [hok] at HPV
    obtain ⟨n, hn⟩ : ∃ n, n = p.length := ⟨_, rfl⟩
    have HNX := Lib.hid fun k (hk : k < p.length) => (show nxtP h p (k + 1) = if (decide (pAt p k = 0) && carr h p k) = true then nxtP h p k ++ [(k : Int)] else nxtP h p k from by rw [nxtP_next, nextOk_carr hok hk])
    rw [← hn] at HPV PK hpc hlen HEND HCR HNX HPX ⊢
    have HLN := Lib.hid fun k => nxtP_len h p k
    clear hok hb hp hn
    go_enter Try.func81, Try.ntmps81
    go_wp2_with fail
    rw [← HW.out]
    go_wp2_with fail
    refine (HPV.out _ HB.out).mono ?_
    rintro e w3 ⟨rfl, b3⟩
    rw [hs1] at b3
    have HD3 := Lib.hid b3
    clear b3 HPV y0 y1 y2
    go_wp2_with fail
    go_loopw [7, 17] (fun va i wr => ∃ k : Nat, k ≤ n ∧ i = .int .i64 k ∧ Hid (OwnI (w.heap.size + 1) wr va (nxtP h p k)) ∧ Hid (Below (w.heap.size + 1) W1 wr)) (fun _ i _ => n - (intOf i).toNat)
    case atStart => exact ⟨0, by omega, rfl, Lib.hid OwnI.nil, HD3⟩
    case round =>
      clear HD3
      obtain ⟨k, hkn, rfl, HO, DR⟩ := hrel
      have BR := Lib.hid (HB.out.trans (DR.out.mono (by have := HB.out.size; omega)))
      by_cases hlt : k < n
      · obtain ⟨b, off, rfl, hbl, s0⟩ := (PK.out wr BR.out).at_ hlt
        have ik : (k : Int) < (n : Int) := by omega
        have i0k : (0 : Int) ≤ (k : Int) := by omega
        have e1 : p.getD k 0 = pAt p k := rfl
        rw [e1] at s0
        clear e1
        have hfl := HLN.out k
        have HNk := Lib.hid (HNX.out k hlt)
        have y := HX.out wr DR.out
        have y0 := y.c0
        have y1 := y.c1
        have y2 := y.c2
        clear y
        have HCk := Lib.hid (HCR.out k hlt wr BR.out)
        by_cases hz : pAt p k = 0
        · rw [hz] at s0
          rw [hz, decide_eq_true rfl, Bool.true_and] at HNk
          cases hc : carr h p k
          · rw [hc] at HCk HNk
            have HN2 := Lib.hid (HNk.out.trans (if_neg (by simp)))
            clear HNk hc hz
            go_wp2_with fail
            refine HCk.out.mono ?_
            rintro e w4 ⟨rfl, b4⟩
            have DR4 := Lib.hid (DR.out.trans (b4.mono (by have := DR.out.size; omega)))
            have HOW := Lib.hid (HO.out.keep b4)
            clear s0 y0 y1 y2 DR HO b4
            have DR := DR4
            clear DR4
            go_wp2_with fail
            go_roundw
            case rel => exact ⟨k + 1, by omega, by go_num, by rw [HN2.out]; exact HOW, Lib.hid DR.out⟩
            case measure => simp [intOf]; omega
          · rw [hc] at HCk HNk
            have HN2 := Lib.hid (HNk.out.trans (if_pos rfl))
            clear HNk hc hz
            go_wp2_with fail
            refine HCk.out.mono ?_
            rintro e w4 ⟨rfl, b4⟩
            have DR4 := Lib.hid (DR.out.trans (b4.mono (by have := DR.out.size; omega)))
            have HOW := Lib.hid (HO.out.keep b4)
            clear s0 y0 y1 y2 DR HO b4
            have DR := DR4
            clear DR4
            go_wp2_with (at_builtin; refine wpList_append_own _ rfl _ _ 25 rfl (w.heap.size + 1) 3 i0 (.int .i64 0) 1 8 Try.underlying25 HI.out HZ0.out HZ1.out HZ2.out rfl (by decide) _ (nxtP h p k).length (rowI (nxtP h p k)) rfl (HOW.out.alloc _) ⟨w4.heap.size, 0, none⟩ 1 1 [.int .i64 (k : Int)] rfl rfl (fun j u hu => cells_new j u hu) (by simp [Value.oneCell']) (by unfold maxLen; omega) (by omega) (by have := DR.out.size; simp; omega) ?_; intro v5 w5 hown5 hgrow _)
            have hb5 : Below (w.heap.size + 1) w4 w5 := ((Below.refl _ _).alloc (by have := DR.out.size; omega) _).trans (own_below hgrow (by have := DR.out.size; simp; omega) (fun k' hk' => (own_lt HOW.out k' hk').1))
            have hO5 : OwnI (w.heap.size + 1) w5 v5 (nxtP h p k ++ [(k : Int)]) := own_put hown5
            clear hgrow hown5
            go_roundw
            case rel =>
              rw [← HN2.out] at hO5
              exact ⟨k + 1, by omega, by go_num, Lib.hid hO5, Lib.hid (DR.out.trans hb5)⟩
            case measure => simp [intOf]; omega
        · rw [decide_eq_false hz, Bool.false_and] at HNk
          have HN2 := Lib.hid (HNk.out.trans (if_neg (by simp)))
          have HOW := HO
          have hdz : (pAt p k == 0) = false := by simpa using hz
          obtain ⟨x, hxx⟩ : ∃ x, x = pAt p k := ⟨_, rfl⟩
          rw [← hxx] at s0 hdz
          clear hxx HNk hz HCk
          go_wp2_with fail
          go_roundw
          case rel => exact ⟨k + 1, by omega, by go_num, by rw [HN2.out]; exact HOW, Lib.hid DR.out⟩
          case measure => simp [intOf]; omega
      · obtain rfl : k = n := by omega
        have C9 := BR.out
        have O9 := HO.out
        go_wp2_with fail
        go_ret
        exact ⟨_, rfl, by rw [HEND.out]; exact (O9.from_ (by omega)).freeE, C9⟩

end Go.Proofs.Ytfeobdgdhgcgoaa
