/-
  The laws' mirrored and turned: images of a plan.
-/
import Derived.Test.YtbaebamiiigmlabGWm
import Derived.Test.YtbaebamiiigmlabGSl
import Derived.Test.YtbaebamiiigmlabGPl
import Derived.Test.YtbaebamiiigmlabGBase
import Derived.Deep.RegionHeld3
namespace Go.Proofs.Ytbaebamiiigmlab
open Go.RowKit
set_option linter.unusedVariables false

/-- A slice of one number that was just built. -/
theorem HoldsI.new1 (w : World) (z : Int) : HoldsI (w.alloc (.cells #[.int .i64 z] 3)) (.slice (some ⟨w.heap.size, 0, none⟩) 1 1) [z] := by
  refine ⟨_, 1, rfl, Nat.le_refl _, by unfold maxLen; omega, .inr ⟨w.heap.size, 0, rfl, by simp, fun k hk => ?_⟩⟩
  obtain rfl : k = 0 := by simp at hk; exact hk
  have := cells_new (w := w) (cs := [.int .i64 z]) (T := 3) 0 (.int .i64 z) rfl
  exact this
/-- The image so far. -/
def imgN (s : Nat → Nat) (p : List Int) (k : Nat) : List Int := (List.range p.length).map fun j => if s j < k then pAt p (s j) else 0
theorem imgN_len (s : Nat → Nat) (p : List Int) (k : Nat) : (imgN s p k).length = p.length := by simp [imgN]
theorem imgN_get {s : Nat → Nat} {p : List Int} {k j : Nat} (h : j < (imgN s p k).length) : (imgN s p k)[j] = if s j < k then pAt p (s j) else 0 := by simp [imgN]
theorem imgN_zero (s : Nat → Nat) (p : List Int) : imgN s p 0 = List.replicate p.length 0 := by
  refine List.ext_getElem (by simp [imgN]) fun k h1 h2 => ?_
  simp [imgN]
theorem imgN_end {s : Nat → Nat} {p : List Int} (hi : Inv p.length s) : imgN s p p.length = img s p := by
  unfold imgN img
  refine List.map_congr_left fun j hj => ?_
  rw [if_pos (hi.lt j (List.mem_range.1 hj))]
theorem imgN_set {s : Nat → Nat} {p : List Int} (hi : Inv p.length s) {k : Nat} (hk : k < p.length) : (imgN s p k).set (s k) (pAt p k) = imgN s p (k + 1) := by
  refine List.ext_getElem (by simp [imgN]) fun j h1 h2 => ?_
  rw [List.length_set, imgN_len] at h1
  rw [List.getElem_set, imgN_get h2]
  by_cases e : s k = j
  · subst e
    rw [if_pos rfl, hi.inv k hk, if_pos (by omega)]
  · rw [if_neg e, imgN_get (by rw [imgN_len]; exact h1)]
    have hne : s j ≠ k := fun e2 => e (by rw [← e2, hi.inv j h1])
    by_cases hlt : s j < k
    · rw [if_pos hlt, if_pos (by omega)]
    · rw [if_neg hlt, if_neg (by omega)]
theorem mirS_slot {h : Hl} (hk : hlOk h = true) {n k : Nat} (hn : (n : Int) = slMany h) (hl : k < n) : slOf h (plOf h k).1 (h.r - 1 - (plOf h k).2.1) (plOf h k).2.2 = (mirS h k : Int) := by
  obtain ⟨p1, p2, p3, p4⟩ := plOf_in (s := (k : Int)) hk (by omega) (by omega)
  have e := plOf_yes (s := (k : Int)) hk (by omega) (by omega)
  have hs : slOf h (plOf h k).1 (h.r - 1 - (plOf h k).2.1) (plOf h k).2.2 = ((plOf h k).1 * h.r + (h.r - 1 - (plOf h k).2.1)) * h.t + (plOf h k).2.2 := by
    rw [e]; exact slOf_yes hk p1 (by simp only []; omega) p3
  have h0 : 0 ≤ slOf h (plOf h k).1 (h.r - 1 - (plOf h k).2.1) (plOf h k).2.2 := by
    rw [hs, e]
    simp only []
    obtain ⟨g1, g2, g3, g4, g5, g6⟩ := hlOk_iff.1 hk
    have m1 : 0 ≤ (k : Int) / h.t / h.r * h.r := Int.mul_nonneg p1.1 (by omega)
    have m2 : 0 ≤ ((k : Int) / h.t / h.r * h.r + (h.r - 1 - (k : Int) / h.t % h.r)) * h.t := Int.mul_nonneg (by omega) (by omega)
    omega
  unfold mirS; omega
theorem trnS_slot {h : Hl} (hk : hlOk h = true) {n k : Nat} (hn : (n : Int) = slMany h) (hl : k < n) : slOf h (h.b - 1 - (plOf h k).1) (plOf h k).2.1 (plOf h k).2.2 = (trnS h k : Int) := by
  obtain ⟨p1, p2, p3, p4⟩ := plOf_in (s := (k : Int)) hk (by omega) (by omega)
  have e := plOf_yes (s := (k : Int)) hk (by omega) (by omega)
  have hs : slOf h (h.b - 1 - (plOf h k).1) (plOf h k).2.1 (plOf h k).2.2 = ((h.b - 1 - (plOf h k).1) * h.r + (plOf h k).2.1) * h.t + (plOf h k).2.2 := by
    rw [e]; exact slOf_yes hk (by simp only []; omega) p2 p3
  have h0 : 0 ≤ slOf h (h.b - 1 - (plOf h k).1) (plOf h k).2.1 (plOf h k).2.2 := by
    rw [hs, e]
    simp only []
    obtain ⟨g1, g2, g3, g4, g5, g6⟩ := hlOk_iff.1 hk
    have m1 : 0 ≤ (h.b - 1 - (k : Int) / h.t / h.r) * h.r := Int.mul_nonneg (by omega) (by omega)
    have m2 : 0 ≤ ((h.b - 1 - (k : Int) / h.t / h.r) * h.r + (k : Int) / h.t % h.r) * h.t := Int.mul_nonneg (by omega) (by omega)
    omega
  unfold trnS; omega

set_option maxRecDepth 10000 in
set_option maxHeartbeats 4000000 in
theorem mirrored_any (h : Hl) (v : Value) (p : List Int) (w : World) (hp : HoldsI w v p) (hk : hlOk h = true) (hn : (p.length : Int) = slMany h) :
    Calls Try.prog 26 #[.agg #[.int .i64 h.b, .int .i64 h.r, .int .i64 h.t], v] w fun e w' => ∃ v', e = .returned v' ∧ OwnI w.heap.size w' v' (img (mirS h) p) ∧ Below w.heap.size w w' := by
  obtain ⟨i0, hi, hz0, hz1, hz2⟩ := info_parts infoInt
  have hb1 := (Below.refl w.heap.size w).alloc (Nat.le_refl _) (.cells #[.int .i64 h.b, .int .i64 h.r, .int .i64 h.t] 24)
  have hx1 := BoxH.new w h
  obtain ⟨W1, hW1⟩ : ∃ W1, W1 = w.alloc (.cells #[.int .i64 h.b, .int .i64 h.r, .int .i64 h.t] 24) := ⟨_, rfl⟩
  rw [← hW1] at hb1 hx1
  have HW := Lib.hid hW1
  have HB := Lib.hid hb1
  have y0 := hx1.c0
  have y1 := hx1.c1
  have y2 := hx1.c2
  have HX := Lib.hid fun (w' : World) (hs : Below W1.heap.size W1 w') => hx1.keep hs
  clear hW1 hb1 hx1
  have PK := Lib.hid fun (w' : World) (hs : Below w.heap.size w w') => hp.keep hs
  have HIV := Lib.hid (mir_inv hk hn)
  have HPL := Lib.hid fun k (w' : World) => implPlaceOf_any h (k : Nat) w'
  have HSL := Lib.hid fun x y z (w' : World) => implSlotOf_any h x y z w'
  have HSE := Lib.hid fun k (hl : k < p.length) => mirS_slot hk hn hl
  have hlen : p.length ≤ 36 := by have := (slMany_bd hk).2.1; omega
  have HPI := Lib.hid fun k (hl : k < p.length) => (show 0 ≤ (plOf h (k : Nat)).2.1 ∧ (plOf h (k : Nat)).2.1 ≤ 4 from by
    obtain ⟨p1, p2, p3, p4⟩ := plOf_in (s := (k : Int)) hk (by omega) (by omega)
    have e := plOf_yes (s := (k : Int)) hk (by omega) (by omega)
    obtain ⟨g1, g2, g3, g4, g5, g6⟩ := hlOk_iff.1 hk
    rw [e]; simp only []; omega)
  obtain ⟨g1, g2, g3, g4, g5, g6⟩ := hlOk_iff.1 hk
  have hfl : 1 ≤ h.r ∧ h.r ≤ 4 := by omega
  have z1 : IntKind.i64.wrap (h.r - 1) = h.r - 1 := IntWalk.i64_in _ (by omega)
  have hIZ := imgN_zero (mirS h) p
  have hIE := imgN_end HIV.out
  have HST := Lib.hid fun k (hl : k < p.length) => imgN_set HIV.out hl
  have HLT := Lib.hid fun k (hl : k < p.length) => HIV.out.lt k hl
  have HIL := Lib.hid fun k => imgN_len (mirS h) p k
  obtain ⟨pa, pc, rfl⟩ := hp.form
  have hpc : p.length ≤ pc ∧ pc ≤ 9223372036854775807 := by
    obtain ⟨a', c', e, q1, q2, _⟩ := hp
    simp only [Value.slice.injEq] at e
    obtain ⟨-, -, rfl⟩ := e
    unfold maxLen at q2
    omega
  rw [← hIE]
  obtain ⟨n, hn'⟩ : ∃ n, n = p.length := ⟨_, rfl⟩
  have HN := Lib.hid hn'
  rw [← hn'] at PK HSE hlen HPI hIZ HST HLT HIL hpc ⊢
  have hb2 : i0.bytes * n ≤ 281474976710656 := by rw [hz2]; omega
  have hb3 : n ≤ maxLen := by unfold maxLen; omega
  clear hp hk hn hn' HIV hIE g1 g2 g3 g4 g5 g6
  go_enter Try.func26, Try.ntmps26
  go_wp2_with (at_make; rw [← HW.out]; refine wpList_make_full _ rfl _ _ _ rfl W1.heap.size 3 i0 (.int .i64 0) 1 Try.underlying26 hi hz0 hz1 .i64 .i64 _ _ n rfl rfl rfl rfl hb2 hb3 (Nat.le_refl _) ?_; intro w2 hown hgrow)
  have b2 : Below W1.heap.size W1 w2 := (Below.refl _ _).grown hgrow (Nat.le_refl _) (fun k hk => by cases hk)
  have OW := OwnI.made hown
  rw [← hIZ] at OW
  have O2 := Lib.hid OW
  have D2 := Lib.hid b2
  obtain ⟨G, hG⟩ : ∃ G, G = W1.heap.size := ⟨_, rfl⟩
  have HG := Lib.hid hG
  have hBG : w.heap.size ≤ G := by have := HB.out.size; omega
  rw [← hG] at O2 D2 HX ⊢
  clear hG hown hgrow OW b2 y0 y1 y2 hIZ
  go_wp2_with fail
  go_loopw [6] (fun i wr => ∃ k : Nat, k ≤ n ∧ i = .int .i64 k ∧ Hid (OwnI G wr (.slice (some ⟨G, 0, none⟩) n n) (imgN (mirS h) p k)) ∧ Hid (Below G W1 wr)) (fun i _ => n - (intOf i).toNat)
  case atStart => exact ⟨0, by omega, rfl, O2, D2⟩
  case round =>
    clear O2 D2
    obtain ⟨k, hkn, rfl, OR, DR⟩ := hrel
    have y := HX.out wr DR.out
    have y0 := y.c0
    have y1 := y.c1
    have y2 := y.c2
    clear y
    by_cases hlt : k < n
    · have ik : (k : Int) < (n : Int) := by omega
      have i0k : (0 : Int) ≤ (k : Int) := by omega
      have hse := HSE.out k hlt
      have hpi := HPI.out k hlt
      have hset := Lib.hid (HST.out k hlt)
      have hjl := HLT.out k hlt
      have HPk := Lib.hid (HPL.out k wr)
      generalize plOf h (k : Int) = q at HPk hse hpi
      obtain ⟨x, y, z⟩ := q
      have HPk' : Hid (Calls Try.prog 49 #[.agg #[.int .i64 h.b, .int .i64 h.r, .int .i64 h.t], .int .i64 k] wr fun e w' => e = .returned (.tuple #[.int .i64 x, .int .i64 y, .int .i64 z]) ∧ Below wr.heap.size wr w') := HPk
      simp only [] at hse hpi
      have z2 : IntKind.i64.wrap (h.r - 1 - y) = h.r - 1 - y := IntWalk.i64_in _ (by omega)
      have HSk := Lib.hid fun (w' : World) => HSL.out x (h.r - 1 - y) z w'
      rw [hse] at HSk
      obtain ⟨j, hj⟩ : ∃ j, j = mirS h k := ⟨_, rfl⟩
      rw [← hj] at HSk hset hjl
      have ij : (j : Int) < (n : Int) := by omega
      have i0j : (0 : Int) ≤ (j : Int) := by omega
      clear hse hpi HPk hj
      go_wp2_with fail
      refine HPk'.out.mono ?_
      rintro e w3 ⟨rfl, b3⟩
      have D3 := DR.out.trans (b3.mono (by have := DR.out.size; have := HG.out; omega))
      have y3 := HX.out w3 D3
      have OR3 := Lib.hid (OR.out.keep b3)
      clear y0 y1 y2 b3 OR DR HPk'
      have y0 := y3.c0
      have y1 := y3.c1
      have y2 := y3.c2
      clear y3
      go_wp2_with fail
      refine (HSk.out w3).mono ?_
      rintro e w4 ⟨rfl, b4⟩
      have D4 := Lib.hid (D3.trans (b4.mono (by have := D3.size; have := HG.out; omega)))
      have OW := OR3.out.keep b4
      clear y0 y1 y2 b4 OR3 D3 HSk
      obtain ⟨b, off, rfl, hbl, s0⟩ := (PK.out w4 (HB.out.trans (D4.out.mono hBG))).at_ hlt
      have e1 : p.getD k 0 = pAt p k := rfl
      rw [e1] at s0
      clear e1
      have hil := HIL.out k
      rw [← hil] at OW
      obtain ⟨g', cap', cur, eg, hg1, hg2, hcur, hcap, hcapm, hcs, hct⟩ := OW.form (by omega)
      simp only [Value.slice.injEq, Option.some.injEq, Addr.mk.injEq] at eg
      obtain ⟨⟨rfl, -, -⟩, -, rfl⟩ := eg
      have t0 : w4.cell? ⟨G, j, none⟩ = some (cur[j]'(by omega)) := by
        simp only [World.cell?, hcur]
        exact Array.getElem?_eq_getElem _
      have f0 : w4.frozen? ⟨G, j, none⟩ = false := by simp [World.frozen?, hcur]
      obtain ⟨x0, t0'⟩ : ∃ x, w4.cell? ⟨G, j, none⟩ = some x := ⟨_, t0⟩
      have OS := OW.set (k := j) (by omega) (pAt p k)
      rw [hset.out, hil] at OS
      have HOS := Lib.hid OS
      have hbs : Below G w4 (w4.setCell ⟨G, j, none⟩ (.int .i64 (pAt p k))) := (Below.refl G w4).setCell (p := ⟨G, j, none⟩) (Nat.le_refl G) _
      have HBS := Lib.hid (D4.out.trans hbs)
      obtain ⟨x9, hx9⟩ : ∃ x, x = pAt p k := ⟨_, rfl⟩
      rw [← hx9] at s0 HOS HBS
      clear OS hbs OW t0 hct hcur hset hil hx9 hg2
      go_wp2_with fail
      go_roundw
      case rel => exact ⟨k + 1, by omega, by go_num, HOS, HBS⟩
      case measure => simp [intOf]; omega
    · obtain rfl : k = n := by omega
      have C9 := HB.out.trans (DR.out.mono hBG)
      have O9 := OR.out.from_ hBG
      go_wp2_with fail
      go_ret
      exact ⟨_, rfl, O9, C9⟩

set_option maxRecDepth 10000 in
set_option maxHeartbeats 4000000 in
theorem turned_any (h : Hl) (v : Value) (p : List Int) (w : World) (hp : HoldsI w v p) (hk : hlOk h = true) (hn : (p.length : Int) = slMany h) :
    Calls Try.prog 30 #[.agg #[.int .i64 h.b, .int .i64 h.r, .int .i64 h.t], v] w fun e w' => ∃ v', e = .returned v' ∧ OwnI w.heap.size w' v' (img (trnS h) p) ∧ Below w.heap.size w w' := by
  obtain ⟨i0, hi, hz0, hz1, hz2⟩ := info_parts infoInt
  have hb1 := (Below.refl w.heap.size w).alloc (Nat.le_refl _) (.cells #[.int .i64 h.b, .int .i64 h.r, .int .i64 h.t] 24)
  have hx1 := BoxH.new w h
  obtain ⟨W1, hW1⟩ : ∃ W1, W1 = w.alloc (.cells #[.int .i64 h.b, .int .i64 h.r, .int .i64 h.t] 24) := ⟨_, rfl⟩
  rw [← hW1] at hb1 hx1
  have HW := Lib.hid hW1
  have HB := Lib.hid hb1
  have y0 := hx1.c0
  have y1 := hx1.c1
  have y2 := hx1.c2
  have HX := Lib.hid fun (w' : World) (hs : Below W1.heap.size W1 w') => hx1.keep hs
  clear hW1 hb1 hx1
  have PK := Lib.hid fun (w' : World) (hs : Below w.heap.size w w') => hp.keep hs
  have HIV := Lib.hid (trn_inv hk hn)
  have HPL := Lib.hid fun k (w' : World) => implPlaceOf_any h (k : Nat) w'
  have HSL := Lib.hid fun x y z (w' : World) => implSlotOf_any h x y z w'
  have HSE := Lib.hid fun k (hl : k < p.length) => trnS_slot hk hn hl
  have hlen : p.length ≤ 36 := by have := (slMany_bd hk).2.1; omega
  have HPI := Lib.hid fun k (hl : k < p.length) => (show 0 ≤ (plOf h (k : Nat)).1 ∧ (plOf h (k : Nat)).1 ≤ 4 from by
    obtain ⟨p1, p2, p3, p4⟩ := plOf_in (s := (k : Int)) hk (by omega) (by omega)
    have e := plOf_yes (s := (k : Int)) hk (by omega) (by omega)
    obtain ⟨g1, g2, g3, g4, g5, g6⟩ := hlOk_iff.1 hk
    rw [e]; simp only []; omega)
  obtain ⟨g1, g2, g3, g4, g5, g6⟩ := hlOk_iff.1 hk
  have hfl : 1 ≤ h.b ∧ h.b ≤ 4 := by omega
  have z1 : IntKind.i64.wrap (h.b - 1) = h.b - 1 := IntWalk.i64_in _ (by omega)
  have hIZ := imgN_zero (trnS h) p
  have hIE := imgN_end HIV.out
  have HST := Lib.hid fun k (hl : k < p.length) => imgN_set HIV.out hl
  have HLT := Lib.hid fun k (hl : k < p.length) => HIV.out.lt k hl
  have HIL := Lib.hid fun k => imgN_len (trnS h) p k
  obtain ⟨pa, pc, rfl⟩ := hp.form
  have hpc : p.length ≤ pc ∧ pc ≤ 9223372036854775807 := by
    obtain ⟨a', c', e, q1, q2, _⟩ := hp
    simp only [Value.slice.injEq] at e
    obtain ⟨-, -, rfl⟩ := e
    unfold maxLen at q2
    omega
  rw [← hIE]
  obtain ⟨n, hn'⟩ : ∃ n, n = p.length := ⟨_, rfl⟩
  have HN := Lib.hid hn'
  rw [← hn'] at PK HSE hlen HPI hIZ HST HLT HIL hpc ⊢
  have hb2 : i0.bytes * n ≤ 281474976710656 := by rw [hz2]; omega
  have hb3 : n ≤ maxLen := by unfold maxLen; omega
  clear hp hk hn hn' HIV hIE g1 g2 g3 g4 g5 g6
  go_enter Try.func30, Try.ntmps30
  go_wp2_with (at_make; rw [← HW.out]; refine wpList_make_full _ rfl _ _ _ rfl W1.heap.size 3 i0 (.int .i64 0) 1 Try.underlying26 hi hz0 hz1 .i64 .i64 _ _ n rfl rfl rfl rfl hb2 hb3 (Nat.le_refl _) ?_; intro w2 hown hgrow)
  have b2 : Below W1.heap.size W1 w2 := (Below.refl _ _).grown hgrow (Nat.le_refl _) (fun k hk => by cases hk)
  have OW := OwnI.made hown
  rw [← hIZ] at OW
  have O2 := Lib.hid OW
  have D2 := Lib.hid b2
  obtain ⟨G, hG⟩ : ∃ G, G = W1.heap.size := ⟨_, rfl⟩
  have HG := Lib.hid hG
  have hBG : w.heap.size ≤ G := by have := HB.out.size; omega
  rw [← hG] at O2 D2 HX ⊢
  clear hG hown hgrow OW b2 y0 y1 y2 hIZ
  go_wp2_with fail
  go_loopw [6] (fun i wr => ∃ k : Nat, k ≤ n ∧ i = .int .i64 k ∧ Hid (OwnI G wr (.slice (some ⟨G, 0, none⟩) n n) (imgN (trnS h) p k)) ∧ Hid (Below G W1 wr)) (fun i _ => n - (intOf i).toNat)
  case atStart => exact ⟨0, by omega, rfl, O2, D2⟩
  case round =>
    clear O2 D2
    obtain ⟨k, hkn, rfl, OR, DR⟩ := hrel
    have y := HX.out wr DR.out
    have y0 := y.c0
    have y1 := y.c1
    have y2 := y.c2
    clear y
    by_cases hlt : k < n
    · have ik : (k : Int) < (n : Int) := by omega
      have i0k : (0 : Int) ≤ (k : Int) := by omega
      have hse := HSE.out k hlt
      have hpi := HPI.out k hlt
      have hset := Lib.hid (HST.out k hlt)
      have hjl := HLT.out k hlt
      have HPk := Lib.hid (HPL.out k wr)
      generalize plOf h (k : Int) = q at HPk hse hpi
      obtain ⟨x, y, z⟩ := q
      have HPk' : Hid (Calls Try.prog 49 #[.agg #[.int .i64 h.b, .int .i64 h.r, .int .i64 h.t], .int .i64 k] wr fun e w' => e = .returned (.tuple #[.int .i64 x, .int .i64 y, .int .i64 z]) ∧ Below wr.heap.size wr w') := HPk
      simp only [] at hse hpi
      have z2 : IntKind.i64.wrap (h.b - 1 - x) = h.b - 1 - x := IntWalk.i64_in _ (by omega)
      have HSk := Lib.hid fun (w' : World) => HSL.out (h.b - 1 - x) y z w'
      rw [hse] at HSk
      obtain ⟨j, hj⟩ : ∃ j, j = trnS h k := ⟨_, rfl⟩
      rw [← hj] at HSk hset hjl
      have ij : (j : Int) < (n : Int) := by omega
      have i0j : (0 : Int) ≤ (j : Int) := by omega
      clear hse hpi HPk hj
      go_wp2_with fail
      refine HPk'.out.mono ?_
      rintro e w3 ⟨rfl, b3⟩
      have D3 := DR.out.trans (b3.mono (by have := DR.out.size; have := HG.out; omega))
      have y3 := HX.out w3 D3
      have OR3 := Lib.hid (OR.out.keep b3)
      clear y0 y1 y2 b3 OR DR HPk'
      have y0 := y3.c0
      have y1 := y3.c1
      have y2 := y3.c2
      clear y3
      go_wp2_with fail
      refine (HSk.out w3).mono ?_
      rintro e w4 ⟨rfl, b4⟩
      have D4 := Lib.hid (D3.trans (b4.mono (by have := D3.size; have := HG.out; omega)))
      have OW := OR3.out.keep b4
      clear y0 y1 y2 b4 OR3 D3 HSk
      obtain ⟨b, off, rfl, hbl, s0⟩ := (PK.out w4 (HB.out.trans (D4.out.mono hBG))).at_ hlt
      have e1 : p.getD k 0 = pAt p k := rfl
      rw [e1] at s0
      clear e1
      have hil := HIL.out k
      rw [← hil] at OW
      obtain ⟨g', cap', cur, eg, hg1, hg2, hcur, hcap, hcapm, hcs, hct⟩ := OW.form (by omega)
      simp only [Value.slice.injEq, Option.some.injEq, Addr.mk.injEq] at eg
      obtain ⟨⟨rfl, -, -⟩, -, rfl⟩ := eg
      have t0 : w4.cell? ⟨G, j, none⟩ = some (cur[j]'(by omega)) := by
        simp only [World.cell?, hcur]
        exact Array.getElem?_eq_getElem _
      have f0 : w4.frozen? ⟨G, j, none⟩ = false := by simp [World.frozen?, hcur]
      obtain ⟨x0, t0'⟩ : ∃ x, w4.cell? ⟨G, j, none⟩ = some x := ⟨_, t0⟩
      have OS := OW.set (k := j) (by omega) (pAt p k)
      rw [hset.out, hil] at OS
      have HOS := Lib.hid OS
      have hbs : Below G w4 (w4.setCell ⟨G, j, none⟩ (.int .i64 (pAt p k))) := (Below.refl G w4).setCell (p := ⟨G, j, none⟩) (Nat.le_refl G) _
      have HBS := Lib.hid (D4.out.trans hbs)
      obtain ⟨x9, hx9⟩ : ∃ x, x = pAt p k := ⟨_, rfl⟩
      rw [← hx9] at s0 HOS HBS
      clear OS hbs OW t0 hct hcur hset hil hx9 hg2
      go_wp2_with fail
      go_roundw
      case rel => exact ⟨k + 1, by omega, by go_num, HOS, HBS⟩
      case measure => simp [intOf]; omega
    · obtain rfl : k = n := by omega
      have C9 := HB.out.trans (DR.out.mono hBG)
      have O9 := OR.out.from_ hBG
      go_wp2_with fail
      go_ret
      exact ⟨_, rfl, O9, C9⟩

end Go.Proofs.Ytbaebamiiigmlab
