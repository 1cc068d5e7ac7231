/-
  The draw of an order: l20Order.
-/
import Derived.Test.YtbaebamiiigmlabLdD
import Derived.Test.YtbaebamiiigmlabLdS
import Derived.Test.YtbaebamiiigmlabGLm
import Derived.Test.YtbaebamiiigmlabGBase
import Derived.Test.YtbaebamiiigmlabGSl
import Derived.Laws.AppendOwnNone
import Derived.Maps.AppendAt
import Derived.Deep.RegionHeld3
namespace Go.Proofs.Ytbaebamiiigmlab
open Go.RowKit
set_option linter.unusedVariables false

/-- What has been the same since w but for two blocks. -/
structure Kp2 (B O : Nat) (w w' : World) : Prop where
  os : w'.os = w.os
  tape : w'.tape = w.tape
  output : w'.output = w.output
  size : w.heap.size ≤ w'.heap.size
  block : ∀ k, k ≠ B → k ≠ O → k < w.heap.size → w'.heap[k]? = w.heap[k]?
theorem Kp2.refl (B O : Nat) (w : World) : Kp2 B O w w := ⟨rfl, rfl, rfl, Nat.le_refl _, fun _ _ _ _ => rfl⟩
theorem Kp2.most {B O : Nat} {a w w' : World} (h : Kp2 B O a w) (m : MostB B w w') : Kp2 B O a w' :=
  ⟨m.os.trans h.os, m.tape.trans h.tape, m.output.trans h.output, Nat.le_trans h.size m.size, fun k h1 h2 hl => (m.block k h1 (Nat.lt_of_lt_of_le hl h.size)).trans (h.block k h1 h2 hl)⟩
theorem Kp2.below_ {B O : Nat} {a w w' : World} (h : Kp2 B O a w) (m : Below a.heap.size w w') : Kp2 B O a w' :=
  ⟨m.os.trans h.os, m.tape.trans h.tape, m.output.trans h.output, Nat.le_trans h.size m.size, fun k h1 h2 hl => (m.block k hl).trans (h.block k h1 h2 hl)⟩
theorem Kp2.grown {B O : Nat} {a w w' : World} {row : Option Nat} (h : Kp2 B O a w) (hg : w.grownBy w' row) (hr : ∀ k, row = some k → k = O ∨ a.heap.size ≤ k) : Kp2 B O a w' :=
  ⟨hg.os.trans h.os, hg.tape.trans h.tape, hg.output.trans h.output, Nat.le_trans h.size hg.size, fun k h1 h2 hl => by
    refine (hg.block k (Nat.lt_of_lt_of_le hl h.size) (fun e => ?_)).trans (h.block k h1 h2 hl)
    rcases hr k e.symm with e2 | e2
    · exact h2 e2
    · omega⟩
theorem Kp2.end_ {B O : Nat} {w0 a w : World} (h : Kp2 B O a w) (m : MostB B w0 a) (hO : w0.heap.size ≤ O) : MostB B w0 w :=
  ⟨h.os.trans m.os, h.tape.trans m.tape, h.output.trans m.output, Nat.le_trans m.size h.size, fun k h1 hl => (h.block k h1 (by omega) (Nat.lt_of_lt_of_le hl m.size)).trans (m.block k h1 hl)⟩
theorem Kp2.cell {B O : Nat} {a w : World} (h : Kp2 B O a w) {g i : Nat} (h1 : g ≠ B) (h2 : g ≠ O) (h3 : g < a.heap.size) : w.cell? ⟨g, i, none⟩ = a.cell? ⟨g, i, none⟩ := World.cell?_of_block (w := a) (h.block g h1 h2 h3)
theorem Rdr.grown {base B q : Nat} {w w' : World} {row : Option Nat} (h : Rdr base B q w) (hg : w.grownBy w' row) (hr : ∀ k, row = some k → B < k) : Rdr base B q w' :=
  h.keepK (K := B + 1) ⟨hg.os, hg.tape, hg.output, hg.size, fun k hk => by
    by_cases h1 : k < w.heap.size
    · exact hg.block k h1 (fun e => by have := hr k e.symm; omega)
    · have := h.2.1; omega⟩ (Nat.lt_succ_self B)
def sliceLen : Value → Nat
  | .slice _ n _ => n
  | _ => 0
/-- What a draw of an order gives. -/
def DrewOrd (base B p : Nat) (w : World) (e : Ending) (w' : World) : Prop :=
  ∃ (v : Value) (os : List Int) (q : Nat), q ≤ p + 36 ∧ os.length ≤ 36 ∧ e = .returned v ∧ OwnI w.heap.size w' v os ∧ Rdr base B q w' ∧ MostB B w w'

set_option maxRecDepth 10000 in
set_option maxHeartbeats 8000000 in
theorem l20Order_any (base B q0 : Nat) (h : Hl) (v : Value) (p : List Int) (w : World) (hR : Rdr base B q0 w) (hp : HoldsI w v p) (hk : hlOk h = true) (hc : CarryP h p) (hq0 : q0 ≤ 900000) :
    Calls Try.prog 108 #[.pointer (some ⟨B, 0, none⟩), .agg #[.int .i64 h.b, .int .i64 h.r, .int .i64 h.t], v] w (DrewOrd base B q0 w) := by
  obtain ⟨i0, hi, hz0, hz1, hz2⟩ := info_parts infoInt
  have HI := Lib.hid hi
  have HZ0 := Lib.hid hz0
  have HZ1 := Lib.hid hz1
  have HZ2 := Lib.hid hz2
  clear hi hz0 hz1 hz2
  have hBw := hR.2.1
  have hlen := CarryP.len hk hc
  have hb1 := (Below.refl w.heap.size w).alloc (Nat.le_refl _) (.cells #[.int .i64 h.b, .int .i64 h.r, .int .i64 h.t] 24)
  have hx1 := BoxH.new w h
  obtain ⟨W1, hW1⟩ : ∃ W1, W1 = w.alloc (.cells #[.int .i64 h.b, .int .i64 h.r, .int .i64 h.t] 24) := ⟨_, rfl⟩
  rw [← hW1] at hb1 hx1
  have HW := Lib.hid hW1
  have HB := Lib.hid hb1
  have y0 := hx1.c0
  have y1 := hx1.c1
  have y2 := hx1.c2
  have HX := Lib.hid fun (w' : World) (hs : Below W1.heap.size W1 w') => hx1.keep hs
  have hs1 : W1.heap.size = w.heap.size + 1 := by rw [hW1]; simp
  clear hW1 hb1 hx1
  have hb2 : Below W1.heap.size W1 (W1.alloc (.cells #[] 3)) := (Below.refl _ _).alloc (Nat.le_refl _) _
  have hO2 : OwnI W1.heap.size (W1.alloc (.cells #[] 3)) (.slice (some ⟨W1.heap.size, 0, none⟩) 0 0) [] := OwnI.zero (Nat.le_refl _)
  have hx2 := HX.out _ hb2
  obtain ⟨W2, hW2⟩ : ∃ W2, W2 = W1.alloc (.cells #[] 3) := ⟨_, rfl⟩
  rw [← hW2] at hb2 hO2 hx2
  have hsz2 : W2.heap.size = W1.heap.size + 1 := by rw [hW2]; simp
  have HW2 := Lib.hid hW2
  have HB2 := Lib.hid (HB.out.trans (hb2.mono HB.out.size))
  rw [hs1] at hb2 hO2 HX hsz2
  have HO2 := Lib.hid hO2
  have HD2 := Lib.hid hb2
  clear hW2 hb2 hO2 hx2 y0 y1 y2
  have HSL := Lib.hid fun (w' : World) (hs : Below w.heap.size w w') => l9Slots_any v p w' (hp.keep hs) (by omega)
  have hfl := fullI_len p
  have hfle := fullS_le p
  have HCAN := Lib.hid fun (os : List Int) (ho : os.length < (fullS p).length) => can_ex hk hc ho
  have HFA := Lib.hid fun k (hk : k < (fullS p).length) => fullI_at hk
  obtain ⟨n, hn⟩ : ∃ n, n = (fullS p).length := ⟨_, rfl⟩
  rw [← hn] at hfl hfle HCAN HFA
  have HFL := Lib.hid hfl
  have HSB := Lib.hid fun (s : Int) (w' : World) => specSlotBelow_any h s w'
  have hn36 : n ≤ 36 := by omega
  clear hc hn hfle hk
  go_enter Try.func108, Try.ntmps108
  go_wp2_with fail
  rw [← HW.out, ← HW2.out]
  go_wp2_with fail
  refine (HSL.out _ HB2.out).mono ?_
  rintro e w3 ⟨v3, rfl, hO3, b3⟩
  obtain ⟨a3, c3, rfl⟩ := hO3.holds.form
  rw [hfl] at hO3 ⊢
  rw [hsz2] at hO3
  have y3 := HX.out w3 (HD2.out.trans (b3.mono (by omega)))
  have Y3 := Lib.hid y3
  have C3 := HB2.out.trans (b3.mono HB2.out.size)
  have N3 := Lib.hid (HO2.out.keep b3)
  have M3 := Lib.hid ((MostB.refl B w).below_ C3)
  have R3 := Lib.hid (hR.keep C3)
  have hw3 : w.heap.size + 2 ≤ w3.heap.size := by have := b3.size; omega
  have H3 := Lib.hid hO3
  clear y3 b3 C3 HSL HX HD2 HB2 HB HW HW2 hR hO3 HO2 hsz2 hs1 hfl
  go_wp2_with fail
  go_loopw [7] (fun va wr => ∃ (pv : Value) (os : List Int), pv = va ∧ os.length ≤ n ∧ Hid (OwnI (w.heap.size + 1) wr pv os) ∧ Hid (∀ g, pv.ownBlock = some g → g = w.heap.size + 1 ∨ w3.heap.size ≤ g) ∧ Hid (Rdr base B (q0 + os.length) wr) ∧ Hid (Kp2 B (w.heap.size + 1) w3 wr)) (fun va _ => n - sliceLen va)
  case atStart => exact ⟨_, [], rfl, Nat.zero_le _, N3, Lib.hid (fun g hg => by have := Option.some.inj hg; simp at this; omega), R3, Lib.hid (Kp2.refl _ _ _)⟩
  case round =>
    clear N3 R3
    obtain ⟨pv, os, rfl, hos, HO, HOB, RR, KP⟩ := hrel
    obtain ⟨oa, oc, rfl⟩ := HO.out.holds.form
    by_cases hlt : os.length < n
    · have ilt : (os.length : Int) < (n : Int) := by omega
      have hn0 : 0 < n := by omega
      obtain ⟨g0, hg0, hcan⟩ := HCAN.out os hlt
      rw [← HFA.out g0 hg0] at hcan
      clear HFA
      obtain ⟨wo, rfl⟩ : ∃ wo : World, wo = wr := ⟨_, rfl⟩
      go_wp2_with fail
      refine (pick_any base B (q0 + os.length) (n : Int) wo RR.out (by omega) (by omega)).mono ?_
      rintro e w5 ⟨xk, x0, x1, rfl, hr5, o5⟩
      obtain ⟨k0, rfl⟩ := Int.eq_ofNat_of_zero_le x0
      have hk0 : k0 < n := by omega
      have R5 := Lib.hid hr5
      have KP5 := Lib.hid (KP.out.most o5.mostB)
      have O5 := Lib.hid (HO.out.most o5.mostB (by omega))
      clear hr5 o5 HO RR KP x0 x1
      go_wp2_with fail
      go_loopw [9] (fun i wi => ∃ k : Nat, k < n ∧ i = .int .i64 k ∧ Hid (Below w5.heap.size w5 wi)) (fun i _ => stepsTo n g0 (intOf i).toNat)
      case atStart => exact ⟨k0, hk0, rfl, Lib.hid (Below.refl _ _)⟩
      case round =>
        obtain ⟨wi, rfl⟩ : ∃ wi : World, wi = wr := ⟨_, rfl⟩
        obtain ⟨k, hkn, rfl, DI⟩ := hrel
        clear hk0
        obtain ⟨sb, so, hsa, hsb3, t3⟩ := H3.out.holds.at_ (k := k) hkn
        obtain ⟨sb', sc', cur', hsa', g1, g2, _⟩ := H3.out.form (by rw [HFL.out]; omega)
        rw [hsa] at hsa'
        simp only [Value.slice.injEq, Option.some.injEq, Addr.mk.injEq, and_true] at hsa'
        obtain ⟨⟨rfl, -⟩, -⟩ := hsa'
        subst hsa
        obtain ⟨x, hx⟩ : ∃ x, x = (fullI p).getD k 0 := ⟨_, rfl⟩
        rw [← hx] at t3
        have hsbl3 : sb < w3.heap.size := hsb3
        have t5 : w5.cell? ⟨sb, so + k, none⟩ = some (.int .i64 x) := (KP5.out.cell (by omega) (by omega) hsbl3).trans t3
        have hsbl : sb < w5.heap.size := Nat.lt_of_lt_of_le hsbl3 KP5.out.size
        have t5k := Lib.hid t5
        have y5 : BoxH w.heap.size w5 h := by
          have e := KP5.out.block w.heap.size (by omega) (by omega) (by omega)
          unfold BoxH
          rw [e]
          exact Y3.out
        have yi := y5.keep DI.out
        have HK := Lib.hid fun (w' : World) (hs : Since wi w') => (show w'.cell? ⟨w.heap.size, 0, none⟩ = some (.int .i64 h.b) ∧ w'.cell? ⟨w.heap.size, 1, none⟩ = some (.int .i64 h.r) ∧ w'.cell? ⟨w.heap.size, 2, none⟩ = some (.int .i64 h.t) ∧ w'.cell? ⟨sb, so + k, none⟩ = some (.int .i64 x) ∧ Since wi w' from ⟨(yi.keep hs).c0, (yi.keep hs).c1, (yi.keep hs).c2, (Below.cell hs (p := ⟨sb, so + k, none⟩) (Nat.lt_of_lt_of_le hsbl DI.out.size)).trans ((Below.cell DI.out (p := ⟨sb, so + k, none⟩) hsbl).trans t5), hs⟩)
        have hstart := HK.out _ (show Since wi wi.drew from (Below.refl _ _).drew)
        have Oi := O5.out.keep DI.out
        have HTk := Lib.hid fun y (w' : World) (hs : Since wi w') => l1Has_any (.slice oa os.length oc) os y w' (Oi.keep hs).holds
        have HTx := Lib.hid (HTk.out x)
        have HSk := Lib.hid (HSB.out x)
        have ik : (k : Int) < (n : Int) := by omega
        have i0k : (0 : Int) ≤ (k : Int) := by omega
        have hnz : ¬ (n : Int) = 0 := by omega
        have zk : IntKind.i64.wrap ((k : Int) + 1) = (k : Int) + 1 := IntWalk.i64_in _ (by omega)
        have zm : ((k : Int) + 1).tmod (n : Int) = (((k + 1) % n : Nat) : Int) := by
          rw [Int.tmod_eq_emod_of_nonneg (by omega)]
          exact (Int.natCast_emod (k + 1) n).symm
        have hmn := Nat.mod_lt (k + 1) hn0
        have HTN := Lib.hid (show (((k : Int) + 1) % (n : Int)).toNat = (k + 1) % n from by rw [show ((k : Int) + 1) % (n : Int) = (((k + 1) % n : Nat) : Int) from (Int.natCast_emod (k + 1) n).symm, Int.toNat_natCast])
        have zr : IntKind.i64.wrap ((((k + 1) % n : Nat)) : Int) = (((k + 1) % n : Nat) : Int) := IntWalk.i64_in _ (by omega)
        have HC2 := Lib.hid (show k = g0 → canL h os x from fun e => by rw [hx, e]; exact hcan)
        clear t3 t5 y5 yi Oi hx hcan
        cases hq : hasI os x
        · by_cases hsg : slBelow h x < 0
          · have hdn : decide ((0 : Int) ≤ slBelow h x) = false := decide_eq_false (by omega)
            obtain ⟨bl, hbl⟩ : ∃ bl, bl = slBelow h x := ⟨_, rfl⟩
            rw [← hbl] at hdn HSk
            rw [hq] at HTx
            clear hbl hsg
            go_wp2_with fail
            refine wp_region_held_drew (S := (fun w' => w'.cell? ⟨w.heap.size, 0, none⟩ = some (.int .i64 h.b) ∧ w'.cell? ⟨w.heap.size, 1, none⟩ = some (.int .i64 h.r) ∧ w'.cell? ⟨w.heap.size, 2, none⟩ = some (.int .i64 h.t) ∧ w'.cell? ⟨sb, so + k, none⟩ = some (.int .i64 x) ∧ Since wi w')) (by kernel_rfl) hstart (fun hHeld => ?_)
            refine wpAnyH_take (i := 0) (v := ?vd0) rfl (by kernel_rfl) (by kernel_rfl) (by kernel_rfl) (fun _ _ _ h => h) (Or.inl ⟨by rfl, ?hyd0⟩) (by assumption) ?restd0
            case hyd0 => (intro w5 hSw; (try dsimp only at hSw); go_simp; try with_reducible rfl)
            simp only [Act.put, List.getElem_toArray, List.getElem_cons_zero, List.setIfInBounds_toArray, List.set_cons_zero, List.set_cons_succ]
            refine wpAnyH_take (i := 1) (v := ?vd1) rfl (by kernel_rfl) (by kernel_rfl) (by kernel_rfl) (fun _ _ _ h => h) (Or.inl ⟨by rfl, ?hyd1⟩) (by assumption) ?restd1
            case hyd1 => (intro w5 hSw; (try dsimp only at hSw); go_simp; try with_reducible rfl)
            simp only [Act.put, List.getElem_toArray, List.getElem_cons_zero, List.getElem_cons_succ, List.setIfInBounds_toArray, List.set_cons_zero, List.set_cons_succ]
            refine wpAnyH_take (i := 2) (v := ?vd2) rfl (by kernel_rfl) (by kernel_rfl) (by kernel_rfl) (fun _ _ _ h => h) (Or.inl ⟨by rfl, ?hyd2⟩) (by assumption) ?restd2
            case hyd2 => (intro w5 hSw; (try dsimp only at hSw); go_simp; try with_reducible rfl)
            simp only [Act.put, List.getElem_toArray, List.getElem_cons_zero, List.getElem_cons_succ, List.setIfInBounds_toArray, List.set_cons_zero, List.set_cons_succ]
            refine wpAnyH_take (i := 3) (v := ?vd3) rfl (by kernel_rfl) (by kernel_rfl) (by kernel_rfl) (fun _ _ _ h => h) (Or.inl ⟨by rfl, ?hyd3⟩) (by assumption) ?restd3
            case hyd3 => (intro w5 hSw; (try dsimp only at hSw); go_simp; try with_reducible rfl)
            simp only [Act.put, List.getElem_toArray, List.getElem_cons_zero, List.getElem_cons_succ, List.setIfInBounds_toArray, List.set_cons_zero, List.set_cons_succ]
            refine wpAnyH_take (i := 4) (v := ?vd4) rfl (by kernel_rfl) (by kernel_rfl) (by kernel_rfl) (fun _ _ _ h => h) (Or.inl ⟨by rfl, ?hyd4⟩) (by assumption) ?restd4
            case hyd4 => (intro w5 hSw; (try dsimp only at hSw); go_simp; try with_reducible rfl)
            simp only [Act.put, List.getElem_toArray, List.getElem_cons_zero, List.getElem_cons_succ, List.setIfInBounds_toArray, List.set_cons_zero, List.set_cons_succ]
            refine wpAnyH_ready (rs := [5]) (by kernel_rfl) (by simp) ?_
            refine AllReadyH.cons rfl (fun K hK => ?_) AllReadyH.nil
            go_simp
            with_reducible refine (HTx.out _ hHeld.2.2.2.2).mono ?_
            rintro e w7 ⟨rfl, rfl⟩
            refine hK.out _ _ hHeld (fun _ => ?_)
            clear hK
            refine wpAnyH_take (i := 6) (v := ?va6) rfl (by kernel_rfl) (by kernel_rfl) (by kernel_rfl) (fun _ _ _ h => h) (Or.inl ⟨by rfl, ?hya6⟩) (by assumption) ?resta6
            case hya6 => (intro w5 hSw; (try dsimp only at hSw); go_simp; try with_reducible rfl)
            simp only [Act.put, List.getElem_toArray, List.getElem_cons_zero, List.getElem_cons_succ, List.setIfInBounds_toArray, List.set_cons_zero, List.set_cons_succ]
            refine wpAnyH_take (i := 7) (v := ?va7) rfl (by kernel_rfl) (by kernel_rfl) (by kernel_rfl) (fun _ _ _ h => h) (Or.inl ⟨by rfl, ?hya7⟩) (by assumption) ?resta7
            case hya7 => (intro w5 hSw; (try dsimp only at hSw); go_simp; try with_reducible rfl)
            simp only [Act.put, List.getElem_toArray, List.getElem_cons_zero, List.getElem_cons_succ, List.setIfInBounds_toArray, List.set_cons_zero, List.set_cons_succ]
            refine wpAnyH_take (i := 8) (v := ?va8) rfl (by kernel_rfl) (by kernel_rfl) (by kernel_rfl) (fun _ _ _ h => h) (Or.inl ⟨by rfl, ?hya8⟩) (by assumption) ?resta8
            case hya8 => (intro w5 hSw; (try dsimp only at hSw); go_simp; try with_reducible rfl)
            simp only [Act.put, List.getElem_toArray, List.getElem_cons_zero, List.getElem_cons_succ, List.setIfInBounds_toArray, List.set_cons_zero, List.set_cons_succ]
            refine wpAnyH_take (i := 9) (v := ?va9) rfl (by kernel_rfl) (by kernel_rfl) (by kernel_rfl) (fun _ _ _ h => h) (Or.inl ⟨by rfl, ?hya9⟩) (by assumption) ?resta9
            case hya9 => (intro w5 hSw; (try dsimp only at hSw); go_simp; try with_reducible rfl)
            simp only [Act.put, List.getElem_toArray, List.getElem_cons_zero, List.getElem_cons_succ, List.setIfInBounds_toArray, List.set_cons_zero, List.set_cons_succ]
            refine wpAnyH_take (i := 10) (v := ?va10) rfl (by kernel_rfl) (by kernel_rfl) (by kernel_rfl) (fun _ _ _ h => h) (Or.inl ⟨by rfl, ?hya10⟩) (by assumption) ?resta10
            case hya10 => (intro w5 hSw; (try dsimp only at hSw); go_simp; try with_reducible rfl)
            simp only [Act.put, List.getElem_toArray, List.getElem_cons_zero, List.getElem_cons_succ, List.setIfInBounds_toArray, List.set_cons_zero, List.set_cons_succ]
            refine wpAnyH_take (i := 11) (v := ?va11) rfl (by kernel_rfl) (by kernel_rfl) (by kernel_rfl) (fun _ _ _ h => h) (Or.inl ⟨by rfl, ?hya11⟩) (by assumption) ?resta11
            case hya11 => (intro w5 hSw; (try dsimp only at hSw); go_simp; try with_reducible rfl)
            simp only [Act.put, List.getElem_toArray, List.getElem_cons_zero, List.getElem_cons_succ, List.setIfInBounds_toArray, List.set_cons_zero, List.set_cons_succ]
            refine wpAnyH_ready (rs := [12]) (by kernel_rfl) (by simp) ?_
            refine AllReadyH.cons rfl (fun K hK => ?_) AllReadyH.nil
            go_simp
            with_reducible refine (HSk.out _).mono ?_
            rintro e wj ⟨rfl, d5⟩
            have s5 : Since wi wj := Since.call hHeld.2.2.2.2 d5
            clear d5
            refine hK.out _ _ (HK.out _ s5) (fun _ => ?_)
            refine wpAnyH_take (i := 13) (v := ?vb13) rfl (by kernel_rfl) (by kernel_rfl) (by kernel_rfl) (fun _ _ _ h => h) (Or.inl ⟨by rfl, ?hyb13⟩) (by assumption) ?restb13
            case hyb13 => (intro w5 hSw; (try dsimp only at hSw); go_simp; try with_reducible rfl)
            simp only [Act.put, List.getElem_toArray, List.getElem_cons_zero, List.getElem_cons_succ, List.setIfInBounds_toArray, List.set_cons_zero, List.set_cons_succ]
            refine wpAnyH_take (i := 14) (v := ?vb14) rfl (by kernel_rfl) (by kernel_rfl) (by kernel_rfl) (fun _ _ _ h => h) (Or.inl ⟨by rfl, ?hyb14⟩) (by assumption) ?restb14
            case hyb14 => (intro w5 hSw; (try dsimp only at hSw); go_simp; try with_reducible rfl)
            simp only [Act.put, List.getElem_toArray, List.getElem_cons_zero, List.getElem_cons_succ, List.setIfInBounds_toArray, List.set_cons_zero, List.set_cons_succ]
            refine wpAnyH_take (i := 15) (v := undef) rfl (by kernel_rfl) (by kernel_rfl) (by kernel_rfl) (fun _ _ _ h => h) (Or.inr ⟨by rfl, rfl⟩) (by assumption) ?_
            simp only [Act.put, List.getElem_toArray, List.getElem_cons_zero, List.getElem_cons_succ, List.setIfInBounds_toArray, List.set_cons_zero, List.set_cons_succ]
            refine wpAnyH_take (i := 16) (v := undef) rfl (by kernel_rfl) (by kernel_rfl) (by kernel_rfl) (fun _ _ _ h => h) (Or.inr ⟨by rfl, rfl⟩) (by assumption) ?_
            simp only [Act.put, List.getElem_toArray, List.getElem_cons_zero, List.getElem_cons_succ, List.setIfInBounds_toArray, List.set_cons_zero, List.set_cons_succ]
            refine wpAnyH_take (i := 17) (v := undef) rfl (by kernel_rfl) (by kernel_rfl) (by kernel_rfl) (fun _ _ _ h => h) (Or.inr ⟨by rfl, rfl⟩) (by assumption) ?_
            simp only [Act.put, List.getElem_toArray, List.getElem_cons_zero, List.getElem_cons_succ, List.setIfInBounds_toArray, List.set_cons_zero, List.set_cons_succ]
            refine wpAnyH_take (i := 18) (v := undef) rfl (by kernel_rfl) (by kernel_rfl) (by kernel_rfl) (fun _ _ _ h => h) (Or.inr ⟨by rfl, rfl⟩) (by assumption) ?_
            simp only [Act.put, List.getElem_toArray, List.getElem_cons_zero, List.getElem_cons_succ, List.setIfInBounds_toArray, List.set_cons_zero, List.set_cons_succ]
            refine wpAnyH_take (i := 19) (v := undef) rfl (by kernel_rfl) (by kernel_rfl) (by kernel_rfl) (fun _ _ _ h => h) (Or.inr ⟨by rfl, rfl⟩) (by assumption) ?_
            simp only [Act.put, List.getElem_toArray, List.getElem_cons_zero, List.getElem_cons_succ, List.setIfInBounds_toArray, List.set_cons_zero, List.set_cons_succ]
            refine wpAnyH_take (i := 20) (v := undef) rfl (by kernel_rfl) (by kernel_rfl) (by kernel_rfl) (fun _ _ _ h => h) (Or.inr ⟨by rfl, rfl⟩) (by assumption) ?_
            simp only [Act.put, List.getElem_toArray, List.getElem_cons_zero, List.getElem_cons_succ, List.setIfInBounds_toArray, List.set_cons_zero, List.set_cons_succ]
            refine wpAnyH_take (i := 21) (v := undef) rfl (by kernel_rfl) (by kernel_rfl) (by kernel_rfl) (fun _ _ _ h => h) (Or.inr ⟨by rfl, rfl⟩) (by assumption) ?_
            simp only [Act.put, List.getElem_toArray, List.getElem_cons_zero, List.getElem_cons_succ, List.setIfInBounds_toArray, List.set_cons_zero, List.set_cons_succ]
            refine wpAnyH_take (i := 22) (v := undef) rfl (by kernel_rfl) (by kernel_rfl) (by kernel_rfl) (fun _ _ _ h => h) (Or.inr ⟨by rfl, rfl⟩) (by assumption) ?_
            simp only [Act.put, List.getElem_toArray, List.getElem_cons_zero, List.getElem_cons_succ, List.setIfInBounds_toArray, List.set_cons_zero, List.set_cons_succ]
            refine wpAnyH_take (i := 23) (v := undef) rfl (by kernel_rfl) (by kernel_rfl) (by kernel_rfl) (fun _ _ _ h => h) (Or.inr ⟨by rfl, rfl⟩) (by assumption) ?_
            simp only [Act.put, List.getElem_toArray, List.getElem_cons_zero, List.getElem_cons_succ, List.setIfInBounds_toArray, List.set_cons_zero, List.set_cons_succ]
            refine wpAnyH_take (i := 24) (v := ?vb24) rfl (by kernel_rfl) (by kernel_rfl) (by kernel_rfl) (fun _ _ _ h => h) (Or.inl ⟨by rfl, ?hyb24⟩) (by assumption) ?restb24
            case hyb24 => (intro w5 hSw; (try dsimp only at hSw); go_simp; try with_reducible rfl)
            simp only [Act.put, List.getElem_toArray, List.getElem_cons_zero, List.getElem_cons_succ, List.setIfInBounds_toArray, List.set_cons_zero, List.set_cons_succ]
            refine wpAnyH_take (i := 25) (v := ?vb25) rfl (by kernel_rfl) (by kernel_rfl) (by kernel_rfl) (fun _ _ _ h => h) (Or.inl ⟨by rfl, ?hyb25⟩) (by assumption) ?restb25
            case hyb25 => (intro w5 hSw; (try dsimp only at hSw); go_simp; try with_reducible rfl)
            simp only [Act.put, List.getElem_toArray, List.getElem_cons_zero, List.getElem_cons_succ, List.setIfInBounds_toArray, List.set_cons_zero, List.set_cons_succ]
            refine wpAnyH_done (by kernel_rfl) ?_ _
            have hx9 := Lib.hid (DI.out.trans (Below.mono s5 DI.out.size))
            clear hHeld hK s5
            have hk9 := hkn
            have KP9 := Lib.hid (KP5.out.below_ (hx9.out.mono KP5.out.size))
            have O9 := Lib.hid (O5.out.keep hx9.out)
            have R9 := Lib.hid (R5.out.keep hx9.out)
            have r9 := (Below.cell hx9.out (p := ⟨sb, so + k, none⟩) hsbl).trans t5k.out
            have hz9 : w.heap.size + 1 ≤ wj.heap.size := by have := KP9.out.size; omega
            clear hk9
            go_wp2_with (at_builtin; refine wpList_append_own_at _ rfl _ _ 26 rfl (w.heap.size + 1) 3 i0 (.int .i64 0) 1 8 Try.underlying26 HI.out HZ0.out HZ1.out HZ2.out rfl (by decide) _ os.length (rowI os) rfl (O9.out.alloc _) ⟨_, 0, none⟩ 1 1 [.int .i64 x] rfl rfl (fun j u hu => cells_new j u hu) (by simp [Value.oneCell']) (by unfold maxLen; omega) (by omega) (by simp; omega) ?_; intro v6 w6 hown6 hgrow _ hob6)
            have KP6 := Lib.hid ((KP9.out.below_ ((Below.refl _ _).alloc KP9.out.size (.cells #[.int .i64 x] 3))).grown hgrow HOB.out)
            have R6 := Lib.hid ((R9.out.keep ((Below.refl _ _).alloc (Nat.le_refl _) (.cells #[.int .i64 x] 3))).grown hgrow (fun g hg => by rcases HOB.out g hg with e | e <;> omega))
            have hO6 : OwnI (w.heap.size + 1) w6 v6 (os ++ [x]) := own_put hown6
            have HOB6 := Lib.hid (show ∀ g, v6.ownBlock = some g → g = w.heap.size + 1 ∨ w3.heap.size ≤ g from fun g hg => by
              rcases hob6 with e | e
              · exact HOB.out g (e ▸ hg)
              · refine .inr ?_
                rw [hg] at e
                have h1 := Option.some.inj e
                have h2 := KP9.out.size
                simp at h1
                omega)
            have HO6 := Lib.hid hO6
            have R6' := Lib.hid (show Rdr base B (q0 + (os ++ [x]).length) w6 from by rw [List.length_append]; exact R6.out)
            have hle6 : (os ++ [x]).length = os.length + 1 := by simp
            obtain ⟨a6, c6, rfl⟩ := hO6.holds.form
            clear hO6 hgrow hown6 hob6 R6
            go_wp2_with fail
            go_roundw
            case rel => exact ⟨_, os ++ [x], rfl, by omega, HO6, HOB6, R6', KP6⟩
            case measure => simp [sliceLen]; omega
          · have hdn : decide ((0 : Int) ≤ slBelow h x) = true := decide_eq_true (by omega)
            have HTb := Lib.hid (HTk.out (slBelow h x))
            obtain ⟨bl, hbl⟩ : ∃ bl, bl = slBelow h x := ⟨_, rfl⟩
            rw [← hbl] at hdn HSk HTb
            rw [hq] at HTx
            have hcase : hasI os bl = true ∨ (hasI os bl = false ∧ k ≠ g0) := by
              cases hq2 : hasI os bl
              · refine .inr ⟨rfl, fun e => ?_⟩
                rcases (HC2.out e).2 with h' | h'
                · exact hsg h'
                · rw [← hbl, hq2] at h'; cases h'
              · exact .inl rfl
            clear hbl hsg
            go_wp2_with fail
            go_region_held3 (fun w' => w'.cell? ⟨w.heap.size, 0, none⟩ = some (.int .i64 h.b) ∧ w'.cell? ⟨w.heap.size, 1, none⟩ = some (.int .i64 h.r) ∧ w'.cell? ⟨w.heap.size, 2, none⟩ = some (.int .i64 h.t) ∧ w'.cell? ⟨sb, so + k, none⟩ = some (.int .i64 x) ∧ Since wi w')
              (first | exact hstart | exact HK.out _ s5 | exact HK.out _ (by exact (‹_ ∧ _› : _ ∧ _ ∧ _ ∧ _ ∧ Since wi _).2.2.2.2) | fail)
              (first
                | (go_at_call 77; ((with_reducible refine (HTx.out _ (by exact (‹_ ∧ _› : _ ∧ _ ∧ _ ∧ _ ∧ Since wi _).2.2.2.2)).mono ?_); rintro e w7 ⟨rfl, rfl⟩))
                | (go_at_call 77; ((with_reducible refine (HTb.out _ (by exact (‹_ ∧ _› : _ ∧ _ ∧ _ ∧ _ ∧ Since wi _).2.2.2.2)).mono ?_); rintro e w8 ⟨rfl, rfl⟩))
                | (go_at_call 75; ((with_reducible refine (HSk.out _).mono ?_); rintro e wj ⟨rfl, d5⟩; have s5 : Since wi wj := Since.call (by exact (‹_ ∧ _› : _ ∧ _ ∧ _ ∧ _ ∧ Since wi _).2.2.2.2) d5; clear d5))
                | fail)
            rename_i hheld
            have hx9 := Lib.hid (DI.out.trans (Below.mono hheld.2.2.2.2 DI.out.size))
            clear hheld hstart
            rcases hcase with hcase | ⟨hcase, hkg⟩
            · rw [hcase]
              have hk9 := hkn
              have KP9 := Lib.hid (KP5.out.below_ (hx9.out.mono KP5.out.size))
              have O9 := Lib.hid (O5.out.keep hx9.out)
              have R9 := Lib.hid (R5.out.keep hx9.out)
              have r9 := (Below.cell hx9.out (p := ⟨sb, so + k, none⟩) hsbl).trans t5k.out
              have hz9 : w.heap.size + 1 ≤ wj.heap.size := by have := KP9.out.size; omega
              clear hk9
              go_wp2_with (at_builtin; refine wpList_append_own_at _ rfl _ _ 26 rfl (w.heap.size + 1) 3 i0 (.int .i64 0) 1 8 Try.underlying26 HI.out HZ0.out HZ1.out HZ2.out rfl (by decide) _ os.length (rowI os) rfl (O9.out.alloc _) ⟨_, 0, none⟩ 1 1 [.int .i64 x] rfl rfl (fun j u hu => cells_new j u hu) (by simp [Value.oneCell']) (by unfold maxLen; omega) (by omega) (by simp; omega) ?_; intro v6 w6 hown6 hgrow _ hob6)
              have KP6 := Lib.hid ((KP9.out.below_ ((Below.refl _ _).alloc KP9.out.size (.cells #[.int .i64 x] 3))).grown hgrow HOB.out)
              have R6 := Lib.hid ((R9.out.keep ((Below.refl _ _).alloc (Nat.le_refl _) (.cells #[.int .i64 x] 3))).grown hgrow (fun g hg => by rcases HOB.out g hg with e | e <;> omega))
              have hO6 : OwnI (w.heap.size + 1) w6 v6 (os ++ [x]) := own_put hown6
              have HOB6 := Lib.hid (show ∀ g, v6.ownBlock = some g → g = w.heap.size + 1 ∨ w3.heap.size ≤ g from fun g hg => by
                rcases hob6 with e | e
                · exact HOB.out g (e ▸ hg)
                · refine .inr ?_
                  rw [hg] at e
                  have h1 := Option.some.inj e
                  have h2 := KP9.out.size
                  simp at h1
                  omega)
              have HO6 := Lib.hid hO6
              have R6' := Lib.hid (show Rdr base B (q0 + (os ++ [x]).length) w6 from by rw [List.length_append]; exact R6.out)
              have hle6 : (os ++ [x]).length = os.length + 1 := by simp
              obtain ⟨a6, c6, rfl⟩ := hO6.holds.form
              clear hO6 hgrow hown6 hob6 R6
              go_wp2_with fail
              go_roundw
              case rel => exact ⟨_, os ++ [x], rfl, by omega, HO6, HOB6, R6', KP6⟩
              case measure => simp [sliceLen]; omega
            · rw [hcase]
              go_wp2_with fail
              go_roundw
              case rel => exact ⟨(k + 1) % n, Nat.mod_lt _ hn0, by go_num, hx9⟩
              case measure => have := stepsTo_next hkn hg0 hkg; have htn := HTN.out; simp [intOf, htn]; omega
        · have hkg : k ≠ g0 := fun e => by have := (HC2.out e).1; rw [hq] at this; cases this
          rw [hq] at HTx
          go_wp2_with fail
          refine wp_region_held_drew (S := (fun w' => w'.cell? ⟨w.heap.size, 0, none⟩ = some (.int .i64 h.b) ∧ w'.cell? ⟨w.heap.size, 1, none⟩ = some (.int .i64 h.r) ∧ w'.cell? ⟨w.heap.size, 2, none⟩ = some (.int .i64 h.t) ∧ w'.cell? ⟨sb, so + k, none⟩ = some (.int .i64 x) ∧ Since wi w')) (by kernel_rfl) hstart (fun hHeld => ?_)
          refine wpAnyH_take (i := 0) (v := ?vc0) rfl (by kernel_rfl) (by kernel_rfl) (by kernel_rfl) (fun _ _ _ h => h) (Or.inl ⟨by rfl, ?hyc0⟩) (by assumption) ?restc0
          case hyc0 => (intro w5 hSw; (try dsimp only at hSw); go_simp; try with_reducible rfl)
          simp only [Act.put, List.getElem_toArray, List.getElem_cons_zero, List.setIfInBounds_toArray, List.set_cons_zero, List.set_cons_succ]
          refine wpAnyH_take (i := 1) (v := ?vc1) rfl (by kernel_rfl) (by kernel_rfl) (by kernel_rfl) (fun _ _ _ h => h) (Or.inl ⟨by rfl, ?hyc1⟩) (by assumption) ?restc1
          case hyc1 => (intro w5 hSw; (try dsimp only at hSw); go_simp; try with_reducible rfl)
          simp only [Act.put, List.getElem_toArray, List.getElem_cons_zero, List.getElem_cons_succ, List.setIfInBounds_toArray, List.set_cons_zero, List.set_cons_succ]
          refine wpAnyH_take (i := 2) (v := ?vc2) rfl (by kernel_rfl) (by kernel_rfl) (by kernel_rfl) (fun _ _ _ h => h) (Or.inl ⟨by rfl, ?hyc2⟩) (by assumption) ?restc2
          case hyc2 => (intro w5 hSw; (try dsimp only at hSw); go_simp; try with_reducible rfl)
          simp only [Act.put, List.getElem_toArray, List.getElem_cons_zero, List.getElem_cons_succ, List.setIfInBounds_toArray, List.set_cons_zero, List.set_cons_succ]
          refine wpAnyH_take (i := 3) (v := ?vc3) rfl (by kernel_rfl) (by kernel_rfl) (by kernel_rfl) (fun _ _ _ h => h) (Or.inl ⟨by rfl, ?hyc3⟩) (by assumption) ?restc3
          case hyc3 => (intro w5 hSw; (try dsimp only at hSw); go_simp; try with_reducible rfl)
          simp only [Act.put, List.getElem_toArray, List.getElem_cons_zero, List.getElem_cons_succ, List.setIfInBounds_toArray, List.set_cons_zero, List.set_cons_succ]
          refine wpAnyH_take (i := 4) (v := ?vc4) rfl (by kernel_rfl) (by kernel_rfl) (by kernel_rfl) (fun _ _ _ h => h) (Or.inl ⟨by rfl, ?hyc4⟩) (by assumption) ?restc4
          case hyc4 => (intro w5 hSw; (try dsimp only at hSw); go_simp; try with_reducible rfl)
          simp only [Act.put, List.getElem_toArray, List.getElem_cons_zero, List.getElem_cons_succ, List.setIfInBounds_toArray, List.set_cons_zero, List.set_cons_succ]
          refine wpAnyH_ready (rs := [5]) (by kernel_rfl) (by simp) ?_
          refine AllReadyH.cons rfl (fun K hK => ?_) AllReadyH.nil
          go_simp
          with_reducible refine (HTx.out _ hHeld.2.2.2.2).mono ?_
          rintro e w7 ⟨rfl, rfl⟩
          refine hK.out _ _ hHeld (fun _ => ?_)
          refine wpAnyH_take (i := 6) (v := ?ve6) rfl (by kernel_rfl) (by kernel_rfl) (by kernel_rfl) (fun _ _ _ h => h) (Or.inl ⟨by rfl, ?hye6⟩) (by assumption) ?reste6
          case hye6 => (intro w5 hSw; (try dsimp only at hSw); go_simp; try with_reducible rfl)
          simp only [Act.put, List.getElem_toArray, List.getElem_cons_zero, List.getElem_cons_succ, List.setIfInBounds_toArray, List.set_cons_zero, List.set_cons_succ]
          refine wpAnyH_take (i := 7) (v := undef) rfl (by kernel_rfl) (by kernel_rfl) (by kernel_rfl) (fun _ _ _ h => h) (Or.inr ⟨by rfl, rfl⟩) (by assumption) ?_
          simp only [Act.put, List.getElem_toArray, List.getElem_cons_zero, List.getElem_cons_succ, List.setIfInBounds_toArray, List.set_cons_zero, List.set_cons_succ]
          refine wpAnyH_take (i := 8) (v := undef) rfl (by kernel_rfl) (by kernel_rfl) (by kernel_rfl) (fun _ _ _ h => h) (Or.inr ⟨by rfl, rfl⟩) (by assumption) ?_
          simp only [Act.put, List.getElem_toArray, List.getElem_cons_zero, List.getElem_cons_succ, List.setIfInBounds_toArray, List.set_cons_zero, List.set_cons_succ]
          refine wpAnyH_take (i := 9) (v := undef) rfl (by kernel_rfl) (by kernel_rfl) (by kernel_rfl) (fun _ _ _ h => h) (Or.inr ⟨by rfl, rfl⟩) (by assumption) ?_
          simp only [Act.put, List.getElem_toArray, List.getElem_cons_zero, List.getElem_cons_succ, List.setIfInBounds_toArray, List.set_cons_zero, List.set_cons_succ]
          refine wpAnyH_take (i := 10) (v := undef) rfl (by kernel_rfl) (by kernel_rfl) (by kernel_rfl) (fun _ _ _ h => h) (Or.inr ⟨by rfl, rfl⟩) (by assumption) ?_
          simp only [Act.put, List.getElem_toArray, List.getElem_cons_zero, List.getElem_cons_succ, List.setIfInBounds_toArray, List.set_cons_zero, List.set_cons_succ]
          refine wpAnyH_take (i := 11) (v := undef) rfl (by kernel_rfl) (by kernel_rfl) (by kernel_rfl) (fun _ _ _ h => h) (Or.inr ⟨by rfl, rfl⟩) (by assumption) ?_
          simp only [Act.put, List.getElem_toArray, List.getElem_cons_zero, List.getElem_cons_succ, List.setIfInBounds_toArray, List.set_cons_zero, List.set_cons_succ]
          refine wpAnyH_take (i := 12) (v := undef) rfl (by kernel_rfl) (by kernel_rfl) (by kernel_rfl) (fun _ _ _ h => h) (Or.inr ⟨by rfl, rfl⟩) (by assumption) ?_
          simp only [Act.put, List.getElem_toArray, List.getElem_cons_zero, List.getElem_cons_succ, List.setIfInBounds_toArray, List.set_cons_zero, List.set_cons_succ]
          refine wpAnyH_take (i := 13) (v := undef) rfl (by kernel_rfl) (by kernel_rfl) (by kernel_rfl) (fun _ _ _ h => h) (Or.inr ⟨by rfl, rfl⟩) (by assumption) ?_
          simp only [Act.put, List.getElem_toArray, List.getElem_cons_zero, List.getElem_cons_succ, List.setIfInBounds_toArray, List.set_cons_zero, List.set_cons_succ]
          refine wpAnyH_take (i := 14) (v := undef) rfl (by kernel_rfl) (by kernel_rfl) (by kernel_rfl) (fun _ _ _ h => h) (Or.inr ⟨by rfl, rfl⟩) (by assumption) ?_
          simp only [Act.put, List.getElem_toArray, List.getElem_cons_zero, List.getElem_cons_succ, List.setIfInBounds_toArray, List.set_cons_zero, List.set_cons_succ]
          refine wpAnyH_take (i := 15) (v := undef) rfl (by kernel_rfl) (by kernel_rfl) (by kernel_rfl) (fun _ _ _ h => h) (Or.inr ⟨by rfl, rfl⟩) (by assumption) ?_
          simp only [Act.put, List.getElem_toArray, List.getElem_cons_zero, List.getElem_cons_succ, List.setIfInBounds_toArray, List.set_cons_zero, List.set_cons_succ]
          refine wpAnyH_take (i := 16) (v := undef) rfl (by kernel_rfl) (by kernel_rfl) (by kernel_rfl) (fun _ _ _ h => h) (Or.inr ⟨by rfl, rfl⟩) (by assumption) ?_
          simp only [Act.put, List.getElem_toArray, List.getElem_cons_zero, List.getElem_cons_succ, List.setIfInBounds_toArray, List.set_cons_zero, List.set_cons_succ]
          refine wpAnyH_take (i := 17) (v := undef) rfl (by kernel_rfl) (by kernel_rfl) (by kernel_rfl) (fun _ _ _ h => h) (Or.inr ⟨by rfl, rfl⟩) (by assumption) ?_
          simp only [Act.put, List.getElem_toArray, List.getElem_cons_zero, List.getElem_cons_succ, List.setIfInBounds_toArray, List.set_cons_zero, List.set_cons_succ]
          refine wpAnyH_take (i := 18) (v := undef) rfl (by kernel_rfl) (by kernel_rfl) (by kernel_rfl) (fun _ _ _ h => h) (Or.inr ⟨by rfl, rfl⟩) (by assumption) ?_
          simp only [Act.put, List.getElem_toArray, List.getElem_cons_zero, List.getElem_cons_succ, List.setIfInBounds_toArray, List.set_cons_zero, List.set_cons_succ]
          refine wpAnyH_take (i := 19) (v := undef) rfl (by kernel_rfl) (by kernel_rfl) (by kernel_rfl) (fun _ _ _ h => h) (Or.inr ⟨by rfl, rfl⟩) (by assumption) ?_
          simp only [Act.put, List.getElem_toArray, List.getElem_cons_zero, List.getElem_cons_succ, List.setIfInBounds_toArray, List.set_cons_zero, List.set_cons_succ]
          refine wpAnyH_take (i := 20) (v := undef) rfl (by kernel_rfl) (by kernel_rfl) (by kernel_rfl) (fun _ _ _ h => h) (Or.inr ⟨by rfl, rfl⟩) (by assumption) ?_
          simp only [Act.put, List.getElem_toArray, List.getElem_cons_zero, List.getElem_cons_succ, List.setIfInBounds_toArray, List.set_cons_zero, List.set_cons_succ]
          refine wpAnyH_take (i := 21) (v := undef) rfl (by kernel_rfl) (by kernel_rfl) (by kernel_rfl) (fun _ _ _ h => h) (Or.inr ⟨by rfl, rfl⟩) (by assumption) ?_
          simp only [Act.put, List.getElem_toArray, List.getElem_cons_zero, List.getElem_cons_succ, List.setIfInBounds_toArray, List.set_cons_zero, List.set_cons_succ]
          refine wpAnyH_take (i := 22) (v := undef) rfl (by kernel_rfl) (by kernel_rfl) (by kernel_rfl) (fun _ _ _ h => h) (Or.inr ⟨by rfl, rfl⟩) (by assumption) ?_
          simp only [Act.put, List.getElem_toArray, List.getElem_cons_zero, List.getElem_cons_succ, List.setIfInBounds_toArray, List.set_cons_zero, List.set_cons_succ]
          refine wpAnyH_take (i := 23) (v := undef) rfl (by kernel_rfl) (by kernel_rfl) (by kernel_rfl) (fun _ _ _ h => h) (Or.inr ⟨by rfl, rfl⟩) (by assumption) ?_
          simp only [Act.put, List.getElem_toArray, List.getElem_cons_zero, List.getElem_cons_succ, List.setIfInBounds_toArray, List.set_cons_zero, List.set_cons_succ]
          refine wpAnyH_take (i := 24) (v := undef) rfl (by kernel_rfl) (by kernel_rfl) (by kernel_rfl) (fun _ _ _ h => h) (Or.inr ⟨by rfl, rfl⟩) (by assumption) ?_
          simp only [Act.put, List.getElem_toArray, List.getElem_cons_zero, List.getElem_cons_succ, List.setIfInBounds_toArray, List.set_cons_zero, List.set_cons_succ]
          refine wpAnyH_take (i := 25) (v := ?ve25) rfl (by kernel_rfl) (by kernel_rfl) (by kernel_rfl) (fun _ _ _ h => h) (Or.inl ⟨by rfl, ?hye25⟩) (by assumption) ?reste25
          case hye25 => (intro w5 hSw; (try dsimp only at hSw); go_simp; try with_reducible rfl)
          simp only [Act.put, List.getElem_toArray, List.getElem_cons_zero, List.getElem_cons_succ, List.setIfInBounds_toArray, List.set_cons_zero, List.set_cons_succ]
          refine wpAnyH_done (by kernel_rfl) ?_ _
          have hx9 := Lib.hid (DI.out.trans (Below.mono hHeld.2.2.2.2 DI.out.size))
          clear hHeld hK
          go_wp2_with fail
          go_roundw
          case rel => exact ⟨(k + 1) % n, Nat.mod_lt _ hn0, by go_num, hx9⟩
          case measure => have := stepsTo_next hkn hg0 hkg; have htn := HTN.out; simp [intOf, htn]; omega
    · have ilt : decide ((os.length : Int) < (n : Int)) = false := decide_eq_false (by omega)
      have O9 := HO.out.from_ (show w.heap.size ≤ w.heap.size + 1 by omega)
      have R9 := RR.out
      have M9 := KP.out.end_ M3.out (by omega)
      have hq9 : q0 + os.length ≤ q0 + 36 := by omega
      go_wp2_with fail
      go_ret
      exact ⟨_, os, _, hq9, by omega, rfl, O9, R9, M9⟩
end Go.Proofs.Ytbaebamiiigmlab
