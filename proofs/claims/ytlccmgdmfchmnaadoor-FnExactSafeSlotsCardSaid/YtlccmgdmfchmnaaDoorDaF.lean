/-
  The model's chapter 11, third part: SafeSlots.
-/
import Derived.Test.YtlccmgdmfchmnaaDoorDaS
import Derived.Test.YtlccmgdmfchmnaaDoorGPl
import Derived.Test.YtlccmgdmfchmnaaDoorPlC
import Derived.Test.YtlccmgdmfchmnaaDoorGPs
import Derived.Test.YtlccmgdmfchmnaaDoorGBase
import Derived.Deep.RegionHeld3
import Derived.Maps.AppendAt
namespace Go.Proofs.YtlccmgdmfchmnaaDoor
open Go.RowKit
set_option linter.unusedVariables false

theorem filt_next {l : List Int} (f : Int → Bool) {k : Nat} (h : k < l.length) : (l.take (k + 1)).filter f = if f (l.getD k 0) = true then (l.take k).filter f ++ [l.getD k 0] else (l.take k).filter f := by
  have e : l.getD k 0 = l[k] := by rw [List.getD_eq_getElem?_getD, List.getElem?_eq_getElem h]; rfl
  rw [e, List.take_succ_eq_append_getElem h, List.filter_append]
  by_cases hc : f l[k] = true
  · rw [if_pos hc, List.filter_cons_of_pos hc]; rfl
  · rw [if_neg hc, List.filter_cons_of_neg hc]; simp
theorem MostB.grown_ {B : Nat} {a w w' : World} {row : Option Nat} (h : MostB B a w) (hg : w.grownBy w' row) (hr : ∀ k, row = some k → k = B ∨ a.heap.size ≤ k) : MostB B a w' :=
  ⟨hg.os.trans h.os, hg.tape.trans h.tape, hg.output.trans h.output, Nat.le_trans h.size hg.size, fun k hk hl => by
    refine (hg.block k (Nat.lt_of_lt_of_le hl h.size) (fun e => ?_)).trans (h.block k hk hl)
    rcases hr k e.symm with e2 | e2
    · exact hk e2
    · omega⟩
def allN (g : Nat → Bool) (n : Nat) : Bool := (List.range n).all g
theorem allN_next (g : Nat → Bool) (n : Nat) : allN g (n + 1) = (allN g n && g n) := by unfold allN; rw [List.range_succ, List.all_append]; simp
def sfG (c : Int) (cl ap : Nat → Int) (p : List Int) (j : Nat) : Bool := decide (pAt p j = 0) || decide (needC c (cl j) ≤ ap j)

set_option maxRecDepth 10000 in
set_option maxHeartbeats 2000000 in
theorem specSafeSlots_any (h : Hl) (u v : Value) (l : List Bx) (p : List Int) (c : Int) (w : World) (hb : HoldsBx w u l) (hp : HoldsI w v p) :
    Calls Tryd.prog 22 #[.agg #[.int .i64 h.b, .int .i64 h.r, .int .i64 h.t], u, v, .int .i64 c] w fun e w' => ∃ v', e = .returned v' ∧ OwnI w.heap.size w' v' (safeO h l p c) ∧ Below w.heap.size w w' := by
  obtain ⟨i0, hi, hz0, hz1, hz2⟩ := info_parts infoInt
  have HI := Lib.hid hi
  have HZ0 := Lib.hid hz0
  have HZ1 := Lib.hid hz1
  have HZ2 := Lib.hid hz2
  clear hi hz0 hz1 hz2
  have hb1 := (Below.refl w.heap.size w).alloc (Nat.le_refl _) (.cells #[.int .i64 h.b, .int .i64 h.r, .int .i64 h.t] 29)
  have hx1 := BoxH.new w h
  obtain ⟨W1, hW1⟩ : ∃ W1, W1 = w.alloc (.cells #[.int .i64 h.b, .int .i64 h.r, .int .i64 h.t] 29) := ⟨_, rfl⟩
  rw [← hW1] at hb1 hx1
  have HW := Lib.hid hW1
  have HB := Lib.hid hb1
  have y0 := hx1.c0
  have y1 := hx1.c1
  have y2 := hx1.c2
  have HX := Lib.hid fun (w' : World) (hs : Below W1.heap.size W1 w') => hx1.keep hs
  have hs1 : W1.heap.size = w.heap.size + 1 := by rw [hW1]; simp
  clear hW1 hb1 hx1
  have HNX := Lib.hid fun (w' : World) (hs : Below w.heap.size w w') => specPlanNext_any h u v l p w' (hb.keep hs) (hp.keep hs)
  have hb2 : Below W1.heap.size W1 (W1.alloc (.cells #[] 3)) := (Below.refl _ _).alloc (Nat.le_refl _) _
  have hO2 : OwnI W1.heap.size (W1.alloc (.cells #[] 3)) (.slice (some ⟨W1.heap.size, 0, none⟩) 0 0) [] := OwnI.zero (Nat.le_refl _)
  have hx2 := HX.out _ hb2
  have hs2 : (W1.alloc (.cells #[] 3)).heap.size = W1.heap.size + 1 := by simp
  obtain ⟨W2, hW2⟩ : ∃ W2, W2 = W1.alloc (.cells #[] 3) := ⟨_, rfl⟩
  rw [← hW2] at hb2 hO2 hx2 hs2
  have HW2 := Lib.hid hW2
  have z0 := hx2.c0
  have z1 := hx2.c1
  have z2 := hx2.c2
  have HB2 := Lib.hid (HB.out.trans (hb2.mono HB.out.size))
  rw [hs1] at hb2 hO2 HX hs2
  have HO2 := Lib.hid hO2
  have HD2 := Lib.hid hb2
  clear hW2 hb2 hO2 hx2 y0 y1 y2
  by_cases hc : 0 ≤ c ∧ c ≤ 3
  · cases hok : plOk h (bxsOk l) (bxIds l) p
    · have HE := Lib.hid (show safeO h l p c = [] from by unfold safeO; rw [if_pos hc, nextI_bad hok]; rfl)
      have hnl : (nextI h (bxsOk l) (bxIds l) p).length = 0 := by rw [nextI_bad hok]; rfl
      clear hb hp hok hc
      go_enter Tryd.func22, Tryd.ntmps22
      go_wp2_with fail
      rw [← HW.out, ← HW2.out]
      go_wp2_with fail
      refine (HNX.out _ HB2.out).mono ?_
      rintro e w3 ⟨v3, rfl, O3, b3⟩
      have HO3 := Lib.hid (HO2.out.keep b3)
      have HC3 := Lib.hid (HB2.out.trans (b3.mono HB2.out.size))
      have HD3 := Lib.hid (HD2.out.trans (b3.mono (by omega)))
      have ON3 : OwnI ((w.heap.size + 1) + 1) w3 v3 (nextI h (bxsOk l) (bxIds l) p) := O3.from_ (by omega)
      have h3s : w.heap.size + 1 + 1 ≤ w3.heap.size := by have := b3.size; omega
      obtain ⟨na, nc, rfl⟩ := ON3.holds.form
      clear O3 b3 HO2 HD2 HB2 z0 z1 z2 HNX
      rw [hnl]
      go_wp2_with fail
      go_loopw [9, 11] (fun va i wr => va = .slice (some ⟨w.heap.size + 1, 0, none⟩) 0 0 ∧ i = .int .i64 0 ∧ wr = w3) (fun _ i _ => (intOf i).toNat)
      case atStart => exact ⟨rfl, rfl, rfl⟩
      case round =>
        obtain ⟨rfl, rfl, rfl⟩ := hrel
        go_wp2_with fail
        go_ret
        exact ⟨_, rfl, by rw [HE.out]; exact HO3.out.from_ (by omega), HC3.out⟩
    · obtain ⟨nx, hnx⟩ : ∃ nx, nx = nextI h (bxsOk l) (bxIds l) p := ⟨_, rfl⟩
      have HE := Lib.hid (show safeO h l p c = nx.filter (safeS h l p c) from by unfold safeO; rw [if_pos hc, hnx])
      have hlen := pl_len hok
      obtain ⟨cl, hcl⟩ : ∃ cl : Nat → Int, cl = fun k => clsB l (pAt p k) := ⟨_, rfl⟩
      have HCL := Lib.hid fun k (hl : k < p.length) (w' : World) (hs : Below w.heap.size w w') => (show Calls Tryd.prog 49 #[u, v, .int .i64 k] w' fun e w2 => e = .returned (.int .i64 (cl k)) ∧ w' = w2 from by
        have := specClass_any u v l p k w' (hb.keep hs) (hp.keep hs) hl (fun hz => pl_find hok hl hz)
        rw [hcl]
        exact this)
      have HAP := Lib.hid fun (a b : Int) (w' : World) => specApartOf_any h a b w'
      have HSF := Lib.hid fun s => (show safeS h l p c s = allN (sfG c cl (fun (j : Nat) => apartS h s (j : Int)) p) p.length from by rw [hcl]; rfl)
      have PK := Lib.hid fun (w' : World) (hs : Below w.heap.size w w') => hp.keep hs
      have hnl : nx.length ≤ p.length := by rw [hnx]; exact nextI_lenX (Nat.le_refl _)
      obtain ⟨pa, pc, rfl⟩ := hp.form
      obtain ⟨n, hn⟩ : ∃ n, n = p.length := ⟨_, rfl⟩
      rw [← hn] at hlen HCL HSF PK hnl HNX ⊢
      rw [← hnx] at HNX
      generalize safeS h l p c = sf at HE HSF
      have hc1 := hc.1
      have hc2 := hc.2
      have HFN := Lib.hid fun k (hk : k < nx.length) => filt_next sf hk
      clear hb hp hok hcl hn hc
      go_enter Tryd.func22, Tryd.ntmps22
      go_wp2_with fail
      rw [← HW.out, ← HW2.out]
      go_wp2_with fail
      refine (HNX.out _ HB2.out).mono ?_
      rintro e w3 ⟨v3, rfl, O3, b3⟩
      have HO3 := Lib.hid (HO2.out.keep b3)
      have HC3 := Lib.hid (HB2.out.trans (b3.mono HB2.out.size))
      have HD3 := Lib.hid (HD2.out.trans (b3.mono (by omega)))
      have ON3 : OwnI ((w.heap.size + 1) + 1) w3 v3 nx := O3.from_ (by omega)
      have h3s : w.heap.size + 1 + 1 ≤ w3.heap.size := by have := b3.size; omega
      obtain ⟨na, nc, rfl⟩ := ON3.holds.form
      clear O3 b3 HO2 HD2 HB2 z0 z1 z2 HNX
      clear hnx
      have HSUB := Lib.hid fun (w' : World) (hs : MostB (w.heap.size + 1) w3 w') => HD3.out.trans (hs.under (Nat.le_refl _) (by omega))
      have NK := Lib.hid fun (w' : World) (hs : MostB (w.heap.size + 1) w3 w') => (show OwnI ((w.heap.size + 1) + 1) w' _ nx from own_most ON3 hs (Nat.lt_succ_self _)).holds
      have M3 := Lib.hid (MostB.refl (w.heap.size + 1) w3)
      obtain ⟨m, hm⟩ : ∃ m, m = nx.length := ⟨_, rfl⟩
      rw [← hm] at NK hnl HFN ON3 ⊢
      clear ON3
      go_wp2_with fail
      go_loopw [9, 11] (fun va i wr => ∃ k : Nat, k ≤ m ∧ i = .int .i64 k ∧ Hid (OwnI (w.heap.size + 1) wr va ((nx.take k).filter sf)) ∧ Hid (∀ g, va.ownBlock = some g → g = w.heap.size + 1 ∨ w3.heap.size ≤ g) ∧ Hid (MostB (w.heap.size + 1) w3 wr)) (fun _ i _ => m - (intOf i).toNat)
      case atStart => exact ⟨0, by omega, rfl, HO3, Lib.hid (fun g hg => .inl (by simp [Value.ownBlock] at hg; omega)), M3⟩
      case round =>
        clear HO3 M3
        obtain ⟨wo, rfl⟩ : ∃ wo : World, wo = wr := ⟨_, rfl⟩
        obtain ⟨k, hkm, rfl, HOW, HOB, MM⟩ := hrel
        have hwo := MM.out.size
        have hwo1 := (HB.out.trans ((HSUB.out _ MM.out).mono (by omega))).size
        by_cases hlt : k < m
        · have ik : (k : Int) < (m : Int) := by omega
          have i0k : (0 : Int) ≤ (k : Int) := by omega
          have hN1 := l1In_yes c 0 3 wo hc1 hc2
          go_wp2_with fail
          refine hN1.mono ?_
          rintro e w' ⟨rfl, rfl⟩
          obtain ⟨nb, no, rfl, hnbl, t0⟩ := (NK.out wo MM.out).at_ hlt
          obtain ⟨x, hx⟩ : ∃ x, x = nx.getD k 0 := ⟨_, rfl⟩
          rw [← hx] at t0
          have HFk := HFN.out k hlt
          rw [← hx, HSF.out x] at HFk
          obtain ⟨ap, hap⟩ : ∃ ap : Nat → Int, ap = fun (j : Nat) => apartS h x (j : Int) := ⟨_, rfl⟩
          have HAk := Lib.hid fun (j : Nat) (w' : World) => (show Calls Tryd.prog 48 #[.agg #[.int .i64 h.b, .int .i64 h.r, .int .i64 h.t], .int .i64 x, .int .i64 j] w' fun e w2 => e = .returned (.int .i64 (ap j)) ∧ Below w'.heap.size w' w2 from by rw [hap]; exact HAP.out x (j : Int) w')
          rw [← hap] at HFk
          have HAN := Lib.hid fun j => allN_next (sfG c cl ap p) j
          have HSG := Lib.hid fun j => (show sfG c cl ap p j = (decide (pAt p j = 0) || decide (needC c (cl j) ≤ ap j)) from rfl)
          have HA0 := Lib.hid (show allN (sfG c cl ap p) 0 = true from rfl)
          generalize sfG c cl ap p = sg at HFk HAN HSG HA0
          have HF := Lib.hid HFk
          clear HFk hap hx hN1
          go_wp2_with fail
          go_loopw [12, 13] (fun fl jv w2 => ∃ (b : Bool) (j : Nat), j ≤ n ∧ b = allN sg j ∧ fl = .bool b ∧ jv = .int .i64 j ∧ Hid (Below wo.heap.size wo w2)) (fun _ jv _ => n - (intOf jv).toNat)
          case atStart => exact ⟨_, 0, by omega, HA0.out.symm, rfl, rfl, Lib.hid (Below.refl _ _)⟩
          case round =>
            obtain ⟨b, j, hjn, hb, rfl, rfl, DJ⟩ := hrel
            have MJ := Lib.hid (MM.out.below_ (DJ.out.mono hwo))
            have DW := Lib.hid (HSUB.out _ MJ.out)
            have BW := Lib.hid (HB.out.trans (DW.out.mono (by omega)))
            have s1 := (Below.cell DJ.out (p := ⟨nb, no + k, none⟩) hnbl).trans t0
            by_cases hjl : j < n
            · have ij : (j : Int) < (n : Int) := by omega
              have i0j : (0 : Int) ≤ (j : Int) := by omega
              obtain ⟨pb, po, rfl, hpbl, s0⟩ := (PK.out wr BW.out).at_ hjl
              have e1 : p.getD j 0 = pAt p j := rfl
              rw [e1] at s0
              have han := HAN.out j
              have hsg := HSG.out j
              obtain ⟨y, hy⟩ : ∃ y, y = pAt p j := ⟨_, rfl⟩
              rw [← hy] at s0 hsg
              have bd : Below wo.heap.size wo wr.drew := DJ.out.drew
              have DJd := Lib.hid bd
              have s0d : wr.drew.cell? ⟨pb, po + j, none⟩ = some (.int .i64 y) := s0
              clear e1 hy bd
              cases b
              · have HBB := Lib.hid (show false = allN sg (j + 1) from by rw [han, ← hb]; rfl)
                have hstart : Since wr wr.drew := (Below.refl _ _).drew
                clear hb han hsg
                go_wp2_with fail
                refine wp_region_held_drew (S := (fun w' => Since wr w')) (by kernel_rfl) hstart (fun hHeld => ?_)
                refine wpAnyH_take (i := 0) (v := ?v0) rfl (by kernel_rfl) (by kernel_rfl) (by kernel_rfl) (fun _ _ _ h => h) (Or.inl ⟨by rfl, ?hy0⟩) (by assumption) ?rest0
                case hy0 => (intro w5 hSw; (try dsimp only at hSw); go_simp; try with_reducible rfl)
                simp only [Act.put, List.getElem_toArray, List.getElem_cons_zero, List.setIfInBounds_toArray, List.set_cons_zero, List.set_cons_succ]
                refine wpAnyH_take (i := 1) (v := ?v1) rfl (by kernel_rfl) (by kernel_rfl) (by kernel_rfl) (fun _ _ _ h => h) (Or.inl ⟨by rfl, ?hy1⟩) (by assumption) ?rest1
                case hy1 => (intro w5 hSw; (try dsimp only at hSw); go_simp; try with_reducible rfl)
                simp only [Act.put, List.getElem_toArray, List.getElem_cons_zero, List.getElem_cons_succ, List.setIfInBounds_toArray, List.set_cons_zero, List.set_cons_succ]
                refine wpAnyH_take (i := 2) (v := undef) rfl (by kernel_rfl) (by kernel_rfl) (by kernel_rfl) (fun _ _ _ h => h) (Or.inr ⟨by rfl, rfl⟩) (by assumption) ?_
                simp only [Act.put, List.getElem_toArray, List.getElem_cons_zero, List.getElem_cons_succ, List.setIfInBounds_toArray, List.set_cons_zero, List.set_cons_succ]
                refine wpAnyH_take (i := 3) (v := undef) rfl (by kernel_rfl) (by kernel_rfl) (by kernel_rfl) (fun _ _ _ h => h) (Or.inr ⟨by rfl, rfl⟩) (by assumption) ?_
                simp only [Act.put, List.getElem_toArray, List.getElem_cons_zero, List.getElem_cons_succ, List.setIfInBounds_toArray, List.set_cons_zero, List.set_cons_succ]
                refine wpAnyH_take (i := 4) (v := undef) rfl (by kernel_rfl) (by kernel_rfl) (by kernel_rfl) (fun _ _ _ h => h) (Or.inr ⟨by rfl, rfl⟩) (by assumption) ?_
                simp only [Act.put, List.getElem_toArray, List.getElem_cons_zero, List.getElem_cons_succ, List.setIfInBounds_toArray, List.set_cons_zero, List.set_cons_succ]
                refine wpAnyH_take (i := 5) (v := undef) rfl (by kernel_rfl) (by kernel_rfl) (by kernel_rfl) (fun _ _ _ h => h) (Or.inr ⟨by rfl, rfl⟩) (by assumption) ?_
                simp only [Act.put, List.getElem_toArray, List.getElem_cons_zero, List.getElem_cons_succ, List.setIfInBounds_toArray, List.set_cons_zero, List.set_cons_succ]
                refine wpAnyH_take (i := 6) (v := undef) rfl (by kernel_rfl) (by kernel_rfl) (by kernel_rfl) (fun _ _ _ h => h) (Or.inr ⟨by rfl, rfl⟩) (by assumption) ?_
                simp only [Act.put, List.getElem_toArray, List.getElem_cons_zero, List.getElem_cons_succ, List.setIfInBounds_toArray, List.set_cons_zero, List.set_cons_succ]
                refine wpAnyH_take (i := 7) (v := undef) rfl (by kernel_rfl) (by kernel_rfl) (by kernel_rfl) (fun _ _ _ h => h) (Or.inr ⟨by rfl, rfl⟩) (by assumption) ?_
                simp only [Act.put, List.getElem_toArray, List.getElem_cons_zero, List.getElem_cons_succ, List.setIfInBounds_toArray, List.set_cons_zero, List.set_cons_succ]
                refine wpAnyH_take (i := 8) (v := undef) rfl (by kernel_rfl) (by kernel_rfl) (by kernel_rfl) (fun _ _ _ h => h) (Or.inr ⟨by rfl, rfl⟩) (by assumption) ?_
                simp only [Act.put, List.getElem_toArray, List.getElem_cons_zero, List.getElem_cons_succ, List.setIfInBounds_toArray, List.set_cons_zero, List.set_cons_succ]
                refine wpAnyH_take (i := 9) (v := undef) rfl (by kernel_rfl) (by kernel_rfl) (by kernel_rfl) (fun _ _ _ h => h) (Or.inr ⟨by rfl, rfl⟩) (by assumption) ?_
                simp only [Act.put, List.getElem_toArray, List.getElem_cons_zero, List.getElem_cons_succ, List.setIfInBounds_toArray, List.set_cons_zero, List.set_cons_succ]
                refine wpAnyH_take (i := 10) (v := undef) rfl (by kernel_rfl) (by kernel_rfl) (by kernel_rfl) (fun _ _ _ h => h) (Or.inr ⟨by rfl, rfl⟩) (by assumption) ?_
                simp only [Act.put, List.getElem_toArray, List.getElem_cons_zero, List.getElem_cons_succ, List.setIfInBounds_toArray, List.set_cons_zero, List.set_cons_succ]
                refine wpAnyH_take (i := 11) (v := undef) rfl (by kernel_rfl) (by kernel_rfl) (by kernel_rfl) (fun _ _ _ h => h) (Or.inr ⟨by rfl, rfl⟩) (by assumption) ?_
                simp only [Act.put, List.getElem_toArray, List.getElem_cons_zero, List.getElem_cons_succ, List.setIfInBounds_toArray, List.set_cons_zero, List.set_cons_succ]
                refine wpAnyH_take (i := 12) (v := undef) rfl (by kernel_rfl) (by kernel_rfl) (by kernel_rfl) (fun _ _ _ h => h) (Or.inr ⟨by rfl, rfl⟩) (by assumption) ?_
                simp only [Act.put, List.getElem_toArray, List.getElem_cons_zero, List.getElem_cons_succ, List.setIfInBounds_toArray, List.set_cons_zero, List.set_cons_succ]
                refine wpAnyH_take (i := 13) (v := undef) rfl (by kernel_rfl) (by kernel_rfl) (by kernel_rfl) (fun _ _ _ h => h) (Or.inr ⟨by rfl, rfl⟩) (by assumption) ?_
                simp only [Act.put, List.getElem_toArray, List.getElem_cons_zero, List.getElem_cons_succ, List.setIfInBounds_toArray, List.set_cons_zero, List.set_cons_succ]
                refine wpAnyH_take (i := 14) (v := undef) rfl (by kernel_rfl) (by kernel_rfl) (by kernel_rfl) (fun _ _ _ h => h) (Or.inr ⟨by rfl, rfl⟩) (by assumption) ?_
                simp only [Act.put, List.getElem_toArray, List.getElem_cons_zero, List.getElem_cons_succ, List.setIfInBounds_toArray, List.set_cons_zero, List.set_cons_succ]
                refine wpAnyH_take (i := 15) (v := undef) rfl (by kernel_rfl) (by kernel_rfl) (by kernel_rfl) (fun _ _ _ h => h) (Or.inr ⟨by rfl, rfl⟩) (by assumption) ?_
                simp only [Act.put, List.getElem_toArray, List.getElem_cons_zero, List.getElem_cons_succ, List.setIfInBounds_toArray, List.set_cons_zero, List.set_cons_succ]
                refine wpAnyH_take (i := 16) (v := undef) rfl (by kernel_rfl) (by kernel_rfl) (by kernel_rfl) (fun _ _ _ h => h) (Or.inr ⟨by rfl, rfl⟩) (by assumption) ?_
                simp only [Act.put, List.getElem_toArray, List.getElem_cons_zero, List.getElem_cons_succ, List.setIfInBounds_toArray, List.set_cons_zero, List.set_cons_succ]
                refine wpAnyH_take (i := 17) (v := undef) rfl (by kernel_rfl) (by kernel_rfl) (by kernel_rfl) (fun _ _ _ h => h) (Or.inr ⟨by rfl, rfl⟩) (by assumption) ?_
                simp only [Act.put, List.getElem_toArray, List.getElem_cons_zero, List.getElem_cons_succ, List.setIfInBounds_toArray, List.set_cons_zero, List.set_cons_succ]
                refine wpAnyH_take (i := 18) (v := undef) rfl (by kernel_rfl) (by kernel_rfl) (by kernel_rfl) (fun _ _ _ h => h) (Or.inr ⟨by rfl, rfl⟩) (by assumption) ?_
                simp only [Act.put, List.getElem_toArray, List.getElem_cons_zero, List.getElem_cons_succ, List.setIfInBounds_toArray, List.set_cons_zero, List.set_cons_succ]
                refine wpAnyH_take (i := 19) (v := undef) rfl (by kernel_rfl) (by kernel_rfl) (by kernel_rfl) (fun _ _ _ h => h) (Or.inr ⟨by rfl, rfl⟩) (by assumption) ?_
                simp only [Act.put, List.getElem_toArray, List.getElem_cons_zero, List.getElem_cons_succ, List.setIfInBounds_toArray, List.set_cons_zero, List.set_cons_succ]
                refine wpAnyH_take (i := 20) (v := undef) rfl (by kernel_rfl) (by kernel_rfl) (by kernel_rfl) (fun _ _ _ h => h) (Or.inr ⟨by rfl, rfl⟩) (by assumption) ?_
                simp only [Act.put, List.getElem_toArray, List.getElem_cons_zero, List.getElem_cons_succ, List.setIfInBounds_toArray, List.set_cons_zero, List.set_cons_succ]
                refine wpAnyH_take (i := 21) (v := undef) rfl (by kernel_rfl) (by kernel_rfl) (by kernel_rfl) (fun _ _ _ h => h) (Or.inr ⟨by rfl, rfl⟩) (by assumption) ?_
                simp only [Act.put, List.getElem_toArray, List.getElem_cons_zero, List.getElem_cons_succ, List.setIfInBounds_toArray, List.set_cons_zero, List.set_cons_succ]
                refine wpAnyH_take (i := 22) (v := undef) rfl (by kernel_rfl) (by kernel_rfl) (by kernel_rfl) (fun _ _ _ h => h) (Or.inr ⟨by rfl, rfl⟩) (by assumption) ?_
                simp only [Act.put, List.getElem_toArray, List.getElem_cons_zero, List.getElem_cons_succ, List.setIfInBounds_toArray, List.set_cons_zero, List.set_cons_succ]
                refine wpAnyH_take (i := 23) (v := ?v23) rfl (by kernel_rfl) (by kernel_rfl) (by kernel_rfl) (fun _ _ _ h => h) (Or.inl ⟨by rfl, ?hy23⟩) (by assumption) ?rest23
                case hy23 => (intro w5 hSw; (try dsimp only at hSw); go_simp; try with_reducible rfl)
                simp only [Act.put, List.getElem_toArray, List.getElem_cons_zero, List.getElem_cons_succ, List.setIfInBounds_toArray, List.set_cons_zero, List.set_cons_succ]
                refine wpAnyH_take (i := 24) (v := ?v24) rfl (by kernel_rfl) (by kernel_rfl) (by kernel_rfl) (fun _ _ _ h => h) (Or.inl ⟨by rfl, ?hy24⟩) (by assumption) ?rest24
                case hy24 => (intro w5 hSw; (try dsimp only at hSw); go_simp; try with_reducible rfl)
                simp only [Act.put, List.getElem_toArray, List.getElem_cons_zero, List.getElem_cons_succ, List.setIfInBounds_toArray, List.set_cons_zero, List.set_cons_succ]
                refine wpAnyH_done (by kernel_rfl) ?_ _
                have hs9 := Lib.hid (DJ.out.trans (Below.mono hHeld DJ.out.size))
                clear hHeld hstart
                go_wp2_with fail
                go_roundw
                case rel => exact ⟨_, j + 1, by omega, HBB.out, rfl, by go_num, hs9⟩
                case measure => simp [intOf]; omega
              · by_cases hy0 : y = 0
                · subst hy0
                  have HBB := Lib.hid (show true = allN sg (j + 1) from by rw [han, ← hb, hsg]; rfl)
                  have hstart : wr.drew.cell? ⟨pb, po + j, none⟩ = some (.int .i64 0) ∧ Since wr wr.drew := ⟨s0d, (Below.refl _ _).drew⟩
                  clear hb han hsg
                  go_wp2_with fail
                  refine wp_region_held_drew (S := (fun w' => w'.cell? ⟨pb, po + j, none⟩ = some (.int .i64 0) ∧ Since wr w')) (by kernel_rfl) hstart (fun hHeld => ?_)
                  refine wpAnyH_take (i := 0) (v := ?vb0) rfl (by kernel_rfl) (by kernel_rfl) (by kernel_rfl) (fun _ _ _ h => h) (Or.inl ⟨by rfl, ?hyb0⟩) (by assumption) ?restb0
                  case hyb0 => (intro w5 hSw; (try dsimp only at hSw); go_simp; try with_reducible rfl)
                  simp only [Act.put, List.getElem_toArray, List.getElem_cons_zero, List.setIfInBounds_toArray, List.set_cons_zero, List.set_cons_succ]
                  refine wpAnyH_take (i := 1) (v := ?vb1) rfl (by kernel_rfl) (by kernel_rfl) (by kernel_rfl) (fun _ _ _ h => h) (Or.inl ⟨by rfl, ?hyb1⟩) (by assumption) ?restb1
                  case hyb1 => (intro w5 hSw; (try dsimp only at hSw); go_simp; try with_reducible rfl)
                  simp only [Act.put, List.getElem_toArray, List.getElem_cons_zero, List.getElem_cons_succ, List.setIfInBounds_toArray, List.set_cons_zero, List.set_cons_succ]
                  refine wpAnyH_take (i := 2) (v := ?vb2) rfl (by kernel_rfl) (by kernel_rfl) (by kernel_rfl) (fun _ _ _ h => h) (Or.inl ⟨by rfl, ?hyb2⟩) (by assumption) ?restb2
                  case hyb2 => (intro w5 hSw; (try dsimp only at hSw); go_simp; try with_reducible rfl)
                  simp only [Act.put, List.getElem_toArray, List.getElem_cons_zero, List.getElem_cons_succ, List.setIfInBounds_toArray, List.set_cons_zero, List.set_cons_succ]
                  refine wpAnyH_take (i := 3) (v := ?vb3) rfl (by kernel_rfl) (by kernel_rfl) (by kernel_rfl) (fun _ _ _ h => h) (Or.inl ⟨by rfl, ?hyb3⟩) (by assumption) ?restb3
                  case hyb3 => (intro w5 hSw; (try dsimp only at hSw); go_simp; try with_reducible rfl)
                  simp only [Act.put, List.getElem_toArray, List.getElem_cons_zero, List.getElem_cons_succ, List.setIfInBounds_toArray, List.set_cons_zero, List.set_cons_succ]
                  refine wpAnyH_take (i := 4) (v := ?vb4) rfl (by kernel_rfl) (by kernel_rfl) (by kernel_rfl) (fun _ _ _ h => h) (Or.inl ⟨by rfl, ?hyb4⟩) (by assumption) ?restb4
                  case hyb4 => (intro w5 hSw; (try dsimp only at hSw); go_simp; try with_reducible rfl)
                  simp only [Act.put, List.getElem_toArray, List.getElem_cons_zero, List.getElem_cons_succ, List.setIfInBounds_toArray, List.set_cons_zero, List.set_cons_succ]
                  refine wpAnyH_take (i := 5) (v := ?vb5) rfl (by kernel_rfl) (by kernel_rfl) (by kernel_rfl) (fun _ _ _ h => h) (Or.inl ⟨by rfl, ?hyb5⟩) (by assumption) ?restb5
                  case hyb5 => (intro w5 hSw; (try dsimp only at hSw); go_simp; try with_reducible rfl)
                  simp only [Act.put, List.getElem_toArray, List.getElem_cons_zero, List.getElem_cons_succ, List.setIfInBounds_toArray, List.set_cons_zero, List.set_cons_succ]
                  refine wpAnyH_take (i := 6) (v := ?vb6) rfl (by kernel_rfl) (by kernel_rfl) (by kernel_rfl) (fun _ _ _ h => h) (Or.inl ⟨by rfl, ?hyb6⟩) (by assumption) ?restb6
                  case hyb6 => (intro w5 hSw; (try dsimp only at hSw); go_simp; try with_reducible rfl)
                  simp only [Act.put, List.getElem_toArray, List.getElem_cons_zero, List.getElem_cons_succ, List.setIfInBounds_toArray, List.set_cons_zero, List.set_cons_succ]
                  refine wpAnyH_take (i := 7) (v := ?vb7) rfl (by kernel_rfl) (by kernel_rfl) (by kernel_rfl) (fun _ _ _ h => h) (Or.inl ⟨by rfl, ?hyb7⟩) (by assumption) ?restb7
                  case hyb7 => (intro w5 hSw; (try dsimp only at hSw); go_simp; try with_reducible rfl)
                  simp only [Act.put, List.getElem_toArray, List.getElem_cons_zero, List.getElem_cons_succ, List.setIfInBounds_toArray, List.set_cons_zero, List.set_cons_succ]
                  refine wpAnyH_take (i := 8) (v := undef) rfl (by kernel_rfl) (by kernel_rfl) (by kernel_rfl) (fun _ _ _ h => h) (Or.inr ⟨by rfl, rfl⟩) (by assumption) ?_
                  simp only [Act.put, List.getElem_toArray, List.getElem_cons_zero, List.getElem_cons_succ, List.setIfInBounds_toArray, List.set_cons_zero, List.set_cons_succ]
                  refine wpAnyH_take (i := 9) (v := undef) rfl (by kernel_rfl) (by kernel_rfl) (by kernel_rfl) (fun _ _ _ h => h) (Or.inr ⟨by rfl, rfl⟩) (by assumption) ?_
                  simp only [Act.put, List.getElem_toArray, List.getElem_cons_zero, List.getElem_cons_succ, List.setIfInBounds_toArray, List.set_cons_zero, List.set_cons_succ]
                  refine wpAnyH_take (i := 10) (v := undef) rfl (by kernel_rfl) (by kernel_rfl) (by kernel_rfl) (fun _ _ _ h => h) (Or.inr ⟨by rfl, rfl⟩) (by assumption) ?_
                  simp only [Act.put, List.getElem_toArray, List.getElem_cons_zero, List.getElem_cons_succ, List.setIfInBounds_toArray, List.set_cons_zero, List.set_cons_succ]
                  refine wpAnyH_take (i := 11) (v := undef) rfl (by kernel_rfl) (by kernel_rfl) (by kernel_rfl) (fun _ _ _ h => h) (Or.inr ⟨by rfl, rfl⟩) (by assumption) ?_
                  simp only [Act.put, List.getElem_toArray, List.getElem_cons_zero, List.getElem_cons_succ, List.setIfInBounds_toArray, List.set_cons_zero, List.set_cons_succ]
                  refine wpAnyH_take (i := 12) (v := undef) rfl (by kernel_rfl) (by kernel_rfl) (by kernel_rfl) (fun _ _ _ h => h) (Or.inr ⟨by rfl, rfl⟩) (by assumption) ?_
                  simp only [Act.put, List.getElem_toArray, List.getElem_cons_zero, List.getElem_cons_succ, List.setIfInBounds_toArray, List.set_cons_zero, List.set_cons_succ]
                  refine wpAnyH_take (i := 13) (v := undef) rfl (by kernel_rfl) (by kernel_rfl) (by kernel_rfl) (fun _ _ _ h => h) (Or.inr ⟨by rfl, rfl⟩) (by assumption) ?_
                  simp only [Act.put, List.getElem_toArray, List.getElem_cons_zero, List.getElem_cons_succ, List.setIfInBounds_toArray, List.set_cons_zero, List.set_cons_succ]
                  refine wpAnyH_take (i := 14) (v := undef) rfl (by kernel_rfl) (by kernel_rfl) (by kernel_rfl) (fun _ _ _ h => h) (Or.inr ⟨by rfl, rfl⟩) (by assumption) ?_
                  simp only [Act.put, List.getElem_toArray, List.getElem_cons_zero, List.getElem_cons_succ, List.setIfInBounds_toArray, List.set_cons_zero, List.set_cons_succ]
                  refine wpAnyH_take (i := 15) (v := undef) rfl (by kernel_rfl) (by kernel_rfl) (by kernel_rfl) (fun _ _ _ h => h) (Or.inr ⟨by rfl, rfl⟩) (by assumption) ?_
                  simp only [Act.put, List.getElem_toArray, List.getElem_cons_zero, List.getElem_cons_succ, List.setIfInBounds_toArray, List.set_cons_zero, List.set_cons_succ]
                  refine wpAnyH_take (i := 16) (v := undef) rfl (by kernel_rfl) (by kernel_rfl) (by kernel_rfl) (fun _ _ _ h => h) (Or.inr ⟨by rfl, rfl⟩) (by assumption) ?_
                  simp only [Act.put, List.getElem_toArray, List.getElem_cons_zero, List.getElem_cons_succ, List.setIfInBounds_toArray, List.set_cons_zero, List.set_cons_succ]
                  refine wpAnyH_take (i := 17) (v := undef) rfl (by kernel_rfl) (by kernel_rfl) (by kernel_rfl) (fun _ _ _ h => h) (Or.inr ⟨by rfl, rfl⟩) (by assumption) ?_
                  simp only [Act.put, List.getElem_toArray, List.getElem_cons_zero, List.getElem_cons_succ, List.setIfInBounds_toArray, List.set_cons_zero, List.set_cons_succ]
                  refine wpAnyH_take (i := 18) (v := undef) rfl (by kernel_rfl) (by kernel_rfl) (by kernel_rfl) (fun _ _ _ h => h) (Or.inr ⟨by rfl, rfl⟩) (by assumption) ?_
                  simp only [Act.put, List.getElem_toArray, List.getElem_cons_zero, List.getElem_cons_succ, List.setIfInBounds_toArray, List.set_cons_zero, List.set_cons_succ]
                  refine wpAnyH_take (i := 19) (v := undef) rfl (by kernel_rfl) (by kernel_rfl) (by kernel_rfl) (fun _ _ _ h => h) (Or.inr ⟨by rfl, rfl⟩) (by assumption) ?_
                  simp only [Act.put, List.getElem_toArray, List.getElem_cons_zero, List.getElem_cons_succ, List.setIfInBounds_toArray, List.set_cons_zero, List.set_cons_succ]
                  refine wpAnyH_take (i := 20) (v := undef) rfl (by kernel_rfl) (by kernel_rfl) (by kernel_rfl) (fun _ _ _ h => h) (Or.inr ⟨by rfl, rfl⟩) (by assumption) ?_
                  simp only [Act.put, List.getElem_toArray, List.getElem_cons_zero, List.getElem_cons_succ, List.setIfInBounds_toArray, List.set_cons_zero, List.set_cons_succ]
                  refine wpAnyH_take (i := 21) (v := undef) rfl (by kernel_rfl) (by kernel_rfl) (by kernel_rfl) (fun _ _ _ h => h) (Or.inr ⟨by rfl, rfl⟩) (by assumption) ?_
                  simp only [Act.put, List.getElem_toArray, List.getElem_cons_zero, List.getElem_cons_succ, List.setIfInBounds_toArray, List.set_cons_zero, List.set_cons_succ]
                  refine wpAnyH_take (i := 22) (v := ?vb22) rfl (by kernel_rfl) (by kernel_rfl) (by kernel_rfl) (fun _ _ _ h => h) (Or.inl ⟨by rfl, ?hyb22⟩) (by assumption) ?restb22
                  case hyb22 => (intro w5 hSw; (try dsimp only at hSw); go_simp; try with_reducible rfl)
                  simp only [Act.put, List.getElem_toArray, List.getElem_cons_zero, List.getElem_cons_succ, List.setIfInBounds_toArray, List.set_cons_zero, List.set_cons_succ]
                  refine wpAnyH_take (i := 23) (v := ?vb23) rfl (by kernel_rfl) (by kernel_rfl) (by kernel_rfl) (fun _ _ _ h => h) (Or.inl ⟨by rfl, ?hyb23⟩) (by assumption) ?restb23
                  case hyb23 => (intro w5 hSw; (try dsimp only at hSw); go_simp; try with_reducible rfl)
                  simp only [Act.put, List.getElem_toArray, List.getElem_cons_zero, List.getElem_cons_succ, List.setIfInBounds_toArray, List.set_cons_zero, List.set_cons_succ]
                  refine wpAnyH_take (i := 24) (v := ?vb24) rfl (by kernel_rfl) (by kernel_rfl) (by kernel_rfl) (fun _ _ _ h => h) (Or.inl ⟨by rfl, ?hyb24⟩) (by assumption) ?restb24
                  case hyb24 => (intro w5 hSw; (try dsimp only at hSw); go_simp; try with_reducible rfl)
                  simp only [Act.put, List.getElem_toArray, List.getElem_cons_zero, List.getElem_cons_succ, List.setIfInBounds_toArray, List.set_cons_zero, List.set_cons_succ]
                  refine wpAnyH_done (by kernel_rfl) ?_ _
                  have hs9 := Lib.hid (DJ.out.trans (Below.mono hHeld.2 DJ.out.size))
                  clear hHeld hstart
                  go_wp2_with fail
                  go_roundw
                  case rel => exact ⟨_, j + 1, by omega, HBB.out, rfl, by go_num, hs9⟩
                  case measure => simp [intOf]; omega
                · have hyf : (y == 0) = false := by simpa using hy0
                  have hb' : decide (needC c (cl j) ≤ ap j) = allN sg (j + 1) := by rw [han, ← hb, hsg, decide_eq_false hy0]; rfl
                  have yh := HX.out wr DW.out
                  have HCj := Lib.hid fun (w' : World) (hs : Since wr w') => HCL.out j hjl w' (BW.out.trans (Below.mono hs BW.out.size))
                  have HAj := Lib.hid fun (w' : World) => HAk.out j w'
                  obtain ⟨cj, hcj⟩ : ∃ cj, cj = cl j := ⟨_, rfl⟩
                  rw [← hcj] at HCj hb'
                  obtain ⟨aj, haj⟩ : ∃ aj, aj = ap j := ⟨_, rfl⟩
                  rw [← haj] at HAj hb'
                  have HNj := Lib.hid fun (w' : World) => specApartNeed_any c cj w'
                  generalize needC c cj = nd at HNj hb'
                  have hnbw : nb < wr.heap.size := Nat.lt_of_lt_of_le hnbl DJ.out.size
                  have HK := Lib.hid fun (w' : World) (hs : Since wr w') => (show w'.cell? ⟨w.heap.size, 0, none⟩ = some (.int .i64 h.b) ∧ w'.cell? ⟨w.heap.size, 1, none⟩ = some (.int .i64 h.r) ∧ w'.cell? ⟨w.heap.size, 2, none⟩ = some (.int .i64 h.t) ∧ w'.cell? ⟨pb, po + j, none⟩ = some (.int .i64 y) ∧ w'.cell? ⟨nb, no + k, none⟩ = some (.int .i64 x) ∧ Since wr w' from ⟨(yh.keep hs).c0, (yh.keep hs).c1, (yh.keep hs).c2, (Below.cell hs (p := ⟨pb, po + j, none⟩) hpbl).trans s0, (Below.cell hs (p := ⟨nb, no + k, none⟩) hnbw).trans s1, hs⟩)
                  have hstart := HK.out _ (show Since wr wr.drew from (Below.refl _ _).drew)
                  have HBJ := Lib.hid hb'
                  clear hb han hsg hcj haj yh s0 s1 s0d hb'
                  go_wp2_with fail
                  go_region_held3 (fun w' => w'.cell? ⟨w.heap.size, 0, none⟩ = some (.int .i64 h.b) ∧ w'.cell? ⟨w.heap.size, 1, none⟩ = some (.int .i64 h.r) ∧ w'.cell? ⟨w.heap.size, 2, none⟩ = some (.int .i64 h.t) ∧ w'.cell? ⟨pb, po + j, none⟩ = some (.int .i64 y) ∧ w'.cell? ⟨nb, no + k, none⟩ = some (.int .i64 x) ∧ Since wr w')
                    (first | exact hstart | exact HK.out _ s5 | exact HK.out _ (by exact (‹_ ∧ _› : _ ∧ _ ∧ _ ∧ _ ∧ _ ∧ Since wr _).2.2.2.2.2) | fail)
                    (first
                      | (go_at_call 48; ((with_reducible refine (HAj.out _).mono ?_); rintro e w5 ⟨rfl, d5⟩; have s5 : Since wr w5 := Since.call (by exact (‹_ ∧ _› : _ ∧ _ ∧ _ ∧ _ ∧ _ ∧ Since wr _).2.2.2.2.2) d5; clear d5))
                      | (go_at_call 49; ((with_reducible refine (HCj.out _ (by exact (‹_ ∧ _› : _ ∧ _ ∧ _ ∧ _ ∧ _ ∧ Since wr _).2.2.2.2.2)).mono ?_); rintro e w6 ⟨rfl, rfl⟩))
                      | (go_at_call 11; ((with_reducible refine (HNj.out _).mono ?_); rintro e w7 ⟨rfl, rfl⟩))
                      | fail)
                  rename_i hheld
                  have hs9 := Lib.hid (DJ.out.trans (Below.mono hheld.2.2.2.2.2 DJ.out.size))
                  clear hheld hstart
                  go_wp2_with fail
                  go_roundw
                  case rel => exact ⟨_, j + 1, by omega, HBJ.out, rfl, by go_num, hs9⟩
                  case measure => simp [intOf]; omega
            · obtain rfl : j = n := by omega
              have HOW9 := Lib.hid (HOW.out.keep (DJ.out.mono (by omega)))
              have hfl : ((nx.take k).filter sf).length ≤ 36 := Nat.le_trans (List.length_filter_le _ _) (by rw [List.length_take]; omega)
              have HFk := HF.out
              rw [← hb] at HFk
              cases b
              · rw [if_neg (by simp)] at HFk
                have HFE := Lib.hid HFk
                clear HFk hb hfl
                go_wp2_with fail
                go_roundw
                case rel => exact ⟨k + 1, by omega, by go_num, Lib.hid (by rw [HFE.out]; exact HOW9.out), HOB, MJ⟩
                case measure => simp [intOf]; omega
              · rw [if_pos rfl] at HFk
                have HFE := Lib.hid HFk
                obtain ⟨Ls, hLs⟩ : ∃ Ls, Ls = (nx.take k).filter sf := ⟨_, rfl⟩
                rw [← hLs] at HOW9 HFE hfl
                have hz9 : w.heap.size + 1 ≤ wr.heap.size := by have := MJ.out.size; omega
                clear HFk hb hLs
                go_wp2_with (at_builtin; refine wpList_append_own_at _ rfl _ _ 31 rfl (w.heap.size + 1) 3 i0 (.int .i64 0) 1 8 Tryd.underlying31 HI.out HZ0.out HZ1.out HZ2.out rfl (by decide) _ Ls.length (rowI Ls) rfl (HOW9.out.alloc _) ⟨_, 0, none⟩ 1 1 [.int .i64 x] rfl rfl (fun j u hu => cells_new j u hu) (by simp [Value.oneCell']) (by unfold maxLen; omega) (by omega) (by simp; omega) ?_; intro v5 w5 hown5 hgrow _ hob5)
                have M5 := Lib.hid ((MJ.out.alloc (.cells #[.int .i64 x] 3)).grown_ hgrow HOB.out)
                have hO5 : OwnI (w.heap.size + 1) w5 v5 (Ls ++ [x]) := own_put hown5
                have HOB5 := Lib.hid (show ∀ g, v5.ownBlock = some g → g = w.heap.size + 1 ∨ w3.heap.size ≤ g from fun g hg => by
                  rcases hob5 with e | e
                  · exact HOB.out g (e ▸ hg)
                  · refine .inr ?_
                    rw [hg] at e
                    have h1 := Option.some.inj e
                    have h2 := MJ.out.size
                    simp at h1
                    omega)
                rw [← HFE.out] at hO5
                have HO5 := Lib.hid hO5
                clear hO5 hgrow hown5 hob5
                go_wp2_with fail
                go_roundw
                case rel => exact ⟨k + 1, by omega, by go_num, HO5, HOB5, M5⟩
                case measure => simp [intOf]; omega
        · obtain rfl : k = m := by omega
          have C9 := HB.out.trans ((HSUB.out _ MM.out).mono (by omega))
          have O9 := HOW.out.from_ (show w.heap.size ≤ w.heap.size + 1 by omega)
          rw [hm, List.take_length] at O9
          go_wp2_with fail
          go_ret
          exact ⟨_, rfl, by rw [HE.out]; exact O9, C9⟩
  · have HE := Lib.hid (show safeO h l p c = [] from by unfold safeO; rw [if_neg hc])
    have hcc : c < 0 ∨ 3 < c := by omega
    clear hb hp hc
    go_enter Tryd.func22, Tryd.ntmps22
    go_wp2_with fail
    rw [← HW.out, ← HW2.out]
    go_wp2_with fail
    refine (HNX.out _ HB2.out).mono ?_
    rintro e w3 ⟨v3, rfl, O3, b3⟩
    have HO3 := Lib.hid (HO2.out.keep b3)
    have HC3 := Lib.hid (HB2.out.trans (b3.mono HB2.out.size))
    have HD3 := Lib.hid (HD2.out.trans (b3.mono (by omega)))
    have ON3 : OwnI ((w.heap.size + 1) + 1) w3 v3 (nextI h (bxsOk l) (bxIds l) p) := O3.from_ (by omega)
    have h3s : w.heap.size + 1 + 1 ≤ w3.heap.size := by have := b3.size; omega
    obtain ⟨na, nc, rfl⟩ := ON3.holds.form
    clear O3 b3 HO2 HD2 HB2 z0 z1 z2 HNX
    obtain ⟨m, hm⟩ : ∃ m, m = (nextI h (bxsOk l) (bxIds l) p).length := ⟨_, rfl⟩
    rw [← hm]
    clear ON3 hm
    go_wp2_with fail
    go_loopw [9, 11] (fun va i wr => va = .slice (some ⟨w.heap.size + 1, 0, none⟩) 0 0 ∧ i = .int .i64 0 ∧ wr = w3) (fun _ i _ => (intOf i).toNat)
    case atStart => exact ⟨rfl, rfl, rfl⟩
    case round =>
      obtain ⟨rfl, rfl, rfl⟩ := hrel
      have O9 := HO3.out.from_ (show w.heap.size ≤ w.heap.size + 1 by omega)
      by_cases hm0 : m = 0
      · subst hm0
        go_wp2_with fail
        go_ret
        exact ⟨_, rfl, by rw [HE.out]; exact O9, HC3.out⟩
      · have im : decide ((0 : Int) < (m : Int)) = true := decide_eq_true (by omega)
        have hN1 := l1In_no c 0 3 wr hcc
        go_wp2_with fail
        refine hN1.mono ?_
        rintro e w' ⟨rfl, rfl⟩
        go_wp2_with fail
        go_ret
        exact ⟨_, rfl, by rw [HE.out]; exact O9, HC3.out⟩
end Go.Proofs.YtlccmgdmfchmnaaDoor
