/-
  The model's l9Heels.
-/
import Derived.Test.YtbaebamiiigmlacLdN
import Derived.Laws.AppendOwnNone
import Derived.Deep.RegionHeld3
namespace Go.Proofs.Ytbaebamiiigmlac
open Go.RowKit
set_option linter.unusedVariables false

/-- The heels, without their signs, of the first n sets. -/
def heelsN (h : Hl) (l : List Bx) (p : List Int) (n : Nat) : List Int := (List.range n).map (setH h l p)
theorem heelsN_len (h : Hl) (l : List Bx) (p : List Int) (n : Nat) : (heelsN h l p n).length = n := by simp [heelsN]
theorem heelsN_next (h : Hl) (l : List Bx) (p : List Int) (n : Nat) : heelsN h l p (n + 1) = heelsN h l p n ++ [setH h l p n] := by simp [heelsN, List.range_succ]
theorem heelsN_at {h : Hl} {l : List Bx} {p : List Int} {n k : Nat} (hk : k < n) : (heelsN h l p n).getD k 0 = setH h l p k := by
  rw [getD_i (show k < (heelsN h l p n).length by rw [heelsN_len]; exact hk)]
  simp [heelsN]
theorem cAt_bd {h : Hl} {l : List Bx} {p : List Int} (hok : plOk h (bxsOk l) (bxIds l) p = true) {k : Nat} (hk : k < (fullS p).length) : -60 ≤ cAt h l p k ∧ cAt h l p k ≤ 60 := by
  have hl := (fAt_mem hk).1
  have := mulW_bd (wBx_bd hok hl) (heelC_bd (plOk_iff.1 hok).1 (plOk_iff.1 hok).2.2.1 hl)
  unfold cAt
  omega
theorem bsum_bd {c : Nat → Int} {m : Nat} (hc : ∀ k, k < m → -60 ≤ c k ∧ c k ≤ 60) (s : Nat) : ∀ n, n ≤ m → -(60 * n) ≤ bsum c s n ∧ bsum c s n ≤ 60 * n
  | 0, _ => ⟨by simp [bsum], by simp [bsum]⟩
  | n + 1, hn => by
    have h1 := bsum_bd hc s n (by omega)
    have h2 := hc n (by omega)
    have e : bsum c s (n + 1) = bsum c s n + if s.testBit n = true then c n else 0 := rfl
    rw [e]
    by_cases hb : s.testBit n = true
    · rw [if_pos hb]; omega
    · rw [if_neg hb]; omega

set_option maxRecDepth 10000 in
set_option maxHeartbeats 8000000 in
theorem l9Heels_any (h : Hl) (u v vs : Value) (l : List Bx) (p : List Int) (w : World) (hb : HoldsBx w u l) (hp : HoldsI w v p) (hv : HoldsI w vs (fullI p)) (hok : plOk h (bxsOk l) (bxIds l) p = true) (hm : (fullS p).length ≤ 7) :
    Calls Try.prog 62 #[.agg #[.int .i64 h.b, .int .i64 h.r, .int .i64 h.t], u, v, vs] w fun e w' => ∃ v', e = .returned v' ∧ OwnI w.heap.size w' v' (heelsN h l p (2 ^ (fullS p).length)) ∧ Below w.heap.size w w' := by
  obtain ⟨i0, hi, hz0, hz1, hz2⟩ := info_parts infoInt
  have HI := Lib.hid hi
  have HZ0 := Lib.hid hz0
  have HZ1 := Lib.hid hz1
  have HZ2 := Lib.hid hz2
  clear hi hz0 hz1 hz2
  have hb1 := (Below.refl w.heap.size w).alloc (Nat.le_refl _) (.cells #[.int .i64 h.b, .int .i64 h.r, .int .i64 h.t] 28)
  have hx1 := BoxH.new w h
  obtain ⟨W1, hW1⟩ : ∃ W1, W1 = w.alloc (.cells #[.int .i64 h.b, .int .i64 h.r, .int .i64 h.t] 28) := ⟨_, rfl⟩
  rw [← hW1] at hb1 hx1
  have HW := Lib.hid hW1
  have HB := Lib.hid hb1
  have y0 := hx1.c0
  have y1 := hx1.c1
  have y2 := hx1.c2
  have HX := Lib.hid fun (w' : World) (hs : Below W1.heap.size W1 w') => hx1.keep hs
  have hs1 : W1.heap.size = w.heap.size + 1 := by rw [hW1]; simp
  clear hW1 hb1 hx1
  have hb2 : Below W1.heap.size W1 (W1.alloc (.cells #[] 3)) := (Below.refl _ _).alloc (Nat.le_refl _) _
  have hO2 : OwnI W1.heap.size (W1.alloc (.cells #[] 3)) (.slice (some ⟨W1.heap.size, 0, none⟩) 0 0) [] := OwnI.zero (Nat.le_refl _)
  obtain ⟨W2, hW2⟩ : ∃ W2, W2 = W1.alloc (.cells #[] 3) := ⟨_, rfl⟩
  rw [← hW2] at hb2 hO2
  have HW2 := Lib.hid hW2
  rw [hs1] at hb2 hO2 HX
  have HO2 := Lib.hid hO2
  have HD2 := Lib.hid hb2
  clear hW2 hb2 hO2 y0 y1 y2
  have VK := Lib.hid fun (w' : World) (hs : Below w.heap.size w w') => hv.keep hs
  have HFA := Lib.hid fun j (hj : j < (fullS p).length) => fullI_at hj
  have HFL := Lib.hid fun k (hk : k < (fullS p).length) => (fAt_mem hk).1
  have HW8 := Lib.hid fun j (hl : j < p.length) (w' : World) (hs : Below w.heap.size w w') => specWeight_any u v l p j w' (hb.keep hs) (hp.keep hs) hl (fun hz => pl_find hok hl hz)
  have HH8 := Lib.hid fun j (hl : j < p.length) (w' : World) => specHeel_any h j w' (plOk_iff.1 hok).1 (by have := (plOk_iff.1 hok).2.2.1; omega)
  have HMB := Lib.hid fun j (hl : j < p.length) => mulW_bd (wBx_bd hok hl) (heelC_bd (plOk_iff.1 hok).1 (plOk_iff.1 hok).2.2.1 hl)
  have HBB := Lib.hid fun s n (hn : n ≤ (fullS p).length) => bsum_bd (fun k hk => cAt_bd hok hk) s n hn
  have HCA := Lib.hid fun k => (show cAt h l p k = wBx l (pAt p (fAt p k)) * heelC h (fAt p k) from rfl)
  have HSN := Lib.hid fun s k => (show bsum (cAt h l p) s (k + 1) = bsum (cAt h l p) s k + if s.testBit k = true then cAt h l p k else 0 from rfl)
  have HSH := Lib.hid fun s => (show setH h l p s = max (bsum (cAt h l p) s (fullS p).length) (-(bsum (cAt h l p) s (fullS p).length)) from rfl)
  have HLN := Lib.hid fun s => heelsN_len h l p s
  have HNX := Lib.hid fun s => heelsN_next h l p s
  have hM := Nat.pow_le_pow_right (n := 2) (by omega) hm
  have hsh := shl_val (m := (fullS p).length) (by omega)
  have hfl := fullI_len p
  obtain ⟨oa, oc, rfl⟩ := hv.form
  obtain ⟨m, hm'⟩ : ∃ m, m = (fullS p).length := ⟨_, rfl⟩
  rw [← hm'] at hfl HFA HFL HBB HSH hm hM hsh ⊢
  rw [hfl] at VK ⊢
  obtain ⟨M, hMM⟩ : ∃ M : Nat, M = 2 ^ m := ⟨_, rfl⟩
  rw [← hMM] at hM hsh ⊢
  have hM128 : M ≤ 128 := hM
  have im64 : (m : Int) ≤ 64 := by omega
  have hz0 : ∀ s, bsum (cAt h l p) s 0 = 0 := fun s => rfl
  have hz1 : heelsN h l p 0 = [] := rfl
  generalize hgc : cAt h l p = c at HBB HCA HSN HSH hz0
  generalize hgb : bsum c = bs at HBB HSN HSH hz0
  have HQ0 := Lib.hid hz0
  have HQ1 := Lib.hid hz1
  clear hv hb hp hok hm' hfl hMM hM hgc hgb hz0 hz1
  go_enter Try.func62, Try.ntmps62
  go_wp2_with fail
  rw [← HW.out, ← HW2.out]
  go_wp2_with fail
  go_loopw [9, 10] (fun va i wr => ∃ s : Nat, s ≤ M ∧ i = .int .i64 s ∧ Hid (OwnI (w.heap.size + 1) wr va (heelsN h l p s)) ∧ Hid (Below (w.heap.size + 1) W1 wr)) (fun _ i _ => M - (intOf i).toNat)
  case atStart => exact ⟨0, by omega, rfl, by rw [HQ1.out]; exact HO2, HD2⟩
  case round =>
    clear HO2 HD2
    obtain ⟨s, hsM, rfl, HO, DRo⟩ := hrel
    obtain ⟨wo, rfl⟩ : ∃ wo : World, wo = wr := ⟨_, rfl⟩
    by_cases hlt : s < M
    · have is : (s : Int) < (M : Int) := by omega
      have hq0 := HQ0.out s
      go_wp2_with fail
      go_loopw [11, 12] (fun sm i wr => ∃ k : Nat, k ≤ m ∧ sm = .int .i64 (bs s k) ∧ i = .int .i64 k ∧ Hid (Below wo.heap.size wo wr)) (fun _ i _ => m - (intOf i).toNat)
      case atStart => exact ⟨0, by omega, by rw [hq0], rfl, Lib.hid (Below.refl _ _)⟩
      case round =>
        clear hq0
        obtain ⟨k, hkm, rfl, rfl, DI⟩ := hrel
        have hwo := DRo.out.size
        have DR2 := Lib.hid (DRo.out.trans (DI.out.mono (by omega)))
        have BR := Lib.hid (HB.out.trans (DR2.out.mono (by have := HB.out.size; omega)))
        by_cases hltk : k < m
        · have ik : (k : Int) < (m : Int) := by omega
          have i0k : (0 : Int) ≤ (k : Int) := by omega
          have ik64 : (k : Int) ≤ 64 := by omega
          have bv := bit_val s k
          have bv2 := bit_val2 s k
          have hsn := HSN.out s k
          have hb1 := HBB.out s (k + 1) (by omega)
          cases hbk : s.testBit k
          · rw [hbk, if_neg (by simp)] at bv bv2 hsn
            have hsn2 : bs s (k + 1) = bs s k := by omega
            have HS2 := Lib.hid hsn2
            clear hbk hsn hsn2 hb1
            go_wp2_with fail
            go_roundw
            case rel => exact ⟨k + 1, by omega, by rw [HS2.out], by go_num, DI⟩
            case measure => simp [intOf]; omega
          · rw [hbk, if_pos rfl] at bv bv2 hsn
            obtain ⟨ob, oo, rfl, hobl, s0⟩ := (VK.out wr BR.out).at_ hltk
            rw [HFA.out k hltk] at s0
            have hfl := HFL.out k hltk
            have hca := HCA.out k
            obtain ⟨j, hj⟩ : ∃ j, j = fAt p k := ⟨_, rfl⟩
            rw [← hj] at s0 hfl hca
            have hm1 := HMB.out j hfl
            have hpr : IntKind.i64.wrap (wBx l (pAt p j) * heelC h j) = wBx l (pAt p j) * heelC h j := IntWalk.i64_in _ (by omega)
            have hsum : IntKind.i64.wrap (bs s k + wBx l (pAt p j) * heelC h j) = bs s (k + 1) := by
              rw [hsn, hca]
              exact IntWalk.i64_in _ (by rw [hsn, hca] at hb1; omega)
            have HWk := Lib.hid fun (w' : World) (hs : Since wr w') => HW8.out j hfl w' (BR.out.trans (Below.mono hs BR.out.size))
            have HHk := Lib.hid (HH8.out j hfl)
            have y := HX.out wr DR2.out
            have hobr : ob < wr.heap.size := hobl
            have HK := Lib.hid fun (w' : World) (hs : Since wr w') => (show w'.cell? ⟨w.heap.size, 0, none⟩ = some (.int .i64 h.b) ∧ w'.cell? ⟨w.heap.size, 1, none⟩ = some (.int .i64 h.r) ∧ w'.cell? ⟨w.heap.size, 2, none⟩ = some (.int .i64 h.t) ∧ w'.cell? ⟨ob, oo + k, none⟩ = some (.int .i64 (j : Int)) ∧ Since wr w' from ⟨(y.keep hs).c0, (y.keep hs).c1, (y.keep hs).c2, (Below.cell hs (p := ⟨ob, oo + k, none⟩) hobr).trans s0, hs⟩)
            have hstart := HK.out _ (show Since wr wr.drew from (Below.refl _ _).drew)
            have i0j : (0 : Int) ≤ (j : Int) := by omega
            generalize wBx l (pAt p j) = b at HWk hsum hpr
            generalize heelC h j = cc at HHk hsum hpr
            generalize bs s k = a0 at hsum
            generalize hgq : bs s (k + 1) = q at hsum
            have HQ := Lib.hid hgq
            clear hbk hsn hca hj hm1 hb1 y s0 hgq
            go_wp2_with fail
            go_region_held3 (fun w' => w'.cell? ⟨w.heap.size, 0, none⟩ = some (.int .i64 h.b) ∧ w'.cell? ⟨w.heap.size, 1, none⟩ = some (.int .i64 h.r) ∧ w'.cell? ⟨w.heap.size, 2, none⟩ = some (.int .i64 h.t) ∧ w'.cell? ⟨ob, oo + k, none⟩ = some (.int .i64 (j : Int)) ∧ Since wr w')
              (first | exact hstart | exact HK.out _ s5 | exact HK.out _ (by exact (‹_ ∧ _› : _ ∧ _ ∧ _ ∧ _ ∧ Since wr _).2.2.2.2) | fail)
              (first
                | (go_at_call 55; ((with_reducible refine (HWk.out _ (by exact (‹_ ∧ _› : _ ∧ _ ∧ _ ∧ _ ∧ Since wr _).2.2.2.2)).mono ?_); rintro e w4 ⟨rfl, rfl⟩))
                | (go_at_call 56; ((with_reducible refine (HHk.out _).mono ?_); rintro e w5 ⟨rfl, d5⟩; have s5 : Since wr w5 := Since.call (by exact (‹_ ∧ _› : _ ∧ _ ∧ _ ∧ _ ∧ Since wr _).2.2.2.2) d5; clear d5))
                | fail)
            rename_i hheld
            have hx9 := Lib.hid (DI.out.trans (Below.mono hheld.2.2.2.2 DI.out.size))
            clear hheld hstart
            go_wp2_with fail
            go_roundw
            case rel => exact ⟨k + 1, by omega, by rw [HQ.out], by go_num, hx9⟩
            case measure => simp [intOf]; omega
        · obtain rfl : k = m := by omega
          have hb1 := HBB.out s k (by omega)
          have hshs := HSH.out s
          have hnx := HNX.out s
          have hln := HLN.out s
          have HOW := Lib.hid (HO.out.keep DI.out)
          generalize bs s k = q at hb1 hshs
          have hneg : IntKind.i64.wrap (-q) = -q := IntWalk.i64_in _ (by omega)
          rcases Int.lt_or_le q (-q) with h2 | h2
          · have HNX2 := Lib.hid (show heelsN h l p (s + 1) = heelsN h l p s ++ [(-q)] from by rw [hnx, hshs]; congr 2; omega)
            obtain ⟨Ls, hLs⟩ : ∃ Ls, Ls = heelsN h l p s := ⟨_, rfl⟩
            rw [← hLs] at HNX2 HOW hln
            have hl128 : Ls.length ≤ 128 := by omega
            clear hshs hnx hb1 hLs hln
            go_wp2_with (at_builtin; refine wpList_append_own _ rfl _ _ 25 rfl (w.heap.size + 1) 3 i0 (.int .i64 0) 1 8 Try.underlying25 HI.out HZ0.out HZ1.out HZ2.out rfl (by decide) _ (Ls).length (rowI (Ls)) rfl (HOW.out.alloc _) ⟨wr.heap.size, 0, none⟩ 1 1 [.int .i64 (-q)] rfl rfl (fun j u hu => cells_new j u hu) (by simp [Value.oneCell']) (by unfold maxLen; omega) (by omega) (by have := DR2.out.size; simp; omega) ?_; intro v5 w5 hown5 hgrow _)
            have hb5 : Below (w.heap.size + 1) wr w5 := ((Below.refl _ _).alloc (by have := DR2.out.size; omega) _).trans (own_below hgrow (by have := DR2.out.size; simp; omega) (fun k' hk' => (own_lt HOW.out k' hk').1))
            have hO5 : OwnI (w.heap.size + 1) w5 v5 (Ls ++ [(-q)]) := own_put hown5
            clear hgrow hown5
            go_roundw
            case rel =>
              rw [← HNX2.out] at hO5
              exact ⟨s + 1, by omega, by go_num, Lib.hid hO5, Lib.hid (DR2.out.trans hb5)⟩
            case measure => simp [intOf]; omega
          · have HNX2 := Lib.hid (show heelsN h l p (s + 1) = heelsN h l p s ++ [q] from by rw [hnx, hshs]; congr 2; omega)
            obtain ⟨Ls, hLs⟩ : ∃ Ls, Ls = heelsN h l p s := ⟨_, rfl⟩
            rw [← hLs] at HNX2 HOW hln
            have hl128 : Ls.length ≤ 128 := by omega
            clear hshs hnx hb1 hLs hln
            go_wp2_with (at_builtin; refine wpList_append_own _ rfl _ _ 25 rfl (w.heap.size + 1) 3 i0 (.int .i64 0) 1 8 Try.underlying25 HI.out HZ0.out HZ1.out HZ2.out rfl (by decide) _ (Ls).length (rowI (Ls)) rfl (HOW.out.alloc _) ⟨wr.heap.size, 0, none⟩ 1 1 [.int .i64 q] rfl rfl (fun j u hu => cells_new j u hu) (by simp [Value.oneCell']) (by unfold maxLen; omega) (by omega) (by have := DR2.out.size; simp; omega) ?_; intro v5 w5 hown5 hgrow _)
            have hb5 : Below (w.heap.size + 1) wr w5 := ((Below.refl _ _).alloc (by have := DR2.out.size; omega) _).trans (own_below hgrow (by have := DR2.out.size; simp; omega) (fun k' hk' => (own_lt HOW.out k' hk').1))
            have hO5 : OwnI (w.heap.size + 1) w5 v5 (Ls ++ [q]) := own_put hown5
            clear hgrow hown5
            go_roundw
            case rel =>
              rw [← HNX2.out] at hO5
              exact ⟨s + 1, by omega, by go_num, Lib.hid hO5, Lib.hid (DR2.out.trans hb5)⟩
            case measure => simp [intOf]; omega
    · obtain rfl : s = M := by omega
      have C9 := HB.out.trans (DRo.out.mono (by have := HB.out.size; omega))
      have O9 := HO.out
      go_wp2_with fail
      go_ret
      exact ⟨_, rfl, O9.from_ (by omega), C9⟩

end Go.Proofs.Ytbaebamiiigmlac
