/-
  The model's chapter 11, second part: TooNear.
-/
import Derived.Test.YtlccmgdmfchmnaaDoorDaS
import Derived.Test.YtlccmgdmfchmnaaDoorPr
import Derived.Test.YtlccmgdmfchmnaaDoorGPl
import Derived.Test.YtlccmgdmfchmnaaDoorPlC
import Derived.Laws.AppendOwnNone
import Derived.Deep.RegionHeld3
namespace Go.Proofs.YtlccmgdmfchmnaaDoor
open Go.RowKit
set_option linter.unusedVariables false

/-- The pairs of slot a with the slots ahead of b. -/
def nearB (g : Nat → Nat → Bool) (a b : Nat) : List (Int × Int) := ((List.range b).filter fun b => decide (a < b) && g a b).map fun (b : Nat) => (((a : Int), (b : Int)) : Int × Int)
theorem nearB_end (g : Nat → Nat → Bool) (n a : Nat) : nearB g a n = nearA g n a := rfl
theorem nearB_zero (g : Nat → Nat → Bool) (a : Nat) : nearB g a (a + 1) = [] := by
  unfold nearB
  rw [List.map_eq_nil_iff, List.filter_eq_nil_iff]
  intro b hb
  have := List.mem_range.1 hb
  rw [decide_eq_false (by omega), Bool.false_and]
  simp
theorem nearB_next {g : Nat → Nat → Bool} {a b : Nat} (h : a < b) : nearB g a (b + 1) = if g a b = true then nearB g a b ++ [((a : Int), (b : Int))] else nearB g a b := by
  unfold nearB
  rw [List.range_succ, List.filter_append]
  by_cases hg : g a b = true
  · rw [if_pos hg, List.filter_cons_of_pos (by rw [decide_eq_true h, hg]; rfl)]; simp
  · rw [if_neg hg, List.filter_cons_of_neg (by rw [decide_eq_true h, Bool.true_and]; exact hg)]; simp
theorem nearN_bd (g : Nat → Nat → Bool) (n : Nat) : ∀ m, (nearN g n m).length ≤ n * m
  | 0 => Nat.le_refl 0
  | m + 1 => by
    rw [nearN, List.length_append, nearA_len]
    have h1 := nearN_bd g n m
    have h2 := cnt_le (fun b => decide (m < b) && g m b) n
    rw [Nat.mul_succ]
    omega
theorem nearB_bd (g : Nat → Nat → Bool) (a b : Nat) : (nearB g a b).length ≤ b := by
  unfold nearB
  rw [List.length_map]
  exact Nat.le_trans (List.length_filter_le _ _) (by rw [List.length_range]; omega)

set_option maxRecDepth 10000 in
set_option maxHeartbeats 8000000 in
theorem specTooNear_any (h : Hl) (u v : Value) (l : List Bx) (p : List Int) (w : World) (hb : HoldsBx w u l) (hp : HoldsI w v p) :
    Calls Tryd.prog 16 #[.agg #[.int .i64 h.b, .int .i64 h.r, .int .i64 h.t], u, v] w fun e w' => ∃ v', e = .returned v' ∧ OwnQ w.heap.size w' v' (nearO h l p) ∧ Below w.heap.size w w' := by
  have hb1 := (Below.refl w.heap.size w).alloc (Nat.le_refl _) (.cells #[.int .i64 h.b, .int .i64 h.r, .int .i64 h.t] 29)
  have hx1 := BoxH.new w h
  obtain ⟨W1, hW1⟩ : ∃ W1, W1 = w.alloc (.cells #[.int .i64 h.b, .int .i64 h.r, .int .i64 h.t] 29) := ⟨_, rfl⟩
  rw [← hW1] at hb1 hx1
  have HW := Lib.hid hW1
  have HB := Lib.hid hb1
  have y0 := hx1.c0
  have y1 := hx1.c1
  have y2 := hx1.c2
  have HX := Lib.hid fun (w' : World) (hs : Below W1.heap.size W1 w') => hx1.keep hs
  have hs1 : W1.heap.size = w.heap.size + 1 := by rw [hW1]; simp
  clear hW1 hb1 hx1
  have HPV := Lib.hid fun (w' : World) (hs : Below w.heap.size w w') => specPlanValid_any h u v l p w' (hb.keep hs) (hp.keep hs)
  obtain ⟨i0, hi, hz0, hz1, hz2⟩ := info_parts infoPair
  have HI := Lib.hid hi
  have HZ0 := Lib.hid hz0
  have HZ1 := Lib.hid hz1
  have HZ2 := Lib.hid hz2
  clear hi hz0 hz1 hz2
  have hb2 : Below W1.heap.size W1 (W1.alloc (.cells #[] 43)) := (Below.refl _ _).alloc (Nat.le_refl _) _
  have hO2 : OwnQ W1.heap.size (W1.alloc (.cells #[] 43)) (.slice (some ⟨W1.heap.size, 0, none⟩) 0 0) [] := OwnQ.zero (Nat.le_refl _)
  have hx2 := HX.out _ hb2
  obtain ⟨W2, hW2⟩ : ∃ W2, W2 = W1.alloc (.cells #[] 43) := ⟨_, rfl⟩
  rw [← hW2] at hb2 hO2 hx2
  have HW2 := Lib.hid hW2
  have z0 := hx2.c0
  have z1 := hx2.c1
  have z2 := hx2.c2
  have HB2 := Lib.hid (HB.out.trans (hb2.mono HB.out.size))
  rw [hs1] at hb2 hO2 HX
  have HO2 := Lib.hid hO2
  have HD2 := Lib.hid hb2
  clear hW2 hb2 hO2 hx2 y0 y1 y2
  cases hok : plOk h (bxsOk l) (bxIds l) p
  · have HE := Lib.hid (show nearO h l p = [] from by unfold nearO; rw [hok]; rfl)
    rw [hok] at HPV
    clear hok hb hp
    go_enter Tryd.func16, Tryd.ntmps16
    go_wp2_with fail
    rw [← HW.out, ← HW2.out]
    go_wp2_with fail
    refine (HPV.out _ HB2.out).mono ?_
    rintro e w3 ⟨rfl, b3⟩
    go_wp2_with fail
    go_ret
    exact ⟨_, rfl, by rw [HE.out]; exact (HO2.out.from_ (by omega)).keep b3, HB2.out.trans (b3.mono HB2.out.size)⟩
  · have hlen := pl_len hok
    have HCL := Lib.hid fun k (hl : k < p.length) (w' : World) (hs : Below w.heap.size w w') => specClass_any u v l p k w' (hb.keep hs) (hp.keep hs) hl (fun hz => pl_find hok hl hz)
    have HAP := Lib.hid fun (a b : Nat) (w' : World) => specApartOf_any h (a : Int) (b : Int) w'
    rw [hok] at HPV
    have HE := Lib.hid (show nearO h l p = nearN (nearG h fun k => clsB l (pAt p k)) p.length p.length from by unfold nearO; rw [if_pos hok])
    obtain ⟨c, hc⟩ : ∃ c : Nat → Int, c = fun k => clsB l (pAt p k) := ⟨_, rfl⟩
    have HCL := Lib.hid fun k (hl : k < p.length) (w' : World) (hs : Below w.heap.size w w') => (show Calls Tryd.prog 49 #[u, v, .int .i64 k] w' fun e w2 => e = .returned (.int .i64 (c k)) ∧ w' = w2 from by
      have := HCL.out k hl w' hs
      rw [hc]
      exact this)
    rw [← hc] at HE
    have HGD := Lib.hid fun (a b : Nat) => (show nearG h c a b = decide (apartS h (a : Int) (b : Int) < needC (c a) (c b)) from rfl)
    generalize nearG h c = g at HE HGD
    obtain ⟨pa, pc, rfl⟩ := hp.form
    obtain ⟨n, hn⟩ : ∃ n, n = p.length := ⟨_, rfl⟩
    have HNB := Lib.hid fun a b (hab : a < b) => nearB_next (g := g) (a := a) (b := b) hab
    have HL1 := Lib.hid fun m => nearN_bd g n m
    have HL2 := Lib.hid fun a b => nearB_bd g a b
    rw [← hn] at HPV HCL HE hlen ⊢
    clear hok hb hp hn hc
    go_enter Tryd.func16, Tryd.ntmps16
    go_wp2_with fail
    rw [← HW.out, ← HW2.out]
    go_wp2_with fail
    refine (HPV.out _ HB2.out).mono ?_
    rintro e w3 ⟨rfl, b3⟩
    have HO3 := Lib.hid (HO2.out.keep b3)
    have HD3 := Lib.hid (HD2.out.trans (b3.mono (by have := HD2.out.size; omega)))
    clear b3 HPV HO2 HD2 z0 z1 z2
    go_wp2_with fail
    go_loopw [7, 8] (fun va i wr => ∃ a : Nat, a ≤ n ∧ i = .int .i64 a ∧ Hid (OwnQ (w.heap.size + 1) wr va (nearN g n a)) ∧ Hid (Below (w.heap.size + 1) W1 wr)) (fun _ i _ => n - (intOf i).toNat)
    case atStart => exact ⟨0, by omega, rfl, HO3, HD3⟩
    case round =>
      clear HO3 HD3
      obtain ⟨wo, rfl⟩ : ∃ wo : World, wo = wr := ⟨_, rfl⟩
      obtain ⟨a, han, rfl, HOA, DO⟩ := hrel
      by_cases hlt : a < n
      · have ia : (a : Int) < (n : Int) := by omega
        have za : IntKind.i64.wrap ((a : Int) + 1) = ((a + 1 : Nat) : Int) := by rw [IntWalk.i64_in _ (by omega)]; omega
        go_wp2_with fail
        go_loopw [7, 9] (fun va j wr => ∃ b : Nat, a + 1 ≤ b ∧ b ≤ n ∧ j = .int .i64 b ∧ Hid (OwnQ (w.heap.size + 1) wr va (nearN g n a ++ nearB g a b)) ∧ Hid (Below (w.heap.size + 1) W1 wr)) (fun _ j _ => n - (intOf j).toNat)
        case atStart => exact ⟨a + 1, Nat.le_refl _, by omega, by first | rfl | go_num, Lib.hid (by rw [nearB_zero, List.append_nil]; exact HOA.out), DO⟩
        case round =>
          clear HOA DO
          obtain ⟨b, hab, hbn, rfl, HOB, DI⟩ := hrel
          have EI := Lib.hid (HB.out.trans (DI.out.mono (by omega)))
          by_cases hblt : b < n
          · have ib : (b : Int) < (n : Int) := by omega
            have yi := HX.out wr DI.out
            have c0 := yi.c0
            have c1 := yi.c1
            have c2 := yi.c2
            have HA := Lib.hid (HAP.out a b wr)
            have hgd := HGD.out a b
            have HN9 := HNB.out a b (by omega)
            have hl1 := HL1.out a
            have hl2 := HL2.out a b
            have HC1 := Lib.hid (HCL.out a hlt)
            have HC2 := Lib.hid (HCL.out b hblt)
            obtain ⟨ca, hca⟩ : ∃ ca, ca = c a := ⟨_, rfl⟩
            obtain ⟨cb, hcb⟩ : ∃ cb, cb = c b := ⟨_, rfl⟩
            rw [← hca] at HC1 hgd
            rw [← hcb] at HC2 hgd
            generalize apartS h (a : Int) (b : Int) = ap at HA hgd
            have hnm : n * a ≤ 36 * 36 := Nat.mul_le_mul (by omega) (by omega)
            have hL : (nearN g n a ++ nearB g a b).length ≤ 2000 := by rw [List.length_append]; omega
            have HGG := Lib.hid hgd
            obtain ⟨L, hLL⟩ : ∃ L, L = nearN g n a ++ nearB g a b := ⟨_, rfl⟩
            have HLE := Lib.hid hLL
            rw [← hLL] at HOB hL
            have HNX := Lib.hid HN9
            clear yi hca hcb hgd hl1 hl2 hnm hLL HN9
            go_wp2_with fail
            refine HA.out.mono ?_
            rintro e w5 ⟨rfl, d5⟩
            have E5 := EI.out.trans (d5.mono EI.out.size)
            have D5 := Lib.hid (DI.out.trans (d5.mono (by have := DI.out.size; omega)))
            have O5 := Lib.hid (HOB.out.keep d5)
            clear d5 c0 c1 c2 HA HOB
            go_wp2_with fail
            refine (HC1.out w5 E5).mono ?_
            rintro e w' ⟨rfl, rfl⟩
            go_wp2_with fail
            refine (HC2.out w5 E5).mono ?_
            rintro e w' ⟨rfl, rfl⟩
            go_wp2_with fail
            refine (specApartNeed_any ca cb w5).mono ?_
            rintro e w' ⟨rfl, rfl⟩
            obtain ⟨nd, hnd⟩ : ∃ nd, nd = needC ca cb := ⟨_, rfl⟩
            rw [← hnd] at HGG ⊢
            clear hnd E5
            cases hg : g a b
            · have hlt9 : decide (ap < nd) = false := by rw [← HGG.out]; exact hg
              have HS9 := Lib.hid (show nearB g a (b + 1) = nearB g a b from by rw [HNX.out, hg]; rfl)
              clear hg
              go_wp2_with fail
              go_roundw
              case rel => exact ⟨b + 1, by omega, by omega, by go_num, Lib.hid (by rw [HS9.out, ← HLE.out]; exact O5.out), D5⟩
              case measure => simp [intOf]; omega
            · have hlt9 : decide (ap < nd) = true := by rw [← HGG.out]; exact hg
              have HS9 := Lib.hid (show nearB g a (b + 1) = nearB g a b ++ [((a : Int), (b : Int))] from by rw [HNX.out, hg]; rfl)
              have hsz5 : w.heap.size + 1 ≤ w5.heap.size := by have := D5.out.size; omega
              have hby : i0.bytes * (L.length + 1) ≤ 281474976710656 := by rw [HZ2.out]; omega
              clear hg
              go_wp2_with (at_builtin; refine wpList_append_own _ rfl _ _ 34 rfl (w.heap.size + 1) 43 i0 (.agg #[.int .i64 0, .int .i64 0]) 2 16 Tryd.underlying34 HI.out HZ0.out HZ1.out HZ2.out rfl (by decide) _ L.length (rowQ L) rfl (O5.out.alloc _) ⟨w5.heap.size, 0, none⟩ 1 1 [.int .i64 (a : Int), .int .i64 (b : Int)] rfl rfl (fun j u hu => cells_new j u hu) (by simp [Value.oneCell']) (by unfold maxLen; omega) (by omega) (by simp; omega) ?_; intro v8 w8 hown8 hgrow8 _)
              have hb8 : Below (w.heap.size + 1) w5 w8 := ((Below.refl _ _).alloc (by omega) _).trans (own_below hgrow8 (by simp; omega) (fun k' hk' => (own_lt O5.out k' hk').1))
              have hO8 : OwnQ (w.heap.size + 1) w8 v8 (L ++ [((a : Int), (b : Int))]) := OwnQ.put hown8
              have HO8 := Lib.hid hO8
              have D8 := Lib.hid (D5.out.trans hb8)
              clear hown8 hgrow8 hb8 hO8
              go_wp2_with fail
              go_roundw
              case rel => exact ⟨b + 1, by omega, by omega, by go_num, Lib.hid (by rw [HS9.out, ← List.append_assoc, ← HLE.out]; exact HO8.out), D8⟩
              case measure => simp [intOf]; omega
          · obtain rfl : b = n := by omega
            have HEN := Lib.hid (show nearN g b a ++ nearB g a b = nearN g b (a + 1) from rfl)
            go_wp2_with fail
            go_roundw
            case rel => exact ⟨a + 1, by omega, by go_num, Lib.hid (by rw [← HEN.out]; exact HOB.out), DI⟩
            case measure => simp [intOf]; omega
      · obtain rfl : a = n := by omega
        have C9 := HB.out.trans (DO.out.mono (by omega))
        have O9 := HOA.out.from_ (show w.heap.size ≤ w.heap.size + 1 by omega)
        go_wp2_with fail
        go_ret
        exact ⟨_, rfl, by rw [HE.out]; exact O9, C9⟩
end Go.Proofs.YtlccmgdmfchmnaaDoor
