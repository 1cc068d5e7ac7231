/-
  The model's l9Next, l9Heels.
-/
import Derived.Test.YtbaebamiiigmlacGLm
import Derived.Test.YtbaebamiiigmlacLdS
import Derived.Test.YtbaebamiiigmlacWtS
import Derived.Laws.AppendOwnNone
import Derived.Deep.RegionHeld3
namespace Go.Proofs.Ytbaebamiiigmlac
open Go.RowKit
set_option linter.unusedVariables false

theorem nxS_no {h : Hl} {p : List Int} {s k : Nat} (hb : s.testBit k = true) : nxS h p s k = false := by
  cases hc : nxS h p s k
  · rfl
  · rw [(nxS_iff.1 hc).1] at hb; cases hb
theorem nxS_no2 {h : Hl} {p : List Int} {s k j : Nat} (hj : j < (fullS p).length) (he : (fAt p j : Int) = slBelow h (fAt p k)) (hb : s.testBit j = false) : nxS h p s k = false := by
  cases hc : nxS h p s k
  · rfl
  · rw [(nxS_iff.1 hc).2 j hj he] at hb; cases hb

set_option maxRecDepth 10000 in
set_option maxHeartbeats 2000000 in
theorem l9Next_any (h : Hl) (v : Value) (p : List Int) (s k : Nat) (w : World) (hv : HoldsI w v (fullI p)) (hk : k < (fullS p).length) (hm : (fullS p).length ≤ 36) :
    Calls Try.prog 64 #[.agg #[.int .i64 h.b, .int .i64 h.r, .int .i64 h.t], v, .int .i64 s, .int .i64 k] w fun e w' => e = .returned (.bool (nxS h p s k)) ∧ Below w.heap.size w w' := by
  have hb1 := (Below.refl w.heap.size w).alloc (Nat.le_refl _) (.cells #[.int .i64 h.b, .int .i64 h.r, .int .i64 h.t] 28)
  have hx1 := BoxH.new w h
  obtain ⟨W1, hW1⟩ : ∃ W1, W1 = w.alloc (.cells #[.int .i64 h.b, .int .i64 h.r, .int .i64 h.t] 28) := ⟨_, rfl⟩
  rw [← hW1] at hb1 hx1
  have HW := Lib.hid hW1
  have HB := Lib.hid hb1
  have y0 := hx1.c0
  have y1 := hx1.c1
  have y2 := hx1.c2
  have HX := Lib.hid fun (w' : World) (hs : Below W1.heap.size W1 w') => hx1.keep hs
  clear hW1 hb1 hx1
  have VK := Lib.hid fun (w' : World) (hs : Below w.heap.size w w') => hv.keep hs
  have hfl := fullI_len p
  have HFA := Lib.hid fun j (hj : j < (fullS p).length) => fullI_at hj
  have NO := Lib.hid fun hb => nxS_no (h := h) (p := p) (s := s) (k := k) hb
  have NO2 := Lib.hid fun j hj he hb => nxS_no2 (h := h) (p := p) (s := s) (k := k) (j := j) hj he hb
  have YES := Lib.hid fun hb ha => (nxS_iff (h := h) (p := p) (s := s) (k := k)).2 ⟨hb, ha⟩
  have HSB := Lib.hid fun (w' : World) => specSlotBelow_any h (fAt p k : Int) w'
  have hx0 := HFA.out k hk
  obtain ⟨oa, oc, rfl⟩ := hv.form
  obtain ⟨m, hm'⟩ : ∃ m, m = (fullS p).length := ⟨_, rfl⟩
  rw [← hm'] at hfl HFA NO2 YES hm hk
  rw [hfl] at VK ⊢
  obtain ⟨ob, oo, rfl, hobl, s0⟩ := (VK.out w (Below.refl _ _)).at_ hk
  rw [hx0] at s0
  have ik : (k : Int) < (m : Int) := by omega
  have i0k : (0 : Int) ≤ (k : Int) := by omega
  have ik64 : (k : Int) ≤ 64 := by omega
  have y := HX.out W1 (Below.refl _ _)
  have hob1 : ob < W1.heap.size := Nat.lt_of_lt_of_le hobl HB.out.size
  have s1 : W1.cell? ⟨ob, oo + k, none⟩ = some (.int .i64 (fAt p k : Int)) := (HB.out.cell (p := ⟨ob, oo + k, none⟩) hobl).trans s0
  generalize slBelow h (fAt p k : Int) = bl at HSB NO2 YES
  obtain ⟨x, hx⟩ : ∃ x, x = fAt p k := ⟨_, rfl⟩
  rw [← hx] at s1 HSB
  have HK := Lib.hid fun (w' : World) (hs : Since W1 w') => (show w'.cell? ⟨w.heap.size, 0, none⟩ = some (.int .i64 h.b) ∧ w'.cell? ⟨w.heap.size, 1, none⟩ = some (.int .i64 h.r) ∧ w'.cell? ⟨w.heap.size, 2, none⟩ = some (.int .i64 h.t) ∧ w'.cell? ⟨ob, oo + k, none⟩ = some (.int .i64 (x : Int)) ∧ Since W1 w' from ⟨(y.keep hs).c0, (y.keep hs).c1, (y.keep hs).c2, (Below.cell hs (p := ⟨ob, oo + k, none⟩) hob1).trans s1, hs⟩)
  have hstart := HK.out _ (show Since W1 W1.drew from (Below.refl _ _).drew)
  obtain ⟨res, hres⟩ : ∃ res, res = nxS h p s k := ⟨_, rfl⟩
  rw [← hres] at NO NO2 YES ⊢
  have bv := bit_val s k
  have bv2 := bit_val2 s k
  clear hv hm' hfl hx0 hx s0 s1 y y0 y1 y2 hres
  cases hb : s.testBit k
  · rw [hb] at bv bv2
    have YES := Lib.hid (YES.out hb)
    rw [if_neg (by simp)] at bv bv2
    clear hb
    go_enter Try.func64, Try.ntmps64
    go_wp2_with fail
    rw [← HW.out]
    go_region_held3 (fun w' => w'.cell? ⟨w.heap.size, 0, none⟩ = some (.int .i64 h.b) ∧ w'.cell? ⟨w.heap.size, 1, none⟩ = some (.int .i64 h.r) ∧ w'.cell? ⟨w.heap.size, 2, none⟩ = some (.int .i64 h.t) ∧ w'.cell? ⟨ob, oo + k, none⟩ = some (.int .i64 (x : Int)) ∧ Since W1 w')
      (first | exact hstart | exact HK.out _ s5 | exact HK.out _ (by exact (‹_ ∧ _› : _ ∧ _ ∧ _ ∧ _ ∧ Since W1 _).2.2.2.2) | fail)
      (first
        | (go_at_call 80; ((with_reducible refine (HSB.out _).mono ?_); rintro e w5 ⟨rfl, d5⟩; have s5 : Since W1 w5 := Since.call (by exact (‹_ ∧ _› : _ ∧ _ ∧ _ ∧ _ ∧ Since W1 _).2.2.2.2) d5; clear d5))
        | fail)
    rename_i hheld
    have DR := Lib.hid (show Below W1.heap.size W1 _ from hheld.2.2.2.2)
    clear hheld hstart
    go_wp2_with fail
    go_loopw [10] (fun i wr => ∃ j : Nat, j ≤ m ∧ i = .int .i64 j ∧ Hid (∀ i, i < j → (fAt p i : Int) = bl → s.testBit i = true) ∧ Hid (Below W1.heap.size W1 wr)) (fun i _ => m - (intOf i).toNat)
    case atStart => exact ⟨0, by omega, rfl, Lib.hid fun j hj => by omega, DR⟩
    case round =>
      clear DR bv bv2 ik i0k ik64
      obtain ⟨j, hjm, rfl, HA, DR⟩ := hrel
      have BR := Lib.hid (HB.out.trans (DR.out.mono HB.out.size))
      by_cases hlt : j < m
      · obtain ⟨ob', oo', e', hobl', t0⟩ := (VK.out wr BR.out).at_ hlt
        obtain ⟨rfl, rfl⟩ : ob = ob' ∧ oo = oo' := by simpa using e'
        rw [HFA.out j hlt] at t0
        have ij : (j : Int) < (m : Int) := by omega
        have i0j : (0 : Int) ≤ (j : Int) := by omega
        have ij64 : (j : Int) ≤ 64 := by omega
        have NOj := Lib.hid (NO2.out j hlt)
        have bv := bit_val s j
        have bv2 := bit_val2 s j
        have HAJ := Lib.hid fun (hc : (fAt p j : Int) = bl → s.testBit j = true) => (show ∀ i, i < j + 1 → (fAt p i : Int) = bl → s.testBit i = true from fun i hi => by
          by_cases e : i = j
          · subst e; exact hc
          · exact HA.out i (by omega))
        obtain ⟨z, hz⟩ : ∃ z : Int, z = (fAt p j : Int) := ⟨_, rfl⟩
        rw [← hz] at t0 NOj HAJ
        clear hz e'
        by_cases he : z = bl
        · have hbe : (z == bl) = true := by simpa using he
          cases hbj : s.testBit j
          · have hr := Lib.hid (NOj.out he hbj)
            rw [hbj, if_neg (by simp)] at bv bv2
            have C9 := BR.out
            clear hbj he
            go_wp2_with fail
            go_ret
            exact ⟨by rw [hr.out]; rfl, C9⟩
          · rw [hbj, if_pos rfl] at bv bv2
            have hnx := Lib.hid (HAJ.out fun _ => hbj)
            clear hbj he
            go_wp2_with fail
            go_roundw
            case rel => exact ⟨j + 1, by omega, by go_num, hnx, DR⟩
            case measure => simp [intOf]; omega
        · have hbe : (z == bl) = false := by simpa using he
          have hnx := Lib.hid (HAJ.out fun hc => absurd hc he)
          clear he
          go_wp2_with fail
          go_roundw
          case rel => exact ⟨j + 1, by omega, by go_num, hnx, DR⟩
          case measure => simp [intOf]; omega
      · obtain rfl : j = m := by omega
        have hr := Lib.hid (YES.out fun i hi he => HA.out i hi he)
        have C9 := BR.out
        go_wp2_with fail
        go_ret
        exact ⟨by rw [hr.out]; rfl, C9⟩
  · have hr := Lib.hid (NO.out hb)
    rw [hb, if_pos rfl] at bv bv2
    clear hb
    go_enter Try.func64, Try.ntmps64
    go_wp2_with fail
    rw [← HW.out]
    go_region_held3 (fun w' => w'.cell? ⟨w.heap.size, 0, none⟩ = some (.int .i64 h.b) ∧ w'.cell? ⟨w.heap.size, 1, none⟩ = some (.int .i64 h.r) ∧ w'.cell? ⟨w.heap.size, 2, none⟩ = some (.int .i64 h.t) ∧ w'.cell? ⟨ob, oo + k, none⟩ = some (.int .i64 (x : Int)) ∧ Since W1 w')
      (first | exact hstart | exact HK.out _ s5 | exact HK.out _ (by exact (‹_ ∧ _› : _ ∧ _ ∧ _ ∧ _ ∧ Since W1 _).2.2.2.2) | fail)
      (first
        | (go_at_call 80; ((with_reducible refine (HSB.out _).mono ?_); rintro e w5 ⟨rfl, d5⟩; have s5 : Since W1 w5 := Since.call (by exact (‹_ ∧ _› : _ ∧ _ ∧ _ ∧ _ ∧ Since W1 _).2.2.2.2) d5; clear d5))
        | fail)
    rename_i hheld
    have DR := Lib.hid (show Below W1.heap.size W1 _ from hheld.2.2.2.2)
    clear hheld hstart
    have C9 := HB.out.trans (DR.out.mono HB.out.size)
    go_wp2_with fail
    go_ret
    exact ⟨by rw [hr.out]; rfl, C9⟩

end Go.Proofs.Ytbaebamiiigmlac
