/-
  The laws' loaded: what is loaded behind the first ones of an order.
-/
import Derived.Test.YtbaebamiiigmlabGLm
import Derived.Test.YtbaebamiiigmlabPlI
import Derived.Test.YtbaebamiiigmlabGBase
import Derived.Deep.RegionHeld3
namespace Go.Proofs.Ytbaebamiiigmlab
open Go.RowKit
set_option linter.unusedVariables false

theorem emptyP_restr {h : Hl} {bok : Bool} {ids p os : List Int} (hk : plOk h bok ids p = true) : emptyP h = restr p (slotsN os 0) := by
  have e : slotsN os 0 = [] := rfl
  have hn := (plOk_iff.1 hk).2.2.1
  unfold emptyP
  rw [if_pos (plOk_iff.1 hk).1, e, restr_none, ← hn]
  rfl
theorem take_getD {os : List Int} {n k : Nat} (hk : k < n) : (os.take n).getD k 0 = os.getD k 0 := by
  rw [List.getD_eq_getElem?_getD, List.getElem?_take, if_pos hk, List.getD_eq_getElem?_getD]

set_option maxRecDepth 10000 in
set_option maxHeartbeats 4000000 in
theorem loaded_any (h : Hl) (u v vo : Value) (l : List Bx) (p os : List Int) (n : Nat) (w : World) (hb : HoldsBx w u l) (hp : HoldsI w v p) (ho : HoldsI w vo (os.take n)) (hld : ldOk h (bxsOk l) (bxIds l) p os = true) (hn : n ≤ os.length) :
    Calls Try.prog 44 #[.agg #[.int .i64 h.b, .int .i64 h.r, .int .i64 h.t], u, v, vo] w fun e w' => ∃ v', e = .returned (.tuple #[v', .bool true]) ∧ FreeE w.heap.size w' v' (restr p (slotsN os n)) ∧ Below w.heap.size w w' := by
  have hb1 := (Below.refl w.heap.size w).alloc (Nat.le_refl _) (.cells #[.int .i64 h.b, .int .i64 h.r, .int .i64 h.t] 24)
  have hx1 := BoxH.new w h
  obtain ⟨W1, hW1⟩ : ∃ W1, W1 = w.alloc (.cells #[.int .i64 h.b, .int .i64 h.r, .int .i64 h.t] 24) := ⟨_, rfl⟩
  rw [← hW1] at hb1 hx1
  have HW := Lib.hid hW1
  have HB := Lib.hid hb1
  have y0 := hx1.c0
  have y1 := hx1.c1
  have y2 := hx1.c2
  have HX := Lib.hid fun (w' : World) (hs : Below W1.heap.size W1 w') => hx1.keep hs
  clear hW1 hb1 hx1
  have PK := Lib.hid fun (w' : World) (hs : Below w.heap.size w w') => hp.keep hs
  have OK := Lib.hid fun (w' : World) (hs : Below w.heap.size w w') => ho.keep hs
  have hpk := (ldOk_iff.1 hld).1
  have HPE := Lib.hid (implPlanEmpty_any h W1)
  rw [emptyP_restr (os := os) hpk] at HPE
  have HG := Lib.hid fun k (hk : k < os.length) => (ldOk_iff.1 hld).2.2 k hk
  have HPP := Lib.hid fun va k (hk : k < os.length) (w' : World) (hs : Below w.heap.size w w') (hq : HoldsI w' va (restr p (slotsN os k))) => (show Calls Try.prog 87 #[.agg #[.int .i64 h.b, .int .i64 h.r, .int .i64 h.t], u, va, .int .i64 (os.getD k 0), .int .i64 (pAt p (os.getD k 0).toNat)] w' fun e w2 => ∃ v', e = .returned (.tuple #[v', .bool true]) ∧ FreeE w'.heap.size w2 v' (restr p (slotsN os (k + 1))) ∧ Below w'.heap.size w' w2 from by
    have := implPlanPut_any h u va l (restr p (slotsN os k)) (os.getD k 0) (pAt p (os.getD k 0).toNat) w' (hb.keep hs) hq
    rw [(ld_step hld hk).1] at this
    exact this)
  have hlo : (os.take n).length = n := by rw [List.length_take]; omega
  have hnm : n ≤ 9223372036854775807 := by obtain ⟨a', c', e, q1, q2, _⟩ := ho; unfold maxLen at q2; rw [hlo] at q1; omega
  have HTG := Lib.hid fun k (hk : k < n) => take_getD (os := os) hk
  obtain ⟨oa, oc, rfl⟩ := ho.form
  obtain ⟨pa, pc, rfl⟩ := hp.form
  rw [hlo] at OK ⊢
  have hp40 : p.length ≤ 9223372036854775807 := by obtain ⟨a', c', e, q1, q2, _⟩ := hp; unfold maxLen at q2; omega
  obtain ⟨N, hN⟩ : ∃ N, N = p.length := ⟨_, rfl⟩
  have HN := Lib.hid hN
  rw [← hN] at PK hp40 ⊢
  clear hb hp ho hld hpk hlo hN
  go_enter Try.func44, Try.ntmps44
  go_wp2_with fail
  rw [← HW.out]
  go_wp2_with fail
  refine HPE.out.mono ?_
  rintro e w2 ⟨v2, rfl, F2, b2⟩
  have F2 := Lib.hid F2
  have D2 := Lib.hid b2
  clear b2 y0 y1 y2 HPE
  go_wp2_with fail
  go_loopw [10, 11] (fun va i wr => ∃ k : Nat, k ≤ n ∧ i = .int .i64 k ∧ Hid (FreeE W1.heap.size wr va (restr p (slotsN os k))) ∧ Hid (Below W1.heap.size W1 wr)) (fun _ i _ => n - (intOf i).toNat)
  case atStart => exact ⟨0, by omega, rfl, F2, D2⟩
  case round =>
    clear F2 D2
    obtain ⟨k, hkn, rfl, FR, DR⟩ := hrel
    have BR := Lib.hid (HB.out.trans (DR.out.mono HB.out.size))
    by_cases hlt : k < n
    · obtain ⟨ob, oo, rfl, hobl, s0⟩ := (OK.out wr BR.out).at_ hlt
      rw [HTG.out k hlt] at s0
      obtain ⟨g1, g2, _, _⟩ := HG.out k (by omega)
      have ik : (k : Int) < (n : Int) := by omega
      have i0k : (0 : Int) ≤ (k : Int) := by omega
      have fr := FR.out
      have frh := fr.holds
      obtain ⟨fa, fc, hfe⟩ := frh.form
      have HPk := Lib.hid fun (w' : World) (hs : Since wr w') => HPP.out _ k (by omega) w' (BR.out.trans (Below.mono hs BR.out.size)) (frh.keep hs)
      obtain ⟨j, hj⟩ : ∃ j : Nat, os.getD k 0 = (j : Int) := ⟨(os.getD k 0).toNat, by omega⟩
      rw [hj] at s0 HPk g1
      rw [Int.toNat_natCast] at HPk
      have hjN : j < N := by have := HN.out; omega
      obtain ⟨pb, po, rfl, hpbl, t0⟩ := (PK.out wr BR.out).at_ hjN
      have e1 : p.getD j 0 = pAt p j := rfl
      rw [e1] at t0
      generalize pAt p j = y at t0 HPk
      have ij : (j : Int) < (N : Int) := by omega
      have i0j : (0 : Int) ≤ (j : Int) := by omega
      have yh := HX.out wr DR.out
      have HK := Lib.hid fun (w' : World) (hs : Since wr w') => (show w'.cell? ⟨w.heap.size, 0, none⟩ = some (.int .i64 h.b) ∧ w'.cell? ⟨w.heap.size, 1, none⟩ = some (.int .i64 h.r) ∧ w'.cell? ⟨w.heap.size, 2, none⟩ = some (.int .i64 h.t) ∧ w'.cell? ⟨ob, oo + k, none⟩ = some (.int .i64 (j : Int)) ∧ w'.cell? ⟨pb, po + j, none⟩ = some (.int .i64 y) ∧ Since wr w' from ⟨(yh.keep hs).c0, (yh.keep hs).c1, (yh.keep hs).c2, (Below.cell hs (p := ⟨ob, oo + k, none⟩) hobl).trans s0, (Below.cell hs (p := ⟨pb, po + j, none⟩) hpbl).trans t0, hs⟩)
      have hstart := HK.out _ (show Since wr wr.drew from (Below.refl _ _).drew)
      have hw1 := DR.out.size
      have c0 := yh.c0
      clear e1 hj g1 g2 t0 yh fr frh hfe c0
      go_wp2_with fail
      clear s0
      go_region_held3 (fun w' => w'.cell? ⟨w.heap.size, 0, none⟩ = some (.int .i64 h.b) ∧ w'.cell? ⟨w.heap.size, 1, none⟩ = some (.int .i64 h.r) ∧ w'.cell? ⟨w.heap.size, 2, none⟩ = some (.int .i64 h.t) ∧ w'.cell? ⟨ob, oo + k, none⟩ = some (.int .i64 (j : Int)) ∧ w'.cell? ⟨pb, po + j, none⟩ = some (.int .i64 y) ∧ Since wr w')
        (first | exact hstart | exact HK.out _ s5 | exact HK.out _ (by exact (‹_ ∧ _› : _ ∧ _ ∧ _ ∧ _ ∧ _ ∧ Since wr _).2.2.2.2.2) | fail)
        (first
          | (go_at_call 87; ((with_reducible refine (HPk.out _ (by exact (‹_ ∧ _› : _ ∧ _ ∧ _ ∧ _ ∧ _ ∧ Since wr _).2.2.2.2.2)).mono ?_); rintro e w5 ⟨v5, rfl, f5, d5⟩; have s5 : Since wr w5 := Since.call (by exact (‹_ ∧ _› : _ ∧ _ ∧ _ ∧ _ ∧ _ ∧ Since wr _).2.2.2.2.2) d5; have F5 := Lib.hid f5; have hz5 := Lib.hid (show wr.heap.size ≤ _ from (show Since wr _ from (by exact (‹_ ∧ _› : _ ∧ _ ∧ _ ∧ _ ∧ _ ∧ Since wr _).2.2.2.2.2)).size); clear d5 f5))
          | fail)
      rename_i hheld
      have hx9 := Lib.hid (DR.out.trans (Below.mono hheld.2.2.2.2.2 DR.out.size))
      have F9 := Lib.hid (F5.out.from_ (Nat.le_trans hw1 hz5.out))
      clear hheld hstart
      go_wp2_with fail
      go_roundw
      case rel => exact ⟨k + 1, by omega, by go_num, F9, hx9⟩
      case measure => simp [intOf]; omega
    · obtain rfl : k = n := by omega
      have C9 := BR.out
      have F9 := FR.out.from_ HB.out.size
      go_wp2_with fail
      go_ret2
      exact ⟨_, rfl, F9, C9⟩
end Go.Proofs.Ytbaebamiiigmlab
