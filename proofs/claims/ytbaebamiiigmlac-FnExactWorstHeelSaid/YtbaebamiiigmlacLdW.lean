/-
  The model's WorstHeel.
-/
import Derived.Test.YtbaebamiiigmlacLdV
import Derived.Test.YtbaebamiiigmlacWtS
import Derived.Deep.RegionHeld3
namespace Go.Proofs.Ytbaebamiiigmlac
open Go.RowKit
set_option linter.unusedVariables false

set_option maxRecDepth 10000 in
set_option maxHeartbeats 8000000 in
theorem specWorstHeel_any (h : Hl) (u v vo : Value) (l : List Bx) (p os : List Int) (w : World) (hb : HoldsBx w u l) (hp : HoldsI w v p) (ho : HoldsI w vo os) :
    Calls Try.prog 25 #[.agg #[.int .i64 h.b, .int .i64 h.r, .int .i64 h.t], u, v, vo] w fun e w' => e = .returned (.int .i64 (worstH h l p os)) ∧ Below w.heap.size w w' := by
  have hb1 := (Below.refl w.heap.size w).alloc (Nat.le_refl _) (.cells #[.int .i64 h.b, .int .i64 h.r, .int .i64 h.t] 28)
  have hx1 := BoxH.new w h
  obtain ⟨W1, hW1⟩ : ∃ W1, W1 = w.alloc (.cells #[.int .i64 h.b, .int .i64 h.r, .int .i64 h.t] 28) := ⟨_, rfl⟩
  rw [← hW1] at hb1 hx1
  have HW := Lib.hid hW1
  have HB := Lib.hid hb1
  have y0 := hx1.c0
  have y1 := hx1.c1
  have y2 := hx1.c2
  have HX := Lib.hid fun (w' : World) (hs : Below W1.heap.size W1 w') => hx1.keep hs
  have hs1 : W1.heap.size = w.heap.size + 1 := by rw [hW1]; simp
  clear hW1 hb1 hx1
  have PK := Lib.hid fun (w' : World) (hs : Below w.heap.size w w') => hp.keep hs
  have BK := Lib.hid fun (w' : World) (hs : Below w.heap.size w w') => hb.keep hs
  have OK := Lib.hid fun (w' : World) (hs : Below w.heap.size w w') => ho.keep hs
  have HLO := Lib.hid fun (w' : World) (hs : Below w.heap.size w w') => specLoadOk_any h u v vo l p os w' (hb.keep hs) (hp.keep hs) (ho.keep hs)
  obtain ⟨oa, oc, rfl⟩ := ho.form
  have hoc : os.length ≤ oc ∧ oc ≤ 9223372036854775807 := by
    obtain ⟨a', c', e, q1, q2, _⟩ := ho
    simp only [Value.slice.injEq] at e
    obtain ⟨-, -, rfl⟩ := e
    unfold maxLen at q2
    omega
  cases hok : ldOk h (bxsOk l) (bxIds l) p os
  · have HE := Lib.hid (show worstH h l p os = -1 from by unfold worstH; rw [hok]; rfl)
    rw [hok] at HLO
    clear hok hb hp ho
    go_enter Try.func25, Try.ntmps25
    go_wp2_with fail
    rw [← HW.out]
    go_wp2_with fail
    refine (HLO.out _ HB.out).mono ?_
    rintro e w2 ⟨rfl, b2⟩
    go_wp2_with fail
    go_ret
    exact ⟨by rw [HE.out]; rfl, HB.out.trans (b2.mono HB.out.size)⟩
  · have HE := Lib.hid (show worstH h l p os = worstN h l p os os.length from by unfold worstH; rw [if_pos hok])
    have hpk := (ldOk_iff.1 hok).1
    have hlen : os.length ≤ 36 := by
      have h1 := (ldOk_iff.1 hok).2.1
      have h2 := fullS_le p
      have h3 := pl_len hpk
      omega
    have HNB := Lib.hid fun n hn => hN_bd hok n hn
    have HWB := Lib.hid fun n hn => worstN_bd hok n hn
    have HNX := Lib.hid fun n => (show hN h l p os (n + 1) = hN h l p os n + wBx l (pAt p (os.getD n 0).toNat) * heelC h (os.getD n 0).toNat from rfl)
    have HWX := Lib.hid fun n => (show worstN h l p os (n + 1) = max (max (worstN h l p os n) (hN h l p os (n + 1))) (-(hN h l p os (n + 1))) from rfl)
    have HG := Lib.hid fun k (hk : k < os.length) => ((ldOk_iff.1 hok).2.2 k hk).1
    have HGZ := Lib.hid fun k (hk : k < os.length) => (show (os.getD k 0).toNat < p.length from by have := ((ldOk_iff.1 hok).2.2 k hk).1; omega)
    have HW8 := Lib.hid fun j (hl : j < p.length) (w' : World) (hs : Below w.heap.size w w') => specWeight_any u v l p j w' (hb.keep hs) (hp.keep hs) hl (fun hz => pl_find hpk hl hz)
    have HH8 := Lib.hid fun j (hl : j < p.length) (w' : World) => specHeel_any h j w' (plOk_iff.1 hpk).1 (by have := (plOk_iff.1 hpk).2.2.1; omega)
    have HMB := Lib.hid fun j (hl : j < p.length) => mulW_bd (wBx_bd hpk hl) (heelC_bd (plOk_iff.1 hpk).1 (plOk_iff.1 hpk).2.2.1 hl)
    rw [hok] at HLO
    obtain ⟨N, hN'⟩ : ∃ N, N = os.length := ⟨_, rfl⟩
    have hz0 : hN h l p os 0 = 0 := rfl
    have hz1 : worstN h l p os 0 = 0 := rfl
    rw [← hN'] at HLO HE hlen HNB HWB HG HGZ OK hoc ⊢
    generalize hgs : hN h l p os = s at HNB HNX HWX hz0
    generalize hgt : worstN h l p os = t at HE HWB HWX hz1
    clear hok hpk hb hp ho hN' hgs hgt
    go_enter Try.func25, Try.ntmps25
    go_wp2_with fail
    rw [← HW.out]
    go_wp2_with fail
    refine (HLO.out _ HB.out).mono ?_
    rintro e w2 ⟨rfl, b2⟩
    have D2 := Lib.hid b2
    clear b2 y0 y1 y2 HLO
    go_wp2_with fail
    go_loopw [9, 10, 11] (fun sm wm i wr => ∃ k : Nat, k ≤ N ∧ sm = .int .i64 (s k) ∧ wm = .int .i64 (t k) ∧ i = .int .i64 k ∧ Hid (Below W1.heap.size W1 wr)) (fun _ _ i _ => N - (intOf i).toNat)
    case atStart => exact ⟨0, by omega, by rw [hz0], by rw [hz1], rfl, D2⟩
    case round =>
      clear D2 hz0 hz1
      obtain ⟨k, hkn, rfl, rfl, rfl, DR⟩ := hrel
      have BR := Lib.hid (HB.out.trans (DR.out.mono HB.out.size))
      by_cases hlt : k < N
      · obtain ⟨ob, oo, rfl, hobl, s0⟩ := (OK.out wr BR.out).at_ hlt
        have ik : (k : Int) < (N : Int) := by omega
        have i0k : (0 : Int) ≤ (k : Int) := by omega
        have hg := HG.out k hlt
        have hgz := HGZ.out k hlt
        have hnk := HNX.out k
        have hwk := HWX.out k
        have hb0 := HNB.out k (by omega)
        have hb1 := HNB.out (k + 1) (by omega)
        have hb2 := HWB.out (k + 1) (by omega)
        obtain ⟨j, hj⟩ : ∃ j : Nat, j = (os.getD k 0).toNat := ⟨_, rfl⟩
        have hx : os.getD k 0 = (j : Int) := by omega
        rw [← hj] at hnk hgz
        rw [hx] at s0
        have hm1 := HMB.out j hgz
        have hpr : IntKind.i64.wrap (wBx l (pAt p j) * heelC h j) = wBx l (pAt p j) * heelC h j := IntWalk.i64_in _ (by omega)
        have hsum : IntKind.i64.wrap (s k + wBx l (pAt p j) * heelC h j) = s (k + 1) := by
          rw [hnk, IntWalk.i64_in _ (by omega)]
        have hneg : IntKind.i64.wrap (-(s (k + 1))) = -(s (k + 1)) := IntWalk.i64_in _ (by omega)
        have HWk := Lib.hid fun (w' : World) (hs : Since wr w') => HW8.out j hgz w' (BR.out.trans (Below.mono hs BR.out.size))
        have HHk := Lib.hid (HH8.out j hgz)
        have y := HX.out wr DR.out
        have hobr : ob < wr.heap.size := hobl
        have HK := Lib.hid fun (w' : World) (hs : Since wr w') => (show w'.cell? ⟨w.heap.size, 0, none⟩ = some (.int .i64 h.b) ∧ w'.cell? ⟨w.heap.size, 1, none⟩ = some (.int .i64 h.r) ∧ w'.cell? ⟨w.heap.size, 2, none⟩ = some (.int .i64 h.t) ∧ w'.cell? ⟨ob, oo + k, none⟩ = some (.int .i64 (j : Int)) ∧ Since wr w' from ⟨(y.keep hs).c0, (y.keep hs).c1, (y.keep hs).c2, (Below.cell hs (p := ⟨ob, oo + k, none⟩) hobr).trans s0, hs⟩)
        have hstart := HK.out _ (show Since wr wr.drew from (Below.refl _ _).drew)
        generalize wBx l (pAt p j) = b at HWk hsum hpr
        generalize heelC h j = c at HHk hsum hpr
        generalize s k = a0 at hsum
        generalize hgq : s (k + 1) = q at hsum hneg hwk
        have HQ := Lib.hid hgq
        generalize t k = m0 at hwk
        have HTQ := Lib.hid hwk
        have i0j : (0 : Int) ≤ (j : Int) := by omega
        clear hnk hwk hb0 hb1 hb2 hg hgz hj hx hm1 y s0 hgq
        go_wp2_with fail
        go_region_held3 (fun w' => w'.cell? ⟨w.heap.size, 0, none⟩ = some (.int .i64 h.b) ∧ w'.cell? ⟨w.heap.size, 1, none⟩ = some (.int .i64 h.r) ∧ w'.cell? ⟨w.heap.size, 2, none⟩ = some (.int .i64 h.t) ∧ w'.cell? ⟨ob, oo + k, none⟩ = some (.int .i64 (j : Int)) ∧ Since wr w')
          (first | exact hstart | exact HK.out _ s5 | exact HK.out _ (by exact (‹_ ∧ _› : _ ∧ _ ∧ _ ∧ _ ∧ Since wr _).2.2.2.2) | fail)
          (first
            | (go_at_call 55; ((with_reducible refine (HWk.out _ (by exact (‹_ ∧ _› : _ ∧ _ ∧ _ ∧ _ ∧ Since wr _).2.2.2.2)).mono ?_); rintro e w4 ⟨rfl, rfl⟩))
            | (go_at_call 56; ((with_reducible refine (HHk.out _).mono ?_); rintro e w5 ⟨rfl, d5⟩; have s5 : Since wr w5 := Since.call (by exact (‹_ ∧ _› : _ ∧ _ ∧ _ ∧ _ ∧ Since wr _).2.2.2.2) d5; clear d5))
            | fail)
        rename_i hheld
        have hx9 := Lib.hid (DR.out.trans (Below.mono hheld.2.2.2.2 DR.out.size))
        clear hheld hstart
        obtain ⟨mq, hmq⟩ : ∃ mq, mq = max (max m0 q) (-q) := ⟨_, rfl⟩
        rw [← hmq] at HTQ
        have hmax : (if -q > (if q > m0 then q else m0) then -q else (if q > m0 then q else m0)) = mq := by
          rw [hmq]; split <;> split <;> omega
        have hmax2 : (if (if m0 < q then q else m0) < -q then -q else (if m0 < q then q else m0)) = mq := by
          rw [hmq]; split <;> split <;> omega
        clear hmq
        have hmx : ∀ W : World, Sem.run Try.prog (Builtin.max_ #[3, 3, 3] 3 #[.int .i64 m0, .int .i64 q, .int .i64 (-q)]) W = .ok (.int .i64 mq) W := fun W => by
          rw [← hmax]
          simp [Builtin.max_, Builtin.max2, List.foldlM, Sem.run_pure]
        clear hmax hmax2
        go_wp2_with fail
        go_roundw
        case rel => exact ⟨k + 1, by omega, by rw [HQ.out], by rw [HTQ.out], by go_num, hx9⟩
        case measure => simp [intOf]; omega
      · obtain rfl : k = N := by omega
        have C9 := BR.out
        go_wp2_with fail
        go_ret
        exact ⟨by rw [HE.out]; rfl, C9⟩
end Go.Proofs.Ytbaebamiiigmlac
