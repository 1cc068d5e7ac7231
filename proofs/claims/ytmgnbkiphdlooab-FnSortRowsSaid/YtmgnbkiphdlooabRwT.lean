/-
  The model's chapter 13, second part: SortRows.
-/
import Derived.Test.YtmgnbkiphdlooabRwS
import Derived.Test.YtmgnbkiphdlooabGPl
import Derived.Laws.AppendOwnNone
import Derived.BigQuiet
import Derived.Deep.QuietTactic
namespace Go.Proofs.Ytmgnbkiphdlooab
open Go.RowKit
set_option linter.unusedVariables false

set_option maxRecDepth 10000 in
set_option maxHeartbeats 8000000 in
theorem specSortRows_any (h : Hl) (u v : Value) (l : List Bx) (p : List Int) (w : World) (hb : HoldsBx w u l) (hp : HoldsI w v p) :
    Calls Try.prog 29 #[.agg #[.int .i64 h.b, .int .i64 h.r, .int .i64 h.t], u, v] w fun e w' => ∃ v', e = .returned v' ∧ OwnI w.heap.size w' v' (sortO h l p) ∧ Below w.heap.size w w' := by
  have hb1 := (Below.refl w.heap.size w).alloc (Nat.le_refl _) (.cells #[.int .i64 h.b, .int .i64 h.r, .int .i64 h.t] 24)
  have hx1 := BoxH.new w h
  obtain ⟨W1, hW1⟩ : ∃ W1, W1 = w.alloc (.cells #[.int .i64 h.b, .int .i64 h.r, .int .i64 h.t] 24) := ⟨_, rfl⟩
  rw [← hW1] at hb1 hx1
  have HW := Lib.hid hW1
  have HB := Lib.hid hb1
  have y0 := hx1.c0
  have y1 := hx1.c1
  have y2 := hx1.c2
  have HX := Lib.hid fun (w' : World) (hs : Below W1.heap.size W1 w') => hx1.keep hs
  have hs1 : W1.heap.size = w.heap.size + 1 := by rw [hW1]; simp
  clear hW1 hb1 hx1
  have PK := Lib.hid fun (w' : World) (hs : Below w.heap.size w w') => hp.keep hs
  have HPV := Lib.hid fun (w' : World) (hs : Below w.heap.size w w') => specPlanValid_any h u v l p w' (hb.keep hs) (hp.keep hs)
  obtain ⟨i0, hi, hz0, hz1, hz2⟩ := info_parts infoInt
  have HI := Lib.hid hi
  have HZ0 := Lib.hid hz0
  have HZ1 := Lib.hid hz1
  have HZ2 := Lib.hid hz2
  clear hi hz0 hz1 hz2
  cases hok : plOk h (bxsOk l) (bxIds l) p
  · have HE := Lib.hid (show sortO h l p = [] from by unfold sortO; rw [hok]; rfl)
    rw [hok] at HPV
    clear hok hb hp
    go_enter Try.func29, Try.ntmps29
    go_wp2_with fail
    rw [← HW.out]
    go_wp2_with fail
    refine (HPV.out _ HB.out).mono ?_
    rintro e w2 ⟨rfl, b2⟩
    have C2 := HB.out.trans (b2.mono HB.out.size)
    go_wp2_with fail
    go_ret
    exact ⟨_, rfl, by rw [HE.out]; exact OwnI.zero C2.size, C2.alloc C2.size _⟩
  · obtain ⟨R, q1, q2, q3⟩ := rows_pl hok
    obtain ⟨T, hTe⟩ : ∃ T : Nat, T = h.t.toNat := ⟨_, rfl⟩
    rw [← hTe] at q1 q2 q3
    have hlen := pl_len hok
    have hTT : h.t = (T : Int) := q1.symm
    have hT3 : T ≤ 3 := hull_t3 hok q1
    have HE := Lib.hid (show sortO h l p = sortS T (wBx l) p T from by unfold sortO; rw [if_pos hok, ← hTe])
    have HSB := Lib.hid fun (k : Nat) (w' : World) => specSlotBelow_any h (k : Int) w'
    have HSV := Lib.hid fun (k : Nat) (hl : k < p.length) => (show slBelow h (k : Int) = if (k : Int) % (T : Int) = 0 then -1 else (k : Int) - 1 from by rw [← hTT]; exact slBelow_val (plOk_iff.1 hok).1 (by omega) (by have := (plOk_iff.1 hok).2.2.1; omega))
    have HPK := Lib.hid fun s k (hk : k ≤ p.length) => pass_ok (w := wBx l) (T := T) q1 (sortN_ok (w := wBx l) (T := T) q1 hok s) k (by rw [sortS_len]; exact hk)
    have HLN := Lib.hid fun s k => (show (passS T (wBx l) (sortS T (wBx l) p s) k).length = p.length from by rw [passS_len, sortS_len])
    have HW8 := Lib.hid fun (c : List Int) (hc : plOk h (bxsOk l) (bxIds l) c = true) (v' : Value) (k : Nat) (hl : k < c.length) (w' : World) (hs : Below w.heap.size w w') (hq : HoldsI w' v' c) => specWeight_any u v' l c k w' (hb.keep hs) hq hl (fun hz => pl_find hc hl hz)
    have HEND := Lib.hid fun s => (show passS T (wBx l) (sortS T (wBx l) p s) p.length = sortS T (wBx l) p (s + 1) from rfl)
    have HST := Lib.hid fun s => (show passS T (wBx l) (sortS T (wBx l) p s) 0 = sortS T (wBx l) p s from rfl)
    have HNX := Lib.hid fun c k => (show stepS T (wBx l) k c = if lightS T (wBx l) c k = true then swapP c k else c from rfl)
    have HPS := Lib.hid fun s k => (show passS T (wBx l) (sortS T (wBx l) p s) (k + 1) = stepS T (wBx l) k (passS T (wBx l) (sortS T (wBx l) p s) k) from rfl)
    have HLT := Lib.hid fun c k => (show lightS T (wBx l) c k = decide (k % T ≠ 0 ∧ pAt c k ≠ 0 ∧ wBx l (pAt c (k - 1)) < wBx l (pAt c k)) from rfl)
    rw [hok] at HPV
    obtain ⟨pb, po, pc, rfl, hpb⟩ : ∃ pb po pc, v = .slice (some ⟨pb, po, none⟩) p.length pc ∧ p.length ≤ pc ∧ pc ≤ 9223372036854775807 := by
      obtain ⟨pa, pc, e⟩ := hp.form
      subst e
      obtain ⟨b, off, e2, _⟩ := hp.at_ (k := 0) (by omega)
      subst e2
      obtain ⟨a', c', e, w1, w2, _⟩ := hp
      simp only [Value.slice.injEq] at e
      obtain ⟨-, -, rfl⟩ := e
      unfold maxLen at w2
      exact ⟨b, off, pc, rfl, w1, by omega⟩
    have NEWS := Lib.hid fun (w' : World) (hs : Below w.heap.size w w') => HoldsI.rowA (hp.keep hs)
    have hz0 : sortS T (wBx l) p 0 = p := rfl
    obtain ⟨n, hn⟩ : ∃ n, n = p.length := ⟨_, rfl⟩
    have HNN := Lib.hid hn
    rw [← hn] at HPV HSV HPK HLN HEND hlen hpb q3 ⊢
    generalize wBx l = wt at HE HPK HLN HW8 HEND HST HNX HPS HLT hz0
    have HTT := Lib.hid hTT
    have HZ0' := Lib.hid hz0
    clear hok hb hp hn hTe hTT q1 q3 hz0
    go_enter Try.func29, Try.ntmps29
    go_wp2_with fail
    rw [← HW.out]
    go_wp2_with fail
    refine (HPV.out _ HB.out).mono ?_
    rintro e w2 ⟨rfl, b2⟩
    have D2 := Lib.hid (show Below (w.heap.size + 1) W1 w2 from hs1 ▸ b2)
    have C2 := Lib.hid (HB.out.trans (b2.mono HB.out.size))
    rw [hs1] at HX
    have hz2 : w.heap.size + 1 ≤ w2.heap.size := by have := D2.out.size; omega
    have HO0 := Lib.hid (show (w2.alloc (.cells #[] 3)).ownsRow (w.heap.size + 1) 3 1 (.slice (some ⟨w2.heap.size, 0, none⟩) 0 0) 0 [] from own_zero hz2 (heap_alloc_new _ _))
    have HSA := Lib.hid (show Below w.heap.size w (w2.alloc (.cells #[] 3)) from C2.out.alloc C2.out.size _)
    clear b2 y0 y1 y2 HPV
    go_wp2_with (at_builtin; refine wpList_append_own _ rfl _ _ 26 rfl (w.heap.size + 1) 3 i0 (.int .i64 0) 1 8 Try.underlying26 HI.out HZ0.out HZ1.out HZ2.out rfl (by decide) _ 0 [] rfl HO0.out ⟨pb, po, none⟩ n pc (rowI p) rfl (by rw [rowI_len, ← HNN.out, Nat.mul_one]) (NEWS.out _ HSA.out) (rowI_one _) (by unfold maxLen; omega) (by omega) (by simp; omega) ?_; intro v4 w4 hown4 hgrow _; rw [Nat.zero_add, List.nil_append] at hown4; obtain ⟨g, cap, rfl, hc4, hm4⟩ := own_form hown4 (by omega))
    have hb4 : Below (w.heap.size + 1) w2 w4 := ((Below.refl _ _).alloc hz2 _).trans (own_below hgrow (by simp; omega) (fun k' hk' => (own_lt HO0.out k' hk').1))
    have D4 := Lib.hid (D2.out.trans hb4)
    have O4 := Lib.hid (show OwnI (w.heap.size + 1) w4 (.slice (some ⟨g, 0, none⟩) n cap) (sortS T wt p 0) from by rw [HZ0'.out]; unfold OwnI; rw [← HNN.out]; exact hown4)
    have hcap : cap ≤ 9223372036854775807 := by unfold maxLen at hm4; omega
    clear hown4 hgrow hb4 hm4
    go_wp2_with fail
    go_loopw [8] (fun sv wr => ∃ s : Nat, s ≤ T ∧ sv = .int .i64 s ∧ Hid (OwnI (w.heap.size + 1) wr (.slice (some ⟨g, 0, none⟩) n cap) (sortS T wt p s)) ∧ Hid (Below (w.heap.size + 1) W1 wr)) (fun sv _ => T - (intOf sv).toNat)
    case atStart => exact ⟨0, by omega, rfl, O4, D4⟩
    case round =>
      clear O4 D4
      obtain ⟨s, hsT, rfl, HO, DO⟩ := hrel
      obtain ⟨wo, rfl⟩ : ∃ wo : World, wo = wr := ⟨_, rfl⟩
      have y2 := (HX.out wo DO.out).c2
      rw [HTT.out] at y2
      by_cases hlt : s < T
      · have is : (s : Int) < (T : Int) := by omega
        have HOS := HO
        rw [← HST.out s] at HOS
        go_wp2_with fail
        clear y2
        go_loopw [9] (fun kv w2 => ∃ k : Nat, k ≤ n ∧ kv = .int .i64 k ∧ Hid (OwnI (w.heap.size + 1) w2 (.slice (some ⟨g, 0, none⟩) n cap) (passS T wt (sortS T wt p s) k)) ∧ Hid (Below (w.heap.size + 1) W1 w2)) (fun kv _ => n - (intOf kv).toNat)
        case atStart => exact ⟨0, by omega, rfl, HOS, DO⟩
        case round =>
          clear HOS HO DO
          obtain ⟨k, hkn, rfl, HOW, DR⟩ := hrel
          have BR := Lib.hid (HB.out.trans (DR.out.mono (by omega)))
          by_cases hltk : k < n
          · have hcl := HLN.out s k
            have hpk := HPK.out s k (by omega)
            have hps := HPS.out s k
            obtain ⟨c, hc⟩ : ∃ c, c = passS T wt (sortS T wt p s) k := ⟨_, rfl⟩
            rw [← hc] at hcl hpk hps HOW
            rw [HNX.out] at hps
            have hlt9 := HLT.out c k
            have hsv := HSV.out k hltk
            obtain ⟨b, off, e0, hgl, s0⟩ := HOW.out.holds.at_ hltk
            simp only [Option.some.injEq, Addr.mk.injEq, and_true] at e0
            obtain ⟨rfl, rfl⟩ := e0
            rw [Nat.zero_add, show c.getD k 0 = pAt c k from rfl] at s0
            have ik : (k : Int) < (n : Int) := by omega
            have i0k : (0 : Int) ≤ (k : Int) := by omega
            have y := HX.out wr DR.out
            have y0 := y.c0
            have y1 := y.c1
            have y2 := y.c2
            have HSBk := Lib.hid (HSB.out k wr)
            clear y hc
            by_cases hm : (k : Int) % (T : Int) = 0
            · have hg : lightS T wt c k = false := by rw [hlt9]; exact decide_eq_false (fun hc => hc.1 (by omega))
              rw [hg, if_neg (by simp)] at hps
              rw [if_pos hm] at hsv
              rw [hsv] at HSBk
              have HP2 := Lib.hid hps
              obtain ⟨x, hx⟩ : ∃ x, x = pAt c k := ⟨_, rfl⟩
              rw [← hx] at s0
              clear hx hg hps hsv hlt9 hm hpk
              go_wp2_with fail
              refine HSBk.out.mono ?_
              rintro e w6 ⟨rfl, b6⟩
              have D6 := Lib.hid (DR.out.trans (b6.mono (by have := DR.out.size; omega)))
              have HOW6 := Lib.hid (HOW.out.keep b6)
              have E6 := Lib.hid (BR.out.trans (b6.mono BR.out.size))
              have s6 : w6.cell? ⟨g, k, none⟩ = some (.int .i64 x) := (b6.cell (p := ⟨g, k, none⟩) hgl).trans s0
              clear b6 s0 y0 y1 y2
              go_wp2_with fail
              go_roundw
              case rel => exact ⟨k + 1, by omega, by go_num, by rw [HP2.out]; exact HOW6, D6⟩
              case measure => simp [intOf]; omega
            · have hk0 : k ≠ 0 := fun e => hm (by rw [e]; simp)
              obtain ⟨j, hkj⟩ : ∃ j, k = j + 1 := ⟨k - 1, by omega⟩
              rw [if_neg hm, show (k : Int) - 1 = (j : Int) by omega] at hsv
              rw [hsv] at HSBk
              have hkm : k % T ≠ 0 := fun e => hm (by omega)
              have hj1 : k - 1 = j := by omega
              rw [hj1] at hlt9
              have hjn : j < n := by omega
              have d0 : decide ((j : Int) ≥ 0) = true := decide_eq_true (by omega)
              have d1 : decide ((0 : Int) ≤ (j : Int)) = true := d0
              by_cases hz : pAt c k = 0
              · have hg : lightS T wt c k = false := by rw [hlt9]; exact decide_eq_false (fun hc => hc.2.1 hz)
                rw [hg, if_neg (by simp)] at hps
                have HP2 := Lib.hid hps
                rw [hz] at s0
                clear hz hg hps hsv hlt9 hm hpk hkm hj1 hkj
                go_wp2_with fail
                refine HSBk.out.mono ?_
                rintro e w6 ⟨rfl, b6⟩
                have D6 := Lib.hid (DR.out.trans (b6.mono (by have := DR.out.size; omega)))
                have HOW6 := Lib.hid (HOW.out.keep b6)
                have E6 := Lib.hid (BR.out.trans (b6.mono BR.out.size))
                have s6 : w6.cell? ⟨g, k, none⟩ = some (.int .i64 0) := (b6.cell (p := ⟨g, k, none⟩) hgl).trans s0
                clear b6 s0 y0 y1 y2
                go_wp2_with fail
                go_roundw
                case rel => exact ⟨k + 1, by omega, by go_num, by rw [HP2.out]; exact HOW6, D6⟩
                case measure => simp [intOf]; omega
              · have hdz : (pAt c k != 0) = true := by simpa using hz
                have HWk := Lib.hid fun (w' : World) (hs : Below w.heap.size w w') (hq : HoldsI w' (.slice (some ⟨g, 0, none⟩) n cap) c) => HW8.out c hpk _ k (by omega) w' hs hq
                have HWj := Lib.hid fun (w' : World) (hs : Below w.heap.size w w') (hq : HoldsI w' (.slice (some ⟨g, 0, none⟩) n cap) c) => HW8.out c hpk _ j (by omega) w' hs hq
                have hg : lightS T wt c k = decide (wt (pAt c j) < wt (pAt c k)) := by rw [hlt9]; exact decide_eq_decide.2 ⟨fun hc => hc.2.2, fun hc => ⟨hkm, hz, hc⟩⟩
                rw [hg] at hps
                have hsw : swapP c k = (c.set k (pAt c j)).set j (pAt c k) := by unfold swapP; rw [hj1]
                rw [hsw] at hps
                obtain ⟨b2, off2, e0, -, t0⟩ := HOW.out.holds.at_ hjn
                simp only [Option.some.injEq, Addr.mk.injEq, and_true] at e0
                obtain ⟨rfl, rfl⟩ := e0
                rw [Nat.zero_add, show c.getD j 0 = pAt c j from rfl] at t0
                obtain ⟨x, hx⟩ : ∃ x, x = pAt c k := ⟨_, rfl⟩
                rw [← hx] at s0 hdz hps HWk
                obtain ⟨z, hzz⟩ : ∃ z, z = pAt c j := ⟨_, rfl⟩
                rw [← hzz] at t0 hps HWj
                generalize wt z = wj at hps HWj
                generalize wt x = wk at hps HWk
                have hjk : j ≠ k := by omega
                have ij : (j : Int) < (n : Int) := by omega
                have i0j : (0 : Int) ≤ (j : Int) := by omega
                clear hx hzz hg hsv hlt9 hm hkm hj1 hz hpk hsw hkj
                by_cases hgt : wj < wk
                · have g1 : decide (wk > wj) = true := decide_eq_true hgt
                  have g2 : decide (wj < wk) = true := g1
                  rw [g2, if_pos rfl] at hps
                  have HP2 := Lib.hid hps
                  clear hps hgt
                  go_wp2_with fail
                  refine HSBk.out.mono ?_
                  rintro e w6 ⟨rfl, b6⟩
                  have D6 := Lib.hid (DR.out.trans (b6.mono (by have := DR.out.size; omega)))
                  have HOW6 := Lib.hid (HOW.out.keep b6)
                  have E6 := Lib.hid (BR.out.trans (b6.mono BR.out.size))
                  have s6 : w6.cell? ⟨g, k, none⟩ = some (.int .i64 x) := (b6.cell (p := ⟨g, k, none⟩) hgl).trans s0
                  clear b6 s0 y0 y1 y2
                  have t6 : w6.cell? ⟨g, j, none⟩ = some (.int .i64 z) := by
                    obtain ⟨b3, off3, e0, -, t9⟩ := HOW6.out.holds.at_ hjn
                    simp only [Option.some.injEq, Addr.mk.injEq, and_true] at e0
                    obtain ⟨rfl, rfl⟩ := e0
                    rw [Nat.zero_add] at t9
                    obtain ⟨b4, off4, e0, hgl4, t8⟩ := HOW.out.holds.at_ hjn
                    simp only [Option.some.injEq, Addr.mk.injEq, and_true] at e0
                    obtain ⟨rfl, rfl⟩ := e0
                    rw [Nat.zero_add, t0] at t8
                    rw [t9, ← t8]
                  have hkc : k < c.length := by omega
                  have hjc : j < c.length := by omega
                  have h8 : OwnI (w.heap.size + 1) w6 (.slice (some ⟨g, 0, none⟩) c.length cap) c := by rw [hcl]; exact HOW6.out
                  obtain ⟨hKg, -, -, ⟨z1, f1⟩, f2⟩ := h8.slot hkc
                  obtain ⟨-, -, -, ⟨z3, f3⟩, f4⟩ := h8.slot hjc
                  have h9 := h8.set hkc z
                  have hjc2 : j < (c.set k z).length := by rw [List.length_set]; exact hjc
                  have h9' : OwnI (w.heap.size + 1) (w6.setCell ⟨g, k, none⟩ (.int .i64 z)) (.slice (some ⟨g, 0, none⟩) (c.set k z).length cap) (c.set k z) := by rw [List.length_set]; exact h9
                  obtain ⟨-, -, -, ⟨z5, f5⟩, f6⟩ := h9'.slot hjc2
                  have h10 := h9'.set hjc2 x
                  rw [List.length_set, hcl] at h10
                  have HO9 := Lib.hid h10
                  have D9 := Lib.hid (D6.out.trans (((Below.refl (w.heap.size + 1) w6).setCell (p := ⟨g, k, none⟩) hKg (.int .i64 z)).setCell (p := ⟨g, j, none⟩) hKg (.int .i64 x)))
                  have W6k := Lib.hid (HWk.out w6 E6.out HOW6.out.holds)
                  have W6j := Lib.hid (HWj.out w6 E6.out HOW6.out.holds)
                  clear h8 h9 h9' h10 hKg hkc hjc hjc2 HWk HWj t0
                  go_wp2_with fail
                  refine W6k.out.mono ?_
                  rintro e w' ⟨rfl, rfl⟩
                  go_wp2_with fail
                  refine W6j.out.mono ?_
                  rintro e w' ⟨rfl, rfl⟩
                  go_wp2_with fail
                  go_roundw
                  case rel => exact ⟨k + 1, by omega, by go_num, by rw [HP2.out]; exact HO9, D9⟩
                  case measure => simp [intOf]; omega
                · have g1 : decide (wk > wj) = false := decide_eq_false hgt
                  have g2 : decide (wj < wk) = false := g1
                  rw [g2, if_neg (by simp)] at hps
                  have HP2 := Lib.hid hps
                  clear hps hgt t0
                  go_wp2_with fail
                  refine HSBk.out.mono ?_
                  rintro e w6 ⟨rfl, b6⟩
                  have D6 := Lib.hid (DR.out.trans (b6.mono (by have := DR.out.size; omega)))
                  have HOW6 := Lib.hid (HOW.out.keep b6)
                  have E6 := Lib.hid (BR.out.trans (b6.mono BR.out.size))
                  have s6 : w6.cell? ⟨g, k, none⟩ = some (.int .i64 x) := (b6.cell (p := ⟨g, k, none⟩) hgl).trans s0
                  clear b6 s0 y0 y1 y2
                  have W6k := Lib.hid (HWk.out w6 E6.out HOW6.out.holds)
                  have W6j := Lib.hid (HWj.out w6 E6.out HOW6.out.holds)
                  clear HWk HWj
                  go_wp2_with fail
                  refine W6k.out.mono ?_
                  rintro e w' ⟨rfl, rfl⟩
                  go_wp2_with fail
                  refine W6j.out.mono ?_
                  rintro e w' ⟨rfl, rfl⟩
                  go_wp2_with fail
                  go_roundw
                  case rel => exact ⟨k + 1, by omega, by go_num, by rw [HP2.out]; exact HOW6, D6⟩
                  case measure => simp [intOf]; omega
          · obtain rfl : k = n := by omega
            have HOE := HOW
            rw [HEND.out s] at HOE
            go_wp2_with fail
            go_roundw
            case rel => exact ⟨s + 1, by omega, by go_num, HOE, DR⟩
            case measure => simp [intOf]; omega
      · obtain rfl : s = T := by omega
        have C9 := HB.out.trans (DO.out.mono (by omega))
        have O9 := HO.out.from_ (show w.heap.size ≤ w.heap.size + 1 by omega)
        go_wp2_with fail
        go_ret
        exact ⟨_, rfl, by rw [HE.out]; exact O9, C9⟩

end Go.Proofs.Ytmgnbkiphdlooab
