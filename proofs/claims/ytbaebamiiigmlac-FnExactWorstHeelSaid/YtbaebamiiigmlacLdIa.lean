/-
  The program's chapter 9, first part: loadedSlots, LoadOk, LoadOrder, WorstHeel.
-/
import Derived.Test.YtbaebamiiigmlacGLm
import Derived.Test.YtbaebamiiigmlacLdV
import Derived.Test.YtbaebamiiigmlacWtI
import Derived.Test.YtbaebamiiigmlacPlI
import Derived.Test.YtbaebamiiigmlacGSl
import Derived.Test.YtbaebamiiigmlacGStk
import Derived.Test.YtbaebamiiigmlacLsI
import Derived.Laws.AppendOwnNone
import Derived.Maps.AppendAt
import Derived.Deep.RegionHeld3
namespace Go.Proofs.Ytbaebamiiigmlac
open Go.RowKit
set_option linter.unusedVariables false

/-- What LoadOrder has behind some tiers and some of the slots that are looked at for the next one. -/
def tierJ (T : Nat) (p : List Int) (t j : Nat) : List Int := (tierN T p t).map Int.ofNat ++ (((fullS p).take j).filter fun k => decide (k % T = t)).map Int.ofNat
theorem tierJ_next {T : Nat} {p : List Int} {t j : Nat} (hj : j < (fullS p).length) : tierJ T p t (j + 1) = if fAt p j % T = t then tierJ T p t j ++ [(fAt p j : Int)] else tierJ T p t j := by
  have e : (fullS p)[j] = fAt p j := by unfold fAt; rw [List.getD_eq_getElem?_getD, List.getElem?_eq_getElem hj, Option.getD_some]
  unfold tierJ
  rw [← List.take_append_getElem hj, List.filter_append, List.map_append, e]
  by_cases hc : fAt p j % T = t
  · rw [if_pos hc]; simp [hc]
  · rw [if_neg hc]; simp [hc]
theorem tierJ_first (T : Nat) (p : List Int) (t : Nat) : tierJ T p t 0 = (tierN T p t).map Int.ofNat := by simp [tierJ]
theorem tierJ_last (T : Nat) (p : List Int) (t : Nat) : tierJ T p t (fullS p).length = (tierN T p (t + 1)).map Int.ofNat := by
  have e : tierN T p (t + 1) = tierN T p t ++ tierK T p t p.length := rfl
  unfold tierJ
  rw [e, List.take_length, List.map_append]
  unfold fullS tierK
  rw [List.filter_filter]
  congr 2
  exact List.filter_congr fun x _ => by simp
theorem tierJ_le (T : Nat) (p : List Int) (t j : Nat) : (tierJ T p t j).length ≤ p.length + p.length := by
  have h1 := tierN_le T p t
  have h2 : (((fullS p).take j).filter fun k => decide (k % T = t)).length ≤ (fullS p).length := Nat.le_trans (List.length_filter_le _ _) (by rw [List.length_take]; omega)
  have h3 := fullS_le p
  unfold tierJ
  rw [List.length_append, List.length_map, List.length_map]
  omega
set_option maxRecDepth 10000 in
set_option maxHeartbeats 8000000 in
theorem implLoadOk_any (h : Hl) (u v vo : Value) (l : List Bx) (p os : List Int) (w : World) (hb : HoldsBx w u l) (hp : HoldsI w v p) (ho : HoldsI w vo os) :
    Calls Try.prog 57 #[.agg #[.int .i64 h.b, .int .i64 h.r, .int .i64 h.t], u, v, vo] w fun e w' => e = .returned (.bool (ldOk h (bxsOk l) (bxIds l) p os)) ∧ Below w.heap.size w w' := by
  have hb1 := (Below.refl w.heap.size w).alloc (Nat.le_refl _) (.cells #[.int .i64 h.b, .int .i64 h.r, .int .i64 h.t] 28)
  have hx1 := BoxH.new w h
  obtain ⟨W1, hW1⟩ : ∃ W1, W1 = w.alloc (.cells #[.int .i64 h.b, .int .i64 h.r, .int .i64 h.t] 28) := ⟨_, rfl⟩
  rw [← hW1] at hb1 hx1
  have HW := Lib.hid hW1
  have HB := Lib.hid hb1
  have y0 := hx1.c0
  have y1 := hx1.c1
  have y2 := hx1.c2
  have HX := Lib.hid fun (w' : World) (hs : Below W1.heap.size W1 w') => hx1.keep hs
  have hs1 : W1.heap.size = w.heap.size + 1 := by rw [hW1]; simp
  clear hW1 hb1 hx1
  have PK := Lib.hid fun (w' : World) (hs : Below w.heap.size w w') => hp.keep hs
  have BK := Lib.hid fun (w' : World) (hs : Below w.heap.size w w') => hb.keep hs
  have OK := Lib.hid fun (w' : World) (hs : Below w.heap.size w w') => ho.keep hs
  have HPV := Lib.hid fun (w' : World) (hs : Below w.heap.size w w') => implPlanValid_any h u v l p w' (hb.keep hs) (hp.keep hs)
  obtain ⟨oa, oc, rfl⟩ := ho.form
  have hoc : os.length ≤ oc ∧ oc ≤ 9223372036854775807 := by
    obtain ⟨a', c', e, q1, q2, _⟩ := ho
    simp only [Value.slice.injEq] at e
    obtain ⟨-, -, rfl⟩ := e
    unfold maxLen at q2
    omega
  cases hok : plOk h (bxsOk l) (bxIds l) p
  · have hr := Lib.hid (ldOk_noplan (os := os) hok)
    rw [hok] at HPV
    obtain ⟨N, hN⟩ : ∃ N, N = os.length := ⟨_, rfl⟩
    rw [← hN] at hoc ⊢
    clear hok hb hp ho hN OK
    go_enter Try.func57, Try.ntmps57
    go_wp2_with fail
    rw [← HW.out]
    go_wp2_with fail
    refine (HPV.out _ HB.out).mono ?_
    rintro e w2 ⟨rfl, b2⟩
    go_wp2_with fail
    go_ret
    exact ⟨by rw [hr.out]; rfl, HB.out.trans (b2.mono HB.out.size)⟩
  · obtain ⟨pa, pc, rfl⟩ := hp.form
    have hpc : p.length ≤ pc ∧ pc ≤ 9223372036854775807 := by
      obtain ⟨a', c', e, q1, q2, _⟩ := hp
      simp only [Value.slice.injEq] at e
      obtain ⟨-, -, rfl⟩ := e
      unfold maxLen at q2
      omega
    have hlen : 1 ≤ p.length ∧ p.length ≤ 36 := by
      obtain ⟨q1, _, q3, _⟩ := plOk_iff.1 hok
      obtain ⟨m1, m2, _⟩ := slMany_bd q1
      omega
    have HSL := Lib.hid fun (w' : World) (hs : Below w.heap.size w w') => loadedSlots_any _ p w' (hp.keep hs) (by omega)
    have hfl := fullI_len p
    rw [hok] at HPV
    by_cases hlen9 : os.length = (fullS p).length
    · have BAD := Lib.hid fun k (hk : k < os.length) hc => ldOk_bad (h := h) (bok := bxsOk l) (ids := bxIds l) (p := p) (os := os) (k := k) hk hc
      have END := Lib.hid fun ha => ldOk_end hok hlen9 ha
      have HSB := Lib.hid fun (s : Int) (w' : World) => implSlotBelow_any h s w'
      have HSV := Lib.hid fun (s : Int) h0 h1 => slBelow_val (s := s) (plOk_iff.1 hok).1 h0 h1
      have hsm := (plOk_iff.1 hok).2.2.1
      have HT := Lib.hid fun k (hk : k ≤ os.length) x (w' : World) (hs : Below w.heap.size w w') => slContains_any (.slice oa k oc) (os.take k) x w' (HoldsI.take k hk (ho.keep hs))
      obtain ⟨res, hres⟩ : ∃ res, res = ldOk h (bxsOk l) (bxIds l) p os := ⟨_, rfl⟩
      rw [← hres] at BAD END ⊢
      obtain ⟨n, hn⟩ : ∃ n, n = p.length := ⟨_, rfl⟩
      obtain ⟨N, hN⟩ : ∃ N, N = os.length := ⟨_, rfl⟩
      rw [← hlen9, ← hN] at hfl
      have HSO := Lib.hid fun k => (show stepOk h p os k ↔ (0 ≤ os.getD k 0 ∧ os.getD k 0 < (n : Int)) ∧ pAt p (os.getD k 0).toNat ≠ 0 ∧ os.getD k 0 ∉ os.take k ∧ (¬ os.getD k 0 % h.t = 0 → os.getD k 0 - 1 ∈ os.take k) from by rw [hn]; exact Iff.rfl)
      rw [← hn] at PK HPV HSL hpc hlen hsm ⊢
      rw [← hN] at BAD END OK HT hoc ⊢
      have hnn : ((N : Int) != (N : Int)) = false := by simp
      have HSM := Lib.hid hsm
      clear hres hok hlen9 hb hp ho hn hN hsm
      go_enter Try.func57, Try.ntmps57
      go_wp2_with fail
      rw [← HW.out]
      go_wp2_with fail
      refine (HPV.out _ HB.out).mono ?_
      rintro e w2 ⟨rfl, b2⟩
      have C2 := HB.out.trans (b2.mono HB.out.size)
      have D2 := b2
      clear b2 y0 y1 y2
      go_wp2_with fail
      refine (HSL.out w2 C2).mono ?_
      rintro e w3 ⟨v3, rfl, O3, b3⟩
      obtain ⟨a3, c3, rfl⟩ := O3.holds.form
      rw [hfl] at O3 ⊢
      have D3 := Lib.hid (D2.trans (b3.mono D2.size))
      have C3 := Lib.hid (C2.trans (b3.mono C2.size))
      clear b3 D2 C2 O3 HPV HSL hfl
      go_wp2_with fail
      go_loopw [27] (fun i wr => ∃ k : Nat, k ≤ N ∧ i = .int .i64 k ∧ Hid (∀ j, j < k → stepOk h p os j) ∧ Hid (Below W1.heap.size W1 wr) ∧ Hid (Below w.heap.size w wr)) (fun i _ => N - (intOf i).toNat)
      case atStart => exact ⟨0, by omega, rfl, Lib.hid fun j hj => by omega, D3, C3⟩
      case round =>
        clear D3 C3
        obtain ⟨k, hkN, rfl, HA, DR, BR⟩ := hrel
        by_cases hlt : k < N
        · obtain ⟨ob, oo, rfl, hobl, s0⟩ := (OK.out wr BR.out).at_ hlt
          have ik : (k : Int) < (N : Int) := by omega
          have i0k : (0 : Int) ≤ (k : Int) := by omega
          have ikc : (k : Int) ≤ (oc : Int) := by omega
          have BADk := Lib.hid fun (hc : ¬ ((0 ≤ os.getD k 0 ∧ os.getD k 0 < (n : Int)) ∧ pAt p (os.getD k 0).toNat ≠ 0 ∧ os.getD k 0 ∉ os.take k ∧ (¬ os.getD k 0 % h.t = 0 → os.getD k 0 - 1 ∈ os.take k))) => BAD.out k hlt (fun hs => hc ((HSO.out k).1 hs))
          have GOODk := Lib.hid (HSO.out k).2
          have HTk := Lib.hid fun x (w' : World) (hs : Below wr.heap.size wr w') => HT.out k (by omega) x w' (BR.out.trans (Below.mono hs BR.out.size))
          obtain ⟨x, hx⟩ : ∃ x, x = os.getD k 0 := ⟨_, rfl⟩
          rw [← hx] at s0 BADk GOODk
          clear hx
          by_cases hin : 0 ≤ x ∧ x < (n : Int)
          · obtain ⟨j, rfl⟩ : ∃ j : Nat, x = (j : Int) := ⟨x.toNat, by omega⟩
            have hjn : j < n := by omega
            obtain ⟨pb, po, rfl, hpbl, t0⟩ := (PK.out wr BR.out).at_ hjn
            have e1 : p.getD j 0 = pAt p j := rfl
            rw [e1] at t0
            rw [Int.toNat_natCast] at BADk GOODk
            obtain ⟨y, hy⟩ : ∃ y, y = pAt p j := ⟨_, rfl⟩
            rw [← hy] at t0 BADk GOODk
            have ij : (j : Int) < (n : Int) := by omega
            have i0j : (0 : Int) ≤ (j : Int) := by omega
            clear e1 hy
            by_cases hz : y = 0
            · subst hz
              have hr := Lib.hid (BADk.out fun hc => hc.2.1 rfl)
              have C9 := BR.out
              clear hin
              go_wp2_with fail
              refine (isIdx_yes (j : Int) (n : Int) _ (by omega) (by omega)).mono ?_
              rintro e w' ⟨rfl, rfl⟩
              go_wp2_with fail
              go_ret
              exact ⟨by rw [hr.out]; rfl, C9⟩
            · have hdz : (y == 0) = false := by simpa using hz
              have HTj := Lib.hid (HTk.out (j : Int) wr (Below.refl _ _))
              cases hq : hasI (os.take k) (j : Int)
              · rw [hq] at HTj
                have hnm : (j : Int) ∉ os.take k := fun hm => by rw [hasI_iffP.2 hm] at hq; cases hq
                have hsv := HSV.out (j : Int) (by omega) (by have := HSM.out; omega)
                have HSk := Lib.hid fun (w' : World) => HSB.out (j : Int) w'
                have y := HX.out wr DR.out
                have y0 := y.c0
                have y1 := y.c1
                have y2 := y.c2
                clear hq y
                by_cases hm : (j : Int) % h.t = 0
                · rw [if_pos hm] at hsv
                  rw [hsv] at HSk
                  have hso := Lib.hid (GOODk.out ⟨hin, hz, hnm, fun hc => absurd hm hc⟩)
                  clear hsv hm hin hz hnm
                  go_wp2_with fail
                  refine (isIdx_yes (j : Int) (n : Int) _ (by omega) (by omega)).mono ?_
                  rintro e w' ⟨rfl, rfl⟩
                  go_wp2_with fail
                  refine HTj.out.mono ?_
                  rintro e w' ⟨rfl, rfl⟩
                  go_wp2_with fail
                  refine (HSk.out _).mono ?_
                  rintro e w5 ⟨rfl, b5⟩
                  have C5 := Lib.hid (BR.out.trans (b5.mono BR.out.size))
                  have D5 := Lib.hid (DR.out.trans (b5.mono DR.out.size))
                  clear b5 y0 y1 y2
                  go_wp2_with fail
                  go_roundw
                  case rel => exact ⟨k + 1, by omega, by go_num, Lib.hid fun j' hj => by
                    by_cases e : j' = k
                    · subst e; exact hso.out
                    · exact HA.out j' (by omega), D5, C5⟩
                  case measure => simp [intOf]; omega
                · rw [if_neg hm] at hsv
                  have hj0 : j ≠ 0 := fun e => hm (by rw [e]; simp)
                  obtain ⟨i, hij⟩ : ∃ i, j = i + 1 := ⟨j - 1, by omega⟩
                  have hsv2 : slBelow h (j : Int) = (i : Int) := by rw [hsv]; omega
                  have hji : (j : Int) - 1 = (i : Int) := by omega
                  rw [hji] at GOODk BADk
                  rw [hsv2] at HSk
                  have HTi := Lib.hid fun (w' : World) (hs : Below wr.heap.size wr w') => HTk.out (i : Int) w' hs
                  have ii0 : decide ((0 : Int) ≤ (i : Int)) = true := decide_eq_true (by omega)
                  clear hij hj0 hsv hsv2 hji
                  cases hq : hasI (os.take k) (i : Int)
                  · rw [hq] at HTi
                    have hr := Lib.hid (BADk.out fun hc => by rw [hasI_iffP.2 (hc.2.2.2 hm)] at hq; cases hq)
                    clear hq hm hin hz hnm
                    go_wp2_with fail
                    refine (isIdx_yes (j : Int) (n : Int) _ (by omega) (by omega)).mono ?_
                    rintro e w' ⟨rfl, rfl⟩
                    go_wp2_with fail
                    refine HTj.out.mono ?_
                    rintro e w' ⟨rfl, rfl⟩
                    go_wp2_with fail
                    refine (HSk.out _).mono ?_
                    rintro e w5 ⟨rfl, b5⟩
                    have C5 := Lib.hid (BR.out.trans (b5.mono BR.out.size))
                    have D5 := Lib.hid (DR.out.trans (b5.mono DR.out.size))
                    have HT5 := Lib.hid (HTi.out _ b5)
                    clear b5 y0 y1 y2
                    go_wp2_with fail
                    refine HT5.out.mono ?_
                    rintro e w' ⟨rfl, rfl⟩
                    have C9 := C5.out
                    go_wp2_with fail
                    go_ret
                    exact ⟨by rw [hr.out]; rfl, C9⟩
                  · rw [hq] at HTi
                    have hso := Lib.hid (GOODk.out ⟨hin, hz, hnm, fun _ => hasI_iffP.1 hq⟩)
                    clear hq hm hin hz hnm
                    go_wp2_with fail
                    refine (isIdx_yes (j : Int) (n : Int) _ (by omega) (by omega)).mono ?_
                    rintro e w' ⟨rfl, rfl⟩
                    go_wp2_with fail
                    refine HTj.out.mono ?_
                    rintro e w' ⟨rfl, rfl⟩
                    go_wp2_with fail
                    refine (HSk.out _).mono ?_
                    rintro e w5 ⟨rfl, b5⟩
                    have C5 := Lib.hid (BR.out.trans (b5.mono BR.out.size))
                    have D5 := Lib.hid (DR.out.trans (b5.mono DR.out.size))
                    have HT5 := Lib.hid (HTi.out _ b5)
                    clear b5 y0 y1 y2
                    go_wp2_with fail
                    refine HT5.out.mono ?_
                    rintro e w' ⟨rfl, rfl⟩
                    go_wp2_with fail
                    go_roundw
                    case rel => exact ⟨k + 1, by omega, by go_num, Lib.hid fun j' hj => by
                      by_cases e : j' = k
                      · subst e; exact hso.out
                      · exact HA.out j' (by omega), D5, C5⟩
                    case measure => simp [intOf]; omega
              · rw [hq] at HTj
                have hr := Lib.hid (BADk.out fun hc => hc.2.2.1 (of_decide_eq_true hq))
                have C9 := BR.out
                clear hq hin hz
                go_wp2_with fail
                refine (isIdx_yes (j : Int) (n : Int) _ (by omega) (by omega)).mono ?_
                rintro e w' ⟨rfl, rfl⟩
                go_wp2_with fail
                refine HTj.out.mono ?_
                rintro e w' ⟨rfl, rfl⟩
                go_wp2_with fail
                go_ret
                exact ⟨by rw [hr.out]; rfl, C9⟩
          · have hr := Lib.hid (BADk.out fun hc => hin hc.1)
            have C9 := BR.out
            go_wp2_with fail
            refine (isIdx_no x (n : Int) _ (by omega)).mono ?_
            rintro e w' ⟨rfl, rfl⟩
            go_wp2_with fail
            go_ret
            exact ⟨by rw [hr.out]; rfl, C9⟩
        · obtain rfl : k = N := by omega
          have hr := Lib.hid (END.out fun j hj => HA.out j hj)
          have C9 := BR.out
          go_wp2_with fail
          go_ret
          exact ⟨by rw [hr.out]; rfl, C9⟩
    · have hr := Lib.hid (ldOk_nolen (h := h) (bok := bxsOk l) (ids := bxIds l) hlen9)
      have hne : ((os.length : Int) != ((fullI p).length : Int)) = true := by rw [hfl, bne_iff_ne]; omega
      obtain ⟨n, hn⟩ : ∃ n, n = p.length := ⟨_, rfl⟩
      obtain ⟨N, hN⟩ : ∃ N, N = os.length := ⟨_, rfl⟩
      rw [← hn] at PK HPV HSL hpc hlen ⊢
      rw [← hN] at OK hoc hne ⊢
      clear hok hlen9 hb hp ho hn hN
      go_enter Try.func57, Try.ntmps57
      go_wp2_with fail
      rw [← HW.out]
      go_wp2_with fail
      refine (HPV.out _ HB.out).mono ?_
      rintro e w2 ⟨rfl, b2⟩
      have C2 := HB.out.trans (b2.mono HB.out.size)
      clear b2 y0 y1 y2
      go_wp2_with fail
      refine (HSL.out w2 C2).mono ?_
      rintro e w3 ⟨v3, rfl, O3, b3⟩
      obtain ⟨a3, c3, rfl⟩ := O3.holds.form
      obtain ⟨M, hM⟩ : ∃ M, M = (fullI p).length := ⟨_, rfl⟩
      rw [← hM] at hne ⊢
      clear O3 hM
      go_wp2_with fail
      go_ret
      exact ⟨by rw [hr.out]; rfl, C2.trans (b3.mono C2.size)⟩

set_option maxRecDepth 10000 in
set_option maxHeartbeats 4000000 in
theorem implLoadOrder_any (h : Hl) (u v : Value) (l : List Bx) (p : List Int) (w : World) (hb : HoldsBx w u l) (hp : HoldsI w v p) :
    Calls Try.prog 19 #[.agg #[.int .i64 h.b, .int .i64 h.r, .int .i64 h.t], u, v] w fun e w' => ∃ v', e = .returned v' ∧ FreeE w.heap.size w' v' (tierO h (bxsOk l) (bxIds l) p) ∧ Below w.heap.size w w' := by
  have hb1 := (Below.refl w.heap.size w).alloc (Nat.le_refl _) (.cells #[.int .i64 h.b, .int .i64 h.r, .int .i64 h.t] 28)
  have hx1 := BoxH.new w h
  obtain ⟨W1, hW1⟩ : ∃ W1, W1 = w.alloc (.cells #[.int .i64 h.b, .int .i64 h.r, .int .i64 h.t] 28) := ⟨_, rfl⟩
  rw [← hW1] at hb1 hx1
  have HW := Lib.hid hW1
  have HB := Lib.hid hb1
  have y0 := hx1.c0
  have y1 := hx1.c1
  have y2 := hx1.c2
  have HX := Lib.hid fun (w' : World) (hs : Below W1.heap.size W1 w') => hx1.keep hs
  have hs1 : W1.heap.size = w.heap.size + 1 := by rw [hW1]; simp
  clear hW1 hb1 hx1
  have PK := Lib.hid fun (w' : World) (hs : Below w.heap.size w w') => hp.keep hs
  have BK := Lib.hid fun (w' : World) (hs : Below w.heap.size w w') => hb.keep hs
  have HPV := Lib.hid fun (w' : World) (hs : Below w.heap.size w w') => implPlanValid_any h u v l p w' (hb.keep hs) (hp.keep hs)
  obtain ⟨i0, hi, hz0, hz1, hz2⟩ := info_parts infoInt
  have HI := Lib.hid hi
  have HZ0 := Lib.hid hz0
  have HZ1 := Lib.hid hz1
  have HZ2 := Lib.hid hz2
  clear hi hz0 hz1 hz2
  cases hok : plOk h (bxsOk l) (bxIds l) p
  · have HE := Lib.hid (show tierO h (bxsOk l) (bxIds l) p = [] from by unfold tierO; rw [hok]; rfl)
    rw [hok] at HPV
    clear hok hb hp
    go_enter Try.func19, Try.ntmps19
    go_wp2_with fail
    rw [← HW.out]
    go_wp2_with fail
    refine (HPV.out _ HB.out).mono ?_
    rintro e w2 ⟨rfl, b2⟩
    go_wp2_with fail
    go_ret
    exact ⟨_, rfl, by rw [HE.out]; exact FreeE.zero, HB.out.trans (b2.mono HB.out.size)⟩
  · obtain ⟨g1, g2, g3, g4, g5, g6⟩ := hlOk_iff.1 (plOk_iff.1 hok).1
    obtain ⟨T, hT⟩ : ∃ T : Nat, h.t = (T : Int) := ⟨h.t.toNat, by omega⟩
    have hT1 : 1 ≤ T ∧ T ≤ 3 := by omega
    have HEND := Lib.hid (show tierO h (bxsOk l) (bxIds l) p = (tierN T p T).map Int.ofNat from by unfold tierO; rw [if_pos hok, hT, Int.toNat_natCast])
    obtain ⟨pa, pc, rfl⟩ := hp.form
    have hpc : p.length ≤ pc ∧ pc ≤ 9223372036854775807 := by
      obtain ⟨a', c', e, q1, q2, _⟩ := hp
      simp only [Value.slice.injEq] at e
      obtain ⟨-, -, rfl⟩ := e
      unfold maxLen at q2
      omega
    have hlen : 1 ≤ p.length ∧ p.length ≤ 36 := by
      obtain ⟨q1, _, q3, _⟩ := plOk_iff.1 hok
      obtain ⟨m1, m2, _⟩ := slMany_bd q1
      omega
    have HSL := Lib.hid fun (w' : World) (hs : Below w.heap.size w w') => loadedSlots_any _ p w' (hp.keep hs) (by omega)
    have HFA := Lib.hid fun k (hk : k < (fullS p).length) => fullI_at (p := p) hk
    have HNX := Lib.hid fun t j (hj : j < (fullS p).length) => tierJ_next (T := T) (p := p) (t := t) hj
    have HFI := Lib.hid fun t => tierJ_first T p t
    have HLA := Lib.hid fun t => tierJ_last T p t
    have HLE := Lib.hid fun t j => tierJ_le T p t j
    have HPO := Lib.hid fun j (hj : j < (fullS p).length) (w' : World) => (show Calls Try.prog 45 #[.agg #[.int .i64 h.b, .int .i64 h.r, .int .i64 h.t], .int .i64 (fAt p j : Int)] w' fun e w'' => (∃ x1 x2 : Int, e = .returned (.tuple #[.int .i64 x1, .int .i64 x2, .int .i64 ((fAt p j % T : Nat) : Int)])) ∧ Below w'.heap.size w' w'' from by
      have h0 := (fAt_mem hj).1
      have h1 := (plOk_iff.1 hok).2.2.1
      have e := plOf_yes (s := (fAt p j : Int)) (plOk_iff.1 hok).1 (by omega) (by omega)
      have e2 : (fAt p j : Int) % h.t = ((fAt p j % T : Nat) : Int) := by rw [hT]; rfl
      refine (implPlaceOf_any h (fAt p j : Int) w').mono ?_
      rintro e' w'' ⟨rfl, b⟩
      exact ⟨⟨_, _, by rw [e, e2]⟩, b⟩)
    have hfl := fullI_len p
    have hfn := fullS_le p
    rw [hok] at HPV
    obtain ⟨n, hn⟩ : ∃ n, n = p.length := ⟨_, rfl⟩
    obtain ⟨m, hm⟩ : ∃ m, m = (fullS p).length := ⟨_, rfl⟩
    rw [← hn] at HPV PK HSL hpc hlen hfn HLE ⊢
    rw [← hm] at hfl hfn HFA HNX HLA HPO
    have HT := Lib.hid hT
    clear hok hb hp hn hm g1 g2 g3 g4 g5 g6 hT
    go_enter Try.func19, Try.ntmps19
    go_wp2_with fail
    rw [← HW.out]
    go_wp2_with fail
    refine (HPV.out _ HB.out).mono ?_
    rintro e w3 ⟨rfl, b3⟩
    have D3 := Lib.hid (show Below (w.heap.size + 1) W1 w3 from hs1 ▸ b3)
    rw [hs1] at HX
    have y2 := (HX.out w3 D3.out).c2
    rw [HT.out] at y2
    have hsz1 := hs1
    clear b3 HPV y0 y1 hs1
    go_wp2_with fail
    clear y2
    go_loopw [7, 21] (fun va i wr => ∃ t : Nat, t ≤ T ∧ i = .int .i64 t ∧ Hid (OwnI (w.heap.size + 1) wr va ((tierN T p t).map Int.ofNat)) ∧ Hid (Below (w.heap.size + 1) W1 wr)) (fun _ i _ => T - (intOf i).toNat)
    case atStart => exact ⟨0, by omega, rfl, Lib.hid OwnI.nil, D3⟩
    case round =>
      clear D3
      obtain ⟨t, htT, rfl, HO, DR⟩ := hrel
      obtain ⟨wo, rfl⟩ : ∃ wo : World, wo = wr := ⟨_, rfl⟩
      have BR := Lib.hid (HB.out.trans (DR.out.mono (by omega)))
      by_cases hlt : t < T
      · have it : (t : Int) < (T : Int) := by omega
        have HOt := HO
        rw [← HFI.out t] at HOt
        clear HO
        go_wp2_with fail
        refine (HSL.out wo BR.out).mono ?_
        rintro e w5 ⟨v5, rfl, O5, b5⟩
        have N5 := Lib.hid (NewI.of_own O5)
        have HO5 := Lib.hid (HOt.out.keep b5)
        have HOB0 := Lib.hid fun k hk => own_lt HOt.out k hk
        have D5 := Lib.hid (DR.out.trans (b5.mono (by have := DR.out.size; omega)))
        have hz5 := b5.size
        obtain ⟨a5, c5, rfl⟩ := O5.holds.form
        rw [hfl] at N5 ⊢
        clear O5 b5 HOt DR BR
        go_wp2_with fail
        go_loopw [7, 27] (fun va i wr => ∃ j : Nat, j ≤ m ∧ i = .int .i64 j ∧ Hid (OwnI (w.heap.size + 1) wr va (tierJ T p t j)) ∧ Hid (∀ k, va.ownBlock = some k → k < wo.heap.size ∨ w5.heap.size ≤ k) ∧ Hid (Mid wo.heap.size w5 wr) ∧ Hid (Below (w.heap.size + 1) W1 wr)) (fun _ i _ => m - (intOf i).toNat)
        case atStart => exact ⟨0, by omega, rfl, HO5, Lib.hid (fun k hk => .inl (HOB0.out k hk).2), Lib.hid (Mid.refl _ _), D5⟩
        case round =>
          clear HO5 HOB0 D5
          obtain ⟨j, hjm, rfl, HOW, HOB, MM, DR⟩ := hrel
          by_cases hltj : j < m
          · obtain ⟨sb, so, rfl, hsbl, s0⟩ := ((N5.out.mid MM.out).holds).at_ (k := j) hltj
            rw [HFA.out j hltj] at s0
            have ij : (j : Int) < (m : Int) := by omega
            have i0j : (0 : Int) ≤ (j : Int) := by omega
            have y := HX.out wr DR.out
            have y0 := y.c0
            have y1 := y.c1
            have y2 := y.c2
            have HPj := HPO.out j hltj
            have HNj := Lib.hid (HNX.out t j hltj)
            have HPj := Lib.hid HPj
            obtain ⟨x, hx⟩ : ∃ x, x = fAt p j := ⟨_, rfl⟩
            rw [← hx] at s0 HPj HNj
            obtain ⟨q, hq⟩ : ∃ q, q = x % T := ⟨_, rfl⟩
            rw [← hq] at HPj HNj
            have hle := HLE.out t j
            clear hx hq y
            by_cases hqt : q = t
            · subst hqt
              have HN2 := Lib.hid (HNj.out.trans (if_pos rfl))
              clear HNj
              go_wp2_with fail
              refine (HPj.out _).mono ?_
              rintro e w6 ⟨⟨x1, x2, rfl⟩, b6⟩
              have D6 := Lib.hid (DR.out.trans (b6.mono (by have := DR.out.size; omega)))
              have M6 := Lib.hid (MM.out.on b6)
              have HOW6 := Lib.hid (HOW.out.keep b6)
              obtain ⟨Ls, hLs⟩ : ∃ Ls, Ls = tierJ T p q j := ⟨_, rfl⟩
              rw [← hLs] at HOW6 HN2 hle
              have hz6 : w.heap.size + 1 ≤ w6.heap.size := by have := D6.out.size; omega
              have hz56 : w5.heap.size ≤ w6.heap.size := M6.out.1
              clear b6 y0 y1 y2 hLs s0
              go_wp2_with (at_builtin; refine wpList_append_own_at _ rfl _ _ 25 rfl (w.heap.size + 1) 3 i0 (.int .i64 0) 1 8 Try.underlying25 HI.out HZ0.out HZ1.out HZ2.out rfl (by decide) _ Ls.length (rowI Ls) rfl (HOW6.out.alloc _) ⟨_, 0, none⟩ 1 1 [.int .i64 (x : Int)] rfl rfl (fun j u hu => cells_new j u hu) (by simp [Value.oneCell']) (by unfold maxLen; omega) (by omega) (by simp; omega) ?_; intro v7 w7 hown7 hgrow _ hob7)
              have hb7 : Below (w.heap.size + 1) w6 w7 := ((Below.refl _ _).alloc hz6 _).trans (own_below hgrow (by simp; omega) (fun k' hk' => (own_lt HOW6.out k' hk').1))
              have D7 := Lib.hid (D6.out.trans hb7)
              have M7 := Lib.hid ((M6.out.alloc (.cells #[.int .i64 (x : Int)] 3)).grown hgrow HOB.out)
              have hO7 : OwnI (w.heap.size + 1) w7 v7 (Ls ++ [(x : Int)]) := own_put hown7
              have HOB7 := Lib.hid (show ∀ k, v7.ownBlock = some k → k < wo.heap.size ∨ w5.heap.size ≤ k from fun k hk => by
                rcases hob7 with e | e
                · exact HOB.out k (e ▸ hk)
                · refine .inr ?_
                  rw [hk] at e
                  have h1 := Option.some.inj e
                  simp at h1
                  omega)
              rw [← HN2.out] at hO7
              have HO7 := Lib.hid hO7
              clear hO7 hgrow hown7 hob7 hb7
              go_wp2_with fail
              go_roundw
              case rel => exact ⟨j + 1, by omega, by go_num, HO7, HOB7, M7, D7⟩
              case measure => simp [intOf]; omega
            · have HN2 := Lib.hid (HNj.out.trans (if_neg hqt))
              have hqe : ((q : Int) == (t : Int)) = false := by simp; omega
              clear HNj
              go_wp2_with fail
              refine (HPj.out _).mono ?_
              rintro e w6 ⟨⟨x1, x2, rfl⟩, b6⟩
              have D6 := Lib.hid (DR.out.trans (b6.mono (by have := DR.out.size; omega)))
              have M6 := Lib.hid (MM.out.on b6)
              have HOW6 := HOW.out.keep b6
              rw [← HN2.out] at HOW6
              have HO6 := Lib.hid HOW6
              clear b6 y0 y1 y2 s0 HOW6
              go_wp2_with fail
              go_roundw
              case rel => exact ⟨j + 1, by omega, by go_num, HO6, HOB, M6, D6⟩
              case measure => simp [intOf]; omega
          · obtain rfl : j = m := by omega
            have HOL := HOW
            rw [HLA.out t] at HOL
            clear HOW
            go_wp2_with fail
            go_roundw
            case rel => exact ⟨t + 1, by omega, by go_num, HOL, DR⟩
            case measure => simp [intOf]; omega
      · obtain rfl : t = T := by omega
        have C9 := BR.out
        have O9 := HO.out.freeE.from_ (Nat.le_succ w.heap.size)
        go_wp2_with fail
        go_ret
        exact ⟨_, rfl, by rw [HEND.out]; exact O9, C9⟩

set_option maxRecDepth 10000 in
set_option maxHeartbeats 8000000 in
theorem implWorstHeel_any (h : Hl) (u v vo : Value) (l : List Bx) (p os : List Int) (w : World) (hb : HoldsBx w u l) (hp : HoldsI w v p) (ho : HoldsI w vo os) :
    Calls Try.prog 26 #[.agg #[.int .i64 h.b, .int .i64 h.r, .int .i64 h.t], u, v, vo] w fun e w' => e = .returned (.int .i64 (worstH h l p os)) ∧ Below w.heap.size w w' := by
  have hb1 := (Below.refl w.heap.size w).alloc (Nat.le_refl _) (.cells #[.int .i64 h.b, .int .i64 h.r, .int .i64 h.t] 28)
  have hx1 := BoxH.new w h
  obtain ⟨W1, hW1⟩ : ∃ W1, W1 = w.alloc (.cells #[.int .i64 h.b, .int .i64 h.r, .int .i64 h.t] 28) := ⟨_, rfl⟩
  rw [← hW1] at hb1 hx1
  have HW := Lib.hid hW1
  have HB := Lib.hid hb1
  have y0 := hx1.c0
  have y1 := hx1.c1
  have y2 := hx1.c2
  have HX := Lib.hid fun (w' : World) (hs : Below W1.heap.size W1 w') => hx1.keep hs
  have hs1 : W1.heap.size = w.heap.size + 1 := by rw [hW1]; simp
  clear hW1 hb1 hx1
  have PK := Lib.hid fun (w' : World) (hs : Below w.heap.size w w') => hp.keep hs
  have BK := Lib.hid fun (w' : World) (hs : Below w.heap.size w w') => hb.keep hs
  have OK := Lib.hid fun (w' : World) (hs : Below w.heap.size w w') => ho.keep hs
  have HLO := Lib.hid fun (w' : World) (hs : Below w.heap.size w w') => implLoadOk_any h u v vo l p os w' (hb.keep hs) (hp.keep hs) (ho.keep hs)
  obtain ⟨oa, oc, rfl⟩ := ho.form
  have hoc : os.length ≤ oc ∧ oc ≤ 9223372036854775807 := by
    obtain ⟨a', c', e, q1, q2, _⟩ := ho
    simp only [Value.slice.injEq] at e
    obtain ⟨-, -, rfl⟩ := e
    unfold maxLen at q2
    omega
  cases hok : ldOk h (bxsOk l) (bxIds l) p os
  · have HE := Lib.hid (show worstH h l p os = -1 from by unfold worstH; rw [hok]; rfl)
    rw [hok] at HLO
    clear hok hb hp ho
    go_enter Try.func26, Try.ntmps26
    go_wp2_with fail
    rw [← HW.out]
    go_wp2_with fail
    refine (HLO.out _ HB.out).mono ?_
    rintro e w2 ⟨rfl, b2⟩
    go_wp2_with fail
    go_ret
    exact ⟨by rw [HE.out]; rfl, HB.out.trans (b2.mono HB.out.size)⟩
  · have HE := Lib.hid (show worstH h l p os = worstN h l p os os.length from by unfold worstH; rw [if_pos hok])
    have hpk := (ldOk_iff.1 hok).1
    have hpn := pl_len hpk
    have hlen : os.length ≤ 36 := by
      have h1 := (ldOk_iff.1 hok).2.1
      have h2 := fullS_le p
      omega
    have HEM := Lib.hid (show emptyP h = restr p (slotsN os 0) from by
      have e0 : slotsN os 0 = [] := rfl
      unfold emptyP
      rw [if_pos (plOk_iff.1 hpk).1, e0, restr_none]
      have := (plOk_iff.1 hpk).2.2.1
      congr 1
      omega)
    have HNB := Lib.hid fun n hn => hN_bd hok n hn
    have HWX := Lib.hid fun n => (show worstN h l p os (n + 1) = max (max (worstN h l p os n) (hN h l p os (n + 1))) (-(hN h l p os (n + 1))) from rfl)
    have HG := Lib.hid fun k (hk : k < os.length) => ((ldOk_iff.1 hok).2.2 k hk).1
    have HRS := Lib.hid fun k (hk : k < os.length) => (show (restr p (slotsN os k)).set (os.getD k 0).toNat (pAt p (os.getD k 0).toNat) = restr p (slotsN os (k + 1)) from by
      rw [slotsN_next hk, restr_snoc (by have := ((ldOk_iff.1 hok).2.2 k hk).1; omega)])
    have HRL := Lib.hid fun k => restr_len p (slotsN os k)
    have HHE := Lib.hid fun k (hk : k ≤ os.length) vq (w' : World) (hs : Below w.heap.size w w') (hq : HoldsI w' vq (restr p (slotsN os k))) => (hN_heel hok hk) ▸ implHeelOf_any h u vq l (restr p (slotsN os k)) w' (hb.keep hs) hq
    have HEP := Lib.hid fun (w' : World) => implPlanEmpty_own h w'
    have PK := Lib.hid fun (w' : World) (hs : Below w.heap.size w w') => hp.keep hs
    obtain ⟨pa, pc, rfl⟩ := hp.form
    rw [hok] at HLO
    obtain ⟨N, hN'⟩ : ∃ N, N = os.length := ⟨_, rfl⟩
    have hz1 : worstN h l p os 0 = 0 := rfl
    rw [← hN'] at HLO HE hlen HNB HG HRS HHE OK hoc ⊢
    obtain ⟨n, hn'⟩ : ∃ n, n = p.length := ⟨_, rfl⟩
    rw [← hn'] at HLO hpn HG HRL PK ⊢
    generalize hgs : hN h l p os = s at HNB HWX HHE
    generalize hgt : worstN h l p os = t at HE HWX hz1
    clear hok hpk hb hp ho hN' hn' hgs hgt
    go_enter Try.func26, Try.ntmps26
    go_wp2_with fail
    rw [← HW.out]
    go_wp2_with fail
    refine (HLO.out _ HB.out).mono ?_
    rintro e w2 ⟨rfl, b2⟩
    have y := HX.out w2 b2
    have D2 := Lib.hid (show Below (w.heap.size + 1) W1 w2 from hs1 ▸ b2)
    rw [hs1] at HX
    have hsz1 := hs1
    clear b2 y0 y1 y2 HLO hs1
    have y0 := y.c0
    have y1 := y.c1
    have y2 := y.c2
    clear y
    go_wp2_with fail
    refine (HEP.out _).mono ?_
    rintro e w3 ⟨v3, rfl, O3, b3⟩
    rw [HEM.out] at O3
    have D3 := Lib.hid (D2.out.trans (b3.mono (by have := D2.out.size; omega)))
    have O3 := Lib.hid (O3.from_ (show w.heap.size + 1 ≤ w2.heap.size by have := D2.out.size; omega))
    obtain ⟨g, cap, cur, rfl, -⟩ := O3.out.form (by rw [HRL.out]; omega)
    rw [HRL.out] at O3 ⊢
    clear b3 y0 y1 y2 D2
    go_wp2_with fail
    go_loopw [9, 25] (fun wm i wr => ∃ k : Nat, k ≤ N ∧ wm = .int .i64 (t k) ∧ i = .int .i64 k ∧ Hid (OwnI (w.heap.size + 1) wr (.slice (some ⟨g, 0, none⟩) n cap) (restr p (slotsN os k))) ∧ Hid (Below (w.heap.size + 1) W1 wr)) (fun _ i _ => N - (intOf i).toNat)
    case atStart => exact ⟨0, by omega, by rw [hz1], rfl, O3, D3⟩
    case round =>
      clear D3 O3 hz1
      obtain ⟨k, hkn, rfl, rfl, HOW, DR⟩ := hrel
      have BR := Lib.hid (HB.out.trans (DR.out.mono (by omega)))
      by_cases hlt : k < N
      · obtain ⟨ob, oo, rfl, hobl, s0⟩ := (OK.out wr BR.out).at_ hlt
        have ik : (k : Int) < (N : Int) := by omega
        have i0k : (0 : Int) ≤ (k : Int) := by omega
        have hgk := HG.out k hlt
        have hrs := HRS.out k hlt
        have hwk := HWX.out k
        have hb1 := HNB.out (k + 1) (by omega)
        have HHk := Lib.hid (HHE.out (k + 1) (by omega))
        obtain ⟨j, hj⟩ : ∃ j : Nat, j = (os.getD k 0).toNat := ⟨_, rfl⟩
        have hx : os.getD k 0 = (j : Int) := by omega
        rw [← hj] at hrs
        rw [hx] at s0
        have hjn : j < n := by omega
        obtain ⟨pb, po, rfl, hpbl, t0⟩ := (PK.out wr BR.out).at_ hjn
        have e1 : p.getD j 0 = pAt p j := rfl
        rw [e1] at t0
        obtain ⟨x, hxx⟩ : ∃ x, x = pAt p j := ⟨_, rfl⟩
        rw [← hxx] at t0 hrs
        have ij : (j : Int) < (n : Int) := by omega
        have i0j : (0 : Int) ≤ (j : Int) := by omega
        have hjl : j < (restr p (slotsN os k)).length := by rw [HRL.out]; exact hjn
        obtain ⟨hKg, hgl, -, ⟨z0, t0'⟩, f0⟩ := HOW.out.slot hjl
        have O4 := (show OwnI (w.heap.size + 1) wr (.slice (some ⟨g, 0, none⟩) (restr p (slotsN os k)).length cap) (restr p (slotsN os k)) from by rw [HRL.out]; exact HOW.out).set hjl x
        rw [hrs, HRL.out] at O4
        have hbs : Below (w.heap.size + 1) wr (wr.setCell ⟨g, j, none⟩ (.int .i64 x)) := (Below.refl _ _).setCell hKg _
        have C4 : Below w.heap.size w (wr.setCell ⟨g, j, none⟩ (.int .i64 x)) := BR.out.trans (hbs.mono (by omega))
        have HO4 := Lib.hid O4
        have D4 := Lib.hid (DR.out.trans hbs)
        have x5 := HX.out _ D4.out
        have d0 := x5.c0
        have d1 := x5.c1
        have d2 := x5.c2
        have HH4 := Lib.hid (HHk.out _ _ C4 O4.holds)
        have hneg : ¬ g = w.heap.size := by omega
        generalize hgq : s (k + 1) = q at hwk HH4 hb1
        have HWS := Lib.hid fun (w' : World) => withoutSign_any q w' (by omega)
        generalize t k = m0 at hwk
        obtain ⟨aq, haq⟩ : ∃ aq, aq = max q (-q) := ⟨_, rfl⟩
        obtain ⟨mq, hmq⟩ : ∃ mq, mq = max m0 aq := ⟨_, rfl⟩
        have HTQ := Lib.hid (show t (k + 1) = mq from by rw [hwk]; omega)
        rw [← haq] at HWS
        have hmax : (if aq > m0 then aq else m0) = mq := by rw [hmq]; split <;> omega
        have hmx : ∀ W : World, Sem.run Try.prog (Builtin.max_ #[3, 3] 3 #[.int .i64 m0, .int .i64 aq]) W = .ok (.int .i64 mq) W := fun W => by
          rw [← hmax]
          simp [Builtin.max_, Builtin.max2, List.foldlM, Sem.run_pure]
        clear hgk hrs hwk hb1 hj hx e1 hxx O4 hbs x5 C4 hgq haq hmq hmax hjl HHk
        go_wp2_with fail
        refine HH4.out.mono ?_
        rintro e w6 ⟨rfl, b6⟩
        have HO6 := Lib.hid (HO4.out.keep b6)
        have D6 := Lib.hid (D4.out.trans (b6.mono (by have := D4.out.size; omega)))
        clear b6 d0 d1 d2 s0 t0 t0' f0
        go_wp2_with fail
        refine (HWS.out _).mono ?_
        rintro e w7 ⟨rfl, rfl⟩
        go_wp2_with fail
        go_roundw
        case rel => exact ⟨k + 1, by omega, by rw [HTQ.out], by go_num, HO6, D6⟩
        case measure => simp [intOf]; omega
      · obtain rfl : k = N := by omega
        have C9 := BR.out
        go_wp2_with fail
        go_ret
        exact ⟨by rw [HE.out]; rfl, C9⟩

end Go.Proofs.Ytbaebamiiigmlac
