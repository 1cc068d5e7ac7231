/-
  The model's chapter 9, second part: LoadOk, WorstHeel.
-/
import Derived.Test.YtbaebamiiigmlacLdS
import Derived.Test.YtbaebamiiigmlacGBase
import Derived.Deep.RegionHeld3
namespace Go.Proofs.Ytbaebamiiigmlac
open Go.RowKit
set_option linter.unusedVariables false

/-- What LoadOk asks of each slot of an order. -/
def stepOk (h : Hl) (p os : List Int) (k : Nat) : Prop := (0 ≤ os.getD k 0 ∧ os.getD k 0 < (p.length : Int)) ∧ pAt p (os.getD k 0).toNat ≠ 0 ∧ os.getD k 0 ∉ os.take k ∧ (¬ os.getD k 0 % h.t = 0 → os.getD k 0 - 1 ∈ os.take k)
theorem ldOk_bad {h : Hl} {bok : Bool} {ids p os : List Int} {k : Nat} (hk : k < os.length) (hc : ¬ stepOk h p os k) : ldOk h bok ids p os = false := by
  cases he : ldOk h bok ids p os
  · rfl
  · exact absurd ((ldOk_iff.1 he).2.2 k hk) hc
theorem ldOk_noplan {h : Hl} {bok : Bool} {ids p os : List Int} (hk : plOk h bok ids p = false) : ldOk h bok ids p os = false := by
  cases he : ldOk h bok ids p os
  · rfl
  · rw [(ldOk_iff.1 he).1] at hk; cases hk
theorem ldOk_nolen {h : Hl} {bok : Bool} {ids p os : List Int} (hl : ¬ os.length = (fullS p).length) : ldOk h bok ids p os = false := by
  cases he : ldOk h bok ids p os
  · rfl
  · exact absurd (ldOk_iff.1 he).2.1 hl
theorem ldOk_end {h : Hl} {bok : Bool} {ids p os : List Int} (hk : plOk h bok ids p = true) (hl : os.length = (fullS p).length) (ha : ∀ k, k < os.length → stepOk h p os k) : ldOk h bok ids p os = true := ldOk_iff.2 ⟨hk, hl, ha⟩
theorem hN_bd {h : Hl} {l : List Bx} {p os : List Int} (ho : ldOk h (bxsOk l) (bxIds l) p os = true) : ∀ n, n ≤ os.length → -(60 * n) ≤ hN h l p os n ∧ hN h l p os n ≤ 60 * n
  | 0, _ => ⟨by simp [hN], by simp [hN]⟩
  | n + 1, hn => by
    have h1 := hN_bd ho n (by omega)
    obtain ⟨hk, _, hg⟩ := ldOk_iff.1 ho
    obtain ⟨h2, _, _, _⟩ := hg n (by omega)
    have hl : (os.getD n 0).toNat < p.length := by omega
    have h3 := mulW_bd (wBx_bd hk hl) (heelC_bd (plOk_iff.1 hk).1 (plOk_iff.1 hk).2.2.1 hl)
    have e : hN h l p os (n + 1) = hN h l p os n + wBx l (pAt p (os.getD n 0).toNat) * heelC h (os.getD n 0).toNat := rfl
    omega
theorem worstN_bd {h : Hl} {l : List Bx} {p os : List Int} (ho : ldOk h (bxsOk l) (bxIds l) p os = true) : ∀ n, n ≤ os.length → 0 ≤ worstN h l p os n ∧ worstN h l p os n ≤ 60 * n
  | 0, _ => ⟨Int.le_refl 0, Int.le_refl 0⟩
  | n + 1, hn => by
    have h1 := worstN_bd ho n (by omega)
    have h2 := hN_bd ho (n + 1) hn
    have e : worstN h l p os (n + 1) = max (max (worstN h l p os n) (hN h l p os (n + 1))) (-(hN h l p os (n + 1))) := rfl
    omega

set_option maxRecDepth 10000 in
set_option maxHeartbeats 8000000 in
theorem specLoadOk_any (h : Hl) (u v vo : Value) (l : List Bx) (p os : List Int) (w : World) (hb : HoldsBx w u l) (hp : HoldsI w v p) (ho : HoldsI w vo os) :
    Calls Try.prog 54 #[.agg #[.int .i64 h.b, .int .i64 h.r, .int .i64 h.t], u, v, vo] w fun e w' => e = .returned (.bool (ldOk h (bxsOk l) (bxIds l) p os)) ∧ Below w.heap.size w w' := by
  have hb1 := (Below.refl w.heap.size w).alloc (Nat.le_refl _) (.cells #[.int .i64 h.b, .int .i64 h.r, .int .i64 h.t] 28)
  have hx1 := BoxH.new w h
  obtain ⟨W1, hW1⟩ : ∃ W1, W1 = w.alloc (.cells #[.int .i64 h.b, .int .i64 h.r, .int .i64 h.t] 28) := ⟨_, rfl⟩
  rw [← hW1] at hb1 hx1
  have HW := Lib.hid hW1
  have HB := Lib.hid hb1
  have y0 := hx1.c0
  have y1 := hx1.c1
  have y2 := hx1.c2
  have HX := Lib.hid fun (w' : World) (hs : Below W1.heap.size W1 w') => hx1.keep hs
  have hs1 : W1.heap.size = w.heap.size + 1 := by rw [hW1]; simp
  clear hW1 hb1 hx1
  have PK := Lib.hid fun (w' : World) (hs : Below w.heap.size w w') => hp.keep hs
  have BK := Lib.hid fun (w' : World) (hs : Below w.heap.size w w') => hb.keep hs
  have OK := Lib.hid fun (w' : World) (hs : Below w.heap.size w w') => ho.keep hs
  have HPV := Lib.hid fun (w' : World) (hs : Below w.heap.size w w') => specPlanValid_any h u v l p w' (hb.keep hs) (hp.keep hs)
  obtain ⟨oa, oc, rfl⟩ := ho.form
  have hoc : os.length ≤ oc ∧ oc ≤ 9223372036854775807 := by
    obtain ⟨a', c', e, q1, q2, _⟩ := ho
    simp only [Value.slice.injEq] at e
    obtain ⟨-, -, rfl⟩ := e
    unfold maxLen at q2
    omega
  cases hok : plOk h (bxsOk l) (bxIds l) p
  · have hr := Lib.hid (ldOk_noplan (os := os) hok)
    rw [hok] at HPV
    obtain ⟨N, hN⟩ : ∃ N, N = os.length := ⟨_, rfl⟩
    rw [← hN] at hoc ⊢
    clear hok hb hp ho hN OK
    go_enter Try.func54, Try.ntmps54
    go_wp2_with fail
    rw [← HW.out]
    go_wp2_with fail
    refine (HPV.out _ HB.out).mono ?_
    rintro e w2 ⟨rfl, b2⟩
    go_wp2_with fail
    go_ret
    exact ⟨by rw [hr.out]; rfl, HB.out.trans (b2.mono HB.out.size)⟩
  · obtain ⟨pa, pc, rfl⟩ := hp.form
    have hpc : p.length ≤ pc ∧ pc ≤ 9223372036854775807 := by
      obtain ⟨a', c', e, q1, q2, _⟩ := hp
      simp only [Value.slice.injEq] at e
      obtain ⟨-, -, rfl⟩ := e
      unfold maxLen at q2
      omega
    have hlen : 1 ≤ p.length ∧ p.length ≤ 36 := by
      obtain ⟨q1, _, q3, _⟩ := plOk_iff.1 hok
      obtain ⟨m1, m2, _⟩ := slMany_bd q1
      omega
    have HSL := Lib.hid fun (w' : World) (hs : Below w.heap.size w w') => l9Slots_any _ p w' (hp.keep hs) (by omega)
    have hfl := fullI_len p
    rw [hok] at HPV
    by_cases hlen9 : os.length = (fullS p).length
    · have BAD := Lib.hid fun k (hk : k < os.length) hc => ldOk_bad (h := h) (bok := bxsOk l) (ids := bxIds l) (p := p) (os := os) (k := k) hk hc
      have END := Lib.hid fun ha => ldOk_end hok hlen9 ha
      have HSB := Lib.hid fun (s : Int) (w' : World) => specSlotBelow_any h s w'
      have HSV := Lib.hid fun (s : Int) h0 h1 => slBelow_val (s := s) (plOk_iff.1 hok).1 h0 h1
      have hsm := (plOk_iff.1 hok).2.2.1
      have HT := Lib.hid fun k (hk : k ≤ os.length) x (w' : World) (hs : Below w.heap.size w w') => l1Has_any (.slice oa k oc) (os.take k) x w' (HoldsI.take k hk (ho.keep hs))
      obtain ⟨res, hres⟩ : ∃ res, res = ldOk h (bxsOk l) (bxIds l) p os := ⟨_, rfl⟩
      rw [← hres] at BAD END ⊢
      obtain ⟨n, hn⟩ : ∃ n, n = p.length := ⟨_, rfl⟩
      obtain ⟨N, hN⟩ : ∃ N, N = os.length := ⟨_, rfl⟩
      rw [← hlen9, ← hN] at hfl
      have HSO := Lib.hid fun k => (show stepOk h p os k ↔ (0 ≤ os.getD k 0 ∧ os.getD k 0 < (n : Int)) ∧ pAt p (os.getD k 0).toNat ≠ 0 ∧ os.getD k 0 ∉ os.take k ∧ (¬ os.getD k 0 % h.t = 0 → os.getD k 0 - 1 ∈ os.take k) from by rw [hn]; exact Iff.rfl)
      rw [← hn] at PK HPV HSL hpc hlen hsm ⊢
      rw [← hN] at BAD END OK HT hoc ⊢
      have hnn : ((N : Int) != (N : Int)) = false := by simp
      have HSM := Lib.hid hsm
      clear hres hok hlen9 hb hp ho hn hN hsm
      go_enter Try.func54, Try.ntmps54
      go_wp2_with fail
      rw [← HW.out]
      go_wp2_with fail
      refine (HPV.out _ HB.out).mono ?_
      rintro e w2 ⟨rfl, b2⟩
      have C2 := HB.out.trans (b2.mono HB.out.size)
      have D2 := b2
      clear b2 y0 y1 y2
      go_wp2_with fail
      refine (HSL.out w2 C2).mono ?_
      rintro e w3 ⟨v3, rfl, O3, b3⟩
      obtain ⟨a3, c3, rfl⟩ := O3.holds.form
      rw [hfl] at O3 ⊢
      have D3 := Lib.hid (D2.trans (b3.mono D2.size))
      have C3 := Lib.hid (C2.trans (b3.mono C2.size))
      clear b3 D2 C2 O3 HPV HSL hfl
      go_wp2_with fail
      go_loopw [9] (fun i wr => ∃ k : Nat, k ≤ N ∧ i = .int .i64 k ∧ Hid (∀ j, j < k → stepOk h p os j) ∧ Hid (Below W1.heap.size W1 wr) ∧ Hid (Below w.heap.size w wr)) (fun i _ => N - (intOf i).toNat)
      case atStart => exact ⟨0, by omega, rfl, Lib.hid fun j hj => by omega, D3, C3⟩
      case round =>
        clear D3 C3
        obtain ⟨k, hkN, rfl, HA, DR, BR⟩ := hrel
        by_cases hlt : k < N
        · obtain ⟨ob, oo, rfl, hobl, s0⟩ := (OK.out wr BR.out).at_ hlt
          have ik : (k : Int) < (N : Int) := by omega
          have i0k : (0 : Int) ≤ (k : Int) := by omega
          have ikc : (k : Int) ≤ (oc : Int) := by omega
          have zn : IntKind.i64.wrap ((n : Int) - 1) = (n : Int) - 1 := IntWalk.i64_in _ (by omega)
          have BADk := Lib.hid fun (hc : ¬ ((0 ≤ os.getD k 0 ∧ os.getD k 0 < (n : Int)) ∧ pAt p (os.getD k 0).toNat ≠ 0 ∧ os.getD k 0 ∉ os.take k ∧ (¬ os.getD k 0 % h.t = 0 → os.getD k 0 - 1 ∈ os.take k))) => BAD.out k hlt (fun hs => hc ((HSO.out k).1 hs))
          have GOODk := Lib.hid (HSO.out k).2
          have HTk0 := Lib.hid fun x (w' : World) (hs : Since wr w') => HT.out k (by omega) x w' (BR.out.trans (Below.mono hs BR.out.size))
          obtain ⟨x, hx⟩ : ∃ x, x = os.getD k 0 := ⟨_, rfl⟩
          rw [← hx] at s0 BADk GOODk
          by_cases hin : 0 ≤ x ∧ x < (n : Int)
          · obtain ⟨j, rfl⟩ : ∃ j : Nat, x = (j : Int) := ⟨x.toNat, by omega⟩
            have hjn : j < n := by omega
            obtain ⟨pb, po, rfl, hpbl, t0⟩ := (PK.out wr BR.out).at_ hjn
            have e1 : p.getD j 0 = pAt p j := rfl
            rw [e1] at t0
            rw [Int.toNat_natCast] at BADk GOODk
            obtain ⟨y, hy⟩ : ∃ y, y = pAt p j := ⟨_, rfl⟩
            rw [← hy] at t0 BADk GOODk
            have ij : (j : Int) < (n : Int) := by omega
            have i0j : (0 : Int) ≤ (j : Int) := by omega
            have HK := Lib.hid fun (w' : World) (hs : Since wr w') => (show w'.cell? ⟨ob, oo + k, none⟩ = some (.int .i64 (j : Int)) ∧ w'.cell? ⟨pb, po + j, none⟩ = some (.int .i64 y) ∧ Since wr w' from ⟨(Below.cell hs (p := ⟨ob, oo + k, none⟩) hobl).trans s0, (Below.cell hs (p := ⟨pb, po + j, none⟩) hpbl).trans t0, hs⟩)
            have hstart := HK.out _ (show Since wr wr.drew from (Below.refl _ _).drew)
            have HTk := Lib.hid (HTk0.out (j : Int))
            clear e1 hx hy
            by_cases hz : y = 0
            · subst hz
              have hr := Lib.hid (BADk.out fun hc => hc.2.1 rfl)
              go_wp2_with fail
              refine wp_region_held_drew (S := (fun w' => w'.cell? ⟨ob, oo + k, none⟩ = some (.int .i64 (j : Int)) ∧ w'.cell? ⟨pb, po + j, none⟩ = some (.int .i64 0) ∧ Since wr w')) (by kernel_rfl) hstart (fun hHeld => ?_)
              refine wpAnyH_take (i := 0) (v := ?vb0) rfl (by kernel_rfl) (by kernel_rfl) (by kernel_rfl) (fun _ _ _ h => h) (Or.inl ⟨by rfl, ?hyb0⟩) (by assumption) ?restb0
              case hyb0 => (intro w5 hSw; (try dsimp only at hSw); go_simp; try with_reducible rfl)
              simp only [Act.put, List.getElem_toArray, List.getElem_cons_zero, List.setIfInBounds_toArray, List.set_cons_zero, List.set_cons_succ]
              refine wpAnyH_take (i := 1) (v := ?vb1) rfl (by kernel_rfl) (by kernel_rfl) (by kernel_rfl) (fun _ _ _ h => h) (Or.inl ⟨by rfl, ?hyb1⟩) (by assumption) ?restb1
              case hyb1 => (intro w5 hSw; (try dsimp only at hSw); go_simp; try with_reducible rfl)
              simp only [Act.put, List.getElem_toArray, List.getElem_cons_zero, List.getElem_cons_succ, List.setIfInBounds_toArray, List.set_cons_zero, List.set_cons_succ]
              refine wpAnyH_take (i := 2) (v := ?vb2) rfl (by kernel_rfl) (by kernel_rfl) (by kernel_rfl) (fun _ _ _ h => h) (Or.inl ⟨by rfl, ?hyb2⟩) (by assumption) ?restb2
              case hyb2 => (intro w5 hSw; (try dsimp only at hSw); go_simp; try with_reducible rfl)
              simp only [Act.put, List.getElem_toArray, List.getElem_cons_zero, List.getElem_cons_succ, List.setIfInBounds_toArray, List.set_cons_zero, List.set_cons_succ]
              refine wpAnyH_take (i := 3) (v := ?vb3) rfl (by kernel_rfl) (by kernel_rfl) (by kernel_rfl) (fun _ _ _ h => h) (Or.inl ⟨by rfl, ?hyb3⟩) (by assumption) ?restb3
              case hyb3 => (intro w5 hSw; (try dsimp only at hSw); go_simp; try with_reducible rfl)
              simp only [Act.put, List.getElem_toArray, List.getElem_cons_zero, List.getElem_cons_succ, List.setIfInBounds_toArray, List.set_cons_zero, List.set_cons_succ]
              refine wpAnyH_take (i := 4) (v := ?vb4) rfl (by kernel_rfl) (by kernel_rfl) (by kernel_rfl) (fun _ _ _ h => h) (Or.inl ⟨by rfl, ?hyb4⟩) (by assumption) ?restb4
              case hyb4 => (intro w5 hSw; (try dsimp only at hSw); go_simp; try with_reducible rfl)
              simp only [Act.put, List.getElem_toArray, List.getElem_cons_zero, List.getElem_cons_succ, List.setIfInBounds_toArray, List.set_cons_zero, List.set_cons_succ]
              refine wpAnyH_take (i := 5) (v := ?vb5) rfl (by kernel_rfl) (by kernel_rfl) (by kernel_rfl) (fun _ _ _ h => h) (Or.inl ⟨by rfl, ?hyb5⟩) (by assumption) ?restb5
              case hyb5 => (intro w5 hSw; (try dsimp only at hSw); go_simp; try with_reducible rfl)
              simp only [Act.put, List.getElem_toArray, List.getElem_cons_zero, List.getElem_cons_succ, List.setIfInBounds_toArray, List.set_cons_zero, List.set_cons_succ]
              refine wpAnyH_take (i := 6) (v := ?vb6) rfl (by kernel_rfl) (by kernel_rfl) (by kernel_rfl) (fun _ _ _ h => h) (Or.inl ⟨by rfl, ?hyb6⟩) (by assumption) ?restb6
              case hyb6 => (intro w5 hSw; (try dsimp only at hSw); go_simp; try with_reducible rfl)
              simp only [Act.put, List.getElem_toArray, List.getElem_cons_zero, List.getElem_cons_succ, List.setIfInBounds_toArray, List.set_cons_zero, List.set_cons_succ]
              refine wpAnyH_ready (rs := [7]) (by kernel_rfl) (by simp) ?_
              refine AllReadyH.cons rfl (fun K hK => ?_) AllReadyH.nil
              go_simp
              refine (l1In_yes (j : Int) 0 ((n : Int) - 1) _ (by omega) (by omega)).mono ?_
              rintro e w2 ⟨rfl, rfl⟩
              refine hK.out _ _ hHeld (fun _ => ?_)
              refine wpAnyH_take (i := 8) (v := ?vb8) rfl (by kernel_rfl) (by kernel_rfl) (by kernel_rfl) (fun _ _ _ h => h) (Or.inl ⟨by rfl, ?hyb8⟩) (by assumption) ?restb8
              case hyb8 => (intro w5 hSw; (try dsimp only at hSw); go_simp; try with_reducible rfl)
              simp only [Act.put, List.getElem_toArray, List.getElem_cons_zero, List.getElem_cons_succ, List.setIfInBounds_toArray, List.set_cons_zero, List.set_cons_succ]
              refine wpAnyH_take (i := 9) (v := ?vb9) rfl (by kernel_rfl) (by kernel_rfl) (by kernel_rfl) (fun _ _ _ h => h) (Or.inl ⟨by rfl, ?hyb9⟩) (by assumption) ?restb9
              case hyb9 => (intro w5 hSw; (try dsimp only at hSw); go_simp; try with_reducible rfl)
              simp only [Act.put, List.getElem_toArray, List.getElem_cons_zero, List.getElem_cons_succ, List.setIfInBounds_toArray, List.set_cons_zero, List.set_cons_succ]
              refine wpAnyH_take (i := 10) (v := ?vb10) rfl (by kernel_rfl) (by kernel_rfl) (by kernel_rfl) (fun _ _ _ h => h) (Or.inl ⟨by rfl, ?hyb10⟩) (by assumption) ?restb10
              case hyb10 => (intro w5 hSw; (try dsimp only at hSw); go_simp; try with_reducible rfl)
              simp only [Act.put, List.getElem_toArray, List.getElem_cons_zero, List.getElem_cons_succ, List.setIfInBounds_toArray, List.set_cons_zero, List.set_cons_succ]
              refine wpAnyH_take (i := 11) (v := ?vb11) rfl (by kernel_rfl) (by kernel_rfl) (by kernel_rfl) (fun _ _ _ h => h) (Or.inl ⟨by rfl, ?hyb11⟩) (by assumption) ?restb11
              case hyb11 => (intro w5 hSw; (try dsimp only at hSw); go_simp; try with_reducible rfl)
              simp only [Act.put, List.getElem_toArray, List.getElem_cons_zero, List.getElem_cons_succ, List.setIfInBounds_toArray, List.set_cons_zero, List.set_cons_succ]
              refine wpAnyH_take (i := 12) (v := ?vb12) rfl (by kernel_rfl) (by kernel_rfl) (by kernel_rfl) (fun _ _ _ h => h) (Or.inl ⟨by rfl, ?hyb12⟩) (by assumption) ?restb12
              case hyb12 => (intro w5 hSw; (try dsimp only at hSw); go_simp; try with_reducible rfl)
              simp only [Act.put, List.getElem_toArray, List.getElem_cons_zero, List.getElem_cons_succ, List.setIfInBounds_toArray, List.set_cons_zero, List.set_cons_succ]
              refine wpAnyH_take (i := 13) (v := ?vb13) rfl (by kernel_rfl) (by kernel_rfl) (by kernel_rfl) (fun _ _ _ h => h) (Or.inl ⟨by rfl, ?hyb13⟩) (by assumption) ?restb13
              case hyb13 => (intro w5 hSw; (try dsimp only at hSw); go_simp; try with_reducible rfl)
              simp only [Act.put, List.getElem_toArray, List.getElem_cons_zero, List.getElem_cons_succ, List.setIfInBounds_toArray, List.set_cons_zero, List.set_cons_succ]
              refine wpAnyH_take (i := 14) (v := ?vb14) rfl (by kernel_rfl) (by kernel_rfl) (by kernel_rfl) (fun _ _ _ h => h) (Or.inl ⟨by rfl, ?hyb14⟩) (by assumption) ?restb14
              case hyb14 => (intro w5 hSw; (try dsimp only at hSw); go_simp; try with_reducible rfl)
              simp only [Act.put, List.getElem_toArray, List.getElem_cons_zero, List.getElem_cons_succ, List.setIfInBounds_toArray, List.set_cons_zero, List.set_cons_succ]
              refine wpAnyH_take (i := 15) (v := ?vb15) rfl (by kernel_rfl) (by kernel_rfl) (by kernel_rfl) (fun _ _ _ h => h) (Or.inl ⟨by rfl, ?hyb15⟩) (by assumption) ?restb15
              case hyb15 => (intro w5 hSw; (try dsimp only at hSw); go_simp; try with_reducible rfl)
              simp only [Act.put, List.getElem_toArray, List.getElem_cons_zero, List.getElem_cons_succ, List.setIfInBounds_toArray, List.set_cons_zero, List.set_cons_succ]
              refine wpAnyH_take (i := 16) (v := ?vb16) rfl (by kernel_rfl) (by kernel_rfl) (by kernel_rfl) (fun _ _ _ h => h) (Or.inl ⟨by rfl, ?hyb16⟩) (by assumption) ?restb16
              case hyb16 => (intro w5 hSw; (try dsimp only at hSw); go_simp; try with_reducible rfl)
              simp only [Act.put, List.getElem_toArray, List.getElem_cons_zero, List.getElem_cons_succ, List.setIfInBounds_toArray, List.set_cons_zero, List.set_cons_succ]
              refine wpAnyH_take (i := 17) (v := ?vb17) rfl (by kernel_rfl) (by kernel_rfl) (by kernel_rfl) (fun _ _ _ h => h) (Or.inl ⟨by rfl, ?hyb17⟩) (by assumption) ?restb17
              case hyb17 => (intro w5 hSw; (try dsimp only at hSw); go_simp; try with_reducible rfl)
              simp only [Act.put, List.getElem_toArray, List.getElem_cons_zero, List.getElem_cons_succ, List.setIfInBounds_toArray, List.set_cons_zero, List.set_cons_succ]
              refine wpAnyH_take (i := 18) (v := ?vb18) rfl (by kernel_rfl) (by kernel_rfl) (by kernel_rfl) (fun _ _ _ h => h) (Or.inl ⟨by rfl, ?hyb18⟩) (by assumption) ?restb18
              case hyb18 => (intro w5 hSw; (try dsimp only at hSw); go_simp; try with_reducible rfl)
              simp only [Act.put, List.getElem_toArray, List.getElem_cons_zero, List.getElem_cons_succ, List.setIfInBounds_toArray, List.set_cons_zero, List.set_cons_succ]
              refine wpAnyH_take (i := 19) (v := ?vb19) rfl (by kernel_rfl) (by kernel_rfl) (by kernel_rfl) (fun _ _ _ h => h) (Or.inl ⟨by rfl, ?hyb19⟩) (by assumption) ?restb19
              case hyb19 => (intro w5 hSw; (try dsimp only at hSw); go_simp; try with_reducible rfl)
              simp only [Act.put, List.getElem_toArray, List.getElem_cons_zero, List.getElem_cons_succ, List.setIfInBounds_toArray, List.set_cons_zero, List.set_cons_succ]
              refine wpAnyH_take (i := 20) (v := undef) rfl (by kernel_rfl) (by kernel_rfl) (by kernel_rfl) (fun _ _ _ h => h) (Or.inr ⟨by rfl, rfl⟩) (by assumption) ?_
              simp only [Act.put, List.getElem_toArray, List.getElem_cons_zero, List.getElem_cons_succ, List.setIfInBounds_toArray, List.set_cons_zero, List.set_cons_succ]
              refine wpAnyH_take (i := 21) (v := undef) rfl (by kernel_rfl) (by kernel_rfl) (by kernel_rfl) (fun _ _ _ h => h) (Or.inr ⟨by rfl, rfl⟩) (by assumption) ?_
              simp only [Act.put, List.getElem_toArray, List.getElem_cons_zero, List.getElem_cons_succ, List.setIfInBounds_toArray, List.set_cons_zero, List.set_cons_succ]
              refine wpAnyH_take (i := 22) (v := undef) rfl (by kernel_rfl) (by kernel_rfl) (by kernel_rfl) (fun _ _ _ h => h) (Or.inr ⟨by rfl, rfl⟩) (by assumption) ?_
              simp only [Act.put, List.getElem_toArray, List.getElem_cons_zero, List.getElem_cons_succ, List.setIfInBounds_toArray, List.set_cons_zero, List.set_cons_succ]
              refine wpAnyH_take (i := 23) (v := undef) rfl (by kernel_rfl) (by kernel_rfl) (by kernel_rfl) (fun _ _ _ h => h) (Or.inr ⟨by rfl, rfl⟩) (by assumption) ?_
              simp only [Act.put, List.getElem_toArray, List.getElem_cons_zero, List.getElem_cons_succ, List.setIfInBounds_toArray, List.set_cons_zero, List.set_cons_succ]
              refine wpAnyH_take (i := 24) (v := undef) rfl (by kernel_rfl) (by kernel_rfl) (by kernel_rfl) (fun _ _ _ h => h) (Or.inr ⟨by rfl, rfl⟩) (by assumption) ?_
              simp only [Act.put, List.getElem_toArray, List.getElem_cons_zero, List.getElem_cons_succ, List.setIfInBounds_toArray, List.set_cons_zero, List.set_cons_succ]
              refine wpAnyH_take (i := 25) (v := undef) rfl (by kernel_rfl) (by kernel_rfl) (by kernel_rfl) (fun _ _ _ h => h) (Or.inr ⟨by rfl, rfl⟩) (by assumption) ?_
              simp only [Act.put, List.getElem_toArray, List.getElem_cons_zero, List.getElem_cons_succ, List.setIfInBounds_toArray, List.set_cons_zero, List.set_cons_succ]
              refine wpAnyH_take (i := 26) (v := undef) rfl (by kernel_rfl) (by kernel_rfl) (by kernel_rfl) (fun _ _ _ h => h) (Or.inr ⟨by rfl, rfl⟩) (by assumption) ?_
              simp only [Act.put, List.getElem_toArray, List.getElem_cons_zero, List.getElem_cons_succ, List.setIfInBounds_toArray, List.set_cons_zero, List.set_cons_succ]
              refine wpAnyH_take (i := 27) (v := undef) rfl (by kernel_rfl) (by kernel_rfl) (by kernel_rfl) (fun _ _ _ h => h) (Or.inr ⟨by rfl, rfl⟩) (by assumption) ?_
              simp only [Act.put, List.getElem_toArray, List.getElem_cons_zero, List.getElem_cons_succ, List.setIfInBounds_toArray, List.set_cons_zero, List.set_cons_succ]
              refine wpAnyH_take (i := 28) (v := ?vb28) rfl (by kernel_rfl) (by kernel_rfl) (by kernel_rfl) (fun _ _ _ h => h) (Or.inl ⟨by rfl, ?hyb28⟩) (by assumption) ?restb28
              case hyb28 => (intro w5 hSw; (try dsimp only at hSw); go_simp; try with_reducible rfl)
              simp only [Act.put, List.getElem_toArray, List.getElem_cons_zero, List.getElem_cons_succ, List.setIfInBounds_toArray, List.set_cons_zero, List.set_cons_succ]
              refine wpAnyH_done (by kernel_rfl) ?_ _
              have C9 := BR.out.trans (Below.mono hHeld.2.2 BR.out.size)
              clear hHeld hK
              go_wp2_with fail
              go_ret
              exact ⟨by rw [hr.out]; rfl, C9⟩
            · have hdz : (y == 0) = false := by simpa using hz
              cases hq : hasI (os.take k) (j : Int)
              · rw [hq] at HTk
                go_wp2_with fail
                go_region_held3 (fun w' => w'.cell? ⟨ob, oo + k, none⟩ = some (.int .i64 (j : Int)) ∧ w'.cell? ⟨pb, po + j, none⟩ = some (.int .i64 y) ∧ Since wr w')
                  (first | exact hstart | exact HK.out _ (by exact (‹_ ∧ _› : _ ∧ _ ∧ Since wr _).2.2) | fail)
                  (first
                    | (go_at_call 76; ((with_reducible refine (l1In_yes (j : Int) 0 ((n : Int) - 1) _ (by omega) (by omega)).mono ?_); rintro e w2 ⟨rfl, rfl⟩))
                    | (go_at_call 82; ((with_reducible refine (HTk.out _ (by exact (‹_ ∧ _› : _ ∧ _ ∧ Since wr _).2.2)).mono ?_); rintro e w3 ⟨rfl, rfl⟩))
                    | fail)
                rename_i hheld
                have hs9 := hheld.2.2
                have BR9 := Lib.hid (BR.out.trans (Below.mono hs9 BR.out.size))
                have DR9 := Lib.hid (DR.out.trans (Below.mono hs9 DR.out.size))
                have hnm : (j : Int) ∉ os.take k := fun hm => by rw [hasI_iffP.2 hm] at hq; cases hq
                clear hheld hstart hq HTk HK
                obtain ⟨wq, hwq⟩ : ∃ wq, wq = wr.drew := ⟨_, rfl⟩
                rw [← hwq] at hs9 BR9 DR9 ⊢
                have hsq : Since wr wq := hs9
                clear hs9 hwq
                have hsv := HSV.out (j : Int) (by omega) (by have := HSM.out; omega)
                by_cases hm : (j : Int) % h.t = 0
                · rw [if_pos hm] at hsv
                  have hso := Lib.hid (GOODk.out ⟨hin, hz, hnm, fun hc => absurd hm hc⟩)
                  have HSk := Lib.hid fun (w' : World) => HSB.out (j : Int) w'
                  rw [hsv] at HSk
                  have y9 := HX.out wq DR9.out
                  have s9 : wq.cell? ⟨ob, oo + k, none⟩ = some (.int .i64 (j : Int)) := (Below.cell hsq (p := ⟨ob, oo + k, none⟩) hobl).trans s0
                  have hobq : ob < wq.heap.size := Nat.lt_of_lt_of_le hobl hsq.size
                  have HKq := Lib.hid fun (w' : World) (hs : Since wq w') => (show w'.cell? ⟨w.heap.size, 0, none⟩ = some (.int .i64 h.b) ∧ w'.cell? ⟨w.heap.size, 1, none⟩ = some (.int .i64 h.r) ∧ w'.cell? ⟨w.heap.size, 2, none⟩ = some (.int .i64 h.t) ∧ w'.cell? ⟨ob, oo + k, none⟩ = some (.int .i64 (j : Int)) ∧ Since wq w' from ⟨(y9.keep hs).c0, (y9.keep hs).c1, (y9.keep hs).c2, (Below.cell hs (p := ⟨ob, oo + k, none⟩) hobq).trans s9, hs⟩)
                  have hstart := HKq.out _ (show Since wq wq.drew from (Below.refl _ _).drew)
                  clear y9 s9
                  go_wp2_with fail
                  go_region_held3 (fun w' => w'.cell? ⟨w.heap.size, 0, none⟩ = some (.int .i64 h.b) ∧ w'.cell? ⟨w.heap.size, 1, none⟩ = some (.int .i64 h.r) ∧ w'.cell? ⟨w.heap.size, 2, none⟩ = some (.int .i64 h.t) ∧ w'.cell? ⟨ob, oo + k, none⟩ = some (.int .i64 (j : Int)) ∧ Since wq w')
                    (first | exact hstart | exact HKq.out _ s5 | exact HKq.out _ (by exact (‹_ ∧ _› : _ ∧ _ ∧ _ ∧ _ ∧ Since wq _).2.2.2.2) | fail)
                    (first
                      | (go_at_call 80; ((with_reducible refine (HSk.out _).mono ?_); rintro e w5 ⟨rfl, d5⟩; have s5 : Since wq w5 := Since.call (by exact (‹_ ∧ _› : _ ∧ _ ∧ _ ∧ _ ∧ Since wq _).2.2.2.2) d5; clear d5))
                      | fail)
                  rename_i hheld
                  have hs8 := hheld.2.2.2.2
                  have BR8 := Lib.hid (BR9.out.trans (Below.mono hs8 BR9.out.size))
                  have DR8 := Lib.hid (DR9.out.trans (Below.mono hs8 DR9.out.size))
                  have HTL := Lib.hid fun x => HT.out k (by omega) x _ BR8.out
                  clear hheld hstart
                  clear hsv hm HTL
                  go_wp2_with fail
                  go_roundw
                  case rel => exact ⟨k + 1, by omega, by go_num, Lib.hid fun j' hj => by
                    by_cases e : j' = k
                    · subst e; exact hso.out
                    · exact HA.out j' (by omega), DR8, BR8⟩
                  case measure => simp [intOf]; omega
                · rw [if_neg hm] at hsv
                  have hj0 : j ≠ 0 := fun e => hm (by rw [e]; simp)
                  obtain ⟨i, hij⟩ : ∃ i, j = i + 1 := ⟨j - 1, by omega⟩
                  have hsv2 : slBelow h (j : Int) = (i : Int) := by rw [hsv]; omega
                  have hji : (j : Int) - 1 = (i : Int) := by omega
                  rw [hji] at GOODk BADk
                  clear hij hj0 hsv
                  have HSk := Lib.hid fun (w' : World) => HSB.out (j : Int) w'
                  rw [hsv2] at HSk
                  have y9 := HX.out wq DR9.out
                  have s9 : wq.cell? ⟨ob, oo + k, none⟩ = some (.int .i64 (j : Int)) := (Below.cell hsq (p := ⟨ob, oo + k, none⟩) hobl).trans s0
                  have hobq : ob < wq.heap.size := Nat.lt_of_lt_of_le hobl hsq.size
                  have HKq := Lib.hid fun (w' : World) (hs : Since wq w') => (show w'.cell? ⟨w.heap.size, 0, none⟩ = some (.int .i64 h.b) ∧ w'.cell? ⟨w.heap.size, 1, none⟩ = some (.int .i64 h.r) ∧ w'.cell? ⟨w.heap.size, 2, none⟩ = some (.int .i64 h.t) ∧ w'.cell? ⟨ob, oo + k, none⟩ = some (.int .i64 (j : Int)) ∧ Since wq w' from ⟨(y9.keep hs).c0, (y9.keep hs).c1, (y9.keep hs).c2, (Below.cell hs (p := ⟨ob, oo + k, none⟩) hobq).trans s9, hs⟩)
                  have hstart := HKq.out _ (show Since wq wq.drew from (Below.refl _ _).drew)
                  clear y9 s9
                  go_wp2_with fail
                  go_region_held3 (fun w' => w'.cell? ⟨w.heap.size, 0, none⟩ = some (.int .i64 h.b) ∧ w'.cell? ⟨w.heap.size, 1, none⟩ = some (.int .i64 h.r) ∧ w'.cell? ⟨w.heap.size, 2, none⟩ = some (.int .i64 h.t) ∧ w'.cell? ⟨ob, oo + k, none⟩ = some (.int .i64 (j : Int)) ∧ Since wq w')
                    (first | exact hstart | exact HKq.out _ s5 | exact HKq.out _ (by exact (‹_ ∧ _› : _ ∧ _ ∧ _ ∧ _ ∧ Since wq _).2.2.2.2) | fail)
                    (first
                      | (go_at_call 80; ((with_reducible refine (HSk.out _).mono ?_); rintro e w5 ⟨rfl, d5⟩; have s5 : Since wq w5 := Since.call (by exact (‹_ ∧ _› : _ ∧ _ ∧ _ ∧ _ ∧ Since wq _).2.2.2.2) d5; clear d5))
                      | fail)
                  rename_i hheld
                  have hs8 := hheld.2.2.2.2
                  have BR8 := Lib.hid (BR9.out.trans (Below.mono hs8 BR9.out.size))
                  have DR8 := Lib.hid (DR9.out.trans (Below.mono hs8 DR9.out.size))
                  have HTL := Lib.hid fun x => HT.out k (by omega) x _ BR8.out
                  clear hheld hstart
                  have HTi := Lib.hid (HTL.out (i : Int))
                  have ii0 : decide ((0 : Int) ≤ (i : Int)) = true := decide_eq_true (by omega)
                  cases hq : hasI (os.take k) (i : Int)
                  · rw [hq] at HTi
                    have hr := Lib.hid (BADk.out fun hc => by rw [hasI_iffP.2 (hc.2.2.2 hm)] at hq; cases hq)
                    have C9 := BR8.out
                    clear hq hsv2 hm HTL hji
                    go_wp2_with fail
                    refine HTi.out.mono ?_
                    rintro e w' ⟨rfl, rfl⟩
                    go_wp2_with fail
                    go_ret
                    exact ⟨by rw [hr.out]; rfl, C9⟩
                  · rw [hq] at HTi
                    have hso := Lib.hid (GOODk.out ⟨hin, hz, hnm, fun _ => hasI_iffP.1 hq⟩)
                    clear hq hsv2 hm HTL hji
                    go_wp2_with fail
                    refine HTi.out.mono ?_
                    rintro e w' ⟨rfl, rfl⟩
                    go_wp2_with fail
                    go_roundw
                    case rel => exact ⟨k + 1, by omega, by go_num, Lib.hid fun j' hj => by
                      by_cases e : j' = k
                      · subst e; exact hso.out
                      · exact HA.out j' (by omega), DR8, BR8⟩
                    case measure => simp [intOf]; omega
              · rw [hq] at HTk
                go_wp2_with fail
                go_region_held3 (fun w' => w'.cell? ⟨ob, oo + k, none⟩ = some (.int .i64 (j : Int)) ∧ w'.cell? ⟨pb, po + j, none⟩ = some (.int .i64 y) ∧ Since wr w')
                  (first | exact hstart | exact HK.out _ (by exact (‹_ ∧ _› : _ ∧ _ ∧ Since wr _).2.2) | fail)
                  (first
                    | (go_at_call 76; ((with_reducible refine (l1In_yes (j : Int) 0 ((n : Int) - 1) _ (by omega) (by omega)).mono ?_); rintro e w2 ⟨rfl, rfl⟩))
                    | (go_at_call 82; ((with_reducible refine (HTk.out _ (by exact (‹_ ∧ _› : _ ∧ _ ∧ Since wr _).2.2)).mono ?_); rintro e w3 ⟨rfl, rfl⟩))
                    | fail)
                rename_i hheld
                have hs9 := hheld.2.2
                have C9 := BR.out.trans (Below.mono hs9 BR.out.size)
                have hr := Lib.hid (BADk.out fun hc => hc.2.2.1 (of_decide_eq_true hq))
                clear hheld hstart hq
                go_wp2_with fail
                go_ret
                exact ⟨by rw [hr.out]; rfl, C9⟩
          · have HK := Lib.hid fun (w' : World) (hs : Since wr w') => (show w'.cell? ⟨ob, oo + k, none⟩ = some (.int .i64 x) ∧ Since wr w' from ⟨(Below.cell hs (p := ⟨ob, oo + k, none⟩) hobl).trans s0, hs⟩)
            have hstart := HK.out _ (show Since wr wr.drew from (Below.refl _ _).drew)
            have hr := Lib.hid (BADk.out fun hc => hin hc.1)
            clear hx
            go_wp2_with fail
            refine wp_region_held_drew (S := (fun w' => w'.cell? ⟨ob, oo + k, none⟩ = some (.int .i64 x) ∧ Since wr w')) (by kernel_rfl) hstart (fun hHeld => ?_)
            refine wpAnyH_take (i := 0) (v := ?v0) rfl (by kernel_rfl) (by kernel_rfl) (by kernel_rfl) (fun _ _ _ h => h) (Or.inl ⟨by rfl, ?hy0⟩) (by assumption) ?rest0
            case hy0 => (intro w5 hSw; (try dsimp only at hSw); go_simp; try with_reducible rfl)
            simp only [Act.put, List.getElem_toArray, List.getElem_cons_zero, List.setIfInBounds_toArray, List.set_cons_zero, List.set_cons_succ]
            refine wpAnyH_take (i := 1) (v := ?v1) rfl (by kernel_rfl) (by kernel_rfl) (by kernel_rfl) (fun _ _ _ h => h) (Or.inl ⟨by rfl, ?hy1⟩) (by assumption) ?rest1
            case hy1 => (intro w5 hSw; (try dsimp only at hSw); go_simp; try with_reducible rfl)
            simp only [Act.put, List.getElem_toArray, List.getElem_cons_zero, List.getElem_cons_succ, List.setIfInBounds_toArray, List.set_cons_zero, List.set_cons_succ]
            refine wpAnyH_take (i := 2) (v := ?v2) rfl (by kernel_rfl) (by kernel_rfl) (by kernel_rfl) (fun _ _ _ h => h) (Or.inl ⟨by rfl, ?hy2⟩) (by assumption) ?rest2
            case hy2 => (intro w5 hSw; (try dsimp only at hSw); go_simp; try with_reducible rfl)
            simp only [Act.put, List.getElem_toArray, List.getElem_cons_zero, List.getElem_cons_succ, List.setIfInBounds_toArray, List.set_cons_zero, List.set_cons_succ]
            refine wpAnyH_take (i := 3) (v := ?v3) rfl (by kernel_rfl) (by kernel_rfl) (by kernel_rfl) (fun _ _ _ h => h) (Or.inl ⟨by rfl, ?hy3⟩) (by assumption) ?rest3
            case hy3 => (intro w5 hSw; (try dsimp only at hSw); go_simp; try with_reducible rfl)
            simp only [Act.put, List.getElem_toArray, List.getElem_cons_zero, List.getElem_cons_succ, List.setIfInBounds_toArray, List.set_cons_zero, List.set_cons_succ]
            refine wpAnyH_take (i := 4) (v := ?v4) rfl (by kernel_rfl) (by kernel_rfl) (by kernel_rfl) (fun _ _ _ h => h) (Or.inl ⟨by rfl, ?hy4⟩) (by assumption) ?rest4
            case hy4 => (intro w5 hSw; (try dsimp only at hSw); go_simp; try with_reducible rfl)
            simp only [Act.put, List.getElem_toArray, List.getElem_cons_zero, List.getElem_cons_succ, List.setIfInBounds_toArray, List.set_cons_zero, List.set_cons_succ]
            refine wpAnyH_take (i := 5) (v := ?v5) rfl (by kernel_rfl) (by kernel_rfl) (by kernel_rfl) (fun _ _ _ h => h) (Or.inl ⟨by rfl, ?hy5⟩) (by assumption) ?rest5
            case hy5 => (intro w5 hSw; (try dsimp only at hSw); go_simp; try with_reducible rfl)
            simp only [Act.put, List.getElem_toArray, List.getElem_cons_zero, List.getElem_cons_succ, List.setIfInBounds_toArray, List.set_cons_zero, List.set_cons_succ]
            refine wpAnyH_take (i := 6) (v := ?v6) rfl (by kernel_rfl) (by kernel_rfl) (by kernel_rfl) (fun _ _ _ h => h) (Or.inl ⟨by rfl, ?hy6⟩) (by assumption) ?rest6
            case hy6 => (intro w5 hSw; (try dsimp only at hSw); go_simp; try with_reducible rfl)
            simp only [Act.put, List.getElem_toArray, List.getElem_cons_zero, List.getElem_cons_succ, List.setIfInBounds_toArray, List.set_cons_zero, List.set_cons_succ]
            refine wpAnyH_ready (rs := [7]) (by kernel_rfl) (by simp) ?_
            refine AllReadyH.cons rfl (fun K hK => ?_) AllReadyH.nil
            go_simp
            with_reducible refine (l1In_no x 0 ((n : Int) - 1) _ (by omega)).mono ?_
            rintro e w2 ⟨rfl, rfl⟩
            refine hK.out _ _ hHeld (fun _ => ?_)
            refine wpAnyH_take (i := 8) (v := ?v8) rfl (by kernel_rfl) (by kernel_rfl) (by kernel_rfl) (fun _ _ _ h => h) (Or.inl ⟨by rfl, ?hy8⟩) (by assumption) ?rest8
            case hy8 => (intro w5 hSw; (try dsimp only at hSw); go_simp; try with_reducible rfl)
            simp only [Act.put, List.getElem_toArray, List.getElem_cons_zero, List.getElem_cons_succ, List.setIfInBounds_toArray, List.set_cons_zero, List.set_cons_succ]
            refine wpAnyH_take (i := 9) (v := ?v9) rfl (by kernel_rfl) (by kernel_rfl) (by kernel_rfl) (fun _ _ _ h => h) (Or.inl ⟨by rfl, ?hy9⟩) (by assumption) ?rest9
            case hy9 => (intro w5 hSw; (try dsimp only at hSw); go_simp; try with_reducible rfl)
            simp only [Act.put, List.getElem_toArray, List.getElem_cons_zero, List.getElem_cons_succ, List.setIfInBounds_toArray, List.set_cons_zero, List.set_cons_succ]
            refine wpAnyH_take (i := 10) (v := undef) rfl (by kernel_rfl) (by kernel_rfl) (by kernel_rfl) (fun _ _ _ h => h) (Or.inr ⟨by rfl, rfl⟩) (by assumption) ?_
            simp only [Act.put, List.getElem_toArray, List.getElem_cons_zero, List.getElem_cons_succ, List.setIfInBounds_toArray, List.set_cons_zero, List.set_cons_succ]
            refine wpAnyH_take (i := 11) (v := undef) rfl (by kernel_rfl) (by kernel_rfl) (by kernel_rfl) (fun _ _ _ h => h) (Or.inr ⟨by rfl, rfl⟩) (by assumption) ?_
            simp only [Act.put, List.getElem_toArray, List.getElem_cons_zero, List.getElem_cons_succ, List.setIfInBounds_toArray, List.set_cons_zero, List.set_cons_succ]
            refine wpAnyH_take (i := 12) (v := undef) rfl (by kernel_rfl) (by kernel_rfl) (by kernel_rfl) (fun _ _ _ h => h) (Or.inr ⟨by rfl, rfl⟩) (by assumption) ?_
            simp only [Act.put, List.getElem_toArray, List.getElem_cons_zero, List.getElem_cons_succ, List.setIfInBounds_toArray, List.set_cons_zero, List.set_cons_succ]
            refine wpAnyH_take (i := 13) (v := undef) rfl (by kernel_rfl) (by kernel_rfl) (by kernel_rfl) (fun _ _ _ h => h) (Or.inr ⟨by rfl, rfl⟩) (by assumption) ?_
            simp only [Act.put, List.getElem_toArray, List.getElem_cons_zero, List.getElem_cons_succ, List.setIfInBounds_toArray, List.set_cons_zero, List.set_cons_succ]
            refine wpAnyH_take (i := 14) (v := undef) rfl (by kernel_rfl) (by kernel_rfl) (by kernel_rfl) (fun _ _ _ h => h) (Or.inr ⟨by rfl, rfl⟩) (by assumption) ?_
            simp only [Act.put, List.getElem_toArray, List.getElem_cons_zero, List.getElem_cons_succ, List.setIfInBounds_toArray, List.set_cons_zero, List.set_cons_succ]
            refine wpAnyH_take (i := 15) (v := undef) rfl (by kernel_rfl) (by kernel_rfl) (by kernel_rfl) (fun _ _ _ h => h) (Or.inr ⟨by rfl, rfl⟩) (by assumption) ?_
            simp only [Act.put, List.getElem_toArray, List.getElem_cons_zero, List.getElem_cons_succ, List.setIfInBounds_toArray, List.set_cons_zero, List.set_cons_succ]
            refine wpAnyH_take (i := 16) (v := undef) rfl (by kernel_rfl) (by kernel_rfl) (by kernel_rfl) (fun _ _ _ h => h) (Or.inr ⟨by rfl, rfl⟩) (by assumption) ?_
            simp only [Act.put, List.getElem_toArray, List.getElem_cons_zero, List.getElem_cons_succ, List.setIfInBounds_toArray, List.set_cons_zero, List.set_cons_succ]
            refine wpAnyH_take (i := 17) (v := undef) rfl (by kernel_rfl) (by kernel_rfl) (by kernel_rfl) (fun _ _ _ h => h) (Or.inr ⟨by rfl, rfl⟩) (by assumption) ?_
            simp only [Act.put, List.getElem_toArray, List.getElem_cons_zero, List.getElem_cons_succ, List.setIfInBounds_toArray, List.set_cons_zero, List.set_cons_succ]
            refine wpAnyH_take (i := 18) (v := ?v18) rfl (by kernel_rfl) (by kernel_rfl) (by kernel_rfl) (fun _ _ _ h => h) (Or.inl ⟨by rfl, ?hy18⟩) (by assumption) ?rest18
            case hy18 => (intro w5 hSw; (try dsimp only at hSw); go_simp; try with_reducible rfl)
            simp only [Act.put, List.getElem_toArray, List.getElem_cons_zero, List.getElem_cons_succ, List.setIfInBounds_toArray, List.set_cons_zero, List.set_cons_succ]
            refine wpAnyH_take (i := 19) (v := ?v19) rfl (by kernel_rfl) (by kernel_rfl) (by kernel_rfl) (fun _ _ _ h => h) (Or.inl ⟨by rfl, ?hy19⟩) (by assumption) ?rest19
            case hy19 => (intro w5 hSw; (try dsimp only at hSw); go_simp; try with_reducible rfl)
            simp only [Act.put, List.getElem_toArray, List.getElem_cons_zero, List.getElem_cons_succ, List.setIfInBounds_toArray, List.set_cons_zero, List.set_cons_succ]
            refine wpAnyH_take (i := 20) (v := undef) rfl (by kernel_rfl) (by kernel_rfl) (by kernel_rfl) (fun _ _ _ h => h) (Or.inr ⟨by rfl, rfl⟩) (by assumption) ?_
            simp only [Act.put, List.getElem_toArray, List.getElem_cons_zero, List.getElem_cons_succ, List.setIfInBounds_toArray, List.set_cons_zero, List.set_cons_succ]
            refine wpAnyH_take (i := 21) (v := undef) rfl (by kernel_rfl) (by kernel_rfl) (by kernel_rfl) (fun _ _ _ h => h) (Or.inr ⟨by rfl, rfl⟩) (by assumption) ?_
            simp only [Act.put, List.getElem_toArray, List.getElem_cons_zero, List.getElem_cons_succ, List.setIfInBounds_toArray, List.set_cons_zero, List.set_cons_succ]
            refine wpAnyH_take (i := 22) (v := undef) rfl (by kernel_rfl) (by kernel_rfl) (by kernel_rfl) (fun _ _ _ h => h) (Or.inr ⟨by rfl, rfl⟩) (by assumption) ?_
            simp only [Act.put, List.getElem_toArray, List.getElem_cons_zero, List.getElem_cons_succ, List.setIfInBounds_toArray, List.set_cons_zero, List.set_cons_succ]
            refine wpAnyH_take (i := 23) (v := undef) rfl (by kernel_rfl) (by kernel_rfl) (by kernel_rfl) (fun _ _ _ h => h) (Or.inr ⟨by rfl, rfl⟩) (by assumption) ?_
            simp only [Act.put, List.getElem_toArray, List.getElem_cons_zero, List.getElem_cons_succ, List.setIfInBounds_toArray, List.set_cons_zero, List.set_cons_succ]
            refine wpAnyH_take (i := 24) (v := undef) rfl (by kernel_rfl) (by kernel_rfl) (by kernel_rfl) (fun _ _ _ h => h) (Or.inr ⟨by rfl, rfl⟩) (by assumption) ?_
            simp only [Act.put, List.getElem_toArray, List.getElem_cons_zero, List.getElem_cons_succ, List.setIfInBounds_toArray, List.set_cons_zero, List.set_cons_succ]
            refine wpAnyH_take (i := 25) (v := undef) rfl (by kernel_rfl) (by kernel_rfl) (by kernel_rfl) (fun _ _ _ h => h) (Or.inr ⟨by rfl, rfl⟩) (by assumption) ?_
            simp only [Act.put, List.getElem_toArray, List.getElem_cons_zero, List.getElem_cons_succ, List.setIfInBounds_toArray, List.set_cons_zero, List.set_cons_succ]
            refine wpAnyH_take (i := 26) (v := undef) rfl (by kernel_rfl) (by kernel_rfl) (by kernel_rfl) (fun _ _ _ h => h) (Or.inr ⟨by rfl, rfl⟩) (by assumption) ?_
            simp only [Act.put, List.getElem_toArray, List.getElem_cons_zero, List.getElem_cons_succ, List.setIfInBounds_toArray, List.set_cons_zero, List.set_cons_succ]
            refine wpAnyH_take (i := 27) (v := undef) rfl (by kernel_rfl) (by kernel_rfl) (by kernel_rfl) (fun _ _ _ h => h) (Or.inr ⟨by rfl, rfl⟩) (by assumption) ?_
            simp only [Act.put, List.getElem_toArray, List.getElem_cons_zero, List.getElem_cons_succ, List.setIfInBounds_toArray, List.set_cons_zero, List.set_cons_succ]
            refine wpAnyH_take (i := 28) (v := ?v28) rfl (by kernel_rfl) (by kernel_rfl) (by kernel_rfl) (fun _ _ _ h => h) (Or.inl ⟨by rfl, ?hy28⟩) (by assumption) ?rest28
            case hy28 => (intro w5 hSw; (try dsimp only at hSw); go_simp; try with_reducible rfl)
            simp only [Act.put, List.getElem_toArray, List.getElem_cons_zero, List.getElem_cons_succ, List.setIfInBounds_toArray, List.set_cons_zero, List.set_cons_succ]
            refine wpAnyH_done (by kernel_rfl) ?_ _
            have C9 := BR.out.trans (Below.mono hHeld.2 BR.out.size)
            clear hHeld hK
            go_wp2_with fail
            go_ret
            exact ⟨by rw [hr.out]; rfl, C9⟩
        · obtain rfl : k = N := by omega
          have hr := Lib.hid (END.out fun j hj => HA.out j hj)
          have C9 := BR.out
          go_wp2_with fail
          go_ret
          exact ⟨by rw [hr.out]; rfl, C9⟩
    · have hr := Lib.hid (ldOk_nolen (h := h) (bok := bxsOk l) (ids := bxIds l) hlen9)
      have hne : ((os.length : Int) != ((fullI p).length : Int)) = true := by rw [hfl, bne_iff_ne]; omega
      obtain ⟨n, hn⟩ : ∃ n, n = p.length := ⟨_, rfl⟩
      obtain ⟨N, hN⟩ : ∃ N, N = os.length := ⟨_, rfl⟩
      rw [← hn] at PK HPV HSL hpc hlen ⊢
      rw [← hN] at OK hoc hne ⊢
      clear hok hlen9 hb hp ho hn hN
      go_enter Try.func54, Try.ntmps54
      go_wp2_with fail
      rw [← HW.out]
      go_wp2_with fail
      refine (HPV.out _ HB.out).mono ?_
      rintro e w2 ⟨rfl, b2⟩
      have C2 := HB.out.trans (b2.mono HB.out.size)
      clear b2 y0 y1 y2
      go_wp2_with fail
      refine (HSL.out w2 C2).mono ?_
      rintro e w3 ⟨v3, rfl, O3, b3⟩
      obtain ⟨a3, c3, rfl⟩ := O3.holds.form
      obtain ⟨M, hM⟩ : ∃ M, M = (fullI p).length := ⟨_, rfl⟩
      rw [← hM] at hne ⊢
      clear O3 hM
      go_wp2_with fail
      go_ret
      exact ⟨by rw [hr.out]; rfl, C2.trans (b3.mono C2.size)⟩

end Go.Proofs.Ytbaebamiiigmlac
