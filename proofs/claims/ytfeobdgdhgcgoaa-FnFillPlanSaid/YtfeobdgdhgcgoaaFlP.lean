/-
  The model's chapter 14: l14Lightest, FillPlan.
-/
import Derived.Test.YtfeobdgdhgcgoaaFlMath2
import Derived.Test.YtfeobdgdhgcgoaaFlS
import Derived.Test.YtfeobdgdhgcgoaaRwS
import Derived.Test.YtfeobdgdhgcgoaaPlC
import Derived.Test.YtfeobdgdhgcgoaaPlP
import Derived.Test.YtfeobdgdhgcgoaaGPl
import Derived.Deep.RegionHeld3
import Derived.Deep.QuietTactic
import Derived.BigQuiet
namespace Go.Proofs.Ytfeobdgdhgcgoaa
open Go.RowKit
set_option linter.unusedVariables false

theorem lgtO_bad {h : Hl} {l : List Bx} {p : List Int} (hk : plOk h (bxsOk l) (bxIds l) p = false) : lgtO h l p = -1 := by unfold lgtO; rw [nextI_bad hk]; rfl
/-- What a further box does to the plan. -/
theorem fill_put {h : Hl} {l : List Bx} (hb : bxsOk l = true) {k : Nat} (hk : k < l.length) :
    (lgtO h l (fillN h l (fillO l) k) = -1 ∧ fillN h l (fillO l) (k + 1) = fillN h l (fillO l) k) ∨
    ∃ j : Nat, lgtO h l (fillN h l (fillO l) k) = (j : Int) ∧ fillN h l (fillO l) (k + 1) = (putP h (bxsOk l) (bxIds l) (fillN h l (fillO l) k) (j : Int) ((fillO l).getD k 0)).1 := by
  have e : fillN h l (fillO l) (k + 1) = if 0 ≤ lgtO h l (fillN h l (fillO l) k) then (fillN h l (fillO l) k).set (lgtO h l (fillN h l (fillO l) k)).toNat ((fillO l).getD k 0) else fillN h l (fillO l) k := rfl
  cases hpk : plOk h (bxsOk l) (bxIds l) (fillN h l (fillO l) k)
  · have h1 := lgtO_bad hpk
    exact .inl ⟨h1, by rw [e, h1, if_neg (by omega)]⟩
  · have hh := (plOk_iff.1 hpk).1
    obtain ⟨a1, a2, a3, a4, a5⟩ := fillN_law hh hb k (by omega)
    obtain ⟨o1, o2, o3, o4⟩ := fillO_law hb
    obtain ⟨p, hp⟩ : ∃ p, p = fillN h l (fillO l) k := ⟨_, rfl⟩
    rw [← hp] at a3 hpk e ⊢
    rcases lgtO_cases hpk with ⟨c1, c2⟩ | ⟨j, c1, c2, c3⟩
    · exact .inl ⟨c1, by rw [e, c1, if_neg (by omega)]⟩
    · refine .inr ⟨j, c1, ?_⟩
      rw [e, c1, if_pos (by omega), Int.toNat_natCast]
      have hkl : k < (fillO l).length := by omega
      obtain ⟨id, hid⟩ : ∃ id, id = (fillO l).getD k 0 := ⟨_, rfl⟩
      have hidg : (fillO l)[k] = id := by rw [hid, List.getD_eq_getElem?_getD, List.getElem?_eq_getElem hkl, Option.getD_some]
      rw [← hid]
      have hidm : id ∈ bxIds l := o3 _ (by rw [← hidg]; exact List.getElem_mem hkl)
      have hid1 := bxIds_pos hb id hidm
      have hnt : id ∉ (fillO l).take k := fun hm => by
        obtain ⟨i, hi, he⟩ := List.getElem_of_mem hm
        rw [List.length_take] at hi
        rw [List.getElem_take] at he
        exact List.pairwise_iff_getElem.1 (List.nodup_iff_pairwise_ne.1 o2) i k (by omega) hkl (by omega) (by rw [he, hidg])
      have hnp : id ∉ p := fun hm => hnt (a3 id hm (by omega))
      have hput := putP_next (bok := bxsOk l) (bxIds_pos hb) hpk hidm hnp c2
      rw [c3] at hput
      rcases putP_cases h (bxsOk l) (bxIds l) p (j : Int) id with ⟨h1, h2⟩ | ⟨h1, h2⟩ | ⟨-, -, -, -, -, -, h9⟩
      · rw [h2] at hput; cases hput
      · rw [h2] at hput; cases hput
      · rw [h9, Int.toNat_natCast]

set_option maxRecDepth 10000 in
set_option maxHeartbeats 4000000 in
theorem l14Lightest_any (h : Hl) (u v : Value) (l : List Bx) (p : List Int) (w : World) (hb : HoldsBx w u l) (hp : HoldsI w v p) :
    Calls Try.prog 57 #[.agg #[.int .i64 h.b, .int .i64 h.r, .int .i64 h.t], u, v] w fun e w' => e = .returned (.int .i64 (lgtO h l p)) ∧ Below w.heap.size w w' := by
  have hb1 := (Below.refl w.heap.size w).alloc (Nat.le_refl _) (.cells #[.int .i64 h.b, .int .i64 h.r, .int .i64 h.t] 36)
  have hx1 := BoxH.new w h
  obtain ⟨W1, hW1⟩ : ∃ W1, W1 = w.alloc (.cells #[.int .i64 h.b, .int .i64 h.r, .int .i64 h.t] 36) := ⟨_, rfl⟩
  rw [← hW1] at hb1 hx1
  have HW := Lib.hid hW1
  have HB := Lib.hid hb1
  have y0 := hx1.c0
  have y1 := hx1.c1
  have y2 := hx1.c2
  have HX := Lib.hid fun (w' : World) (hs : Below W1.heap.size W1 w') => hx1.keep hs
  clear hW1 hb1 hx1
  have PK := Lib.hid fun (w' : World) (hs : Below w.heap.size w w') => hp.keep hs
  have HPN := Lib.hid fun (w' : World) (hs : Below w.heap.size w w') => specPlanNext_any h u v l p w' (hb.keep hs) (hp.keep hs)
  have HRW := Lib.hid fun (w' : World) (hs : Below w.heap.size w w') => specRowWeights_any h u v l p w' (hb.keep hs) (hp.keep hs)
  cases hok : plOk h (bxsOk l) (bxIds l) p
  · have e0 : nextI h (bxsOk l) (bxIds l) p = [] := nextI_bad hok
    have HE := Lib.hid (lgtO_bad hok)
    rw [e0] at HPN
    generalize rowO h l p = RW at HRW
    clear hok hb hp PK e0
    go_enter Try.func57, Try.ntmps57
    go_wp2_with fail
    rw [← HW.out]
    go_wp2_with fail
    refine (HPN.out _ HB.out).mono ?_
    rintro e w2 ⟨v2, rfl, O2, b2⟩
    obtain ⟨na, nc, rfl⟩ := O2.holds.form
    have C2 := HB.out.trans (b2.mono HB.out.size)
    have D2 : Below W1.heap.size W1 w2 := b2
    have z0 := (HX.out w2 D2).c0
    have z1 := (HX.out w2 D2).c1
    have z2 := (HX.out w2 D2).c2
    clear b2 y0 y1 y2
    go_wp2_with fail
    refine (HRW.out w2 C2).mono ?_
    rintro e w3 ⟨v3, rfl, O3, b3⟩
    obtain ⟨ra, rc, rfl⟩ := O3.holds.form
    have C3 := C2.trans (b3.mono C2.size)
    have D3 := D2.trans (b3.mono D2.size)
    have N3 := O2.holds.keep b3
    have R3 := O3.holds
    clear b3 z0 z1 z2 O2 O3 C2 D2 HPN HRW
    clear N3 R3 D3
    go_wp2_with fail
    go_loopw [7, 10] (fun bv i wr => bv = .int .i64 (-1) ∧ i = .int .i64 0 ∧ wr = w3) (fun _ _ _ => 0)
    case atStart => exact ⟨rfl, rfl, rfl⟩
    case round =>
      obtain ⟨rfl, rfl, rfl⟩ := hrel
      go_wp2_with fail
      go_ret
      exact ⟨by rw [HE.out]; rfl, C3⟩
  · obtain ⟨R, q1, q2, q3⟩ := rows_pl hok
    obtain ⟨T, hTe⟩ : ∃ T : Nat, T = h.t.toNat := ⟨_, rfl⟩
    have hlen := pl_len hok
    have hRL : (rowO h l p).length = R := by
      unfold rowO
      rw [if_pos hok, rowsW_len]
      unfold rowsMany; rw [q3, Nat.mul_div_cancel _ q2]
    have HMEM := Lib.hid fun k (hk : k < (nextI h (bxsOk l) (bxIds l) p).length) => (show ∃ j : Nat, (nextI h (bxsOk l) (bxIds l) p).getD k 0 = (j : Int) ∧ j < p.length from by
      obtain ⟨j, e1, e2, -⟩ := next_mem hok (List.getElem_mem hk)
      exact ⟨j, by rw [List.getD_eq_getElem?_getD, List.getElem?_eq_getElem hk, Option.getD_some, e1], e2⟩)
    have HLB := Lib.hid fun k (hk : k ≤ (nextI h (bxsOk l) (bxIds l) p).length) => (show lgtN h.t.toNat (rowO h l p) (nextI h (bxsOk l) (bxIds l) p) k = -1 ∨ ∃ b : Nat, lgtN h.t.toNat (rowO h l p) (nextI h (bxsOk l) (bxIds l) p) k = (b : Int) ∧ b < p.length from by
      rcases lgtN_mem (T := h.t.toNat) (rows := rowO h l p) (nx := nextI h (bxsOk l) (bxIds l) p) k hk with ⟨-, h2⟩ | h2
      · exact .inl h2
      · obtain ⟨j, e1, e2, -⟩ := next_mem hok h2
        exact .inr ⟨j, e1, e2⟩)
    have HNX := Lib.hid fun k => (show lgtN h.t.toNat (rowO h l p) (nextI h (bxsOk l) (bxIds l) p) (k + 1) = if lgtN h.t.toNat (rowO h l p) (nextI h (bxsOk l) (bxIds l) p) k < 0 ∨ (rowO h l p).getD (((nextI h (bxsOk l) (bxIds l) p).getD k 0).toNat / h.t.toNat) 0 < (rowO h l p).getD ((lgtN h.t.toNat (rowO h l p) (nextI h (bxsOk l) (bxIds l) p) k).toNat / h.t.toNat) 0 then (nextI h (bxsOk l) (bxIds l) p).getD k 0 else lgtN h.t.toNat (rowO h l p) (nextI h (bxsOk l) (bxIds l) p) k from rfl)
    have HE := Lib.hid (show lgtO h l p = lgtN h.t.toNat (rowO h l p) (nextI h (bxsOk l) (bxIds l) p) (nextI h (bxsOk l) (bxIds l) p).length from rfl)
    have HDV := Lib.hid fun j (hj : j < p.length) => (show j / h.t.toNat < R from Nat.div_lt_of_lt_mul (by rw [Nat.mul_comm, ← q3]; exact hj))
    rw [← hTe] at HLB HNX HE HDV q1 q2 q3
    have hTT := Lib.hid (show h.t = (T : Int) from q1.symm)
    generalize nextI h (bxsOk l) (bxIds l) p = NX at HPN HMEM HLB HNX HE
    generalize rowO h l p = RW at HRW HLB HNX HE hRL
    have hR36 : R ≤ 36 := by
      have h1 : R * 1 ≤ R * T := Nat.mul_le_mul_left R q2
      omega
    obtain ⟨lg, hlg⟩ : ∃ lg, lg = lgtN T RW NX := ⟨_, rfl⟩
    rw [← hlg] at HLB HNX HE
    have hlg0 : lg 0 = -1 := by rw [hlg]; rfl
    obtain ⟨n, hn⟩ : ∃ n, n = p.length := ⟨_, rfl⟩
    rw [← hn] at HMEM HLB HDV hlen
    clear hok hb hp PK hlg hn hTe q3 q1
    go_enter Try.func57, Try.ntmps57
    go_wp2_with fail
    rw [← HW.out]
    go_wp2_with fail
    refine (HPN.out _ HB.out).mono ?_
    rintro e w2 ⟨v2, rfl, O2, b2⟩
    obtain ⟨na, nc, rfl⟩ := O2.holds.form
    have C2 := HB.out.trans (b2.mono HB.out.size)
    have D2 : Below W1.heap.size W1 w2 := b2
    have z0 := (HX.out w2 D2).c0
    have z1 := (HX.out w2 D2).c1
    have z2 := (HX.out w2 D2).c2
    clear b2 y0 y1 y2
    go_wp2_with fail
    refine (HRW.out w2 C2).mono ?_
    rintro e w3 ⟨v3, rfl, O3, b3⟩
    obtain ⟨ra, rc, rfl⟩ := O3.holds.form
    have C3 := C2.trans (b3.mono C2.size)
    have D3 := D2.trans (b3.mono D2.size)
    have N3 := O2.holds.keep b3
    have R3 := O3.holds
    clear b3 z0 z1 z2 O2 O3 C2 D2 HPN HRW
    have NK := Lib.hid fun (w' : World) (hs : Below w3.heap.size w3 w') => N3.keep hs
    have RK := Lib.hid fun (w' : World) (hs : Below w3.heap.size w3 w') => R3.keep hs
    have YK := Lib.hid fun (w' : World) (hs : Below w3.heap.size w3 w') => HX.out w' (D3.trans (hs.mono D3.size))
    have CK := Lib.hid fun (w' : World) (hs : Below w3.heap.size w3 w') => C3.trans (hs.mono C3.size)
    have ZZ := Lib.hid (Below.refl w3.heap.size w3)
    have HRL := Lib.hid hRL
    obtain ⟨N, hN⟩ : ∃ N, N = NX.length := ⟨_, rfl⟩
    have hNm : N ≤ 9223372036854775807 := by
      obtain ⟨_, c9, e9, h8, h9, _⟩ := N3
      unfold maxLen at h9
      omega
    rw [← hN] at NK HMEM HLB HE ⊢
    rw [hRL] at RK ⊢
    clear N3 R3 D3 C3 HX hN hRL
    go_wp2_with fail
    go_loopw [7, 10] (fun bv i wr => ∃ k : Nat, k ≤ N ∧ bv = .int .i64 (lg k) ∧ i = .int .i64 k ∧ Hid (Below w3.heap.size w3 wr)) (fun _ i _ => N - (intOf i).toNat)
    case atStart => exact ⟨0, by omega, by rw [hlg0], rfl, ZZ⟩
    case round =>
      clear ZZ hlg0
      obtain ⟨k, hkN, rfl, rfl, BR⟩ := hrel
      by_cases hlt : k < N
      · obtain ⟨nb, no, rfl, hnbl, s0⟩ := (NK.out wr BR.out).at_ hlt
        obtain ⟨j, hj, hjn⟩ := HMEM.out k hlt
        have hnx := HNX.out k
        rw [hj] at s0 hnx
        rw [Int.toNat_natCast] at hnx
        have ik : (k : Int) < (N : Int) := by omega
        have i0k : (0 : Int) ≤ (k : Int) := by omega
        have B9 := Lib.hid fun m => belowF_drewN BR.out m
        rcases HLB.out k (by omega) with hq | ⟨b, hq, hbn⟩
        · rw [hq, if_pos (.inl (by omega))] at hnx
          have HP := Lib.hid hnx
          rw [hq]
          clear hq hnx hj
          go_wp2_with fail
          go_quiet (fail)
          go_wp2_with fail
          go_roundw
          case rel => exact ⟨k + 1, by omega, by rw [HP.out], by go_num, Lib.hid (B9.out _)⟩
          case measure => simp [intOf]; omega
        · have yc := (YK.out wr BR.out).c2
          have hj9 := HDV.out j hjn
          have hb9 := HDV.out b hbn
          rw [hq, Int.toNat_natCast] at hnx
          rw [hq]
          have t1 : (j : Int).tdiv h.t = ((j / T : Nat) : Int) := by rw [hTT.out, Int.tdiv_eq_ediv_of_nonneg (by omega)]; exact (Int.natCast_ediv j T).symm
          have t2 : (b : Int).tdiv h.t = ((b / T : Nat) : Int) := by rw [hTT.out, Int.tdiv_eq_ediv_of_nonneg (by omega)]; exact (Int.natCast_ediv b T).symm
          have nt : ¬ h.t = 0 := by rw [hTT.out]; omega
          obtain ⟨qa, hqa⟩ : ∃ qa, qa = j / T := ⟨_, rfl⟩
          obtain ⟨qb, hqb⟩ : ∃ qb, qb = b / T := ⟨_, rfl⟩
          rw [← hqa] at t1 hj9 hnx
          rw [← hqb] at t2 hb9 hnx
          obtain ⟨rb, ro, rfl, hrbl, r0⟩ := (RK.out wr BR.out).at_ hj9
          obtain ⟨rb2, ro2, e2, -, r1⟩ := (RK.out wr BR.out).at_ hb9
          simp only [Option.some.injEq, Addr.mk.injEq, and_true] at e2
          obtain ⟨rfl, rfl⟩ := e2
          obtain ⟨x, hx⟩ : ∃ x, x = RW.getD qa 0 := ⟨_, rfl⟩
          obtain ⟨y, hy⟩ : ∃ y, y = RW.getD qb 0 := ⟨_, rfl⟩
          rw [← hx] at r0 hnx
          rw [← hy] at r1 hnx
          have za : IntKind.i64.wrap (qa : Int) = (qa : Int) := IntWalk.i64_in _ (by omega)
          have zb : IntKind.i64.wrap (qb : Int) = (qb : Int) := IntWalk.i64_in _ (by omega)
          have ia : (qa : Int) < (R : Int) := by omega
          have i0a : (0 : Int) ≤ (qa : Int) := by omega
          have ib : (qb : Int) < (R : Int) := by omega
          have i0b : (0 : Int) ≤ (qb : Int) := by omega
          have inb : decide ((b : Int) < 0) = false := decide_eq_false (by omega)
          clear hq hj hqa hqb hx hy hj9 hb9 hbn hjn
          by_cases hxy : x < y
          · rw [if_pos (.inr hxy)] at hnx
            have HP := Lib.hid hnx
            have d1 : decide (x < y) = true := decide_eq_true hxy
            clear hnx hxy
            go_wp2_with fail
            go_quiet (fail)
            go_wp2_with fail
            go_roundw
            case rel => exact ⟨k + 1, by omega, by rw [HP.out], by go_num, Lib.hid (B9.out _)⟩
            case measure => simp [intOf]; omega
          · rw [if_neg (fun hc => by rcases hc with h9 | h9 <;> omega)] at hnx
            have HP := Lib.hid hnx
            have d1 : decide (x < y) = false := decide_eq_false hxy
            clear hnx hxy
            go_wp2_with fail
            go_quiet (fail)
            go_wp2_with fail
            go_roundw
            case rel => exact ⟨k + 1, by omega, by rw [HP.out], by go_num, Lib.hid (B9.out _)⟩
            case measure => simp [intOf]; omega
      · obtain rfl : k = N := by omega
        have C9 := CK.out wr BR.out
        have hnk : ¬ (k : Int) < (k : Int) := by omega
        go_wp2_with fail
        go_ret
        exact ⟨by rw [HE.out]; rfl, C9⟩

set_option maxRecDepth 10000 in
set_option maxHeartbeats 4000000 in
theorem specFillPlan_any (h : Hl) (u : Value) (l : List Bx) (w : World) (hb : HoldsBx w u l) :
    Calls Try.prog 19 #[.agg #[.int .i64 h.b, .int .i64 h.r, .int .i64 h.t], u] w fun e w' => ∃ v', e = .returned v' ∧ OwnI w.heap.size w' v' (fillP h l) ∧ Below w.heap.size w w' := by
  have hb1 := (Below.refl w.heap.size w).alloc (Nat.le_refl _) (.cells #[.int .i64 h.b, .int .i64 h.r, .int .i64 h.t] 36)
  have hx1 := BoxH.new w h
  obtain ⟨W1, hW1⟩ : ∃ W1, W1 = w.alloc (.cells #[.int .i64 h.b, .int .i64 h.r, .int .i64 h.t] 36) := ⟨_, rfl⟩
  rw [← hW1] at hb1 hx1
  have HW := Lib.hid hW1
  have HB := Lib.hid hb1
  have y0 := hx1.c0
  have y1 := hx1.c1
  have y2 := hx1.c2
  have HX := Lib.hid fun (w' : World) (hs : Below W1.heap.size W1 w') => hx1.keep hs
  clear hW1 hb1 hx1
  have HBV := Lib.hid fun (w' : World) (hs : Below w.heap.size w w') => specBoxesValid_any u l w' (hb.keep hs)
  have HPE := Lib.hid fun (w' : World) => specPlanEmpty_any h w'
  have HFO := Lib.hid fun (w' : World) (hs : Below w.heap.size w w') => specFillOrder_any u l w' (hb.keep hs)
  cases hok : bxsOk l
  · have HE := Lib.hid (show fillP h l = [] from by unfold fillP; rw [hok]; rfl)
    rw [hok] at HBV
    clear hok hb
    go_enter Try.func19, Try.ntmps19
    go_wp2_with fail
    rw [← HW.out]
    go_wp2_with fail
    refine (HBV.out _ HB.out).mono ?_
    rintro e w2 ⟨rfl, b2⟩
    have C2 := HB.out.trans (b2.mono HB.out.size)
    go_wp2_with fail
    go_ret
    exact ⟨_, rfl, by rw [HE.out]; exact OwnI.zero C2.size, C2.alloc C2.size _⟩
  · have HE := Lib.hid (show fillP h l = fillN h l (fillO l) l.length from by unfold fillP; rw [if_pos hok])
    have HPUT := Lib.hid fun k (hk : k < l.length) => fill_put (h := h) hok hk
    have HLG := Lib.hid fun (p : List Int) (v' : Value) (w' : World) (hs : Below w.heap.size w w') (hp : HoldsI w' v' p) => l14Lightest_any h u v' l p w' (hb.keep hs) hp
    have HPP := Lib.hid fun (p : List Int) (s id : Int) (v' : Value) (w' : World) (hs : Below w.heap.size w w') (hp : HoldsI w' v' p) => specPlanPut_any h u v' l p s id w' (hb.keep hs) hp
    have hl10 : l.length ≤ 10 := (bxsOk_each hok).2
    have hol : (fillO l).length = l.length := (fillO_law hok).1
    have hz0 : fillN h l (fillO l) 0 = emptyP h := rfl
    have ua : ∃ a c, u = .slice a l.length c := by obtain ⟨a, c, e, _⟩ := hb; exact ⟨a, c, e⟩
    obtain ⟨fl, hfl⟩ : ∃ fl, fl = fillN h l (fillO l) := ⟨_, rfl⟩
    rw [← hfl] at HE HPUT hz0
    generalize fillO l = ord at HFO HPUT hol
    rw [hok] at HBV
    obtain ⟨n, hn⟩ : ∃ n, n = l.length := ⟨_, rfl⟩
    rw [← hn] at HE HPUT hl10 hol
    rw [← hz0] at HPE
    clear hok hb hn hfl hz0 ua
    go_enter Try.func19, Try.ntmps19
    go_wp2_with fail
    rw [← HW.out]
    go_wp2_with fail
    refine (HBV.out _ HB.out).mono ?_
    rintro e w2 ⟨rfl, b2⟩
    have C2 := HB.out.trans (b2.mono HB.out.size)
    have D2 : Below W1.heap.size W1 w2 := b2
    have z0 := (HX.out w2 D2).c0
    have z1 := (HX.out w2 D2).c1
    have z2 := (HX.out w2 D2).c2
    clear b2 y0 y1 y2
    go_wp2_with fail
    refine (HPE.out w2).mono ?_
    rintro e w3 ⟨v3, rfl, O3, b3⟩
    have C3 := C2.trans (b3.mono C2.size)
    have D3 := D2.trans (b3.mono D2.size)
    have O3 := O3.from_ C2.size
    clear b3 z0 z1 z2 C2 D2
    go_wp2_with fail
    refine (HFO.out w3 C3).mono ?_
    rintro e w4 ⟨v4, rfl, O4, b4⟩
    have hh4 := O4.holds
    have C4 := Lib.hid (C3.trans (b4.mono C3.size))
    have D4 := Lib.hid (D3.trans (b4.mono D3.size))
    have O3 := Lib.hid (O3.keep b4)
    obtain ⟨oa, oc, rfl⟩ := hh4.form
    rw [hol] at hh4 ⊢
    have OK := Lib.hid fun (w' : World) (hs : Below w4.heap.size w4 w') => hh4.keep hs
    have ZZ := Lib.hid (Below.refl w4.heap.size w4)
    clear hh4 O4 b4 C3 D3 HPE HFO HBV hol
    go_wp2_with fail
    go_loopw [5, 7] (fun pv i wr => ∃ k : Nat, k ≤ n ∧ i = .int .i64 k ∧ Hid (OwnI w.heap.size wr pv (fl k)) ∧ Hid (Below w4.heap.size w4 wr)) (fun _ i _ => n - (intOf i).toNat)
    case atStart => exact ⟨0, by omega, rfl, O3, ZZ⟩
    case round =>
      clear O3 ZZ
      obtain ⟨k, hkn, rfl, OP, BR⟩ := hrel
      have CR := Lib.hid (C4.out.trans (BR.out.mono C4.out.size))
      have DR := Lib.hid (D4.out.trans (BR.out.mono D4.out.size))
      by_cases hlt : k < n
      · obtain ⟨ob, oo, rfl, hobl, s0⟩ := (OK.out wr BR.out).at_ hlt
        have hput := HPUT.out k hlt
        have y := HX.out wr DR.out
        have y0 := y.c0
        have y1 := y.c1
        have y2 := y.c2
        obtain ⟨pa, pc, rfl⟩ := OP.out.holds.form
        have HLk := Lib.hid (HLG.out (fl k) _ wr CR.out OP.out.holds)
        have HPk := Lib.hid fun (s id : Int) (w' : World) (hs : Below w.heap.size w w') (hq : HoldsI w' (.slice pa (fl k).length pc) (fl k)) => HPP.out (fl k) s id _ w' hs hq
        obtain ⟨q, hq⟩ : ∃ q, q = fl k := ⟨_, rfl⟩
        obtain ⟨id, hid⟩ : ∃ id, id = ord.getD k 0 := ⟨_, rfl⟩
        rw [← hq] at hput HLk HPk OP
        rw [← hid] at hput s0
        have ik : (k : Int) < (n : Int) := by omega
        have i0k : (0 : Int) ≤ (k : Int) := by omega
        rw [← hq]
        rcases hput with ⟨g1, g2⟩ | ⟨j, g1, g2⟩
        · rw [g1] at HLk
          have HN := Lib.hid g2
          clear g1 g2 hq hid y s0 HPk
          go_wp2_with fail
          refine HLk.out.mono ?_
          rintro e w6 ⟨rfl, d6⟩
          have B6 := Lib.hid (BR.out.trans (d6.mono BR.out.size))
          have O6 := Lib.hid (OP.out.keep d6)
          clear d6 y0 y1 y2
          go_wp2_with fail
          go_roundw
          case rel => exact ⟨k + 1, by omega, by go_num, by rw [HN.out]; exact O6, B6⟩
          case measure => simp [intOf]; omega
        · rw [g1] at HLk
          have HN := Lib.hid g2
          have dj : decide ((j : Int) ≥ 0) = true := decide_eq_true (by omega)
          have dj2 : decide ((0 : Int) ≤ (j : Int)) = true := dj
          have HPj := Lib.hid (HPk.out (j : Int) id)
          clear g1 g2 hq hid HPk
          go_wp2_with fail
          refine HLk.out.mono ?_
          rintro e w6 ⟨rfl, d6⟩
          have B6 := Lib.hid (BR.out.trans (d6.mono BR.out.size))
          have C6 := Lib.hid (CR.out.trans (d6.mono CR.out.size))
          have O6 := Lib.hid (OP.out.keep d6)
          have y6 := y.keep d6
          have s6 : w6.cell? ⟨ob, oo + k, none⟩ = some (.int .i64 id) := (Below.cell d6 (p := ⟨ob, oo + k, none⟩) hobl).trans s0
          have hob6 : ob < w6.heap.size := Nat.lt_of_lt_of_le hobl d6.size
          have HK := Lib.hid fun (w' : World) (hs : Since w6 w') => (show w'.cell? ⟨w.heap.size, 0, none⟩ = some (.int .i64 h.b) ∧ w'.cell? ⟨w.heap.size, 1, none⟩ = some (.int .i64 h.r) ∧ w'.cell? ⟨w.heap.size, 2, none⟩ = some (.int .i64 h.t) ∧ w'.cell? ⟨ob, oo + k, none⟩ = some (.int .i64 id) ∧ Since w6 w' from ⟨(y6.keep hs).c0, (y6.keep hs).c1, (y6.keep hs).c2, (Below.cell hs (p := ⟨ob, oo + k, none⟩) hob6).trans s6, hs⟩)
          have HPq := Lib.hid fun (w' : World) (hs : Since w6 w') => HPj.out w' (C6.out.trans (Below.mono hs C6.out.size)) (O6.out.keep hs).holds
          have hstart := HK.out _ (show Since w6 w6.drew from (Below.refl _ _).drew)
          clear d6 y0 y1 y2 y y6 s0 s6
          go_wp2_with fail
          go_region_held3 (fun w' => w'.cell? ⟨w.heap.size, 0, none⟩ = some (.int .i64 h.b) ∧ w'.cell? ⟨w.heap.size, 1, none⟩ = some (.int .i64 h.r) ∧ w'.cell? ⟨w.heap.size, 2, none⟩ = some (.int .i64 h.t) ∧ w'.cell? ⟨ob, oo + k, none⟩ = some (.int .i64 id) ∧ Since w6 w')
            (first | exact hstart | exact HK.out _ s5 | exact HK.out _ (by exact (‹_ ∧ _› : _ ∧ _ ∧ _ ∧ _ ∧ Since w6 _).2.2.2.2) | fail)
            (first
              | (go_at_call 58; ((with_reducible refine (HPq.out _ (by exact (‹_ ∧ _› : _ ∧ _ ∧ _ ∧ _ ∧ Since w6 _).2.2.2.2)).mono ?_); rintro e w7 ⟨v7, rfl, O7, d7⟩; have s5 : Since w6 w7 := Since.call (by exact (‹_ ∧ _› : _ ∧ _ ∧ _ ∧ _ ∧ Since w6 _).2.2.2.2) d7; have O8 := Lib.hid (OwnI.from_ O7 (show w.heap.size ≤ _ from Nat.le_trans C6.out.size (Below.size (by exact (‹_ ∧ _› : _ ∧ _ ∧ _ ∧ _ ∧ Since w6 _).2.2.2.2)))); clear O7 d7))
              | fail)
          rename_i hheld
          have B9 := Lib.hid (B6.out.trans (Below.mono hheld.2.2.2.2 B6.out.size))
          clear hheld hstart
          go_wp2_with fail
          go_roundw
          case rel => exact ⟨k + 1, by omega, by go_num, by rw [HN.out]; exact O8, B9⟩
          case measure => simp [intOf]; omega
      · obtain rfl : k = n := by omega
        have C9 := CR.out
        have O9 := OP.out
        have hnk : ¬ (k : Int) < (k : Int) := by omega
        go_wp2_with fail
        go_ret
        exact ⟨_, rfl, by rw [HE.out]; exact O9, C9⟩

end Go.Proofs.Ytfeobdgdhgcgoaa
