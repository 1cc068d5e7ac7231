/-
  The model's chapter 9, first part: l9Slots, LoadOrder, WorstHeel.
-/
import Derived.Test.YtbaebamiiigmlacGLm
import Derived.Test.YtbaebamiiigmlacWtS
import Derived.Test.YtbaebamiiigmlacGPl
import Derived.Test.YtbaebamiiigmlacPlC
import Derived.Test.YtbaebamiiigmlacGBase
import Derived.Laws.AppendOwnNone
import Derived.Deep.RegionHeld3
namespace Go.Proofs.Ytbaebamiiigmlac
open Go.RowKit
set_option linter.unusedVariables false

theorem tierK_next {T : Nat} {p : List Int} {t n : Nat} (hT : 0 < T) (hn : n % T = t) : (tierK T p t (n + T)).map Int.ofNat = if pAt p n ≠ 0 then (tierK T p t n).map Int.ofNat ++ [(n : Int)] else (tierK T p t n).map Int.ofNat := by
  have hmore : ∀ d, d < T → tierK T p t (n + 1 + d) = tierK T p t (n + 1) := by
    intro d
    induction d with
    | zero => intro _; rfl
    | succ d ih =>
      intro hd
      rw [← Nat.add_assoc]
      unfold tierK
      rw [List.range_succ, List.filter_append]
      have hne : ¬ (n + 1 + d) % T = t := fun e => by
        have h1 : (n + (1 + d)) % T = n % T := by rw [← Nat.add_assoc, e, hn]
        have h2 := Nat.div_add_mod n T
        have h3 := Nat.div_add_mod (n + (1 + d)) T
        rw [h1] at h3
        have h4 : T * ((n + (1 + d)) / T) = T * (n / T) + (1 + d) := by omega
        have h5 : T * (n / T) < T * ((n + (1 + d)) / T) := by omega
        have h6 : n / T < (n + (1 + d)) / T := Nat.lt_of_mul_lt_mul_left h5
        have h7 : T * (n / T + 1) ≤ T * ((n + (1 + d)) / T) := Nat.mul_le_mul_left T h6
        rw [Nat.mul_add, Nat.mul_one] at h7
        omega
      have : (List.filter (fun k => decide (k % T = t ∧ pAt p k ≠ 0)) [n + 1 + d]) = [] := by simp [hne]
      rw [this, List.append_nil]
      exact ih (by omega)
  have e : n + T = n + 1 + (T - 1) := by omega
  rw [e, hmore (T - 1) (by omega)]
  unfold tierK
  rw [List.range_succ, List.filter_append]
  by_cases h : pAt p n ≠ 0
  · rw [if_pos h]; simp [h, hn]
  · rw [if_neg h]; simp [h]
theorem tierK_first {T : Nat} {p : List Int} {t : Nat} (ht : t < T) : tierK T p t t = [] := by
  unfold tierK
  refine List.filter_eq_nil_iff.2 fun k hk => ?_
  have := List.mem_range.1 hk
  rw [decide_eq_true_eq]
  intro hc
  have h1 : k % T = k := Nat.mod_eq_of_lt (by omega)
  omega
theorem tierK_last {T : Nat} {p : List Int} {t n : Nat} (hn : p.length ≤ n) : tierK T p t n = tierK T p t p.length := by
  obtain ⟨d, rfl⟩ : ∃ d, n = p.length + d := ⟨n - p.length, by omega⟩
  induction d with
  | zero => rfl
  | succ d ih =>
    rw [← ih (by omega), ← Nat.add_assoc]
    unfold tierK
    rw [List.range_succ, List.filter_append]
    have hz : pAt p (p.length + d) = 0 := by unfold pAt; rw [List.getD_eq_getElem?_getD, List.getElem?_eq_none (by omega)]; rfl
    simp [hz]
/-- What LoadOrder has behind some tiers and a part of the next one. -/
def tierP (T : Nat) (p : List Int) (t n : Nat) : List Int := (tierN T p t).map Int.ofNat ++ (tierK T p t n).map Int.ofNat
theorem tierP_next {T : Nat} {p : List Int} {t n : Nat} (hT : 0 < T) (hn : n % T = t) : tierP T p t (n + T) = if pAt p n ≠ 0 then tierP T p t n ++ [(n : Int)] else tierP T p t n := by
  unfold tierP
  rw [tierK_next hT hn]
  by_cases h : pAt p n ≠ 0
  · rw [if_pos h, if_pos h, List.append_assoc]
  · rw [if_neg h, if_neg h]
theorem tierP_first {T : Nat} {p : List Int} {t : Nat} (ht : t < T) : tierP T p t t = (tierN T p t).map Int.ofNat := by unfold tierP; rw [tierK_first ht]; simp
theorem tierP_last {T : Nat} {p : List Int} {t n : Nat} (hn : p.length ≤ n) : tierP T p t n = (tierN T p (t + 1)).map Int.ofNat := by unfold tierP; rw [tierK_last hn]; simp [tierN]
theorem tierN_le (T : Nat) (p : List Int) (t : Nat) : (tierN T p t).length ≤ p.length := by
  have := List.Nodup.length_le_of_subset (tierN_nodup T p t) (l₂ := List.range p.length) fun k hk => List.mem_range.2 (tierN_mem.1 hk).1
  rwa [List.length_range] at this
theorem tierK_le (T : Nat) (p : List Int) (t n : Nat) : (tierK T p t n).length ≤ n := Nat.le_trans (List.length_filter_le _ _) (by rw [List.length_range]; omega)
theorem tierP_le (T : Nat) (p : List Int) (t n : Nat) : (tierP T p t n).length ≤ p.length + n := by
  have h1 := tierN_le T p t
  have h2 := tierK_le T p t n
  unfold tierP
  rw [List.length_append, List.length_map, List.length_map]
  omega

set_option maxRecDepth 10000 in
set_option maxHeartbeats 1000000 in
theorem l9Slots_any (v : Value) (p : List Int) (w : World) (hp : HoldsI w v p) (hn : p.length ≤ 1048577) :
    Calls Try.prog 61 #[v] w fun e w' => ∃ v', e = .returned v' ∧ OwnI w.heap.size w' v' (fullI p) ∧ Below w.heap.size w w' := by
  obtain ⟨i0, hi, hz0, hz1, hz2⟩ := info_parts infoInt
  have HI := Lib.hid hi
  have HZ0 := Lib.hid hz0
  have HZ1 := Lib.hid hz1
  have HZ2 := Lib.hid hz2
  clear hi hz0 hz1 hz2
  have PK := Lib.hid fun (w' : World) (hs : Below w.heap.size w w') => hp.keep hs
  obtain ⟨pa, pc, rfl⟩ := hp.form
  have hb1 := (Below.refl w.heap.size w).alloc (Nat.le_refl _) (.cells #[] 3)
  have ho1 : OwnI w.heap.size (w.alloc (.cells #[] 3)) (.slice (some ⟨w.heap.size, 0, none⟩) 0 0) [] := OwnI.zero (Nat.le_refl _)
  obtain ⟨W1, hW1⟩ : ∃ W1, W1 = w.alloc (.cells #[] 3) := ⟨_, rfl⟩
  rw [← hW1] at hb1 ho1
  have HW := Lib.hid hW1
  have HB := Lib.hid hb1
  have HO := Lib.hid ho1
  have HN := Lib.hid fun k => fulN_next p k
  have HL := Lib.hid fun k => fulN_len p k
  rw [← fulN_end]
  obtain ⟨n, hn'⟩ : ∃ n, n = p.length := ⟨_, rfl⟩
  rw [← hn'] at PK hn ⊢
  clear hW1 hb1 ho1 hp hn'
  go_enter Try.func61, Try.ntmps61
  go_wp2_with fail
  rw [← HW.out]
  go_wp2_with fail
  go_loopw [3, 4] (fun va i wr => ∃ k : Nat, k ≤ n ∧ i = .int .i64 k ∧ Hid (OwnI w.heap.size wr va (fulN p k)) ∧ Hid (Below w.heap.size w wr)) (fun _ i _ => n - (intOf i).toNat)
  case atStart => exact ⟨0, by omega, rfl, HO, HB⟩
  case round =>
    clear HO HB
    obtain ⟨k, hkn, rfl, HOW, BR⟩ := hrel
    by_cases hlt : k < n
    · obtain ⟨b, off, rfl, hbl, s0⟩ := (PK.out wr BR.out).at_ hlt
      have ik : (k : Int) < (n : Int) := by omega
      have i0k : (0 : Int) ≤ (k : Int) := by omega
      have e1 : p.getD k 0 = pAt p k := rfl
      rw [e1] at s0
      clear e1
      have hfl := HL.out k
      have HNk := Lib.hid (HN.out k)
      by_cases hz : pAt p k = 0
      · have HN2 := Lib.hid (HNk.out.trans (if_neg (fun hc => hc hz)))
        rw [hz] at s0
        clear HNk hz
        go_wp2_with fail
        go_roundw
        case rel => exact ⟨k + 1, by omega, by go_num, by rw [HN2.out]; exact HOW, BR⟩
        case measure => simp [intOf]; omega
      · have HN2 := Lib.hid (HNk.out.trans (if_pos hz))
        have hdz : (pAt p k != 0) = true := by simpa using hz
        obtain ⟨x, hxx⟩ : ∃ x, x = pAt p k := ⟨_, rfl⟩
        rw [← hxx] at s0 hdz
        clear hxx HNk hz
        go_wp2_with (at_builtin; refine wpList_append_own _ rfl _ _ 25 rfl w.heap.size 3 i0 (.int .i64 0) 1 8 Try.underlying25 HI.out HZ0.out HZ1.out HZ2.out rfl (by decide) _ (fulN p k).length (rowI (fulN p k)) rfl (HOW.out.alloc _) ⟨wr.heap.size, 0, none⟩ 1 1 [.int .i64 (k : Int)] rfl rfl (fun j u hu => cells_new j u hu) (by simp [Value.oneCell']) (by unfold maxLen; omega) (by omega) (by have := BR.out.size; simp; omega) ?_; intro v5 w5 hown5 hgrow _)
        have hb5 : Below w.heap.size wr w5 := ((Below.refl _ _).alloc (by have := BR.out.size; omega) _).trans (own_below hgrow (by have := BR.out.size; simp; omega) (fun k' hk' => (own_lt HOW.out k' hk').1))
        have hO5 : OwnI w.heap.size w5 v5 (fulN p k ++ [(k : Int)]) := own_put hown5
        clear hgrow hown5
        go_roundw
        case rel =>
          rw [← HN2.out] at hO5
          exact ⟨k + 1, by omega, by go_num, Lib.hid hO5, Lib.hid (BR.out.trans hb5)⟩
        case measure => simp [intOf]; omega
    · obtain rfl : k = n := by omega
      have C9 := BR.out
      have O9 := HOW.out
      go_wp2_with fail
      go_ret
      exact ⟨_, rfl, O9, C9⟩

set_option maxRecDepth 10000 in
set_option maxHeartbeats 4000000 in
theorem specLoadOrder_any (h : Hl) (u v : Value) (l : List Bx) (p : List Int) (w : World) (hb : HoldsBx w u l) (hp : HoldsI w v p) :
    Calls Try.prog 15 #[.agg #[.int .i64 h.b, .int .i64 h.r, .int .i64 h.t], u, v] w fun e w' => ∃ v', e = .returned v' ∧ OwnI w.heap.size w' v' (tierO h (bxsOk l) (bxIds l) p) ∧ Below w.heap.size w w' := by
  have hb1 := (Below.refl w.heap.size w).alloc (Nat.le_refl _) (.cells #[.int .i64 h.b, .int .i64 h.r, .int .i64 h.t] 28)
  have hx1 := BoxH.new w h
  obtain ⟨W1, hW1⟩ : ∃ W1, W1 = w.alloc (.cells #[.int .i64 h.b, .int .i64 h.r, .int .i64 h.t] 28) := ⟨_, rfl⟩
  rw [← hW1] at hb1 hx1
  have HW := Lib.hid hW1
  have HB := Lib.hid hb1
  have y0 := hx1.c0
  have y1 := hx1.c1
  have y2 := hx1.c2
  have HX := Lib.hid fun (w' : World) (hs : Below W1.heap.size W1 w') => hx1.keep hs
  have hs1 : W1.heap.size = w.heap.size + 1 := by rw [hW1]; simp
  clear hW1 hb1 hx1
  have PK := Lib.hid fun (w' : World) (hs : Below w.heap.size w w') => hp.keep hs
  have BK := Lib.hid fun (w' : World) (hs : Below w.heap.size w w') => hb.keep hs
  have HPV := Lib.hid fun (w' : World) (hs : Below w.heap.size w w') => specPlanValid_any h u v l p w' (hb.keep hs) (hp.keep hs)
  obtain ⟨i0, hi, hz0, hz1, hz2⟩ := info_parts infoInt
  have HI := Lib.hid hi
  have HZ0 := Lib.hid hz0
  have HZ1 := Lib.hid hz1
  have HZ2 := Lib.hid hz2
  clear hi hz0 hz1 hz2
  have hb2 : Below W1.heap.size W1 (W1.alloc (.cells #[] 3)) := (Below.refl _ _).alloc (Nat.le_refl _) _
  have hO2 : OwnI W1.heap.size (W1.alloc (.cells #[] 3)) (.slice (some ⟨W1.heap.size, 0, none⟩) 0 0) [] := OwnI.zero (Nat.le_refl _)
  have hx2 := HX.out _ hb2
  obtain ⟨W2, hW2⟩ : ∃ W2, W2 = W1.alloc (.cells #[] 3) := ⟨_, rfl⟩
  rw [← hW2] at hb2 hO2 hx2
  have HW2 := Lib.hid hW2
  have z0 := hx2.c0
  have z1 := hx2.c1
  have z2 := hx2.c2
  have HB2 := Lib.hid (HB.out.trans (hb2.mono HB.out.size))
  rw [hs1] at hb2 hO2 HX
  have HO2 := Lib.hid hO2
  have HD2 := Lib.hid hb2
  clear hW2 hb2 hO2 hx2 y0 y1 y2
  cases hok : plOk h (bxsOk l) (bxIds l) p
  · have HE := Lib.hid (show tierO h (bxsOk l) (bxIds l) p = [] from by unfold tierO; rw [hok]; rfl)
    rw [hok] at HPV
    clear hok hb hp
    go_enter Try.func15, Try.ntmps15
    go_wp2_with fail
    rw [← HW.out, ← HW2.out]
    go_wp2_with fail
    refine (HPV.out _ HB2.out).mono ?_
    rintro e w2 ⟨rfl, b2⟩
    go_wp2_with fail
    go_ret
    exact ⟨_, rfl, by rw [HE.out]; exact (HO2.out.from_ (by omega)).keep b2, HB2.out.trans (b2.mono HB2.out.size)⟩
  · obtain ⟨g1, g2, g3, g4, g5, g6⟩ := hlOk_iff.1 (plOk_iff.1 hok).1
    obtain ⟨T, hT⟩ : ∃ T : Nat, h.t = (T : Int) := ⟨h.t.toNat, by omega⟩
    have hT1 : 1 ≤ T ∧ T ≤ 3 := by omega
    have HEND := Lib.hid (show tierO h (bxsOk l) (bxIds l) p = (tierN T p T).map Int.ofNat from by unfold tierO; rw [if_pos hok, hT, Int.toNat_natCast])
    have hlen := pl_len hok
    have HLE := Lib.hid fun t n => tierP_le T p t n
    have HNX := Lib.hid fun t n (hn : n % T = t) => tierP_next (p := p) (by omega : 0 < T) hn
    have HFI := Lib.hid fun t (ht : t < T) => tierP_first (p := p) ht
    have HLA := Lib.hid fun t n (hn : p.length ≤ n) => tierP_last (T := T) (p := p) (t := t) hn
    obtain ⟨pa, pc, rfl⟩ := hp.form
    have hpc : p.length ≤ pc ∧ pc ≤ 9223372036854775807 := by
      obtain ⟨a', c', e, q1, q2, _⟩ := hp
      simp only [Value.slice.injEq] at e
      obtain ⟨-, -, rfl⟩ := e
      unfold maxLen at q2
      omega
    rw [hok] at HPV
    obtain ⟨n, hn⟩ : ∃ n, n = p.length := ⟨_, rfl⟩
    rw [← hn] at HPV PK hpc hlen HLE HLA ⊢
    have HT := Lib.hid hT
    clear hok hb hp hn g1 g2 g3 g4 g5 g6 hT
    go_enter Try.func15, Try.ntmps15
    go_wp2_with fail
    rw [← HW.out, ← HW2.out]
    go_wp2_with fail
    refine (HPV.out _ HB2.out).mono ?_
    rintro e w3 ⟨rfl, b3⟩
    have HO3 := Lib.hid (HO2.out.keep b3)
    have HD3 := Lib.hid (HD2.out.trans (b3.mono (by have := HD2.out.size; omega)))
    clear b3 HPV HO2 HD2 z0 z1 z2
    go_wp2_with fail
    go_loopw [7, 8] (fun va i wr => ∃ t : Nat, t ≤ T ∧ i = .int .i64 t ∧ Hid (OwnI (w.heap.size + 1) wr va ((tierN T p t).map Int.ofNat)) ∧ Hid (Below (w.heap.size + 1) W1 wr)) (fun _ i _ => T - (intOf i).toNat)
    case atStart => exact ⟨0, by omega, rfl, HO3, HD3⟩
    case round =>
      clear HO3 HD3
      obtain ⟨t, htT, rfl, HO, DR⟩ := hrel
      obtain ⟨wo, rfl⟩ : ∃ wo : World, wo = wr := ⟨_, rfl⟩
      have BR := Lib.hid (HB.out.trans (DR.out.mono (by have := HB.out.size; omega)))
      have y2 := (HX.out wo DR.out).c2
      rw [HT.out] at y2
      by_cases hlt : t < T
      · have it : (t : Int) < (T : Int) := by omega
        have HOt := HO
        rw [← HFI.out t hlt] at HOt
        clear HO
        go_wp2_with fail
        go_loopw [7, 9] (fun va i wr => ∃ r : Nat, i = .int .i64 (t + r * T : Nat) ∧ r ≤ n ∧ Hid (OwnI (w.heap.size + 1) wr va (tierP T p t (t + r * T))) ∧ Hid (Below (w.heap.size + 1) W1 wr)) (fun _ i _ => n + 10 - (intOf i).toNat)
        case atStart => exact ⟨0, by simp, by omega, by simpa using HOt, DR⟩
        case round =>
          clear HOt DR BR y2
          obtain ⟨r, rfl, hrn, HOW, DR⟩ := hrel
          have BR := Lib.hid (HB.out.trans (DR.out.mono (by have := HB.out.size; omega)))
          have y2 := (HX.out wr DR.out).c2
          rw [HT.out] at y2
          obtain ⟨k, hk⟩ : ∃ k, k = t + r * T := ⟨_, rfl⟩
          have hnx : t + (r + 1) * T = k + T := by rw [hk, Nat.add_mul, Nat.one_mul]; omega
          have hmod : k % T = t := by rw [hk, Nat.add_mul_mod_self_right, Nat.mod_eq_of_lt hlt]
          have hrk : r ≤ k := by
            have := Nat.mul_le_mul_left r hT1.1
            omega
          rw [← hk] at HOW ⊢
          by_cases hltk : k < n
          · obtain ⟨b, off, rfl, hbl, s0⟩ := (PK.out wr BR.out).at_ hltk
            have ik : (k : Int) < (n : Int) := by omega
            have i0k : (0 : Int) ≤ (k : Int) := by omega
            have e1 : p.getD k 0 = pAt p k := rfl
            rw [e1] at s0
            have zk : IntKind.i64.wrap ((k : Int) + (T : Int)) = ((k + T : Nat) : Int) := by rw [IntWalk.i64_in _ (by omega)]; omega
            have hfl := HLE.out t k
            have HNk := Lib.hid (HNX.out t k hmod)
            clear e1 hk hmod
            by_cases hz : pAt p k = 0
            · have HN2 := Lib.hid (HNk.out.trans (if_neg (fun hc => hc hz)))
              rw [hz] at s0
              clear HNk hz
              go_wp2_with fail
              go_roundw
              case rel => exact ⟨r + 1, by rw [hnx]; first | done | rfl | simp, by omega, by rw [hnx, HN2.out]; exact HOW, DR⟩
              case measure => simp [intOf]; omega
            · have HN2 := Lib.hid (HNk.out.trans (if_pos hz))
              have hdz : (pAt p k != 0) = true := by simpa using hz
              obtain ⟨x, hxx⟩ : ∃ x, x = pAt p k := ⟨_, rfl⟩
              rw [← hxx] at s0 hdz
              clear hxx HNk hz
              have c2 : ∀ o, (wr.alloc o).cell? ⟨w.heap.size, 2, none⟩ = some (.int .i64 T) := fun o => by
                have := (HX.out _ (DR.out.alloc (by have := DR.out.size; omega) o)).c2
                rwa [HT.out] at this
              go_wp2_with (at_builtin; refine wpList_append_own _ rfl _ _ 25 rfl (w.heap.size + 1) 3 i0 (.int .i64 0) 1 8 Try.underlying25 HI.out HZ0.out HZ1.out HZ2.out rfl (by decide) _ (tierP T p t k).length (rowI (tierP T p t k)) rfl (HOW.out.alloc _) ⟨wr.heap.size, 0, none⟩ 1 1 [.int .i64 (k : Int)] rfl rfl (fun j u hu => cells_new j u hu) (by simp [Value.oneCell']) (by unfold maxLen; omega) (by omega) (by have := DR.out.size; simp; omega) ?_; intro v5 w5 hown5 hgrow _; have c5 : w5.cell? ⟨w.heap.size, 2, none⟩ = some (.int .i64 T) := (by have hb5 : Below (w.heap.size + 1) wr w5 := ((Below.refl _ _).alloc (by have := DR.out.size; omega) _).trans (own_below hgrow (by have := DR.out.size; simp; omega) (fun k2 hk2 => (own_lt HOW.out k2 hk2).1)); have := (HX.out w5 (DR.out.trans hb5)).c2; rwa [HT.out] at this))
              have hb5 : Below (w.heap.size + 1) wr w5 := ((Below.refl _ _).alloc (by have := DR.out.size; omega) _).trans (own_below hgrow (by have := DR.out.size; simp; omega) (fun k' hk' => (own_lt HOW.out k' hk').1))
              have hO5 : OwnI (w.heap.size + 1) w5 v5 (tierP T p t k ++ [(k : Int)]) := own_put hown5
              clear hgrow hown5
              go_roundw
              case rel =>
                rw [← HN2.out] at hO5
                exact ⟨r + 1, by rw [hnx]; first | done | rfl | simp, by omega, by rw [hnx]; exact Lib.hid hO5, Lib.hid (DR.out.trans hb5)⟩
              case measure => simp [intOf]; omega
          · have ik : decide ((k : Int) < (n : Int)) = false := decide_eq_false (by omega)
            have HOL := HOW
            rw [HLA.out t k (by omega)] at HOL
            clear hk hmod HOW
            go_wp2_with fail
            go_roundw
            case rel => exact ⟨t + 1, by omega, by go_num, HOL, DR⟩
            case measure => simp [intOf]; omega
      · obtain rfl : t = T := by omega
        have C9 := BR.out
        have O9 := HO.out
        go_wp2_with fail
        go_ret
        exact ⟨_, rfl, by rw [HEND.out]; exact O9.from_ (by omega), C9⟩

end Go.Proofs.Ytbaebamiiigmlac
