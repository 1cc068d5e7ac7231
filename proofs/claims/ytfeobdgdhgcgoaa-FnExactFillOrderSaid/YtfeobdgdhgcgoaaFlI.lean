/-
  The program's chapter 14, third part: lightestNext, FillPlan.
-/
import Derived.Test.YtfeobdgdhgcgoaaFlI0
import Derived.Test.YtfeobdgdhgcgoaaFlMath3
import Derived.Laws.AppendOwnNone
import Derived.Deep.RegionHeld3
import Derived.BigQuiet
import Derived.Deep.QuietTactic
namespace Go.Proofs.Ytfeobdgdhgcgoaa
open Go.RowKit
set_option linter.unusedVariables false

set_option maxRecDepth 10000 in
set_option maxHeartbeats 4000000 in
theorem lighter_any (B1 B2 : Nat) (h : Hl) (v : Value) (RW : List Int) (T a b : Nat) (w : World) (hv : HoldsI w v RW) (hk : hlOk h = true) (hT : h.t = (T : Int)) (ha : (a : Int) < slMany h) (hbm : (b : Int) < slMany h) (hra : a / T < RW.length) (hrb : b / T < RW.length) (h1 : B1 < w.heap.size) (hx : BoxH B2 w h) (c1 : w.cell? ⟨B1, 0, none⟩ = some v) :
    Calls Try.prog 84 #[.int .i64 (a : Int), .int .i64 (b : Int), .pointer (some ⟨B1, 0, none⟩), .pointer (some ⟨B2, 0, none⟩)] w fun e w' => e = .returned (.int .i64 (cmpI (RW.getD (a / T) 0) (RW.getD (b / T) 0))) ∧ Below w.heap.size w w' := by
  have HRa := Lib.hid fun (w' : World) => implRowNumber_any h a T w' hk ha hT
  have HRb := Lib.hid fun (w' : World) => implRowNumber_any h b T w' hk hbm hT
  obtain ⟨ra, rc, rfl⟩ := hv.form
  obtain ⟨rb, ro, rfl, hrl, s0⟩ := hv.at_ hra
  obtain ⟨rb2, ro2, e0, -, s1⟩ := hv.at_ hrb
  simp only [Option.some.injEq, Addr.mk.injEq, and_true] at e0
  obtain ⟨rfl, rfl⟩ := e0
  obtain ⟨qa, hqa⟩ : ∃ q, q = a / T := ⟨_, rfl⟩
  obtain ⟨qb, hqb⟩ : ∃ q, q = b / T := ⟨_, rfl⟩
  rw [← hqa] at HRa s0 hra ⊢
  rw [← hqb] at HRb s1 hrb ⊢
  obtain ⟨xa, hxa⟩ : ∃ x, x = RW.getD qa 0 := ⟨_, rfl⟩
  obtain ⟨xb, hxb⟩ : ∃ x, x = RW.getD qb 0 := ⟨_, rfl⟩
  rw [← hxa] at s0 ⊢
  rw [← hxb] at s1 ⊢
  obtain ⟨R, hR⟩ : ∃ R, R = RW.length := ⟨_, rfl⟩
  rw [← hR] at c1 hra hrb
  have ia : (qa : Int) < (R : Int) := by omega
  have i0a : (0 : Int) ≤ (qa : Int) := by omega
  have ib : (qb : Int) < (R : Int) := by omega
  have i0b : (0 : Int) ≤ (qb : Int) := by omega
  have HC := Lib.hid fun (w' : World) => cmpCompare_any xa xb w'
  have h2 := hx.lt
  have HK2 := Lib.hid fun (w' : World) (hs : Since w w') => (show w'.cell? ⟨B1, 0, none⟩ = some (.slice (some ⟨rb, ro, none⟩) R rc) ∧ w'.cell? ⟨B2, 0, none⟩ = some (.int .i64 h.b) ∧ w'.cell? ⟨B2, 1, none⟩ = some (.int .i64 h.r) ∧ w'.cell? ⟨B2, 2, none⟩ = some (.int .i64 h.t) ∧ w'.cell? ⟨rb, ro + qa, none⟩ = some (.int .i64 xa) ∧ w'.cell? ⟨rb, ro + qb, none⟩ = some (.int .i64 xb) ∧ Since w w' from ⟨(Below.cell hs (p := ⟨B1, 0, none⟩) h1).trans c1, (hx.keep hs).c0, (hx.keep hs).c1, (hx.keep hs).c2, (Below.cell hs (p := ⟨rb, ro + qa, none⟩) hrl).trans s0, (Below.cell hs (p := ⟨rb, ro + qb, none⟩) hrl).trans s1, hs⟩)
  have hstart := HK2.out _ (show Since w w.drew from (Below.refl _ _).drew)
  clear hv hk hT ha hbm h1 h2 hx c1 s0 s1 hxa hxb hR hra hrb hrl hqa hqb
  go_enter Try.func84, Try.ntmps84
  go_wp2_with fail
  go_region_held3 (fun w' => w'.cell? ⟨B1, 0, none⟩ = some (.slice (some ⟨rb, ro, none⟩) R rc) ∧ w'.cell? ⟨B2, 0, none⟩ = some (.int .i64 h.b) ∧ w'.cell? ⟨B2, 1, none⟩ = some (.int .i64 h.r) ∧ w'.cell? ⟨B2, 2, none⟩ = some (.int .i64 h.t) ∧ w'.cell? ⟨rb, ro + qa, none⟩ = some (.int .i64 xa) ∧ w'.cell? ⟨rb, ro + qb, none⟩ = some (.int .i64 xb) ∧ Since w w')
    (first | exact hstart | exact HK2.out _ s7 | exact HK2.out _ (by exact (‹_ ∧ _› : _ ∧ _ ∧ _ ∧ _ ∧ _ ∧ _ ∧ Since w _).2.2.2.2.2.2) | fail)
    (first
      | (go_at_call 85; ((with_reducible refine (HRa.out _).mono ?_); rintro e w7 ⟨rfl, d7⟩; have s7 : Since w w7 := Since.call (by exact (‹_ ∧ _› : _ ∧ _ ∧ _ ∧ _ ∧ _ ∧ _ ∧ Since w _).2.2.2.2.2.2) d7; clear d7))
      | (go_at_call 85; ((with_reducible refine (HRb.out _).mono ?_); rintro e w7 ⟨rfl, d7⟩; have s7 : Since w w7 := Since.call (by exact (‹_ ∧ _› : _ ∧ _ ∧ _ ∧ _ ∧ _ ∧ _ ∧ Since w _).2.2.2.2.2.2) d7; clear d7))
      | (go_at_call 45; ((with_reducible refine (HC.out _).mono ?_); rintro e w8 ⟨rfl, rfl⟩))
      | fail)
  rename_i hheld
  have b9 := hheld.2.2.2.2.2.2
  clear hheld hstart
  go_wp2_with fail
  go_ret
  exact ⟨rfl, b9⟩
set_option maxRecDepth 10000 in
set_option maxHeartbeats 4000000 in
theorem minFunc_any (B1 B2 : Nat) (v : Value) (NX : List Int) (key : Int → Int) (w : World) (hv : HoldsI w v NX) (h0 : 0 < NX.length)
    (hc : ∀ x y, x ∈ NX → y ∈ NX → ∀ w', Below w.heap.size w w' → Calls Try.prog 84 #[.int .i64 x, .int .i64 y, .pointer (some ⟨B1, 0, none⟩), .pointer (some ⟨B2, 0, none⟩)] w' fun e w'' => e = .returned (.int .i64 (cmpI (key x) (key y))) ∧ Below w'.heap.size w' w'') :
    Calls Try.prog 83 #[v, .func (.func 84) #[] #[.pointer (some ⟨B1, 0, none⟩), .pointer (some ⟨B2, 0, none⟩)]] w fun e w' => e = .returned (.int .i64 (minK key NX NX.length)) ∧ Below w.heap.size w w' := by
  have HNX := Lib.hid fun k => (show minK key NX (k + 1) = if key (NX.getD k 0) < key (minK key NX k) then NX.getD k 0 else minK key NX k from rfl)
  have HON := Lib.hid (minK_one key NX)
  have HMM := Lib.hid fun k (hk : k ≤ NX.length) => minK_mem (key := key) h0 k hk
  have HMG := Lib.hid fun k (hk : k < NX.length) => (show NX.getD k 0 ∈ NX from by
    rw [List.getD_eq_getElem?_getD, List.getElem?_eq_getElem hk, Option.getD_some]
    exact List.getElem_mem hk)
  have hlen : NX.length ≤ 9223372036854775807 := by
    obtain ⟨a', c', e, q1, q2, _⟩ := hv
    unfold maxLen at q2
    omega
  obtain ⟨pa, pc, rfl⟩ := hv.form
  have PK := Lib.hid fun (w' : World) (hs : Below w.heap.size w w') => hv.keep hs
  have HC := Lib.hid hc
  obtain ⟨n, hn⟩ : ∃ n, n = NX.length := ⟨_, rfl⟩
  obtain ⟨b0, o0, rfl, hb0, s0⟩ := hv.at_ h0
  rw [← hn] at PK hlen h0 HMM HMG ⊢
  rw [Nat.add_zero] at s0
  have h1 : ¬ (n : Int) < 1 := by omega
  have i00 : (0 : Int) < (n : Int) := by omega
  obtain ⟨x, hx⟩ : ∃ x, x = NX.getD 0 0 := ⟨_, rfl⟩
  rw [← hx] at s0 HON
  clear hv hn hx hc hb0
  go_enter Try.func83, Try.ntmps83
  go_wp2_with fail
  clear s0
  go_loopw [5, 6] (fun mv i wr => ∃ k : Nat, 1 ≤ k ∧ k ≤ n ∧ mv = .int .i64 (minK key NX k) ∧ i = .int .i64 k ∧ Hid (Below w.heap.size w wr)) (fun _ i _ => n - (intOf i).toNat)
  case atStart => exact ⟨1, by omega, by omega, by rw [HON.out], rfl, Lib.hid (Below.refl _ _)⟩
  case round =>
    obtain ⟨k, hk1, hkn, rfl, rfl, BR⟩ := hrel
    by_cases hlt : k < n
    · obtain ⟨b, off, e0, hbl, t0⟩ := (PK.out wr BR.out).at_ hlt
      simp only [Option.some.injEq, Addr.mk.injEq, and_true] at e0
      obtain ⟨rfl, rfl⟩ := e0
      have hnx := HNX.out k
      have hcall := HC.out _ _ (HMG.out k hlt) (HMM.out k hkn) wr BR.out
      have ik : (k : Int) < (n : Int) := by omega
      have i0k : (0 : Int) ≤ (k : Int) := by omega
      obtain ⟨y, hy⟩ : ∃ y, y = NX.getD k 0 := ⟨_, rfl⟩
      rw [← hy] at t0 hnx hcall
      obtain ⟨a, ha⟩ : ∃ a, a = minK key NX k := ⟨_, rfl⟩
      rw [← ha] at hnx hcall ⊢
      have hlv := cmpI_lt (key y) (key a)
      generalize cmpI (key y) (key a) = r at hcall hlv
      have HCk := Lib.hid hcall
      by_cases hr : key y < key a
      · have HM := Lib.hid (hnx.trans (if_pos hr))
        have d3 : decide (r < 0) = true := by rw [hlv]; exact decide_eq_true hr
        clear hy ha hnx hlv hcall hr
        go_wp2_with fail
        refine HCk.out.mono ?_
        rintro e w2 ⟨rfl, b2⟩
        have B2' := Lib.hid (BR.out.trans (b2.mono BR.out.size))
        have t2 : w2.cell? ⟨b0, o0 + k, none⟩ = some (.int .i64 y) := (b2.cell (p := ⟨b0, o0 + k, none⟩) hbl).trans t0
        clear b2 t0
        go_wp2_with fail
        go_roundw
        case rel => exact ⟨k + 1, by omega, by omega, by rw [HM.out], by go_num, B2'⟩
        case measure => simp [intOf]; omega
      · have HM := Lib.hid (hnx.trans (if_neg hr))
        have d3 : decide (r < 0) = false := by rw [hlv]; exact decide_eq_false hr
        clear hy ha hnx hlv hcall hr
        go_wp2_with fail
        refine HCk.out.mono ?_
        rintro e w2 ⟨rfl, b2⟩
        have B2' := Lib.hid (BR.out.trans (b2.mono BR.out.size))
        clear b2 t0
        go_wp2_with fail
        go_roundw
        case rel => exact ⟨k + 1, by omega, by omega, by rw [HM.out], by go_num, B2'⟩
        case measure => simp [intOf]; omega
    · obtain rfl : k = n := by omega
      have C9 := BR.out
      go_wp2_with fail
      go_ret
      exact ⟨rfl, C9⟩
set_option maxRecDepth 10000 in
set_option maxHeartbeats 4000000 in
theorem lightestNext_any (h : Hl) (u v : Value) (l : List Bx) (p : List Int) (w : World) (hb : HoldsBx w u l) (hp : HoldsI w v p) :
    Calls Try.prog 55 #[.agg #[.int .i64 h.b, .int .i64 h.r, .int .i64 h.t], u, v] w fun e w' => e = .returned (.int .i64 (lgtO h l p)) ∧ Below w.heap.size w w' := by
  have hb1 := (Below.refl w.heap.size w).alloc (Nat.le_refl _) (.cells #[.int .i64 h.b, .int .i64 h.r, .int .i64 h.t] 36)
  have hx1 := BoxH.new w h
  obtain ⟨W1, hW1⟩ : ∃ W1, W1 = w.alloc (.cells #[.int .i64 h.b, .int .i64 h.r, .int .i64 h.t] 36) := ⟨_, rfl⟩
  rw [← hW1] at hb1 hx1
  have HW := Lib.hid hW1
  have HB := Lib.hid hb1
  have y0 := hx1.c0
  have y1 := hx1.c1
  have y2 := hx1.c2
  have HX := Lib.hid fun (w' : World) (hs : Below W1.heap.size W1 w') => hx1.keep hs
  clear hW1 hb1 hx1
  have PK := Lib.hid fun (w' : World) (hs : Below w.heap.size w w') => hp.keep hs
  have HPN := Lib.hid fun (w' : World) (hs : Below w.heap.size w w') => implPlanNext_any h u v l p w' (hb.keep hs) (hp.keep hs)
  have HRW := Lib.hid fun (w' : World) (hs : Below w.heap.size w w') => implRowWeights_any h u v l p w' (hb.keep hs) (hp.keep hs)
  by_cases hz : nextI h (bxsOk l) (bxIds l) p = []
  · have HE := Lib.hid (show lgtO h l p = -1 from by unfold lgtO; rw [hz]; rfl)
    rw [hz] at HPN
    clear hz hb hp PK HRW
    go_enter Try.func55, Try.ntmps55
    go_wp2_with fail
    rw [← HW.out]
    go_wp2_with fail
    refine (HPN.out _ HB.out).mono ?_
    rintro e w2 ⟨v2, rfl, O2, b2⟩
    obtain ⟨na, nc, rfl⟩ := O2.holds.form
    have C2 := HB.out.trans (b2.mono HB.out.size)
    clear b2 y0 y1 y2 O2
    go_wp2_with fail
    go_ret
    exact ⟨by rw [HE.out]; rfl, C2⟩
  · have hok : plOk h (bxsOk l) (bxIds l) p = true := by
      cases h9 : plOk h (bxsOk l) (bxIds l) p
      · exact absurd (nextI_bad h9) hz
      · rfl
    have h0 : 0 < (nextI h (bxsOk l) (bxIds l) p).length := by
      rcases Nat.eq_zero_or_pos (nextI h (bxsOk l) (bxIds l) p).length with h9 | h9
      · exact absurd (List.eq_nil_of_length_eq_zero h9) hz
      · exact h9
    obtain ⟨q1, q2, q3, q4⟩ := plOk_iff.1 hok
    obtain ⟨R, r1, r2, r3⟩ := rows_pl hok
    obtain ⟨T, hTe⟩ : ∃ T : Nat, T = h.t.toNat := ⟨_, rfl⟩
    rw [← hTe] at r1 r2 r3
    have hRL : (rowO h l p).length = R := by
      unfold rowO
      rw [if_pos hok, rowsW_len]
      unfold rowsMany; rw [← hTe, r3, Nat.mul_div_cancel _ r2]
    have hmem : ∀ x, x ∈ nextI h (bxsOk l) (bxIds l) p → ∃ k : Nat, x = (k : Int) ∧ (k : Int) < slMany h ∧ k / T < (rowO h l p).length := fun x hx => by
      obtain ⟨k, e1, e2, -⟩ := next_mem hok hx
      exact ⟨k, e1, by omega, by rw [hRL]; exact Nat.div_lt_of_lt_mul (by rw [Nat.mul_comm, ← r3]; exact e2)⟩
    have HE := Lib.hid (show lgtO h l p = minK (fun x => (rowO h l p).getD (x.toNat / T) 0) (nextI h (bxsOk l) (bxIds l) p) (nextI h (bxsOk l) (bxIds l) p).length from by
      unfold lgtO
      rw [← hTe]
      exact lgt_min h0 (fun x hx => by obtain ⟨k, e, _⟩ := hmem x hx; omega) _ h0 (Nat.le_refl _))
    have HCL := Lib.hid fun (B1 B2 : Nat) (rv : Value) (w' : World) (hv : HoldsI w' rv (rowO h l p)) (h1 : B1 < w'.heap.size) (hx : BoxH B2 w' h) (c1 : w'.cell? ⟨B1, 0, none⟩ = some rv) (a b : Nat) (ha : (a : Int) < slMany h) (hbm : (b : Int) < slMany h) (hra : a / T < (rowO h l p).length) (hrb : b / T < (rowO h l p).length) => lighter_any B1 B2 h rv (rowO h l p) T a b w' hv q1 r1.symm ha hbm hra hrb h1 hx c1
    have HME := Lib.hid hmem
    have hRLb : (rowO h l p).length ≤ maxLen := by
      unfold maxLen
      obtain ⟨m1, m2, m3⟩ := slMany_bd q1
      have h1 : R * 1 ≤ R * T := Nat.mul_le_mul_left R r2
      omega
    generalize rowO h l p = RW at HRW HE HCL HME
    obtain ⟨NX, hNX⟩ : ∃ NX, NX = nextI h (bxsOk l) (bxIds l) p := ⟨_, rfl⟩
    rw [← hNX] at HPN HE HME h0
    have n0 : decide ((NX.length : Int) = 0) = false := decide_eq_false (by omega)
    have n1 : ((NX.length : Int) == 0) = false := by rw [beq_eq_false_iff_ne]; omega
    have HMF := Lib.hid fun (B1 B2 : Nat) (nv : Value) (w' : World) (hv : HoldsI w' nv NX) hc => minFunc_any B1 B2 nv NX (fun x => RW.getD (x.toNat / T) 0) w' hv h0 hc
    obtain ⟨ua, uc, rfl⟩ : ∃ a c, u = .slice a l.length c := by obtain ⟨a, c, e, _⟩ := hb; exact ⟨a, c, e⟩
    obtain ⟨pa, pc, rfl⟩ := hp.form
    have hmf : ∀ (fn : Fn) (first cap : Array Value) (w : World), (Instr.makeFunc fn first cap).run Try.prog w = .ok (.func fn first cap) w := fun _ _ _ _ => rfl
    have HBH := Lib.hid fun (w' : World) (hs : Below W1.heap.size W1 w') => HX.out w' hs
    clear hz hok hb hp PK q1 q2 q3 q4 r1 r2 r3 hRL hmem hTe hNX hRLb
    go_enter Try.func55, Try.ntmps55
    go_wp2_with fail
    rw [← HW.out]
    go_wp2_with fail
    refine (HPN.out _ HB.out).mono ?_
    rintro e w2 ⟨v2, rfl, O2, b2⟩
    have C2 := HB.out.trans (b2.mono HB.out.size)
    have D2 : Below W1.heap.size W1 w2 := b2
    obtain ⟨na, nc, rfl⟩ := O2.holds.form
    have H2 := O2.holds
    have z0 := (HX.out w2 D2).c0
    have z1 := (HX.out w2 D2).c1
    have z2 := (HX.out w2 D2).c2
    clear b2 y0 y1 y2 O2
    go_wp2_with fail
    refine (HRW.out w2 C2).mono ?_
    rintro e w3 ⟨v3, rfl, O3, b3⟩
    obtain ⟨ra, rc, rfl⟩ := O3.holds.form
    obtain ⟨v3, hv3⟩ : ∃ v, v = Value.slice ra RW.length rc := ⟨_, rfl⟩
    rw [← hv3] at O3
    have hb4 : Below w3.heap.size w3 (w3.alloc (.cells #[v3] 25)) := (Below.refl _ _).alloc (Nat.le_refl _) _
    have C4 := Lib.hid (C2.trans ((b3.trans (hb4.mono b3.size)).mono C2.size))
    have D4 := D2.trans ((b3.trans (hb4.mono b3.size)).mono D2.size)
    have N4 := Lib.hid (H2.keep (b3.trans (hb4.mono b3.size)))
    have R4 := O3.holds.keep hb4
    have X4 := HX.out _ D4
    have c4 : (w3.alloc (.cells #[v3] 25)).cell? ⟨w3.heap.size, 0, none⟩ = some v3 := by rw [World.cell?_alloc_new]; rfl
    have hz4 : w3.heap.size < (w3.alloc (.cells #[v3] 25)).heap.size := by simp
    have HF := Lib.hid (HMF.out w3.heap.size w.heap.size _ _ N4.out (fun x y hx hy w' hs => by
      obtain ⟨a, rfl, a1, a2⟩ := HME.out x hx
      obtain ⟨b, rfl, b1, b2⟩ := HME.out y hy
      exact HCL.out w3.heap.size w.heap.size v3 w' (R4.keep hs) (Nat.lt_of_lt_of_le hz4 hs.size) (X4.keep hs) ((hs.cell (p := ⟨w3.heap.size, 0, none⟩) hz4).trans c4) a b a1 b1 a2 b2))
    rw [hv3] at C4 HF
    generalize minK (fun x => RW.getD (x.toNat / T) 0) NX NX.length = mv at HE HF
    clear H2 O3 b3 hb4 D4 R4 X4 c4 hz4 hv3 HPN HRW HMF HCL HME N4 D2 C2 z0 z1 z2
    go_wp2_with fail
    refine HF.out.mono ?_
    rintro e w5 ⟨rfl, b5⟩
    have C5 := C4.out.trans (b5.mono C4.out.size)
    go_wp2_with fail
    go_ret
    exact ⟨by rw [HE.out]; rfl, C5⟩
set_option maxRecDepth 10000 in
set_option maxHeartbeats 8000000 in
theorem implFillPlan_any (h : Hl) (u : Value) (l : List Bx) (w : World) (hb : HoldsBx w u l) :
    Calls Try.prog 18 #[.agg #[.int .i64 h.b, .int .i64 h.r, .int .i64 h.t], u] w fun e w' => ∃ v', e = .returned v' ∧ FreeE w.heap.size w' v' (fillP h l) ∧ Below w.heap.size w w' := by
  have hb1 := (Below.refl w.heap.size w).alloc (Nat.le_refl _) (.cells #[.int .i64 h.b, .int .i64 h.r, .int .i64 h.t] 36)
  have hx1 := BoxH.new w h
  obtain ⟨W1, hW1⟩ : ∃ W1, W1 = w.alloc (.cells #[.int .i64 h.b, .int .i64 h.r, .int .i64 h.t] 36) := ⟨_, rfl⟩
  rw [← hW1] at hb1 hx1
  have HW := Lib.hid hW1
  have HB := Lib.hid hb1
  have y0 := hx1.c0
  have y1 := hx1.c1
  have y2 := hx1.c2
  have HX := Lib.hid fun (w' : World) (hs : Below W1.heap.size W1 w') => hx1.keep hs
  clear hW1 hb1 hx1
  have HHV := Lib.hid fun (w' : World) => implHullValid_any h w'
  have HBV := Lib.hid fun (w' : World) (hs : Below w.heap.size w w') => implBoxesValid_any u l w' (hb.keep hs)
  by_cases hok : hlOk h = true
  · cases hbo : bxsOk l
    · have HE := Lib.hid (fillP_bad (h := h) (l := l) (by rw [hbo]; simp))
      rw [hok] at HHV
      rw [hbo] at HBV
      clear hok hbo hb
      go_enter Try.func18, Try.ntmps18
      go_wp2_with fail
      rw [← HW.out]
      go_wp2_with fail
      refine (HHV.out _).mono ?_
      rintro e w2 ⟨rfl, b2⟩
      have C2 := HB.out.trans (b2.mono HB.out.size)
      clear b2 y0 y1 y2
      go_wp2_with fail
      refine (HBV.out _ C2).mono ?_
      rintro e w3 ⟨rfl, b3⟩
      have C3 := C2.trans (b3.mono C2.size)
      go_wp2_with fail
      go_ret
      exact ⟨_, rfl, by rw [HE.out]; exact FreeE.zero, C3⟩
    · have HE := Lib.hid (show fillP h l = fillN h l (fillO l) l.length from by unfold fillP; rw [if_pos hbo])
      obtain ⟨m1, m2, m3⟩ := slMany_bd hok
      have HLW := Lib.hid fun k (hk : k ≤ l.length) => (show ((fillN h l (fillO l) k).length = (slMany h).toNat) ∧ (lgtO h l (fillN h l (fillO l) k) = -1 ∨ ∃ j : Nat, lgtO h l (fillN h l (fillO l) k) = (j : Int) ∧ j < (slMany h).toNat) from by
        obtain ⟨a1, a2, -⟩ := fillN_law hok hbo k hk
        refine ⟨a2, ?_⟩
        rcases lgtO_cases (show plOk h (bxsOk l) (bxIds l) (fillN h l (fillO l) k) = true by rw [hbo]; exact a1) with ⟨c1, -⟩ | ⟨j, c1, c2, -⟩
        · exact .inl c1
        · exact .inr ⟨j, c1, by rw [← a2]; exact c2⟩)
      have HNX := Lib.hid fun k => (show fillN h l (fillO l) (k + 1) = if 0 ≤ lgtO h l (fillN h l (fillO l) k) then (fillN h l (fillO l) k).set (lgtO h l (fillN h l (fillO l) k)).toNat ((fillO l).getD k 0) else fillN h l (fillO l) k from rfl)
      have HST := Lib.hid fun k (hk : k ≤ l.length) (hl : lgtO h l (fillN h l (fillO l) k) < 0) => (show fillN h l (fillO l) l.length = fillN h l (fillO l) k from by
        have := fillN_stay hl (l.length - k)
        rwa [show k + (l.length - k) = l.length by omega] at this)
      have HPE := Lib.hid fun (w' : World) => implPlanEmpty_own h w'
      have HFO := Lib.hid fun (w' : World) (hs : Below w.heap.size w w') => implFillOrder_any u l w' (hb.keep hs)
      have HLG := Lib.hid fun (p : List Int) (v' : Value) (w' : World) (hs : Below w.heap.size w w') (hp : HoldsI w' v' p) => lightestNext_any h u v' l p w' (hb.keep hs) hp
      have hl10 : l.length ≤ 10 := (bxsOk_each hbo).2
      have hol : (fillO l).length = l.length := (fillO_law hbo).1
      have hz0 : fillN h l (fillO l) 0 = emptyP h := rfl
      obtain ⟨fl, hfl⟩ : ∃ fl, fl = fillN h l (fillO l) := ⟨_, rfl⟩
      rw [← hfl] at HE HLW HNX HST hz0
      generalize fillO l = ord at HFO HNX hol
      obtain ⟨N, hN⟩ : ∃ N, N = (slMany h).toNat := ⟨_, rfl⟩
      have hN1 : 1 ≤ N ∧ N ≤ 36 := by omega
      rw [← hN] at HLW
      obtain ⟨n, hn⟩ : ∃ n, n = l.length := ⟨_, rfl⟩
      rw [← hn] at HE HLW HST hl10 hol
      rw [← hz0] at HPE
      rw [hok] at HHV
      rw [hbo] at HBV
      clear hok hbo hb hn hfl hz0 hN m1 m2 m3
      go_enter Try.func18, Try.ntmps18
      go_wp2_with fail
      rw [← HW.out]
      go_wp2_with fail
      refine (HHV.out _).mono ?_
      rintro e w2 ⟨rfl, b2⟩
      have C2 := HB.out.trans (b2.mono HB.out.size)
      have D2 : Below W1.heap.size W1 w2 := b2
      clear b2 y0 y1 y2 HHV
      go_wp2_with fail
      refine (HBV.out _ C2).mono ?_
      rintro e w3 ⟨rfl, b3⟩
      have C3 := C2.trans (b3.mono C2.size)
      have D3 := D2.trans (b3.mono D2.size)
      have z0 := (HX.out w3 D3).c0
      have z1 := (HX.out w3 D3).c1
      have z2 := (HX.out w3 D3).c2
      clear b3 HBV C2 D2
      go_wp2_with fail
      refine (HPE.out w3).mono ?_
      rintro e w4 ⟨v4, rfl, O4, b4⟩
      have hl4 := (HLW.out 0 (by omega)).1
      obtain ⟨g, cap, cur, rfl, hKg, hg4, -, -, -, -⟩ := O4.form (by omega)
      have C4 := C3.trans (b4.mono C3.size)
      have D4 := D3.trans (b4.mono D3.size)
      have O4 := Lib.hid (O4.from_ C3.size)
      rw [hl4] at O4 ⊢
      have D3s := D3.size
      clear b4 z0 z1 z2 HPE C3 D3 hl4
      go_wp2_with fail
      refine (HFO.out w4 C4).mono ?_
      rintro e w5 ⟨v5, rfl, O5, b5⟩
      have hh5 := O5.holds
      have C5 := Lib.hid (C4.trans (b5.mono C4.size))
      have D5 := Lib.hid (D4.trans (b5.mono D4.size))
      have O5' := Lib.hid (O4.out.keep b5)
      obtain ⟨oa, oc, rfl⟩ := hh5.form
      have hW1g : W1.heap.size ≤ g := Nat.le_trans D3s hKg
      have hzg : g < w5.heap.size := Nat.lt_of_lt_of_le hg4 b5.size
      have hn5 := O5.new
      rw [hol] at hh5 ⊢
      have HOM := Lib.hid fun (w' : World) (hs : MostB g w5 w') => (hn5.most hs hg4).holds
      clear hh5 O5 b5 C4 D4 O4 HFO hn5
      go_wp2_with fail
      go_loopw [22] (fun i wr => ∃ k : Nat, k ≤ n ∧ i = .int .i64 k ∧ Hid (OwnI w.heap.size wr (.slice (some ⟨g, 0, none⟩) N cap) (fl k)) ∧ Hid (MostB g w5 wr) ∧ Hid (Below w.heap.size w wr) ∧ Hid (Below W1.heap.size W1 wr)) (fun i _ => n - (intOf i).toNat)
      case atStart => exact ⟨0, by omega, rfl, O5', Lib.hid (MostB.refl _ _), C5, D5⟩
      case round =>
        clear O5' C5 D5
        obtain ⟨k, hkn, rfl, OP, MM, CR, DR⟩ := hrel
        by_cases hlt : k < n
        · obtain ⟨hlk, hcs⟩ := HLW.out k hkn
          obtain ⟨ob, oo, rfl, hobl, s0⟩ := (HOM.out wr MM.out).at_ (k := k) (by rw [hol]; exact hlt)
          have y := HX.out wr DR.out
          have y0 := y.c0
          have y1 := y.c1
          have y2 := y.c2
          have hnx := HNX.out k
          have hst := HST.out k hkn
          have HLk := Lib.hid (HLG.out (fl k) _ wr CR.out OP.out.holds)
          obtain ⟨q, hq⟩ : ∃ q, q = fl k := ⟨_, rfl⟩
          obtain ⟨id, hid⟩ : ∃ id, id = ord.getD k 0 := ⟨_, rfl⟩
          rw [← hq] at hnx HLk OP hlk hcs hst
          rw [← hid] at hnx s0
          have ik : (k : Int) < (n : Int) := by omega
          have i0k : (0 : Int) ≤ (k : Int) := by omega
          rcases hcs with g1 | ⟨j, g1, g2⟩
          · rw [g1] at HLk
            have HN := Lib.hid (HE.out.trans (hst (by omega)))
            clear g1 hnx hst hq hid y
            go_wp2_with fail
            refine HLk.out.mono ?_
            rintro e w6 ⟨rfl, d6⟩
            have C6 := CR.out.trans (d6.mono CR.out.size)
            have O6 := (OP.out.keep d6).freeE
            clear d6 y0 y1 y2
            go_wp2_with fail
            go_ret
            exact ⟨_, rfl, by rw [HN.out]; exact O6, C6⟩
          · rw [g1, if_pos (by omega), Int.toNat_natCast] at hnx
            rw [g1] at HLk
            have HN := Lib.hid hnx
            have dj : decide ((j : Int) < 0) = false := decide_eq_false (by omega)
            have ij : (j : Int) < (N : Int) := by omega
            have i0j : (0 : Int) ≤ (j : Int) := by omega
            clear g1 hnx hst hq hid y
            go_wp2_with fail
            refine HLk.out.mono ?_
            rintro e w6 ⟨rfl, d6⟩
            have O6 : OwnI w.heap.size w6 (.slice (some ⟨g, 0, none⟩) q.length cap) q := by rw [hlk]; exact OP.out.keep d6
            obtain ⟨hwg, -, -, ⟨x1, f1⟩, f2⟩ := O6.slot (k := j) (by omega)
            have O7 := O6.set (k := j) (by omega) id
            rw [hlk] at O7
            have O7' := Lib.hid O7
            have M7 := Lib.hid ((MM.out.below_ (d6.mono MM.out.size)).set_ j (.int .i64 id))
            have C7 := Lib.hid ((CR.out.trans (d6.mono CR.out.size)).setCell (p := ⟨g, j, none⟩) hwg (.int .i64 id))
            have D7 := Lib.hid ((DR.out.trans (d6.mono DR.out.size)).setCell (p := ⟨g, j, none⟩) (show W1.heap.size ≤ g from hW1g) (.int .i64 id))
            clear O6 O7 d6 y0 y1 y2
            go_wp2_with fail
            go_roundw
            case rel => exact ⟨k + 1, by omega, by go_num, by rw [HN.out]; exact O7', M7, C7, D7⟩
            case measure => simp [intOf]; omega
        · obtain rfl : k = n := by omega
          have C9 := CR.out
          have O9 := OP.out.freeE
          go_wp2_with fail
          go_ret
          exact ⟨_, rfl, by rw [HE.out]; exact O9, C9⟩
  · have HE := Lib.hid (fillP_bad (h := h) (l := l) (fun hc => hok hc.1))
    have hok2 : hlOk h = false := by simpa using hok
    rw [hok2] at HHV
    clear hok hok2 hb
    go_enter Try.func18, Try.ntmps18
    go_wp2_with fail
    rw [← HW.out]
    go_wp2_with fail
    refine (HHV.out _).mono ?_
    rintro e w2 ⟨rfl, b2⟩
    have C2 := HB.out.trans (b2.mono HB.out.size)
    clear b2 y0 y1 y2
    go_wp2_with fail
    go_ret
    exact ⟨_, rfl, by rw [HE.out]; exact FreeE.zero, C2⟩
end Go.Proofs.Ytfeobdgdhgcgoaa
