/-
  The program's chapter 9, second part: planOfSet, leastBehind, nextWithin, leastHeels.
-/
import Derived.Test.YtbaebamiiigmlacLdIa
import Derived.Test.YtbaebamiiigmlacLdN
import Derived.Test.YtbaebamiiigmlacLdH
import Derived.Test.YtbaebamiiigmlacMpI
import Derived.Deep.RegionHeld3
namespace Go.Proofs.Ytbaebamiiigmlac
open Go.RowKit
set_option linter.unusedVariables false

theorem two_pow_int (k : Nat) : ((2 : Int) ^ k) = ((2 ^ k : Nat) : Int) := by rw [Int.natCast_pow]; rfl
theorem bv_nat {a : Nat} (h : a < 9223372036854775808) : (BitVec.ofInt 64 (a : Int)).toNat = a := by
  rw [BitVec.ofInt_natCast, BitVec.toNat_ofNat]; exact Nat.mod_eq_of_lt (by omega)
theorem or_lt {s k : Nat} (hs : s < 128) (hk : k < 7) : s ||| 2 ^ k < 128 := Nat.or_lt_two_pow (n := 7) hs (Nat.pow_lt_pow_right (by omega) hk)
theorem pow_le64 {k : Nat} (hk : k < 7) : 2 ^ k ≤ 64 := (Nat.pow_le_pow_right (by omega) (by omega) : 2 ^ k ≤ 2 ^ 6)
theorem or_val {s k : Nat} (hs : s < 128) (hk : k < 7) : bits .or .i64 (s : Int) ((2 : Int) ^ k) = ((s ||| 2 ^ k : Nat) : Int) := by
  have hx := or_lt hs hk
  have h2 := pow_le64 hk
  rw [two_pow_int]
  generalize 2 ^ k = a at hx h2
  show IntKind.i64.wrap ((BitVec.ofInt 64 (s : Int) ||| BitVec.ofInt 64 (a : Int)).toNat : Int) = _
  rw [BitVec.toNat_or, bv_nat (by omega), bv_nat (by omega)]
  exact IntWalk.i64_in _ (by omega)
theorem and_val {s k : Nat} (hs : s < 128) (hk : k < 7) : bits .and .i64 (s : Int) ((2 : Int) ^ k) = if s.testBit k = true then ((2 ^ k : Nat) : Int) else 0 := by
  have h2 := pow_le64 hk
  have e : s &&& 2 ^ k = if s.testBit k = true then 2 ^ k else 0 := by
    refine Nat.eq_of_testBit_eq fun j => ?_
    rw [Nat.testBit_and, Nat.testBit_two_pow]
    by_cases ej : k = j
    · subst ej
      cases hb : s.testBit k
      · simp
      · rw [if_pos rfl, Nat.testBit_two_pow, decide_eq_true rfl]; rfl
    · rw [decide_eq_false ej, Bool.and_false]
      cases s.testBit k
      · simp
      · rw [if_pos rfl, Nat.testBit_two_pow, decide_eq_false ej]
  rw [two_pow_int]
  show IntKind.i64.wrap ((BitVec.ofInt 64 (s : Int) &&& BitVec.ofInt 64 ((2 ^ k : Nat) : Int)).toNat : Int) = _
  rw [BitVec.toNat_and, bv_nat (by omega), bv_nat (by omega), e]
  cases s.testBit k
  · rw [if_neg (by simp), if_neg (by simp)]; rfl
  · rw [if_pos rfl, if_pos rfl]
    generalize 2 ^ k = a at h2
    exact IntWalk.i64_in _ (by omega)
/-- What the program reads of a bit. -/
theorem and_cases {s k : Nat} (hs : s < 128) (hk : k < 7) : (s.testBit k = false ∧ bits .and .i64 (s : Int) ((2 : Int) ^ k) = 0) ∨ (s.testBit k = true ∧ ∃ a : Int, bits .and .i64 (s : Int) ((2 : Int) ^ k) = a ∧ (a == 0) = false ∧ (a != 0) = true) := by
  rw [and_val hs hk]
  have hp := Nat.two_pow_pos k
  cases s.testBit k
  · exact .inl ⟨rfl, if_neg (by simp)⟩
  · refine .inr ⟨rfl, ((2 ^ k : Nat) : Int), if_pos rfl, ?_, ?_⟩
    · generalize 2 ^ k = a at hp; simp; omega
    · generalize 2 ^ k = a at hp; simp; omega
theorem shl_pow {k : Nat} (hk : k < 7) : IntKind.i64.wrap ((2 : Int) ^ k) = (2 : Int) ^ k := by rw [shl_val (by omega), two_pow_int]

set_option maxRecDepth 10000 in
set_option maxHeartbeats 2000000 in
theorem planOfSet_any (v : Value) (p : List Int) (s : Nat) (w : World) (hp : HoldsI w v p) (hp1 : 1 ≤ p.length ∧ p.length ≤ 36) (hm : (fullS p).length ≤ 7) (hs : s < 128) :
    Calls Try.prog 95 #[v, .int .i64 s] w fun e w' => ∃ v', e = .returned v' ∧ OwnI w.heap.size w' v' (partP p s (fullS p).length) ∧ Below w.heap.size w w' := by
  obtain ⟨i0, hi, hz0, hz1, hz2⟩ := info_parts infoInt
  have PK := Lib.hid fun (w' : World) (hs : Below w.heap.size w w') => hp.keep hs
  have HSL := Lib.hid fun (w' : World) (hs : Below w.heap.size w w') => loadedSlots_any _ p w' (hp.keep hs) (by omega)
  have HFA := Lib.hid fun k (hk : k < (fullS p).length) => fullI_at (p := p) hk
  have HFL := Lib.hid fun k (hk : k < (fullS p).length) => (fAt_mem hk).1
  have HNX := Lib.hid fun k (hk : k < (fullS p).length) => partP_next (p := p) (s := s) hk
  have HPL := Lib.hid fun k => partP_len p s k
  have HP0 := Lib.hid (partP_zero p s)
  obtain ⟨pa, pc, rfl⟩ := hp.form
  have hfl := fullI_len p
  obtain ⟨n, hn⟩ : ∃ n, n = p.length := ⟨_, rfl⟩
  obtain ⟨m, hm'⟩ : ∃ m, m = (fullS p).length := ⟨_, rfl⟩
  rw [← hn] at PK HSL HFL HPL HP0 hp1 ⊢
  rw [← hm'] at hfl HFA HFL HNX hm ⊢
  have hb2 : i0.bytes * n ≤ 281474976710656 := by rw [hz2]; omega
  have hb3 : n ≤ maxLen := by unfold maxLen; omega
  clear hp hn hm'
  go_enter Try.func95, Try.ntmps95
  go_wp2_with (at_make; refine wpList_make_full _ rfl _ _ _ rfl w.heap.size 3 i0 (.int .i64 0) 1 Try.underlying25 hi hz0 hz1 .i64 .i64 _ _ n rfl rfl rfl rfl hb2 hb3 (Nat.le_refl _) ?_; intro w4 hown hgrow)
  have B4 : Below w.heap.size w w4 := (Below.refl _ _).grown hgrow (Nat.le_refl _) (fun k hk => by cases hk)
  have O4 := OwnI.made hown
  rw [← HP0.out] at O4
  obtain ⟨-, hgl, -⟩ := O4.slot (k := 0) (by rw [HPL.out]; omega)
  have hKg : w.heap.size ≤ w.heap.size := Nat.le_refl _
  clear hown hgrow hi hz0 hz1 hz2 hb2 hb3
  go_wp2_with fail
  refine (HSL.out w4 B4).mono ?_
  rintro e w5 ⟨v5, rfl, O5, b5⟩
  have N5 := Lib.hid (NewI.of_own O5)
  have HO5 := Lib.hid (O4.keep b5)
  have B5 := Lib.hid (B4.trans (b5.mono B4.size))
  obtain ⟨a5, c5, rfl⟩ := O5.holds.form
  rw [hfl] at N5 ⊢
  clear O5 b5 O4 B4 HSL
  go_wp2_with fail
  go_loopw [14] (fun i wr => ∃ k : Nat, k ≤ m ∧ i = .int .i64 k ∧ Hid (OwnI w.heap.size wr (.slice (some ⟨w.heap.size, 0, none⟩) n n) (partP p s k)) ∧ Hid (MostB w.heap.size w5 wr) ∧ Hid (Below w.heap.size w wr)) (fun i _ => m - (intOf i).toNat)
  case atStart => exact ⟨0, by omega, rfl, HO5, Lib.hid (MostB.refl _ _), B5⟩
  case round =>
    clear HO5 B5
    obtain ⟨k, hkm, rfl, HOW, MM, BR⟩ := hrel
    by_cases hlt : k < m
    · obtain ⟨sb, so, rfl, hsbl, s0⟩ := ((N5.out.most MM.out hgl).holds).at_ (k := k) hlt
      rw [HFA.out k hlt] at s0
      have ik : (k : Int) < (m : Int) := by omega
      have i0k : (0 : Int) ≤ (k : Int) := by omega
      have ik64 : (k : Int) ≤ 64 := by omega
      have hjn := HFL.out k hlt
      have hsh := shl_pow (k := k) (by omega)
      have HNk := Lib.hid (HNX.out k hlt)
      rcases and_cases (s := s) (k := k) hs (by omega) with ⟨hbit, hand⟩ | ⟨hbit, a, hand, ha0, ha1⟩
      · have HN2 := Lib.hid (HNk.out.trans (if_neg (by rw [hbit]; simp)))
        clear HNk hbit
        go_wp2_with fail
        go_roundw
        case rel => exact ⟨k + 1, by omega, by go_num, by rw [HN2.out]; exact HOW, MM, BR⟩
        case measure => simp [intOf]; omega
      · have HN2 := Lib.hid (HNk.out.trans (if_pos hbit))
        obtain ⟨j, hj⟩ : ∃ j, j = fAt p k := ⟨_, rfl⟩
        rw [← hj] at hjn HN2 s0
        obtain ⟨pb, po, rfl, hpbl, t0⟩ := (PK.out wr BR.out).at_ hjn
        have e1 : p.getD j 0 = pAt p j := rfl
        rw [e1] at t0
        obtain ⟨x, hxx⟩ : ∃ x, x = pAt p j := ⟨_, rfl⟩
        rw [← hxx] at t0 HN2
        have ij : (j : Int) < (n : Int) := by omega
        have i0j : (0 : Int) ≤ (j : Int) := by omega
        have hjl : j < (partP p s k).length := by rw [HPL.out]; exact hjn
        obtain ⟨-, hgr, -, ⟨z0, t0'⟩, f0⟩ := HOW.out.slot hjl
        have O6 := (show OwnI w.heap.size wr (.slice (some ⟨w.heap.size, 0, none⟩) (partP p s k).length n) (partP p s k) from by rw [HPL.out]; exact HOW.out).set hjl x
        rw [← HN2.out, HPL.out] at O6
        have HO6 := Lib.hid O6
        have M6 := Lib.hid (MM.out.set_ j (.int .i64 x))
        have B6 := Lib.hid (BR.out.trans ((Below.refl w.heap.size wr).setCell (p := ⟨w.heap.size, j, none⟩) hKg (.int .i64 x)))
        clear HNk hbit hj e1 hxx hjl O6
        go_wp2_with fail
        go_roundw
        case rel => exact ⟨k + 1, by omega, by go_num, HO6, M6, B6⟩
        case measure => simp [intOf]; omega
    · obtain rfl : k = m := by omega
      have C9 := BR.out
      have O9 := HOW.out
      go_wp2_with fail
      go_ret
      exact ⟨_, rfl, O9, C9⟩

set_option maxRecDepth 10000 in
set_option maxHeartbeats 2000000 in
theorem leastBehind_any (B n s : Nat) (m : Int → Option Int) (w : World) (hm : MapI B w n m) (hs : s < 128) :
    Calls Try.prog 96 #[.map (some B), .int .i64 s] w fun e w' => e = .returned (.int .i64 (foldB (gM m s) (xM m s) 7)) ∧ w = w' := by
  have LK := Lib.hid fun k (hk : k < 7) => hm.look_ok ((s ||| 2 ^ k : Nat) : Int) (by omega) (by have := or_lt hs hk; omega)
  have HGM := Lib.hid fun k => (show gM m s k = (!s.testBit k && (m ((s ||| 2 ^ k : Nat) : Int)).isSome) from rfl)
  have HXM := Lib.hid fun k => (show xM m s k = (m ((s ||| 2 ^ k : Nat) : Int)).getD 0 from rfl)
  obtain ⟨F, hF⟩ : ∃ F, F = foldB (gM m s) (xM m s) := ⟨_, rfl⟩
  have HFN := Lib.hid fun k => (show F (k + 1) = if gM m s k = true then (if F k < 0 ∨ xM m s k < F k then xM m s k else F k) else F k from by rw [hF]; rfl)
  have hF0 : F 0 = -1 := by rw [hF]; rfl
  rw [← hF]
  clear hF hm
  go_enter Try.func96, Try.ntmps96
  go_wp2_with fail
  go_loopw [5, 9] (fun hv i wr => ∃ k : Nat, k ≤ 7 ∧ hv = .int .i64 (F k) ∧ i = .int .i64 k ∧ w = wr) (fun _ i _ => 7 - (intOf i).toNat)
  case atStart => exact ⟨0, by omega, by rw [hF0], rfl, rfl⟩
  case round =>
    clear hF0
    obtain ⟨k, hk7, rfl, rfl, rfl⟩ := hrel
    by_cases hlt : k < 7
    · have hlt7 : k < 7 := hlt
      have i0k : (0 : Int) ≤ (k : Int) := by omega
      have ik64 : (k : Int) ≤ 64 := by omega
      have ik7 : (k : Int) < 7 := by omega
      have hsh := shl_pow (k := k) (by omega)
      have hor := or_val (s := s) (k := k) hs hlt
      have hlk := LK.out k hlt
      have hqq := or_lt hs hlt
      have hfn := HFN.out k
      rw [HGM.out k, HXM.out k] at hfn
      obtain ⟨q, hq⟩ : ∃ q, q = s ||| 2 ^ k := ⟨_, rfl⟩
      rw [← hq] at hor hlk hqq hfn
      generalize (m (q : Int)).getD 0 = x at hlk hfn
      generalize (m (q : Int)).isSome = y at hlk hfn
      obtain ⟨f0, hf0⟩ : ∃ f0, f0 = F k := ⟨_, rfl⟩
      rw [← hf0] at hfn ⊢
      have HQF := Lib.hid hf0
      clear hq hf0
      rcases and_cases (s := s) (k := k) hs hlt with ⟨hbit, hand⟩ | ⟨hbit, a, hand, ha0, ha1⟩
      · rw [hbit] at hfn
        cases y
        · rw [if_neg (by simp)] at hfn
          have HV := Lib.hid hfn
          clear hfn hbit
          go_wp2_with fail
          go_roundw
          case rel => exact ⟨k + 1, by omega, by rw [HV.out], by go_num, (by first | rfl | trivial)⟩
          case measure => simp [intOf]; omega
        · rw [if_pos (by rfl)] at hfn
          by_cases hneg : f0 < 0
          · rw [if_pos (.inl hneg)] at hfn
            have HV := Lib.hid hfn
            clear hfn hbit
            go_wp2_with fail
            go_roundw
            case rel => exact ⟨k + 1, by omega, by rw [HV.out], by go_num, (by first | rfl | trivial)⟩
            case measure => simp [intOf]; omega
          · by_cases hless : x < f0
            · rw [if_pos (.inr hless)] at hfn
              have HV := Lib.hid hfn
              have hd0 : decide (f0 < 0) = false := decide_eq_false hneg
              have hd1 : decide (x < f0) = true := decide_eq_true hless
              clear hfn hbit
              go_wp2_with fail
              go_roundw
              case rel => exact ⟨k + 1, by omega, by rw [HV.out], by go_num, (by first | rfl | trivial)⟩
              case measure => simp [intOf]; omega
            · rw [if_neg (by rintro (h1 | h1) <;> contradiction)] at hfn
              have HV := Lib.hid hfn
              have hd0 : decide (f0 < 0) = false := decide_eq_false hneg
              have hd1 : decide (x < f0) = false := decide_eq_false hless
              clear hfn hbit
              go_wp2_with fail
              go_roundw
              case rel => exact ⟨k + 1, by omega, by rw [HV.out], by go_num, (by first | rfl | trivial)⟩
              case measure => simp [intOf]; omega
      · rw [hbit, if_neg (by simp)] at hfn
        have HV := Lib.hid hfn
        clear hfn hbit
        go_wp2_with fail
        go_roundw
        case rel => exact ⟨k + 1, by omega, by rw [HV.out], by go_num, (by first | rfl | trivial)⟩
        case measure => simp [intOf]; omega
    · obtain rfl : k = 7 := by omega
      go_wp2_with fail
      go_ret
      exact ⟨rfl, rfl⟩

set_option maxRecDepth 10000 in
set_option maxHeartbeats 2000000 in
theorem nextWithin_any (B n s K : Nat) (m : Int → Option Int) (W : Int) (w : World) (hm : MapI B w n m) (hs : s < 128) (hK : K < 7) (h1 : gM m s K = true) (h2 : xM m s K ≤ W) (h3 : ∀ k, k < K → gM m s k = true → W < xM m s k) :
    Calls Try.prog 66 #[.map (some B), .int .i64 s, .int .i64 W] w fun e w' => e = .returned (.int .i64 K) ∧ w = w' := by
  have LK := Lib.hid fun k (hk : k < 7) => hm.look_ok ((s ||| 2 ^ k : Nat) : Int) (by omega) (by have := or_lt hs hk; omega)
  have HGM := Lib.hid fun k => (show gM m s k = (!s.testBit k && (m ((s ||| 2 ^ k : Nat) : Int)).isSome) from rfl)
  have HXM := Lib.hid fun k => (show xM m s k = (m ((s ||| 2 ^ k : Nat) : Int)).getD 0 from rfl)
  have H1 := Lib.hid h1
  have H2 := Lib.hid h2
  have H3 := Lib.hid h3
  clear hm h1 h2 h3
  go_enter Try.func66, Try.ntmps66
  go_wp2_with fail
  go_loopw [10] (fun i wr => ∃ k : Nat, k ≤ K ∧ i = .int .i64 k ∧ w = wr) (fun i _ => 7 - (intOf i).toNat)
  case atStart => exact ⟨0, by omega, rfl, rfl⟩
  case round =>
    obtain ⟨k, hkK, rfl, rfl⟩ := hrel
    have hlt : k < 7 := by omega
    have hlt7 : k < 7 := hlt
    have i0k : (0 : Int) ≤ (k : Int) := by omega
    have ik64 : (k : Int) ≤ 64 := by omega
    have ik7 : (k : Int) < 7 := by omega
    have hsh := shl_pow (k := k) (by omega)
    have hor := or_val (s := s) (k := k) hs hlt
    have hlk := LK.out k hlt
    have hqq := or_lt hs hlt
    have g0 := HGM.out k
    have x0 := HXM.out k
    obtain ⟨q, hq⟩ : ∃ q, q = s ||| 2 ^ k := ⟨_, rfl⟩
    rw [← hq] at hor hlk hqq g0 x0
    generalize (m (q : Int)).getD 0 = x at hlk x0
    generalize (m (q : Int)).isSome = y at hlk g0
    clear hq
    by_cases hkk : k = K
    · have e1 := H1.out
      have e2 := H2.out
      rw [← hkk, g0, Bool.and_eq_true] at e1
      rw [← hkk, x0] at e2
      obtain ⟨e3, rfl⟩ := e1
      have e4 : decide (x ≤ W) = true := decide_eq_true e2
      have HKK := Lib.hid hkk
      rcases and_cases (s := s) (k := k) hs hlt with ⟨hbit, hand⟩ | ⟨hbit, a, hand, ha0, ha1⟩
      · clear hkk g0 x0 e3 hbit
        go_wp2_with fail
        go_ret
        exact ⟨by rw [HKK.out]; rfl, rfl⟩
      · rw [hbit] at e3; cases e3
    · have hklt : k < K := by omega
      have e1 := H3.out k hklt
      rw [g0, x0] at e1
      clear hkk g0 x0
      rcases and_cases (s := s) (k := k) hs hlt with ⟨hbit, hand⟩ | ⟨hbit, a, hand, ha0, ha1⟩
      · rw [hbit] at e1
        clear hbit
        cases y
        · clear e1
          go_wp2_with fail
          go_roundw
          case rel => exact ⟨k + 1, by omega, by go_num, (by first | rfl | trivial)⟩
          case measure => simp [intOf]; omega
        · have e4 : decide (x ≤ W) = false := decide_eq_false (by have := e1 rfl; omega)
          clear e1
          go_wp2_with fail
          go_roundw
          case rel => exact ⟨k + 1, by omega, by go_num, (by first | rfl | trivial)⟩
          case measure => simp [intOf]; omega
      · clear e1 hbit
        go_wp2_with fail
        go_roundw
        case rel => exact ⟨k + 1, by omega, by go_num, (by first | rfl | trivial)⟩
        case measure => simp [intOf]; omega

set_option maxRecDepth 10000 in
set_option maxHeartbeats 4000000 in
theorem leastHeels_any (h : Hl) (u v : Value) (l : List Bx) (p : List Int) (w : World) (hb : HoldsBx w u l) (hp : HoldsI w v p) (hok : plOk h (bxsOk l) (bxIds l) p = true) (hm : (fullS p).length ≤ 7) :
    Calls Try.prog 65 #[.agg #[.int .i64 h.b, .int .i64 h.r, .int .i64 h.t], u, v] w fun e w' => ∃ B n, e = .returned (.map (some B)) ∧ w.heap.size ≤ B ∧ MapI B w' n (mapT h l p 0) ∧ Below w.heap.size w w' := by
  have hmm := @run_makeMap Try.prog
  have hb1 := (Below.refl w.heap.size w).alloc (Nat.le_refl _) (.cells #[.int .i64 h.b, .int .i64 h.r, .int .i64 h.t] 28)
  have hx1 := BoxH.new w h
  obtain ⟨W1, hW1⟩ : ∃ W1, W1 = w.alloc (.cells #[.int .i64 h.b, .int .i64 h.r, .int .i64 h.t] 28) := ⟨_, rfl⟩
  rw [← hW1] at hb1 hx1
  have HW := Lib.hid hW1
  have HB := Lib.hid hb1
  have y0 := hx1.c0
  have y1 := hx1.c1
  have y2 := hx1.c2
  have HX := Lib.hid fun (w' : World) (hs : Below W1.heap.size W1 w') => hx1.keep hs
  have hs1 : W1.heap.size = w.heap.size + 1 := by rw [hW1]; simp
  clear hW1 hb1 hx1
  have hb2 : Below W1.heap.size W1 (W1.alloc (.map #[] 0)) := (Below.refl _ _).alloc (Nat.le_refl _) _
  have hx2 := HX.out _ hb2
  have hM2 := MapI.made W1
  obtain ⟨W2, hW2⟩ : ∃ W2, W2 = W1.alloc (.map #[] 0) := ⟨_, rfl⟩
  rw [← hW2] at hb2 hx2 hM2
  have HW2 := Lib.hid hW2
  rw [← mapT_start h l p] at hM2
  rw [hs1] at hb2 hM2 HX
  have HM2 := Lib.hid hM2
  have HD2 := Lib.hid hb2
  have HB2 := Lib.hid (HB.out.trans (hb2.mono (by omega)))
  have hsz1 := hs1
  have hsz2 : w.heap.size + 2 = W2.heap.size := by rw [hW2]; simp; omega
  clear hW2 hb2 hM2 hx2 y0 y1 y2 hs1
  have hlen := pl_len hok
  have HSL := Lib.hid fun (w' : World) (hs : Below w.heap.size w w') => loadedSlots_any v p w' (hp.keep hs) (by omega)
  have HPS := Lib.hid fun s (hs : s < 128) (w' : World) (hw : Below w.heap.size w w') => planOfSet_any v p s w' (hp.keep hw) hlen hm hs
  have HHE := Lib.hid fun s vq (w' : World) (hs : Below w.heap.size w w') (hq : HoldsI w' vq (partP p s (fullS p).length)) => (okS_heel (h := h) (l := l) (p := p) (s := s)) ▸ implHeelOf_any h u vq l _ w' (hb.keep hs) hq
  have HBH := Lib.hid fun B n s (w' : World) (hm : MapI B w' n (mapT h l p (s + 1))) (hs : s < 128) => leastBehind_any B n s _ w' hm hs
  have HBV := Lib.hid fun s (hs : okS h l p s = true) hlt => behind_val hok hs hlt hm
  have HVB := Lib.hid fun s hlt => valS_behind (h := h) (l := l) (p := p) (s := s) hlt
  have HSH := Lib.hid fun s => (show setH h l p s = max (bsum (cAt h l p) s (fullS p).length) (-(bsum (cAt h l p) s (fullS p).length)) from rfl)
  have HBB := Lib.hid fun s => bsum_bd (c := cAt h l p) (fun k hk => cAt_bd hok hk) s (fullS p).length (Nat.le_refl _)
  have HVM := Lib.hid fun s (hlt : s < 2 ^ (fullS p).length) => (show 0 ≤ valS h l p s ∧ valS h l p s ≤ 10000 from by
    have h1 := setH_pos h l p s
    have h2 := least_pos hok hlt
    have hH : ∀ s, setH h l p s ≤ 10000 := fun s => by
      have := bsum_bd (c := cAt h l p) (fun k hk => cAt_bd hok hk) s (fullS p).length (Nat.le_refl _)
      unfold setH
      omega
    have h3 := leastD_most (nx := nxS h p) (m := (fullS p).length) (H := setH h l p) (C := 10000) (by omega) hH (2 ^ (fullS p).length) s
    have h4 := hH s
    unfold valS leastL at *
    omega)
  have HSK := Lib.hid fun s (hs : okS h l p s = false) => mapT_skip hs
  have HPT := Lib.hid fun s hlt (hs : okS h l p s = true) => mapT_put hlt hs
  have hfl := fullI_len p
  have hM := Nat.pow_le_pow_right (n := 2) (by omega) hm
  have hMp := Nat.two_pow_pos (fullS p).length
  have hshm : IntKind.i64.wrap ((2 : Int) ^ (fullS p).length) = ((2 ^ (fullS p).length : Nat) : Int) := shl_val (by omega)
  obtain ⟨m, hm'⟩ : ∃ m, m = (fullS p).length := ⟨_, rfl⟩
  rw [← hm'] at hfl hm hM hMp hshm HHE HPS HBV HVB HSH HBB HVM HPT HM2
  obtain ⟨M, hMM⟩ : ∃ M : Nat, M = 2 ^ m := ⟨_, rfl⟩
  rw [← hMM] at hM hMp hshm HBV HVB HVM HPT HM2
  have hM128 : M ≤ 128 := hM
  have im0 : (0 : Int) ≤ (m : Int) := by omega
  have im64 : (m : Int) ≤ 64 := by omega
  have hsub : IntKind.i64.wrap ((M : Int) - 1) = (M : Int) - 1 := IntWalk.i64_in _ (by omega)
  generalize hgb : bsum (cAt h l p) = bs at HHE HSH HBB
  generalize hgm : mapT h l p = mp at HM2 HBH HBV HSK HPT
  generalize hgv : valS h l p = vS at HVB HVM HPT
  generalize hgh : setH h l p = H at HSH HVB HBV
  clear hb hp hok hm' hMM hM hgb hgm hgv hgh hlen
  go_enter Try.func65, Try.ntmps65
  go_wp2_with fail
  rw [← HW.out, ← HW2.out]
  go_wp2_with fail
  refine (HSL.out _ HB2.out).mono ?_
  rintro e w3 ⟨v3, rfl, O3, b3⟩
  have D3 := Lib.hid (HD2.out.trans (b3.mono (by omega)))
  have M3 := Lib.hid (HM2.out.keep b3)
  obtain ⟨a3, c3, rfl⟩ := O3.holds.form
  rw [hfl]
  clear O3 b3 HD2 HM2 HSL
  go_wp2_with fail
  go_loopw [8] (fun i wr => ∃ (t n : Nat) (x : Int), i = .int .i64 x ∧ x = (t : Int) - 1 ∧ t ≤ M ∧ n + t ≤ M ∧ Hid (MapI (w.heap.size + 1) wr n (mp t)) ∧ Hid (Below (w.heap.size + 1) W1 wr)) (fun i _ => (intOf i + 1).toNat)
  case atStart => exact ⟨M, 0, _, rfl, rfl, Nat.le_refl _, by omega, M3, D3⟩
  case round =>
    clear M3 D3
    obtain ⟨t, n, x, rfl, hx, htM, hnt, HMP, DR⟩ := hrel
    have BR := Lib.hid (HB.out.trans (DR.out.mono (by omega)))
    cases t with
    | zero =>
      have hd0 : decide ((0 : Int) ≤ x) = false := decide_eq_false (by omega)
      have C9 := BR.out
      have M9 := HMP.out
      clear hx
      go_wp2_with fail
      go_ret
      exact ⟨_, _, rfl, Nat.le_succ _, M9, C9⟩
    | succ s =>
      obtain rfl : x = (s : Int) := by omega
      have hd0 : decide ((0 : Int) ≤ (s : Int)) = true := decide_eq_true (by omega)
      have hs128 : s < 128 := by omega
      have hsm : s < M := by omega
      have zs : IntKind.i64.wrap ((s : Int) - 1) = (s : Int) - 1 := IntWalk.i64_in _ (by omega)
      have HPSk := Lib.hid fun (w' : World) (hs : Since wr w') => HPS.out s hs128 w' (BR.out.trans (Below.mono hs BR.out.size))
      have HHEk0 := Lib.hid fun vq (w' : World) (hs : Since wr w') => HHE.out s vq w' (BR.out.trans (Below.mono hs BR.out.size))
      have y := HX.out wr DR.out
      have HK := Lib.hid fun (w' : World) (hs : Since wr w') => (show w'.cell? ⟨w.heap.size, 0, none⟩ = some (.int .i64 h.b) ∧ w'.cell? ⟨w.heap.size, 1, none⟩ = some (.int .i64 h.r) ∧ w'.cell? ⟨w.heap.size, 2, none⟩ = some (.int .i64 h.t) ∧ Since wr w' from ⟨(y.keep hs).c0, (y.keep hs).c1, (y.keep hs).c2, hs⟩)
      have hstart := HK.out _ (show Since wr wr.drew from (Below.refl _ _).drew)
      clear y hx
      cases hos : okS h l p s
      · have hsk := HSK.out s hos
        have HHEk := Lib.hid fun vq (w' : World) (hs : Since wr w') => HHEk0.out vq w' hs
        rw [hos, if_neg (by simp)] at HHEk
        clear hos HHEk0
        go_wp2_with fail
        go_region_held3 (fun w' => w'.cell? ⟨w.heap.size, 0, none⟩ = some (.int .i64 h.b) ∧ w'.cell? ⟨w.heap.size, 1, none⟩ = some (.int .i64 h.r) ∧ w'.cell? ⟨w.heap.size, 2, none⟩ = some (.int .i64 h.t) ∧ Since wr w')
          (first | exact hstart | exact HK.out _ s6 | exact HK.out _ s5 | exact HK.out _ (by exact (‹_ ∧ _› : _ ∧ _ ∧ _ ∧ Since wr _).2.2.2) | fail)
          (first
            | (go_at_call 95; ((with_reducible refine (HPSk.out _ (by exact (‹_ ∧ _› : _ ∧ _ ∧ _ ∧ Since wr _).2.2.2)).mono ?_); rintro e w5 ⟨v5, rfl, o5, d5⟩; have s5 : Since wr w5 := Since.call (by exact (‹_ ∧ _› : _ ∧ _ ∧ _ ∧ Since wr _).2.2.2) d5; have n5 := Lib.hid o5.holds; clear o5 d5))
            | (go_at_call 59; ((with_reducible refine (HHEk.out _ _ s5 n5.out).mono ?_); rintro e w6 ⟨rfl, d6⟩; have s6 : Since wr w6 := Since.call s5 d6; clear d6))
            | fail)
        rename_i hheld
        have HS6 := Lib.hid (show Since wr w6 from hheld.2.2.2)
        clear hheld hstart
        have hmp6 := HMP.out.keep HS6.out
        have D6 := Lib.hid (DR.out.trans (Below.mono HS6.out (by have := DR.out.size; omega)))
        rw [hsk] at hmp6
        have M6 := Lib.hid hmp6
        clear hmp6 hsk HHEk HPSk
        go_wp2_with fail
        go_roundw
        case rel => exact ⟨s, n, _, rfl, by first | rfl | omega, by omega, by omega, M6, D6⟩
        case measure => simp [intOf] <;> omega
      · have hbv := HBV.out s hos hsm
        have hpt := HPT.out s hsm hos
        have hvb := HVB.out s hsm
        have hsh := HSH.out s
        have hbb := HBB.out s
        have hvm := HVM.out s hsm
        have HHEk := Lib.hid fun vq (w' : World) (hs : Since wr w') => HHEk0.out vq w' hs
        rw [hos, if_pos rfl] at HHEk
        clear hos HHEk0
        rw [← hbv] at hvb
        generalize hgx : bs s m = x at HHEk hsh hbb
        have HBk := Lib.hid fun (w' : World) (hm : MapI (w.heap.size + 1) w' n (mp (s + 1))) => HBH.out _ n s w' hm hs128
        generalize foldB (gM (mp (s + 1)) s) (xM (mp (s + 1)) s) 7 = z at hvb HBk
        have HWS := Lib.hid fun (w' : World) => withoutSign_any x w' (by omega)
        rw [← hsh] at HWS
        generalize H s = a at hvb HWS
        obtain ⟨mx, hmx0⟩ : ∃ mx, mx = vS s := ⟨_, rfl⟩
        rw [← hmx0] at hvb hpt hvm
        have hmax : (if z > a then z else a) = mx := by rw [← hvb]; split <;> omega
        have hmx : ∀ W : World, Sem.run Try.prog (Builtin.max_ #[3, 3] 3 #[.int .i64 a, .int .i64 z]) W = .ok (.int .i64 mx) W := fun W => by
          rw [← hmax]
          simp [Builtin.max_, Builtin.max2, List.foldlM, Sem.run_pure]
        clear hsh hbb hmax hvb hmx0 hgx hbv
        go_wp2_with fail
        go_region_held3 (fun w' => w'.cell? ⟨w.heap.size, 0, none⟩ = some (.int .i64 h.b) ∧ w'.cell? ⟨w.heap.size, 1, none⟩ = some (.int .i64 h.r) ∧ w'.cell? ⟨w.heap.size, 2, none⟩ = some (.int .i64 h.t) ∧ Since wr w')
          (first | exact hstart | exact HK.out _ s6 | exact HK.out _ s5 | exact HK.out _ (by exact (‹_ ∧ _› : _ ∧ _ ∧ _ ∧ Since wr _).2.2.2) | fail)
          (first
            | (go_at_call 95; ((with_reducible refine (HPSk.out _ (by exact (‹_ ∧ _› : _ ∧ _ ∧ _ ∧ Since wr _).2.2.2)).mono ?_); rintro e w5 ⟨v5, rfl, o5, d5⟩; have s5 : Since wr w5 := Since.call (by exact (‹_ ∧ _› : _ ∧ _ ∧ _ ∧ Since wr _).2.2.2) d5; have n5 := Lib.hid o5.holds; clear o5 d5))
            | (go_at_call 59; ((with_reducible refine (HHEk.out _ _ s5 n5.out).mono ?_); rintro e w6 ⟨rfl, d6⟩; have s6 : Since wr w6 := Since.call s5 d6; clear d6))
            | fail)
        rename_i hheld
        have HS6 := Lib.hid (show Since wr w6 from hheld.2.2.2)
        clear hheld hstart
        have hmp6 := HMP.out.keep HS6.out
        have D6 := Lib.hid (DR.out.trans (Below.mono HS6.out (by have := DR.out.size; omega)))
        obtain ⟨w7, hput, hmp7, hg7⟩ := hmp6.put (s : Int) mx (by omega) (by omega) (by omega) (by omega) (by omega)
        have e7 : updM (mp (s + 1)) (s : Int) mx = mp s := by unfold updM; exact hpt
        rw [e7] at hmp7
        have D7 := Lib.hid (D6.out.trans ((Below.refl _ _).grown hg7 (by have := D6.out.size; omega) (fun k hk => by have := Option.some.inj hk; omega)))
        have M7 := Lib.hid hmp7
        have HB6 := Lib.hid (HBk.out _ hmp6)
        clear hmp6 hmp7 hg7 e7 hpt HHEk HPSk HBk
        go_wp2_with fail
        refine (HWS.out _).mono ?_
        rintro e w8 ⟨rfl, rfl⟩
        go_wp2_with fail
        refine HB6.out.mono ?_
        rintro e w8 ⟨rfl, rfl⟩
        go_wp2_with fail
        go_roundw
        case rel => exact ⟨s, n + 1, _, rfl, by first | rfl | omega, by omega, by omega, M7, D7⟩
        case measure => simp [intOf] <;> omega

end Go.Proofs.Ytbaebamiiigmlac
