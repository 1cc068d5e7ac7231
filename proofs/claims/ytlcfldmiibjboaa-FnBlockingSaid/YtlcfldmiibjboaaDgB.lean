/-
  Contracts of Blocking, the model's and the program's.
-/
import Derived.Test.YtlcfldmiibjboaaDgO
namespace Go.Proofs.Ytlcfldmiibjboaa
open Go.RowKit
set_option linter.unusedVariables false

set_option maxRecDepth 10000 in
set_option maxHeartbeats 2000000 in
theorem specBlocking_any (h : Int) (v u : Value) (ss : List (List Int)) (os : List Int) (w : World) (hh : HoldsY w v ss) (ho : HoldsI w u os) (hbd : ss.flatten.length ≤ 1048577) :
    Calls Try.prog 46 #[.agg #[.int .i64 h, v], u] w fun e w' => e = .returned (.int .i64 (blocking h ss os)) ∧ Below w.heap.size w w' := by
  have hb1 := (Below.refl w.heap.size w).alloc (Nat.le_refl _) (.cells #[.int .i64 h, v] 25)
  have hH := hh.keep hb1
  have hO := ho.keep hb1
  have hY0 := BoxY.new w h v
  obtain ⟨w1, hw1⟩ : ∃ w1, w1 = w.alloc (.cells #[.int .i64 h, v] 25) := ⟨_, rfl⟩
  rw [← hw1] at hH hO hY0 hb1
  have HOR := Lib.hid (specOrderOk_any h v u ss os w1 hH hO hbd)
  obtain ⟨a, cap, rfl, -, -, -, -⟩ := hh
  obtain ⟨a2, c2, rfl, hc2, hc3, -⟩ := ho
  unfold maxLen at hc3
  have HO := Lib.hid hO
  have HH := Lib.hid hH
  have HY := Lib.hid hY0
  have W1 := Lib.hid hw1
  have HB1 := Lib.hid hb1
  cases hok : ordOk h ss os
  · have hr := Lib.hid (show blocking h ss os = -1 by unfold blocking; rw [hok]; rfl)
    rw [hok] at HOR
    clear hok hY0 hw1 hb1 hH hO
    go_enter Try.func46, Try.ntmps46
    go_wp2_with fail
    rw [← W1.out]
    refine HOR.out.mono ?_
    rintro e w2 ⟨rfl, b2⟩
    go_wp2_with fail
    go_ret
    exact ⟨by rw [hr.out]; rfl, HB1.out.trans (b2.mono HB1.out.size)⟩
  · have hyd := (ordOk_iff.1 hok).1
    have hr := Lib.hid (show blocking h ss os = ((blkN os ss ss.length : Nat) : Int) by unfold blocking; rw [hok, blkN_end]; rfl)
    have HNX := Lib.hid fun k hk => blkN_next (os := os) (ss := ss) (k := k) hk
    have H25 := Lib.hid fun k => blkN_25 (os := os) hyd k
    have HRL := Lib.hid fun k (hk : k < ss.length) => stOk_len (ydOk_row hyd hk)
    have hq := (show os.length ≤ 9223372036854775807 by omega)
    rw [hok] at HOR
    obtain ⟨n, hn⟩ : ∃ n, n = ss.length := ⟨_, rfl⟩
    rw [← hn] at HH HY W1 hr HNX HRL HOR ⊢
    have hm : n ≤ 9223372036854775807 := by have := HH.out.len; omega
    obtain ⟨q, hqq⟩ : ∃ q, q = os.length := ⟨_, rfl⟩
    rw [← hqq] at HO HNX hq HOR ⊢
    have HQ := Lib.hid hqq.symm
    clear hok hyd hY0 hw1 hb1 hH hO hn hqq
    go_enter Try.func46, Try.ntmps46
    go_wp2_with fail
    rw [← W1.out]
    refine HOR.out.mono ?_
    rintro e w2 ⟨rfl, b2⟩
    have y1 := (HY.out.keep b2).c1
    have HH2 := Lib.hid (HH.out.keep b2)
    have HO2 := Lib.hid (HO.out.keep b2)
    have B2 := Lib.hid (HB1.out.trans (b2.mono HB1.out.size))
    have hz0 := blkN_zero os ss
    have HZ := Lib.hid hz0
    generalize w.heap.size = Y at y1 ⊢
    clear b2 HOR HH HO HY W1 HB1 hz0
    go_wp2_with fail
    have HT := Lib.hid fun x => l5Turn_any _ os x w2 HO2.out
    have HTL := Lib.hid fun x => (show turn os x ≤ q by rw [← HQ.out]; exact turn_le os x)
    have HLL := Lib.hid fun s => leastT_le os s q
    go_loop [5, 6] (fun x i => ∃ k : Nat, k ≤ n ∧ i = .int .i64 k ∧ x = .int .i64 (blkN os ss k : Nat)) (fun _ i => n - (intOf i).toNat)
    case atStart => exact ⟨0, by omega, rfl, by rw [HZ.out]; rfl⟩
    case round =>
      obtain ⟨k, hk, rfl, rfl⟩ := hrel
      by_cases hlt : k < n
      · obtain ⟨b, off, x, c, rfl, hb, s0, hc1, hc2', -, hrow⟩ := HH2.out.at_ hlt
        have ik : (k : Int) < (n : Int) := by omega
        have i0k : (0 : Int) ≤ (k : Int) := by omega
        have hrl := HRL.out k hlt
        have hnx := HNX.out k hlt
        have h25 := H25.out k
        have HR := Lib.hid hrow
        have HBT := Lib.hid fun j hj => blk_take (os := os) (m := q) (j := j) (s := rowAt ss k) hj
        have HEND := Lib.hid (List.take_of_length_le (Nat.le_refl (rowAt ss k).length))
        have HBL := Lib.hid fun j => Nat.le_trans (blk_le os ((rowAt ss k).take j) q) (List.length_take_le j _)
        clear hrow
        generalize rowAt ss k = row at *
        generalize blkN os ss k = B0 at *
        have HNK := Lib.hid hnx
        obtain ⟨r, hrr⟩ : ∃ r, r = row.length := ⟨_, rfl⟩
        rw [← hrr] at s0 hc1 hrl HR HBT HEND
        clear hnx hrr
        go_wp2_with fail
        go_loop [5, 8, 9] (fun x y j => ∃ m : Nat, m ≤ r ∧ j = .int .i64 m ∧ x = .int .i64 (B0 + blk os q (row.take m) : Nat) ∧ y = .int .i64 (leastT os q (row.take m) : Nat)) (fun _ _ j => r - (intOf j).toNat)
        case atStart => exact ⟨0, by omega, rfl, rfl, rfl⟩
        case round =>
          obtain ⟨m, hm2, rfl, rfl, rfl⟩ := hrel
          by_cases hlm : m < r
          · obtain ⟨b2, off2, rfl, hbl2, s2⟩ := HR.out.at_ hlm
            have im : (m : Int) < (r : Int) := by omega
            have i0m : (0 : Int) ≤ (m : Int) := by omega
            obtain ⟨e1, e2⟩ := HBT.out m hlm
            have t1 := HTL.out (row.getD m 0)
            have l1 := HLL.out (row.take m)
            have b1 := HBL.out m
            have HTk := Lib.hid (HT.out (row.getD m 0))
            have E1 := Lib.hid e1
            have E2 := Lib.hid e2
            clear e1 e2
            generalize blk os q (row.take m) = B at *
            generalize leastT os q (row.take m) = E at *
            generalize turn os (row.getD m 0) = T at *
            generalize row.getD m 0 = y at s2 HTk
            by_cases hc : E < T
            · have hc1 : (E : Int) < (T : Int) := by omega
              have hc2 : ¬ (T : Int) < (E : Int) := by omega
              have e1 := E1.out
              have e2 := E2.out
              rw [if_pos hc] at e1
              rw [show min E T = E by omega] at e2
              have E3 := Lib.hid e1
              have E4 := Lib.hid e2
              have hbb : ((B0 + B : Nat) : Int) + 1 = ((B0 + (B + 1) : Nat) : Int) := by omega
              have HBB := Lib.hid hbb
              clear e1 e2 hc hbb
              have hlim : B0 + B ≤ 1000 := by omega
              generalize B0 + B = Z at *
              go_wp2_with fail
              refine HTk.out.mono ?_
              rintro e w' ⟨rfl, rfl⟩
              go_wp2_with fail
              refine HTk.out.mono ?_
              rintro e w' ⟨rfl, rfl⟩
              go_wp2_with fail
              go_round
              case rel => exact ⟨m + 1, by omega, by go_num, by rw [E3.out, ← HBB.out], by rw [E4.out]; first | rfl | (congr 1; split <;> omega) | (congr 1; omega)⟩
              case measure => simp [intOf]; omega
            · have hc1 : ¬ (E : Int) < (T : Int) := by omega
              have hc2 : (T : Int) ≤ (E : Int) := by omega
              have e1 := E1.out
              have e2 := E2.out
              rw [if_neg hc] at e1
              rw [show min E T = T by omega] at e2
              have E3 := Lib.hid e1
              have E4 := Lib.hid e2
              clear e1 e2 hc
              go_wp2_with fail
              refine HTk.out.mono ?_
              rintro e w' ⟨rfl, rfl⟩
              go_wp2_with fail
              refine HTk.out.mono ?_
              rintro e w' ⟨rfl, rfl⟩
              go_wp2_with fail
              go_round
              case rel => exact ⟨m + 1, by omega, by go_num, by rw [E3.out]; rfl, by rw [E4.out]; first | rfl | (congr 1; split <;> omega) | (congr 1; omega)⟩
              case measure => simp [intOf]; omega
          · have hmr : m = r := by omega
            subst hmr
            go_wp2_with fail
            go_round
            case rel => exact ⟨k + 1, by omega, by go_num, by rw [HNK.out, HEND.out]⟩
            case measure => simp [intOf]; omega
      · have hkn : k = n := by omega
        subst hkn
        go_wp2_with fail
        go_ret
        exact ⟨by rw [hr.out]; rfl, B2.out⟩

set_option maxRecDepth 10000 in
set_option maxHeartbeats 2000000 in
theorem implBlocking_any (h : Int) (v u : Value) (ss : List (List Int)) (os : List Int) (w : World) (hh : HoldsY w v ss) (ho : HoldsI w u os) :
    Calls Try.prog 45 #[.agg #[.int .i64 h, v], u] w fun e w' => e = .returned (.int .i64 (blocking h ss os)) ∧ Below w.heap.size w w' := by
  have hb1 := (Below.refl w.heap.size w).alloc (Nat.le_refl _) (.cells #[.int .i64 h, v] 25)
  have hH := hh.keep hb1
  have hO := ho.keep hb1
  have hY0 := BoxY.new w h v
  obtain ⟨w1, hw1⟩ : ∃ w1, w1 = w.alloc (.cells #[.int .i64 h, v] 25) := ⟨_, rfl⟩
  rw [← hw1] at hH hO hY0 hb1
  have HOR := Lib.hid (implOrderOk_any h v u ss os w1 hH hO)
  obtain ⟨a, cap, rfl, -, -, -, -⟩ := hh
  obtain ⟨a2, c2, rfl, hc2, hc3, -⟩ := ho
  unfold maxLen at hc3
  have HO := Lib.hid hO
  have HH := Lib.hid hH
  have HY := Lib.hid hY0
  have W1 := Lib.hid hw1
  have HB1 := Lib.hid hb1
  cases hok : ordOk h ss os
  · have hr := Lib.hid (show blocking h ss os = -1 by unfold blocking; rw [hok]; rfl)
    rw [hok] at HOR
    clear hok hY0 hw1 hb1 hH hO
    go_enter Try.func45, Try.ntmps45
    go_wp2_with fail
    rw [← W1.out]
    refine HOR.out.mono ?_
    rintro e w2 ⟨rfl, b2⟩
    go_wp2_with fail
    go_ret
    exact ⟨by rw [hr.out]; rfl, HB1.out.trans (b2.mono HB1.out.size)⟩
  · have hyd := (ordOk_iff.1 hok).1
    have hr := Lib.hid (show blocking h ss os = ((blkN os ss ss.length : Nat) : Int) by unfold blocking; rw [hok, blkN_end]; rfl)
    have HNX := Lib.hid fun k hk => blkN_next (os := os) (ss := ss) (k := k) hk
    have H25 := Lib.hid fun k => blkN_25 (os := os) hyd k
    have HRL := Lib.hid fun k (hk : k < ss.length) => stOk_len (ydOk_row hyd hk)
    have hq := (show os.length ≤ 9223372036854775807 by omega)
    rw [hok] at HOR
    obtain ⟨n, hn⟩ : ∃ n, n = ss.length := ⟨_, rfl⟩
    rw [← hn] at HH HY W1 hr HNX HRL HOR ⊢
    have hm : n ≤ 9223372036854775807 := by have := HH.out.len; omega
    obtain ⟨q, hqq⟩ : ∃ q, q = os.length := ⟨_, rfl⟩
    rw [← hqq] at HO HNX hq HOR ⊢
    have HQ := Lib.hid hqq.symm
    clear hok hyd hY0 hw1 hb1 hH hO hn hqq
    go_enter Try.func45, Try.ntmps45
    go_wp2_with fail
    rw [← W1.out]
    refine HOR.out.mono ?_
    rintro e w2 ⟨rfl, b2⟩
    have y1 := (HY.out.keep b2).c1
    have HH2 := Lib.hid (HH.out.keep b2)
    have HO2 := Lib.hid (HO.out.keep b2)
    have B2 := Lib.hid (HB1.out.trans (b2.mono HB1.out.size))
    have hz0 := blkN_zero os ss
    have HZ := Lib.hid hz0
    generalize w.heap.size = Y at y1 ⊢
    clear b2 HOR HH HO HY W1 HB1 hz0
    go_wp2_with fail
    have HT := Lib.hid fun x s (hx : HoldsI w2 x s) => blockingIn_any x _ s os w2 hx HO2.out
    go_loop [5, 15] (fun x i => ∃ k : Nat, k ≤ n ∧ i = .int .i64 k ∧ x = .int .i64 (blkN os ss k : Nat)) (fun _ i => n - (intOf i).toNat)
    case atStart => exact ⟨0, by omega, rfl, by rw [HZ.out]; rfl⟩
    case round =>
      obtain ⟨k, hk, rfl, rfl⟩ := hrel
      by_cases hlt : k < n
      · obtain ⟨b, off, x, c, rfl, hb, s0, hc1, hc2', -, hrow⟩ := HH2.out.at_ hlt
        have ik : (k : Int) < (n : Int) := by omega
        have i0k : (0 : Int) ≤ (k : Int) := by omega
        have hnx := HNX.out k hlt
        have h25 := H25.out k
        have hrl := HRL.out k hlt
        have hbl := blk_le os (rowAt ss k) q
        have HTk := Lib.hid (HT.out _ _ hrow)
        have hqe := HQ.out
        rw [hqe] at HTk
        clear hrow hqe
        generalize blk os q (rowAt ss k) = B at *
        generalize blkN os ss k = B0 at *
        generalize (rowAt ss k).length = r at *
        have HNK := Lib.hid hnx
        clear hnx
        go_wp2_with fail
        refine HTk.out.mono ?_
        rintro e w' ⟨rfl, rfl⟩
        go_wp2_with fail
        go_round
        case rel => exact ⟨k + 1, by omega, by go_num, by rw [HNK.out]; go_num⟩
        case measure => simp [intOf]; omega
      · have hkn : k = n := by omega
        subst hkn
        go_wp2_with fail
        go_ret
        exact ⟨by rw [hr.out]; rfl, B2.out⟩
end Go.Proofs.Ytlcfldmiibjboaa
