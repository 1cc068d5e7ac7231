/-
  The contract of the model's YardValid.
-/
import Derived.Test.YtlcfldmiibjboabGYh
import Derived.Test.YtlcfldmiibjboabGBase
namespace Go.Proofs.Ytlcfldmiibjboab
open Go.RowKit
set_option linter.unusedVariables false

set_option maxRecDepth 10000 in
set_option maxHeartbeats 2000000 in
theorem specYardValid_any (h : Int) (v : Value) (ss : List (List Int)) (w : World) (hh : HoldsY w v ss) (hbd : ss.flatten.length ≤ 1048577) :
    Calls Try.prog 26 #[.agg #[.int .i64 h, v]] w fun e w' => e = .returned (.bool (ydOk h ss)) ∧ Below w.heap.size w w' := by
  obtain ⟨i0, hi, hz0, hz1, hz2⟩ := info_parts infoInt
  have HI := Lib.hid hi
  have HZ0 := Lib.hid hz0
  have HZ1 := Lib.hid hz1
  have HZ2 := Lib.hid hz2
  clear hi hz0 hz1 hz2
  have HH := Lib.hid hh
  obtain ⟨a, cap, rfl, h2, h3, -, -⟩ := hh
  obtain ⟨n, hn⟩ : ∃ n, n = ss.length := ⟨_, rfl⟩
  have HN := Lib.hid hn.symm
  rw [← hn] at HH h2 ⊢
  have hcap2 : cap ≤ 9223372036854775807 := by unfold maxLen at h3; omega
  clear h3 hn
  have hY0 := BoxY.new w h (.slice a n cap)
  obtain ⟨w1, hw1⟩ : ∃ w1, w1 = w.alloc (.cells #[.int .i64 h, .slice a n cap] 29) := ⟨_, rfl⟩
  rw [← hw1] at hY0
  have hb1 : Below w.heap.size w w1 := by rw [hw1]; exact (Below.refl _ _).alloc (Nat.le_refl _) _
  have HBW := Lib.hid hb1
  have hs1 : w1.heap.size = w.heap.size + 1 := by rw [hw1]; simp
  have HS1 := Lib.hid hs1
  have HYW := Lib.hid fun w' (hb : Below w1.heap.size w1 w') => hY0.keep hb
  have HHW := Lib.hid fun w' (hb : Below w1.heap.size w1 w') => (HH.out.keep hb1).keep hb
  have HB0 := Lib.hid (show Below w1.heap.size w1 (w1.alloc (.cells #[] 3)) from (Below.refl _ _).alloc (Nat.le_refl _) _)
  have HO0 := Lib.hid (show (w1.alloc (.cells #[] 3)).ownsRow w1.heap.size 3 1 (.slice (some ⟨w1.heap.size, 0, none⟩) 0 0) 0 [] from own_empty (Nat.le_refl _) (heap_alloc_new _ _))
  have W1 := Lib.hid hw1
  clear hY0 hw1 hb1 HH
  go_enter Try.func26, Try.ntmps26
  go_wp2_with fail
  go_loopw [3, 4] (fun va i wr => ∃ (k : Nat) (u : Value), k ≤ n ∧ u = va ∧ i = .int .i64 k ∧ Hid (wr.ownsRow w1.heap.size 3 1 u (allY ss k 0).length (rowI (allY ss k 0))) ∧ Hid (∀ j, j < k → stOk (rowAt ss j) h = true) ∧ Hid (allY ss k 0).Nodup ∧ Below w1.heap.size w1 wr) (fun _ i _ => n - (intOf i).toNat)
  case atStart =>
    refine ⟨0, _, by omega, rfl, rfl, Lib.hid ?_, Lib.hid (fun j hj => by omega), Lib.hid (by rw [allY_start]; exact List.nodup_nil), ?_⟩
    · rw [allY_start]
      have := HO0.out
      rw [HS1.out] at this
      rw [← W1.out, HS1.out]
      exact this
    · rw [← W1.out]; exact HB0.out
  case round =>
    obtain ⟨k, u, hk, rfl, rfl, HO, HA, HD, hbr⟩ := hrel
    have hYr := HYW.out _ hbr
    have y0 := hYr.c0
    have y1 := hYr.c1
    have HHr := Lib.hid (HHW.out _ hbr)
    have HBR := Lib.hid hbr
    by_cases hlt : k < n
    · have hkl : k < ss.length := by rw [HN.out]; exact hlt
      obtain ⟨b, off, x, c, rfl, hbl, s0, hc1, hc2, -, hrow⟩ := HHr.out.at_ hlt
      have hd : Below wr.heap.size wr wr.drew := (Below.refl _ _).drew
      have HV := Lib.hid (specStackValid_any _ _ h wr.drew (hrow.keep hd))
      have HROW := Lib.hid hrow
      have HBAD := Lib.hid fun hf => ydOk_stack (h := h) hkl hf
      have ik : (k : Int) < (n : Int) := by omega
      have i0k : (0 : Int) ≤ (k : Int) := by omega
      have hbr0 : Below w.heap.size w wr := HBW.out.trans (hbr.mono (by have := HS1.out; omega))
      cases hok : stOk (rowAt ss k) h
      · rw [hok] at HV
        have hr := Lib.hid (HBAD.out hok)
        clear hok HBAD
        go_wp2_with fail
        (first | go_region_with (go_at_call 40; (with_reducible refine HV.out.mono ?_); rintro e w5 ⟨rfl, b5⟩) | fail)
        all_goals
          go_wp2_with fail
          go_ret
          refine ⟨by rw [hr.out]; rfl, hbr0.trans (Below.mono (hd.trans b5) hbr0.size)⟩
      · rw [hok] at HV
        have HA2 := Lib.hid (fun j (hj : j < k + 1) => (show stOk (rowAt ss j) h = true by
          by_cases e : j = k
          · subst e; exact hok
          · exact HA.out j (by omega)))
        have hlen5 := stOk_len hok
        clear hok HBAD HA
        go_wp2_with fail
        (first | go_region_with (go_at_call 40; (with_reducible refine HV.out.mono ?_); rintro e w5 ⟨rfl, b5⟩) | fail)
        all_goals
          have hb5 : Below w1.heap.size w1 w5 := hbr.trans (Below.mono (hd.trans b5) hbr.size)
          have HO5 := Lib.hid (own_stay HO.out (hd.trans b5))
          have HROW5 := Lib.hid (hrow.keep (hd.trans b5))
          have hsz5 := hb5.size
          clear b5 HV HO hd hYr y0 y1 HHr HBR hbr s0 hrow HROW hbl hbr0
          obtain ⟨wo, rfl⟩ : ∃ wo : World, wo = w5 := ⟨_, rfl⟩
          obtain ⟨r, hrr⟩ : ∃ r, r = (rowAt ss k).length := ⟨_, rfl⟩
          have HRR := Lib.hid hrr.symm
          have HALLN := Lib.hid (allY_row hkl)
          have HFL := Lib.hid fun j => (allY_prefix (j := j) hkl).length_le
          rw [← hrr] at hc1 HROW5 HALLN hlen5
          clear hrr
          go_wp2_with fail
          go_loopw [3, 5] (fun vb j wi => ∃ (m : Nat) (u2 : Value), m ≤ r ∧ u2 = vb ∧ j = .int .i64 m ∧ Hid (wi.ownsRow w1.heap.size 3 1 u2 (allY ss k m).length (rowI (allY ss k m))) ∧ Hid (allY ss k m).Nodup ∧ Below w1.heap.size w1 wi) (fun _ j _ => r - (intOf j).toNat)
          case atStart => exact ⟨0, _, by omega, rfl, rfl, HO5, HD, hb5⟩
          case round =>
            obtain ⟨m, u2, hm, rfl, rfl, HO6, HD6, hb6⟩ := hrel
            have hYi := HYW.out _ hb6
            have y0 := hYi.c0
            have y1 := hYi.c1
            obtain ⟨b1, off1, x1, c1, ha1, hbl1, s1, hd1, hd2, hnil1, hrow1⟩ := (HHW.out _ hb6).at_ hlt
            simp only [Option.some.injEq, Addr.mk.injEq, and_true] at ha1
            obtain ⟨rfl, rfl⟩ := ha1
            rw [HRR.out] at s1 hd1 hrow1
            have HB6 := Lib.hid hb6
            have hsz6 := hb6.size
            by_cases hlm : m < r
            · obtain ⟨b2, off2, rfl, hbl2, s2⟩ := hrow1.at_ hlm
              have hmr : m < (rowAt ss k).length := by rw [HRR.out]; exact hlm
              have HN2 := Lib.hid (allY_next hmr)
              have HH1 := Lib.hid (l1Has_any u2 (allY ss k m) ((rowAt ss k).getD m 0) wr (NewI.of_own HO6.out).holds)
              have HDUP := Lib.hid fun hc => ydOk_dup (h := h) hkl hmr hc
              have HND := Lib.hid fun hc => allY_nodup HD6.out hmr hc
              have im : (m : Int) < (r : Int) := by omega
              have i0m : (0 : Int) ≤ (m : Int) := by omega
              generalize (rowAt ss k).getD m 0 = y at s2 HN2 HH1 HDUP HND
              cases hhas : hasI (allY ss k m) y
              · rw [hhas] at HH1
                have HND2 := Lib.hid (HND.out hhas)
                have hfl : (allY ss k m).length ≤ 1048577 := Nat.le_trans (HFL.out m) hbd
                clear hhas HDUP HND hrow1 hmr
                go_wp2_with fail
                refine HH1.out.mono ?_
                rintro e w' ⟨rfl, rfl⟩
                go_wp2_with (at_builtin; refine wpList_append_own _ rfl _ _ 25 rfl w1.heap.size 3 i0 (.int .i64 0) 1 8 Try.underlying25 HI.out HZ0.out HZ1.out HZ2.out rfl (by decide) _ _ _ rfl (HO6.out.alloc _) ⟨wr.heap.size, 0, none⟩ 1 1 [.int .i64 y] rfl rfl (fun j u hu => cells_new j u hu) (by simp [Value.oneCell']) (by unfold maxLen; omega) (by omega) (by simp; omega) ?_; intro v7 w7 hown7 hgrow7 _)
                have hb7 : Below w1.heap.size wr w7 := ((Below.refl w1.heap.size wr).alloc hsz6 (.cells #[.int .i64 y] 3)).trans (own_below (v := u2) hgrow7 (by simp; omega) (fun k hk => (own_lt HO6.out k hk).1))
                have HB7 := Lib.hid (HB6.out.trans hb7)
                have HO7 := Lib.hid (own_ints (m := [y]) hown7 rfl rfl)
                rw [← HN2.out] at HO7
                clear hown7 hgrow7 hb7 HO6 y0 y1 s1 s2
                go_wp2_with fail
                go_roundw
                case rel => exact ⟨m + 1, _, by omega, rfl, by go_num, HO7, HND2, HB7.out⟩
                case measure => simp [intOf]; omega
              · rw [hhas] at HH1
                have hr := Lib.hid (HDUP.out hhas)
                have hbw := Lib.hid (HBW.out.trans (hb6.mono (by have := HS1.out; omega)))
                clear hhas HDUP HND hrow1 hmr
                go_wp2_with fail
                refine HH1.out.mono ?_
                rintro e w' ⟨rfl, rfl⟩
                go_wp2_with fail
                go_ret
                exact ⟨by rw [hr.out]; rfl, hbw.out⟩
            · have hmr : m = r := by omega
              subst hmr
              have HO7 := HO6
              have HD7 := HD6
              rw [← HALLN.out] at HO7 HD7
              clear hrow1 HO6 HD6
              go_wp2_with fail
              go_roundw
              case rel => exact ⟨k + 1, _, by omega, rfl, by go_num, HO7, HA2, HD7, HB6.out⟩
              case measure => simp [intOf]; omega
    · have hkn : k = n := by omega
      subst hkn
      have hbr0 : Below w.heap.size w wr := HBW.out.trans (hbr.mono (by have := HS1.out; omega))
      have hr := Lib.hid (ydOk_end (h := h) (fun j hj => HA.out j (by rw [← HN.out]; exact hj)) (by rw [HN.out]; exact HD.out))
      rw [HN.out] at hr
      have HB0 := Lib.hid hbr0
      clear HO hbr hbr0
      by_cases h1 : 1 ≤ (k : Int) ∧ (k : Int) ≤ 5
      · have HI1 := Lib.hid fun w => l1In_yes (k : Int) 1 5 w h1.1 h1.2
        by_cases h2 : 1 ≤ h ∧ h ≤ 5
        · have HI2 := Lib.hid fun w => l1In_yes h 1 5 w h2.1 h2.2
          rw [decide_eq_true h1, decide_eq_true h2] at hr
          clear h1 h2
          go_wp2_with fail
          refine (HI1.out _).mono ?_
          rintro e w' ⟨rfl, rfl⟩
          go_wp2_with fail
          refine (HI2.out _).mono ?_
          rintro e w' ⟨rfl, rfl⟩
          go_wp2_with fail
          go_ret
          exact ⟨by rw [hr.out]; rfl, HB0.out⟩
        · have HI2 := Lib.hid fun w => l1In_no h 1 5 w (by omega)
          rw [decide_eq_true h1, decide_eq_false h2] at hr
          clear h1 h2
          go_wp2_with fail
          refine (HI1.out _).mono ?_
          rintro e w' ⟨rfl, rfl⟩
          go_wp2_with fail
          refine (HI2.out _).mono ?_
          rintro e w' ⟨rfl, rfl⟩
          go_wp2_with fail
          go_ret
          exact ⟨by rw [hr.out]; rfl, HB0.out⟩
      · have HI1 := Lib.hid fun w => l1In_no (k : Int) 1 5 w (by omega)
        rw [decide_eq_false h1] at hr
        clear h1
        go_wp2_with fail
        refine (HI1.out _).mono ?_
        rintro e w' ⟨rfl, rfl⟩
        go_wp2_with fail
        go_ret
        exact ⟨by rw [hr.out]; rfl, HB0.out⟩
end Go.Proofs.Ytlcfldmiibjboab
