/-
  The contract of the model's YardIds.
-/
import Derived.Test.YtlcfldmiibjboaaYv
import Derived.Test.YtlcfldmiibjboaaGYh
namespace Go.Proofs.Ytlcfldmiibjboaa
open Go.RowKit
set_option linter.unusedVariables false

/-- The ids ahead of a place, sorted. -/
def srtY (ss : List (List Int)) (k j : Nat) : List Int := (allY ss k j).foldl insI []
theorem srtY_next {ss : List (List Int)} {k j : Nat} (h : j < (rowAt ss k).length) : srtY ss k (j + 1) = insI (srtY ss k j) ((rowAt ss k).getD j 0) := by
  unfold srtY; rw [allY_next h, List.foldl_append]; rfl
theorem srtY_row {ss : List (List Int)} {k : Nat} (h : k < ss.length) : srtY ss (k + 1) 0 = srtY ss k (rowAt ss k).length := by unfold srtY; rw [allY_row h]
theorem srtY_start (ss : List (List Int)) : srtY ss 0 0 = [] := by unfold srtY; rw [allY_start]; rfl
theorem srtY_len {ss : List (List Int)} {k j : Nat} : (srtY ss k j).length = (allY ss k j).length := by
  have := (foldI_perm (allY ss k j) []).length_eq
  simpa [srtY] using this
theorem srtY_end {h : Int} {ss : List (List Int)} (hk : ydOk h ss = true) : srtY ss ss.length 0 = idsY h ss := by unfold srtY idsY; rw [allY_end, if_pos hk]

set_option maxRecDepth 10000 in
set_option maxHeartbeats 2000000 in
theorem specYardIds_any (h : Int) (v : Value) (ss : List (List Int)) (w : World) (hh : HoldsY w v ss) (hbd : ss.flatten.length ≤ 1048577) :
    Calls Try.prog 88 #[.agg #[.int .i64 h, v]] w fun e w' => ∃ u, e = .returned u ∧ NewI w.heap.size w' u (idsY h ss) ∧ Below w.heap.size w w' := by
  have hb1 := ((Below.refl w.heap.size w).alloc (Nat.le_refl _) (.cells #[.int .i64 h, v] 25)).alloc (by simp) (.cells #[] 3)
  have hV0 := specYardValid_any h v ss _ (hh.keep hb1) hbd
  have hH0 := hh.keep hb1
  have hY0 : BoxY w.heap.size ((w.alloc (.cells #[.int .i64 h, v] 25)).alloc (.cells #[] 3)) h v := two_lo _ _ _
  have hO0 : ((w.alloc (.cells #[.int .i64 h, v] 25)).alloc (.cells #[] 3)).ownsRow w.heap.size 3 1 (.slice (some ⟨w.heap.size + 1, 0, none⟩) 0 0) 0 [] := own_empty (by omega) (two_hi _ _ _)
  obtain ⟨w1, hw1⟩ : ∃ w1, w1 = (w.alloc (.cells #[.int .i64 h, v] 25)).alloc (.cells #[] 3) := ⟨_, rfl⟩
  rw [← hw1] at hH0 hY0 hV0 hb1 hO0
  have hs1 : w1.heap.size = w.heap.size + 2 := by rw [hw1]; simp
  have HH := Lib.hid hH0
  have HY := Lib.hid hY0
  have W1 := Lib.hid hw1
  have HB1 := Lib.hid hb1
  have HV := Lib.hid hV0
  have HO := Lib.hid hO0
  have HS1 := Lib.hid hs1
  clear hY0 hw1 hb1 hV0 hs1 hH0 hO0
  cases hok : ydOk h ss
  · rw [hok] at HV
    have hr := Lib.hid (idsY_bad hok)
    clear hok
    go_enter Try.func88, Try.ntmps88
    go_wp2_with fail
    rw [← W1.out]
    refine HV.out.mono ?_
    rintro e w2 ⟨rfl, b2⟩
    have B2 := Lib.hid (HB1.out.trans (b2.mono HB1.out.size))
    clear b2
    go_wp2_with fail
    go_ret
    exact ⟨_, rfl, by rw [hr.out]; exact NewI.empty (Nat.zero_le _), B2.out⟩
  · rw [hok] at HV
    obtain ⟨a, cap, rfl, -, -, -, -⟩ := hh
    have HEND := Lib.hid (srtY_end hok)
    obtain ⟨n, hn⟩ : ∃ n, n = ss.length := ⟨_, rfl⟩
    have HN := Lib.hid hn.symm
    rw [← hn] at HH HY HV W1 HEND ⊢
    have hm : n ≤ 9223372036854775807 := by have := HH.out.len; omega
    clear hn hok
    go_enter Try.func88, Try.ntmps88
    go_wp2_with fail
    rw [← W1.out]
    refine HV.out.mono ?_
    rintro e w2 ⟨rfl, b2⟩
    have B2 := Lib.hid (HB1.out.trans (b2.mono HB1.out.size))
    have hY2 := HY.out.keep b2
    have HO2 := Lib.hid (own_stay HO.out b2)
    have HH2 := HH.out.keep b2
    have HYW := Lib.hid fun w' (hb : Below w2.heap.size w2 w') => hY2.keep hb
    have HHW := Lib.hid fun w' (hb : Below w2.heap.size w2 w') => HH2.keep hb
    have hs2 : w.heap.size ≤ w2.heap.size := B2.out.size
    clear b2 HV HH HY W1 HO hY2 HH2
    go_wp2_with fail
    go_loopw [3, 4] (fun va i wr => ∃ (k g c : Nat), k ≤ n ∧ va = .slice (some ⟨g, 0, none⟩) (srtY ss k 0).length c ∧ i = .int .i64 k ∧ Hid (wr.ownsRow w.heap.size 3 1 (.slice (some ⟨g, 0, none⟩) (srtY ss k 0).length c) (srtY ss k 0).length (rowI (srtY ss k 0))) ∧ Below w2.heap.size w2 wr) (fun _ i _ => n - (intOf i).toNat)
    case atStart => exact ⟨0, _, 0, by omega, by rw [srtY_start]; rfl, rfl, Lib.hid (by rw [srtY_start]; exact HO2.out), Below.refl _ _⟩
    case round =>
      obtain ⟨k, g, c, hk, rfl, rfl, HO3, hbr⟩ := hrel
      have hYr := HYW.out _ hbr
      have y1 := hYr.c1
      have HBR := Lib.hid hbr
      by_cases hlt : k < n
      · have hkl : k < ss.length := by rw [HN.out]; exact hlt
        obtain ⟨r, hrr⟩ : ∃ r, r = (rowAt ss k).length := ⟨_, rfl⟩
        have HRR := Lib.hid hrr.symm
        have HSRT := Lib.hid (srtY_row hkl)
        have HFL := Lib.hid fun j => (show (srtY ss k j).length ≤ 1048577 by rw [srtY_len]; exact Nat.le_trans (allY_prefix (j := j) hkl).length_le hbd)
        have HNX := Lib.hid fun j hj => srtY_next (ss := ss) (k := k) (j := j) hj
        have HFL2 := Lib.hid fun j (hj : j < (rowAt ss k).length) => (show (srtY ss k j).length ≤ 1048576 by
          have h1 := (allY_prefix (j := j + 1) hkl).length_le
          rw [allY_next hj, List.length_append, List.length_singleton] at h1
          rw [srtY_len]; omega)
        rw [← hrr] at HSRT HNX HFL2
        clear hrr hYr y1 hbr
        obtain ⟨wo, rfl⟩ : ∃ wo : World, wo = wr := ⟨_, rfl⟩
        have hYo := HYW.out _ HBR.out
        have y1 := hYo.c1
        clear hYo
        go_wp2_with fail
        go_loopw [3, 5] (fun vb j wi => ∃ (m g2 c2 : Nat), m ≤ r ∧ vb = .slice (some ⟨g2, 0, none⟩) (srtY ss k m).length c2 ∧ j = .int .i64 m ∧ Hid (wi.ownsRow w.heap.size 3 1 (.slice (some ⟨g2, 0, none⟩) (srtY ss k m).length c2) (srtY ss k m).length (rowI (srtY ss k m))) ∧ Below w2.heap.size w2 wi) (fun _ j _ => r - (intOf j).toNat)
        case atStart => exact ⟨0, _, _, by omega, rfl, rfl, HO3, HBR.out⟩
        case round =>
          obtain ⟨m, g2, c2, hm2, rfl, rfl, HO4, hb4⟩ := hrel
          clear y1
          have hYi := HYW.out _ hb4
          have y1 := hYi.c1
          obtain ⟨b1, off1, x1, c1, rfl, hbl1, s1, hd1, hd2, hnil1, hrow1⟩ := (HHW.out _ hb4).at_ hlt
          rw [HRR.out] at s1 hd1 hrow1
          have HB4 := Lib.hid hb4
          have hsz4 := hb4.size
          have ik : (k : Int) < (n : Int) := by omega
          have i0k : (0 : Int) ≤ (k : Int) := by omega
          clear hYi
          by_cases hlm : m < r
          · obtain ⟨b2, off2, rfl, hbl2, s2⟩ := hrow1.at_ hlm
            have HS := Lib.hid (l4Sorted_any g2 0 c2 (srtY ss k m) ((rowAt ss k).getD m 0) wr (NewI.of_own HO4.out).holds (HFL2.out m hlm))
            unfold SortedGives at HS
            rw [← HNX.out m hlm] at HS
            have im : (m : Int) < (r : Int) := by omega
            have i0m : (0 : Int) ≤ (m : Int) := by omega
            have hpos : 0 < (srtY ss k (m + 1)).length := by rw [HNX.out m hlm, insI_len]; omega
            clear hrow1 HO4 hb4
            generalize (rowAt ss k).getD m 0 = y at s2 HS
            go_wp2_with fail
            refine HS.out.mono ?_
            rintro e w7 ⟨v7, rfl, o7, b7⟩
            obtain ⟨g7, c7, rfl, -, -⟩ := own_form o7 hpos
            have HO7 := Lib.hid (own_from o7 (Nat.le_trans hs2 hsz4))
            have HB7 := Lib.hid (HB4.out.trans (b7.mono hsz4))
            clear o7 b7 HS y1 s1 s2
            go_wp2_with fail
            go_roundw
            case rel => exact ⟨m + 1, g7, c7, by omega, rfl, by go_num, HO7, HB7.out⟩
            case measure => simp [intOf]; omega
          · have hmr : m = r := by omega
            subst hmr
            have HO7 := HO4
            rw [← HSRT.out] at HO7
            have hl := Lib.hid (congrArg List.length HSRT.out)
            clear hrow1 HO4
            go_wp2_with fail
            go_roundw
            case rel => exact ⟨k + 1, g2, c2, by omega, by rw [hl.out], by go_num, HO7, HB4.out⟩
            case measure => simp [intOf]; omega
      · have hkn : k = n := by omega
        subst hkn
        have hn := Lib.hid (NewI.of_own HO3.out)
        have hbw := Lib.hid (B2.out.trans (hbr.mono hs2))
        have hl := Lib.hid (congrArg List.length HEND.out)
        rw [HEND.out] at hn
        clear HO3 hbr
        go_wp2_with fail
        go_ret
        exact ⟨_, rfl, by have := hn.out; first | exact this | (rw [← hl.out] at this; exact this), hbw.out⟩
end Go.Proofs.Ytlcfldmiibjboaa
