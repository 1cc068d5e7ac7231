/-
  Contracts of the library's slices.Grow on nil and slices.Concat on lists of numbers.
-/
import Derived.Test.YtlcfldmiibjboabGYh
import Derived.Laws.AppendOwnNone
namespace Go.Proofs.Ytlcfldmiibjboab
open Go.RowKit
set_option linter.unusedVariables false

section
variable {P : Program}
theorem run_grow_nil (w : World) (t tn ty e : TypeId) (i : TypeInfo) (kq kn : IntKind) (ht : P.underlying t = some (.slice e)) (htn : P.underlying tn = some (.int kn)) (hi : P.info? e = some i) (hz : i.zero = some (.int .i64 0)) (hsize : i.size = 1) (hby : i.bytes = 8) (k : Nat) (h0 : 0 < k) (hk : k ≤ 1048576) :
    ∃ cap w', (Builtin.append_ #[t, tn] ty #[.slice none 0 0, .int kq k]).run P w = .ok (.slice (some ⟨w.heap.size, 0, none⟩) k cap) w' ∧ w'.ownsRow w.heap.size e 1 (.slice (some ⟨w.heap.size, 0, none⟩) 0 cap) 0 [] ∧ Below w.heap.size w w' ∧ cap ≤ 9223372036854775807 := by
  have hr := Lib.run_append_grow_zeros (P := P) w t tn ty e i (.int .i64 0) kq kn ht htn hi hz none 0 0 [] (run_firstCells_none _ _ _ _ _) k h0 (by omega) (by omega) (by omega) (by rw [hby]; omega) (growslice_fits (by omega) (by rw [hby]; omega))
  rw [Nat.zero_add] at hr
  have hge := grownCap_ge w k 0 e
  have hcm' : grownCap w k 0 e ≤ maxLen := grownCap_le_maxLen w k 0 e (by unfold maxLen; omega)
  refine ⟨_, _, hr, ⟨rfl, .inr ⟨w.heap.size, _, _, rfl, Nat.le_refl _, heap_alloc_new w.drew _, Nat.zero_le _, hcm', ?_, by simp⟩⟩, ((Below.refl _ _).drew).alloc (Nat.le_refl _) _, by unfold maxLen at hcm'; exact hcm'⟩
  simp only [Array.size_append, List.size_toArray, size_zeroCells]
  simp [Value.cells]
  omega
end

set_option maxRecDepth 10000 in
set_option maxHeartbeats 1000000 in
theorem slGrow_nil (n : Nat) (w : World) (hn : n ≤ 1048576) :
    Calls Try.prog 55 #[.slice none 0 0, .int .i64 n] w fun e w' => ∃ u, e = .returned u ∧ w'.ownsRow w.heap.size 3 1 u 0 [] ∧ Below w.heap.size w w' := by
  obtain ⟨i0, hi, hz0, hz1, hz2⟩ := info_parts infoInt
  by_cases h0 : 0 < n
  · obtain ⟨cap, w6, hrun, hown, hbel, hcap⟩ := run_grow_nil (P := Try.prog) w 25 3 25 3 i0 .i64 .i64 Try.underlying25 (by kernel_rfl) hi hz0 hz1 hz2 n h0 hn
    have HO := Lib.hid hown
    have HB := Lib.hid hbel
    clear hown hbel hi hz0 hz1 hz2
    go_enter Try.func55, Try.ntmps55
    go_wp2_with (at_builtin; refine Lib.wpList_append_run _ rfl _ _ _ _ rfl _ _ rfl rfl _ _ hrun ?_)
    go_ret
    exact ⟨_, rfl, HO.out, HB.out⟩
  · obtain rfl : n = 0 := by omega
    clear hi hz0 hz1 hz2
    go_enter Try.func55, Try.ntmps55
    go_wp2_with fail
    go_ret
    exact ⟨_, rfl, ⟨rfl, .inl ⟨rfl, rfl⟩⟩, Below.refl _ _⟩

theorem flat_next {ss : List (List Int)} {k : Nat} (h : k < ss.length) : (ss.take (k + 1)).flatten = (ss.take k).flatten ++ rowAt ss k := by
  rw [rowAt_get h, ← List.take_append_getElem h, List.flatten_append]
  simp
theorem sumY_flat (ss : List (List Int)) (k : Nat) : sumY ss k = (ss.take k).flatten.length := rfl

set_option maxRecDepth 10000 in
set_option maxHeartbeats 2000000 in
theorem slConcat_any (v : Value) (ss : List (List Int)) (w : World) (hh : HoldsY w v ss) (hbd : ss.flatten.length ≤ 1048576) :
    Calls Try.prog 52 #[v] w fun e w' => ∃ u, e = .returned u ∧ w'.ownsRow w.heap.size 3 1 u ss.flatten.length (rowI ss.flatten) ∧ Below w.heap.size w w' := by
  obtain ⟨i0, hi, hz0, hz1, hz2⟩ := info_parts infoInt
  have HI := Lib.hid hi
  have HZ0 := Lib.hid hz0
  have HZ1 := Lib.hid hz1
  have HZ2 := Lib.hid hz2
  clear hi hz0 hz1 hz2
  have HH := Lib.hid hh
  obtain ⟨a, cap, rfl, -, -, -, -⟩ := hh
  have HSUM := Lib.hid fun k (hk : k < ss.length) => And.intro (sumY_next hk) (sumY_le (ss := ss) (k := k + 1) hk)
  have HFLAT := Lib.hid fun k (hk : k < ss.length) => flat_next hk
  have HEND := Lib.hid (sumY_end ss)
  have HTAKE := Lib.hid (show (ss.take ss.length).flatten = ss.flatten by rw [List.take_length])
  obtain ⟨L, hL⟩ : ∃ L, L = ss.flatten.length := ⟨_, rfl⟩
  obtain ⟨n, hn⟩ : ∃ n, n = ss.length := ⟨_, rfl⟩
  have HN := Lib.hid hn.symm
  rw [← hn] at HH HSUM HFLAT HEND HTAKE ⊢
  rw [← hL] at hbd HSUM HEND ⊢
  have hm : n ≤ 9223372036854775807 := by have := HH.out.len; omega
  clear hn hL
  go_enter Try.func52, Try.ntmps52
  go_wp2_with fail
  go_loop [3, 11] (fun s i => ∃ k m : Nat, k ≤ n ∧ i = .int .i64 k ∧ s = .int .i64 (m : Int) ∧ Hid (m = sumY ss k)) (fun _ i => n - (intOf i).toNat)
  case atStart => exact ⟨0, 0, by omega, rfl, rfl, Lib.hid (by rw [sumY_start])⟩
  case round =>
    obtain ⟨k, m, hk, rfl, rfl, HM⟩ := hrel
    by_cases hlt : k < n
    · obtain ⟨b, off, x, c, rfl, hb, s0, hc1, hc2, -, -⟩ := HH.out.at_ hlt
      have hS := HSUM.out k hlt
      have ik : (k : Int) < (n : Int) := by omega
      have i0k : (0 : Int) ≤ (k : Int) := by omega
      have hm1 : m + (rowAt ss k).length ≤ 1048576 := by have := HM.out; omega
      have HM2 := Lib.hid (show m + (rowAt ss k).length = sumY ss (k + 1) by have := HM.out; omega)
      clear hS
      generalize (rowAt ss k).length = r at s0 hc1 hm1 HM2
      go_wp2_with fail
      go_round
      case rel => exact ⟨k + 1, m + r, by omega, by go_num, by go_num, HM2⟩
      case measure => simp [intOf]; omega
    · have hkn : k = n := by omega
      subst hkn
      have hmL : m = L := by have := HM.out; have := HEND.out; omega
      subst hmL
      have HG := Lib.hid (slGrow_nil m w hbd)
      go_wp2_with fail
      refine HG.out.mono ?_
      rintro e w1 ⟨u1, rfl, o1, b1⟩
      have HO1 := Lib.hid o1
      have HH1 := Lib.hid fun w' (hb : Below w.heap.size w w') => HH.out.keep hb
      clear HH o1 HG HM
      go_wp2_with fail
      go_loopw [6, 27] (fun va i wr => ∃ (j p : Nat) (u : Value), j ≤ k ∧ u = va ∧ i = .int .i64 j ∧ Hid (wr.ownsRow w.heap.size 3 1 u p (rowI (ss.take j).flatten)) ∧ Hid (p = sumY ss j) ∧ Below w.heap.size w wr) (fun _ i _ => k - (intOf i).toNat)
      case atStart => exact ⟨0, 0, _, by omega, rfl, rfl, HO1, Lib.hid (by rw [sumY_start]), b1⟩
      case round =>
        obtain ⟨j, p, u, hj, rfl, rfl, HO, HP, hbr⟩ := hrel
        have hbs := hbr.size
        by_cases hlt2 : j < k
        · obtain ⟨b, off, x, c, rfl, hb, s0, hc1, hc2, hnil, hrow⟩ := (HH1.out wr hbr).at_ hlt2
          have hS := HSUM.out j hlt2
          have ik : (j : Int) < (k : Int) := by omega
          have i0k : (0 : Int) ≤ (j : Int) := by omega
          have hp1 : p + (rowAt ss j).length ≤ 1048576 := by have := HP.out; omega
          have HP2 := Lib.hid (show p + (rowAt ss j).length = sumY ss (j + 1) by have := HP.out; omega)
          have HF := Lib.hid (HFLAT.out j hlt2)
          obtain ⟨r, hr⟩ : ∃ r, r = (rowAt ss j).length := ⟨_, rfl⟩
          have HR := Lib.hid hr.symm
          rcases x with _ | xb
          · obtain rfl : c = 0 := hnil rfl
            have hz : (rowAt ss j).length = 0 := by omega
            have HNIL := Lib.hid (List.eq_nil_of_length_eq_zero hz)
            rw [hz] at s0 HP2
            clear hrow hS hp1 hr hz
            go_wp2_with (at_builtin; refine wpList_append_own_none rfl _ _ 25 rfl w.heap.size 3 i0 1 Try.underlying25 HI.out _ _ _ rfl HO.out rfl ?_)
            go_roundw
            case rel => exact ⟨j + 1, p, _, by omega, rfl, by go_num, Lib.hid (by rw [HF.out, HNIL.out, List.append_nil]; exact HO.out), HP2, hbr⟩
            case measure => simp [intOf]; omega
          · have HROWC := Lib.hid fun (q : Nat) (z : Value) (hz : (rowI (rowAt ss j))[q]? = some z) => HoldsI.rowA hrow q z hz
            rw [← hr] at s0 hp1 HP2
            clear hrow hS hr
            go_wp2_with (at_builtin; refine wpList_append_own _ rfl _ _ 25 rfl w.heap.size 3 i0 (.int .i64 0) 1 8 Try.underlying25 HI.out HZ0.out HZ1.out HZ2.out rfl (by decide) _ _ _ rfl HO.out xb r c (rowI (rowAt ss j)) rfl (by rw [rowI_len, HR.out, Nat.mul_one]) (fun q z hz => HROWC.out q z hz) (rowI_one _) (by unfold maxLen; omega) (by omega) hbs ?_; intro v7 w7 hown7 hgrow7 _)
            have HB7 := Lib.hid (hbr.trans (own_below (v := u) hgrow7 hbs (fun k hk => (own_lt HO.out k hk).1)))
            have HO7 := Lib.hid hown7
            rw [← rowI_app, ← HF.out] at HO7
            clear hown7 hgrow7 HO s0
            go_wp2_with fail
            go_roundw
            case rel => exact ⟨j + 1, p + r, _, by omega, rfl, by go_num, HO7, HP2, HB7.out⟩
            case measure => simp [intOf]; omega
        · have hjk : j = k := by omega
          subst hjk
          have hpm : p = m := by have := HP.out; have := HEND.out; omega
          subst hpm
          have HO7 := HO
          rw [HTAKE.out] at HO7
          go_wp2_with fail
          go_ret
          exact ⟨_, rfl, HO7.out, hbr⟩
end Go.Proofs.Ytlcfldmiibjboab
