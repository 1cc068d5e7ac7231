/-
  The program's chapter 12, first part: UsesValid, PlugsValid, PlugsOf.
-/
import Derived.Test.YthlcjojhmhoadaaPgS
import Derived.Test.YthlcjojhmhoadaaPgT
import Derived.Test.YthlcjojhmhoadaaPgU
import Derived.Test.YthlcjojhmhoadaaPgMath4
import Derived.Test.YthlcjojhmhoadaaGSl
import Derived.Test.YthlcjojhmhoadaaGStk
import Derived.Test.YthlcjojhmhoadaaGBase
import Derived.Test.YthlcjojhmhoadaaGPl
import Derived.Test.YthlcjojhmhoadaaShelf
import Derived.Test.YthlcjojhmhoadaaGYh
import Derived.Test.YthlcjojhmhoadaaPgN
import Derived.Laws.AppendOwnNone
import Derived.Lib.OwnBridge
import Derived.Sort.OwnSortedInts
import Derived.Sort.Grow
namespace Go.Proofs.Ythlcjojhmhoadaa
open Go.RowKit Go.Sort
set_option linter.unusedVariables false

set_option maxRecDepth 10000 in
set_option maxHeartbeats 4000000 in
theorem implUsesValid_same (v : Value) (u : List (List Int)) (w : World) (h : HoldsY w v u) :
    Calls Try.prog 14 #[v] w fun e w' => e = .returned (.bool (usesOk u)) ∧ w = w' := by
  have HU := Lib.hid h
  have BAD := Lib.hid fun k j hk hj hc => usesOk_bad (u := u) (k := k) (j := j) hk hj hc
  have END := Lib.hid fun h => usesOk_end (u := u) h
  have LONG := Lib.hid fun (hl : 6 < u.length) => (show usesOk u = false from by
    cases he : usesOk u
    · rfl
    · have := (usesOk_iff.1 he).1; omega)
  obtain ⟨a, c, rfl⟩ : ∃ a c, v = .slice a u.length c := by obtain ⟨a, c, e, _⟩ := h; exact ⟨a, c, e⟩
  have hm : u.length ≤ 9223372036854775807 := by have := h.len; omega
  obtain ⟨res, hres⟩ : ∃ res, res = usesOk u := ⟨_, rfl⟩
  rw [← hres] at BAD END LONG ⊢
  obtain ⟨n, hn⟩ : ∃ n, n = u.length := ⟨_, rfl⟩
  rw [← hn] at HU BAD END LONG hm ⊢
  clear h hres hn
  by_cases hlong : 6 < n
  · have hl2 : (6 : Int) < (n : Int) := by omega
    have hr := Lib.hid (LONG.out hlong)
    go_enter Try.func14, Try.ntmps14
    go_wp2_with fail
    go_ret
    exact ⟨by rw [hr.out]; rfl, rfl⟩
  have hl2 : ¬ (6 : Int) < (n : Int) := by omega
  go_enter Try.func14, Try.ntmps14
  go_wp2_with fail
  go_loopw [12] (fun i wr => ∃ k : Nat, k ≤ n ∧ i = .int .i64 k ∧ Hid (∀ j, j < k → rowOk u j) ∧ w = wr) (fun i _ => n - (intOf i).toNat)
  case atStart => exact ⟨0, by omega, rfl, Lib.hid fun j hj => by omega, rfl⟩
  case round =>
    obtain ⟨k, hkn, rfl, HA, rfl⟩ := hrel
    by_cases hlt : k < n
    · have ik : (k : Int) < (n : Int) := by omega
      have i0k : (0 : Int) ≤ (k : Int) := by omega
      have BADk := Lib.hid fun j hj hc => BAD.out k j hlt hj hc
      obtain ⟨ub, uo, x, xc, rfl, hubl, s0, hl1, hl2', -, hx⟩ := HU.out.at_ hlt
      obtain ⟨m, hmm⟩ : ∃ m, m = (rowAt u k).length := ⟨_, rfl⟩
      have HML := Lib.hid hmm
      rw [← hmm] at s0 hx BADk hl1
      have HX := Lib.hid hx
      clear hmm hx
      go_wp2_with fail
      go_loopw [18] (fun i wr => ∃ j : Nat, j ≤ m ∧ i = .int .i64 j ∧ Hid (∀ i, i < j → (0 ≤ (rowAt u k).getD i 0 ∧ (rowAt u k).getD i 0 ≤ 5) ∧ (0 < i → (rowAt u k).getD (i - 1) 0 < (rowAt u k).getD i 0)) ∧ w = wr) (fun i _ => m - (intOf i).toNat)
      case atStart => exact ⟨0, by omega, rfl, Lib.hid fun j hj => by omega, rfl⟩
      case round =>
        obtain ⟨j, hjm, rfl, HB, rfl⟩ := hrel
        by_cases hltj : j < m
        · obtain ⟨xb, xo, rfl, hxl, t0⟩ := HX.out.at_ hltj
          have BADj := Lib.hid fun hc => BADk.out j hltj hc
          have HNX := Lib.hid fun (hc : (0 ≤ (rowAt u k).getD j 0 ∧ (rowAt u k).getD j 0 ≤ 5) ∧ (0 < j → (rowAt u k).getD (j - 1) 0 < (rowAt u k).getD j 0)) => (show ∀ i, i < j + 1 → (0 ≤ (rowAt u k).getD i 0 ∧ (rowAt u k).getD i 0 ≤ 5) ∧ (0 < i → (rowAt u k).getD (i - 1) 0 < (rowAt u k).getD i 0) from fun i hi => by
            by_cases e : i = j
            · subst e; exact hc
            · exact HB.out i (by omega))
          have ij : (j : Int) < (m : Int) := by omega
          have i0j : (0 : Int) ≤ (j : Int) := by omega
          by_cases hin : 0 ≤ (rowAt u k).getD j 0 ∧ (rowAt u k).getD j 0 ≤ 5
          · have HIN := Lib.hid (isIdx_yes ((rowAt u k).getD j 0) 6 w hin.1 (by omega))
            by_cases hj0 : j = 0
            · subst hj0
              have hnx := Lib.hid (HNX.out ⟨hin, fun h => by omega⟩)
              obtain ⟨y, hy⟩ : ∃ y, y = (rowAt u k).getD 0 0 := ⟨_, rfl⟩
              rw [← hy] at t0 HIN
              rw [Nat.add_zero] at t0
              clear hy hin HNX
              go_wp2_with fail
              refine HIN.out.mono ?_
              rintro e w2 ⟨rfl, rfl⟩
              go_wp2_with fail
              go_roundw
              case rel => exact ⟨0 + 1, by omega, by go_num, hnx, (by first | rfl | trivial)⟩
              case measure => simp [intOf]; omega
            · obtain ⟨jj, hjj⟩ : ∃ jj, j = jj + 1 := ⟨j - 1, by omega⟩
              obtain ⟨xb', xo', e', _, t1⟩ := HX.out.at_ (show jj < m by omega)
              simp only [Option.some.injEq, Addr.mk.injEq, and_true] at e'
              obtain ⟨rfl, rfl⟩ := e'
              have e2 : j - 1 = jj := by omega
              rw [e2] at HNX BADj
              have hjd2 : (0 : Int) < (j : Int) := by omega
              have hjd4 : 0 < j := by omega
              have zj : IntKind.i64.wrap ((j : Int) - 1) = (jj : Int) := by rw [IntWalk.i64_in _ (by omega)]; omega
              have i0jj : (0 : Int) ≤ (jj : Int) := by omega
              have ijj : (jj : Int) < (m : Int) := by omega
              have CASE := Lib.hid (show (rowAt u k).getD jj 0 < (rowAt u k).getD j 0 ∨ (rowAt u k).getD j 0 ≤ (rowAt u k).getD jj 0 by omega)
              have HIP := Lib.hid hin
              obtain ⟨y, hy⟩ : ∃ y, y = (rowAt u k).getD j 0 := ⟨_, rfl⟩
              obtain ⟨z, hz⟩ : ∃ z, z = (rowAt u k).getD jj 0 := ⟨_, rfl⟩
              rw [← hy, ← hz] at CASE HNX BADj
              rw [← hy] at t0 HIN HIP
              rw [← hz] at t1
              clear hy hz hin hjj e2
              rcases CASE.out with hc | hc
              · have hge : ¬ y ≤ z := by omega
                have hnx := Lib.hid (HNX.out ⟨HIP.out, fun _ => hc⟩)
                go_wp2_with fail
                refine HIN.out.mono ?_
                rintro e w2 ⟨rfl, rfl⟩
                go_wp2_with fail
                go_roundw
                case rel => exact ⟨j + 1, by omega, by go_num, hnx, (by first | rfl | trivial)⟩
                case measure => simp [intOf]; omega
              · have hr := Lib.hid (BADj.out fun hh => by have := hh.2 (by omega); omega)
                go_wp2_with fail
                refine HIN.out.mono ?_
                rintro e w2 ⟨rfl, rfl⟩
                go_wp2_with fail
                go_ret
                exact ⟨by rw [hr.out]; rfl, rfl⟩
          · have HIN := Lib.hid (isIdx_no ((rowAt u k).getD j 0) 6 w (by omega))
            have hr := Lib.hid (BADj.out fun hh => hin hh.1)
            obtain ⟨y, hy⟩ : ∃ y, y = (rowAt u k).getD j 0 := ⟨_, rfl⟩
            rw [← hy] at t0 HIN
            clear hy hin HNX
            go_wp2_with fail
            refine HIN.out.mono ?_
            rintro e w2 ⟨rfl, rfl⟩
            go_wp2_with fail
            go_ret
            exact ⟨by rw [hr.out]; rfl, rfl⟩
        · obtain rfl : j = m := by omega
          have hall := Lib.hid (show ∀ i, i < k + 1 → rowOk u i from fun i hi => by
            by_cases e : i = k
            · subst e; intro q hq; exact HB.out q (by have := HML.out; omega)
            · exact HA.out i (by omega))
          go_wp2_with fail
          go_roundw
          case rel => exact ⟨k + 1, by omega, by go_num, hall, (by first | rfl | trivial)⟩
          case measure => simp [intOf]; omega
    · obtain rfl : k = n := by omega
      have hr := Lib.hid ((END.out fun j hj => HA.out j hj).trans (decide_eq_true (by omega)))
      go_wp2_with fail
      go_ret
      exact ⟨by rw [hr.out]; rfl, rfl⟩

theorem implUsesValid_any (v : Value) (u : List (List Int)) (w : World) (h : HoldsY w v u) :
    Calls Try.prog 14 #[v] w fun e w' => e = .returned (.bool (usesOk u)) ∧ Below w.heap.size w w' :=
  (implUsesValid_same v u w h).mono fun _ _ ⟨he, hw⟩ => ⟨he, by rw [← hw]; exact Below.refl _ _⟩

set_option maxRecDepth 10000 in
set_option maxHeartbeats 4000000 in
theorem implPlugsValid_any (vu vp : Value) (u : List (List Int)) (ps : List Int) (w : World) (hu : HoldsY w vu u) (hp : HoldsI w vp ps) :
    Calls Try.prog 18 #[vu, vp] w fun e w' => e = .returned (.bool (plugsOk u ps)) ∧ Below w.heap.size w w' := by
  have HUV := Lib.hid (implUsesValid_same vu u w hu)
  have HU := Lib.hid hu
  have HP := Lib.hid hp
  have BAD := Lib.hid fun k hk hc => plugsOk_bad (u := u) (ps := ps) (k := k) hk hc
  obtain ⟨a, c, rfl⟩ : ∃ a c, vu = .slice a u.length c := by obtain ⟨a, c, e, _⟩ := hu; exact ⟨a, c, e⟩
  obtain ⟨pa, pc, rfl⟩ := hp.form
  have hm : u.length ≤ 9223372036854775807 := by have := hu.len; omega
  have hpc : ps.length ≤ pc ∧ pc ≤ 9223372036854775807 := by
    obtain ⟨a', c', e, q1, q2, _⟩ := hp
    simp only [Value.slice.injEq] at e
    obtain ⟨-, -, rfl⟩ := e
    unfold maxLen at q2
    omega
  have HT := Lib.hid fun k (hk : k ≤ ps.length) x => slContains_any (.slice pa k pc) (ps.take k) x w (HoldsI.take k hk hp)
  cases hok : usesOk u
  · have hr := Lib.hid (plugsOk_nouse (ps := ps) hok)
    rw [hok] at HUV
    clear hu hp hok
    go_enter Try.func18, Try.ntmps18
    go_wp2_with fail
    refine HUV.out.mono ?_
    rintro e w2 ⟨rfl, rfl⟩
    go_wp2_with fail
    go_ret
    exact ⟨by rw [hr.out]; rfl, Below.refl _ _⟩
  · rw [hok] at HUV
    by_cases hlen : ps.length = u.length
    · have END := Lib.hid fun h => plugsOk_end hok hlen h
      obtain ⟨res, hres⟩ : ∃ res, res = plugsOk u ps := ⟨_, rfl⟩
      rw [← hres] at BAD END ⊢
      obtain ⟨n, hn⟩ : ∃ n, n = ps.length := ⟨_, rfl⟩
      rw [← hlen, ← hn] at HU HUV hm ⊢
      rw [← hn] at HP BAD END HT hpc
      have hne : ((n : Int) != (n : Int)) = false := by simp
      clear hu hp hok hlen hres hn
      go_enter Try.func18, Try.ntmps18
      go_wp2_with fail
      refine HUV.out.mono ?_
      rintro e w2 ⟨rfl, rfl⟩
      clear HUV
      go_wp2_with fail
      go_loopw [19] (fun i wr => ∃ k : Nat, k ≤ n ∧ i = .int .i64 k ∧ Hid (∀ j, j < k → (ps.getD j 0 ≠ -1 → ps.getD j 0 ∈ rowAt u j ∧ ps.getD j 0 ∉ ps.take j)) ∧ w = wr) (fun i _ => n - (intOf i).toNat)
      case atStart => exact ⟨0, by omega, rfl, Lib.hid fun j hj => by omega, rfl⟩
      case round =>
        obtain ⟨k, hkn, rfl, HA, rfl⟩ := hrel
        by_cases hlt : k < n
        · obtain ⟨pb, po, rfl, hpbl, t0⟩ := HP.out.at_ hlt
          obtain ⟨ub, uo, x, xc, rfl, hubl, s0, -, -, -, hx⟩ := HU.out.at_ hlt
          have ik : (k : Int) < (n : Int) := by omega
          have i0k : (0 : Int) ≤ (k : Int) := by omega
          have ikc : (k : Int) ≤ (pc : Int) := by omega
          have BADk := Lib.hid fun hc => BAD.out k hlt hc
          have HNX := Lib.hid fun (hc : ps.getD k 0 ≠ -1 → ps.getD k 0 ∈ rowAt u k ∧ ps.getD k 0 ∉ ps.take k) => (show ∀ j, j < k + 1 → (ps.getD j 0 ≠ -1 → ps.getD j 0 ∈ rowAt u j ∧ ps.getD j 0 ∉ ps.take j) from fun j hj => by
            by_cases e : j = k
            · subst e; exact hc
            · exact HA.out j (by omega))
          have HQ1 := Lib.hid (slContains_any (.slice x (rowAt u k).length xc) (rowAt u k) (ps.getD k 0) w hx)
          have HQ2 := Lib.hid (HT.out k (by omega) (ps.getD k 0))
          obtain ⟨m, hmm⟩ : ∃ m, m = (rowAt u k).length := ⟨_, rfl⟩
          rw [← hmm] at s0 HQ1
          have CASE := Lib.hid (show ps.getD k 0 = -1 ∨ (ps.getD k 0 ≠ -1 ∧ (hasI (rowAt u k) (ps.getD k 0) = false ∨ (hasI (rowAt u k) (ps.getD k 0) = true ∧ (hasI (ps.take k) (ps.getD k 0) = true ∨ hasI (ps.take k) (ps.getD k 0) = false)))) from by
            by_cases e : ps.getD k 0 = -1
            · exact .inl e
            · refine .inr ⟨e, ?_⟩
              cases h1 : hasI (rowAt u k) (ps.getD k 0)
              · exact .inl rfl
              · cases h2 : hasI (ps.take k) (ps.getD k 0)
                · exact .inr ⟨rfl, .inr rfl⟩
                · exact .inr ⟨rfl, .inl rfl⟩)
          have M1 := Lib.hid (hasI_iffP (l := rowAt u k) (n := ps.getD k 0))
          have M2 := Lib.hid (hasI_iffP (l := ps.take k) (n := ps.getD k 0))
          obtain ⟨y, hy⟩ : ∃ y, y = ps.getD k 0 := ⟨_, rfl⟩
          rw [← hy] at t0 HQ1 HQ2 BADk HNX CASE M1 M2
          clear hx hmm hy
          rcases CASE.out with h1 | ⟨h1, h2 | ⟨h2, h3 | h3⟩⟩
          · subst h1
            have hnx := Lib.hid (HNX.out fun h => absurd rfl h)
            clear HQ1 HQ2
            go_wp2_with fail
            go_roundw
            case rel => exact ⟨k + 1, by omega, by go_num, hnx, (by first | rfl | trivial)⟩
            case measure => simp [intOf]; omega
          · have hyd : (y == -1) = false := by simpa using h1
            rw [h2] at HQ1
            have hr := Lib.hid (BADk.out fun hc => by rw [M1.out.2 (hc h1).1] at h2; cases h2)
            clear HQ2 h2
            go_wp2_with fail
            refine HQ1.out.mono ?_
            rintro e w2 ⟨rfl, rfl⟩
            go_wp2_with fail
            go_ret
            exact ⟨by rw [hr.out]; rfl, Below.refl _ _⟩
          · have hyd : (y == -1) = false := by simpa using h1
            rw [h2] at HQ1
            rw [h3] at HQ2
            have hr := Lib.hid (BADk.out fun hc => (hc h1).2 (M2.out.1 h3))
            clear h2 h3
            go_wp2_with fail
            refine HQ1.out.mono ?_
            rintro e w2 ⟨rfl, rfl⟩
            go_wp2_with fail
            refine HQ2.out.mono ?_
            rintro e w2 ⟨rfl, rfl⟩
            go_wp2_with fail
            go_ret
            exact ⟨by rw [hr.out]; rfl, Below.refl _ _⟩
          · have hyd : (y == -1) = false := by simpa using h1
            rw [h2] at HQ1
            rw [h3] at HQ2
            have hnx := Lib.hid (HNX.out fun _ => ⟨M1.out.1 h2, fun hm => by rw [M2.out.2 hm] at h3; cases h3⟩)
            clear h2 h3
            go_wp2_with fail
            refine HQ1.out.mono ?_
            rintro e w2 ⟨rfl, rfl⟩
            go_wp2_with fail
            refine HQ2.out.mono ?_
            rintro e w2 ⟨rfl, rfl⟩
            go_wp2_with fail
            go_roundw
            case rel => exact ⟨k + 1, by omega, by go_num, hnx, (by first | rfl | trivial)⟩
            case measure => simp [intOf]; omega
        · obtain rfl : k = n := by omega
          have hr := Lib.hid (END.out fun j hj => HA.out j hj)
          go_wp2_with fail
          go_ret
          exact ⟨by rw [hr.out]; rfl, Below.refl _ _⟩
    · have hr := Lib.hid (plugsOk_nolen (u := u) hlen)
      have hne : ((ps.length : Int) != (u.length : Int)) = true := by rw [bne_iff_ne]; omega
      obtain ⟨n, hn⟩ : ∃ n, n = ps.length := ⟨_, rfl⟩
      obtain ⟨nu, hnu⟩ : ∃ n, n = u.length := ⟨_, rfl⟩
      rw [← hn] at hne hpc ⊢
      rw [← hnu] at hne HUV ⊢
      clear hu hp hok hlen hn hnu
      go_enter Try.func18, Try.ntmps18
      go_wp2_with fail
      refine HUV.out.mono ?_
      rintro e w2 ⟨rfl, rfl⟩
      go_wp2_with fail
      go_ret
      exact ⟨by rw [hr.out]; rfl, Below.refl _ _⟩

/-- slices.Compact on a row of the call's own: its first part stays the call's own. -/
theorem compactE_any (g cap : Nat) (zs : List Int) (K : Nat) (w : World) (ho : w.ownsRow K 3 1 (.slice (some ⟨g, 0, none⟩) zs.length cap) zs.length (rowI zs)) (hcap : zs.length ≤ cap ∧ cap ≤ 9223372036854775807) (hKg : K ≤ g) :
    Calls Try.prog 54 #[.slice (some ⟨g, 0, none⟩) zs.length cap] w fun e w' => e = .returned (.slice (some ⟨g, 0, none⟩) (Lib.compact zs).length cap) ∧ FreeE K w' (.slice (some ⟨g, 0, none⟩) (Lib.compact zs).length cap) (Lib.compact zs) ∧ Below K w w' := by
  obtain ⟨g2, cap2, e2, hbg, hgl, hnc, hcm, hlen2, hH⟩ := Lib.holds_of_ownsRow (enc := Value.int .i64) (zs := zs) ho (by intro h; cases h)
  simp only [Value.slice.injEq, Option.some.injEq, Addr.mk.injEq, and_true, true_and] at e2
  obtain ⟨rfl, rfl⟩ := e2
  refine (Try.slices_Compact_int g 0 cap zs w hH (by omega) hcap.1).mono ?_
  rintro e w' ⟨he, q, hw⟩
  have hle : (Lib.compact zs).length ≤ zs.length := by
    unfold Lib.compact Lib.compactUpTo
    rw [List.length_map]
    exact Nat.le_trans (List.length_filter_le _ _) (by simp)
  obtain ⟨C, hC⟩ : ∃ C, C = Lib.compact zs := ⟨_, rfl⟩
  rw [← hC] at he hw hle ⊢
  obtain ⟨ts, hts⟩ : ∃ ts, ts = C ++ List.replicate (zs.length - C.length) 0 := ⟨_, rfl⟩
  have htl : ts.length = zs.length := by rw [hts, List.length_append, List.length_replicate]; omega
  rw [← hts] at hw
  have HO : w'.ownsRow K 3 1 (.slice (some ⟨g, 0, none⟩) zs.length cap) zs.length (rowI ts) := by
    rcases ho.2 with ⟨e0, _⟩ | ⟨g', cap', cur, hv, q1, q2, q3, q4, q5, _⟩
    · cases e0
    · simp only [Value.slice.injEq, Option.some.injEq, Addr.mk.injEq, and_true, true_and] at hv
      obtain ⟨rfl, rfl⟩ := hv
      rw [hw]
      exact ownsRow_sortedI (n := q) (os := #[]) (ss := zs) (ts := ts) htl q1 q2 q3 q4 q5
  have HF : FreeE K w' (.slice (some ⟨g, 0, none⟩) ts.length cap) ts := FreeE.of_own (by rw [htl]; exact HO)
  have HT := HF.take C.length (by omega)
  rw [show ts.take C.length = C by rw [hts]; simp] at HT
  exact ⟨he, HT, by rw [hw]; exact Lib.below_putRow (Below.refl _ _) hKg⟩

theorem free_none {K : Nat} {w : World} : FreeE K w (.slice none 0 0) [] := .inl ⟨rfl, none, 0, rfl, by unfold maxLen; omega, fun _ => rfl⟩
set_option maxRecDepth 10000 in
set_option maxHeartbeats 4000000 in
theorem implPlugsOf_any (vu vp : Value) (u : List (List Int)) (ps : List Int) (w : World) (hu : HoldsY w vu u) (hp : HoldsI w vp ps) (hps : ps.length ≤ 1048576) :
    Calls Try.prog 28 #[vu, vp] w fun e w' => ∃ v', e = .returned v' ∧ FreeE w.heap.size w' v' (plugO u ps) ∧ Below w.heap.size w w' := by
  obtain ⟨i0, hi, hz0, hz1, hz2⟩ := info_parts infoInt
  have HI := Lib.hid hi
  have HZ0 := Lib.hid hz0
  have HZ1 := Lib.hid hz1
  have HZ2 := Lib.hid hz2
  clear hi hz0 hz1 hz2
  have HUV := Lib.hid (implUsesValid_same vu u w hu)
  have HU := Lib.hid fun (w' : World) (hs : Below w.heap.size w w') => hu.keep hs
  have HP := Lib.hid fun (w' : World) (hs : Below w.heap.size w w') => hp.keep hs
  have NO := Lib.hid fun k hk hc => plugO_no (u := u) (some := ps) (k := k) hk hc
  obtain ⟨a, c, rfl⟩ : ∃ a c, vu = .slice a u.length c := by obtain ⟨a, c, e, _⟩ := hu; exact ⟨a, c, e⟩
  obtain ⟨pa, pc, rfl⟩ := hp.form
  have hmu : u.length ≤ 9223372036854775807 := by have := hu.len; omega
  have HB := Lib.hid (Below.refl w.heap.size w)
  cases hok : usesOk u
  · have hr := Lib.hid (show plugO u ps = [] from if_neg (fun hc => by rw [hok] at hc; cases hc.1))
    rw [hok] at HUV
    obtain ⟨nu, hnu⟩ : ∃ n, n = u.length := ⟨_, rfl⟩
    rw [← hnu] at HUV ⊢
    clear hu hp hok hnu
    go_enter Try.func28, Try.ntmps28
    go_wp2_with fail
    refine HUV.out.mono ?_
    rintro e w2 ⟨rfl, rfl⟩
    go_wp2_with fail
    go_ret
    exact ⟨_, rfl, by rw [hr.out]; exact free_none, HB.out⟩
  · have END := Lib.hid fun h => plugO_cat (some := ps) hok h
    have CN := Lib.hid fun k (hk : k < ps.length) => catU_next (u := u) hk
    have CL := Lib.hid fun k => catU_len hok ps k
    have C0 := Lib.hid (catU_zero u ps)
    have RL := Lib.hid fun k => useA_len hok k
    rw [hok] at HUV
    obtain ⟨R, hR⟩ : ∃ R, R = plugO u ps := ⟨_, rfl⟩
    rw [← hR] at NO END ⊢
    obtain ⟨nu, hnu⟩ : ∃ n, n = u.length := ⟨_, rfl⟩
    rw [← hnu] at HU HUV NO END hmu ⊢
    obtain ⟨n, hn⟩ : ∃ n, n = ps.length := ⟨_, rfl⟩
    rw [← hn] at HP NO END CN hps ⊢
    clear hu hp hok hR hnu hn
    go_enter Try.func28, Try.ntmps28
    go_wp2_with fail
    refine HUV.out.mono ?_
    rintro e w2 ⟨rfl, rfl⟩
    go_wp2_with fail
    go_loopw [5, 13] (fun va i wr => ∃ k : Nat, k ≤ n ∧ i = .int .i64 k ∧ Hid (∀ j, j < k → 0 ≤ ps.getD j 0 ∧ ps.getD j 0 < (nu : Int)) ∧ Hid (OwnI w.heap.size wr va (catU u ps k)) ∧ Hid (Below w.heap.size w wr)) (fun _ i _ => n - (intOf i).toNat)
    case atStart => exact ⟨0, by omega, rfl, Lib.hid fun j hj => by omega, Lib.hid (by rw [C0.out]; exact ⟨by simp [rowI], .inl ⟨rfl, rfl⟩⟩), HB⟩
    case round =>
      clear HB
      obtain ⟨k, hkn, rfl, HIN, HOW, BR⟩ := hrel
      have hws : w.heap.size ≤ wr.heap.size := BR.out.size
      have hcl := CL.out k
      by_cases hlt : k < n
      · obtain ⟨pb, po, rfl, hpbl, t0⟩ := (HP.out wr BR.out).at_ hlt
        have ik : (k : Int) < (n : Int) := by omega
        have i0k : (0 : Int) ≤ (k : Int) := by omega
        have NOk := Lib.hid fun hc => NO.out k hlt hc
        have CNk := Lib.hid (CN.out k hlt)
        by_cases hin : 0 ≤ ps.getD k 0 ∧ ps.getD k 0 < (nu : Int)
        · have HAX := Lib.hid (show ∀ j, j < k + 1 → 0 ≤ ps.getD j 0 ∧ ps.getD j 0 < (nu : Int) from fun j hj => by
            by_cases e : j = k
            · subst e; exact hin
            · exact HIN.out j (by omega))
          have HIX := Lib.hid (isIdx_yes (ps.getD k 0) (nu : Int) wr hin.1 hin.2)
          obtain ⟨s, hs⟩ : ∃ s : Nat, ps.getD k 0 = (s : Int) := ⟨(ps.getD k 0).toNat, by omega⟩
          rw [hs] at t0 CNk HIX
          rw [Int.toNat_natCast] at CNk
          have hsn : s < nu := by omega
          have is : (s : Int) < (nu : Int) := by omega
          have i0s : (0 : Int) ≤ (s : Int) := by omega
          obtain ⟨ub, uo, x, xc, rfl, hubl, s0, hc1, hc2, hnil, hx⟩ := (HU.out wr BR.out).at_ hsn
          have hrl : (rowAt u s).length ≤ 6 := RL.out s
          have eUR : useA u s = rowAt u s := rfl
          rw [eUR] at CNk
          obtain ⟨m, hmm⟩ : ∃ m, m = (rowAt u s).length := ⟨_, rfl⟩
          have HML := Lib.hid hmm.symm
          clear hin hs eUR
          rcases x with _ | xb
          · obtain rfl : xc = 0 := hnil rfl
            have hz : (rowAt u s).length = 0 := by omega
            have HNIL := Lib.hid (List.eq_nil_of_length_eq_zero hz)
            rw [hz] at s0
            clear hx hz hmm hrl hc1 HML
            go_wp2_with fail
            refine HIX.out.mono ?_
            rintro e w2 ⟨rfl, rfl⟩
            go_wp2_with (at_builtin; refine wpList_append_own_none rfl _ _ 27 rfl w.heap.size 3 i0 1 Try.underlying27 HI.out _ _ _ rfl HOW.out rfl ?_)
            go_roundw
            case rel => exact ⟨k + 1, by omega, by go_num, HAX, Lib.hid (by rw [CNk.out, HNIL.out, List.append_nil]; exact HOW.out), BR⟩
            case measure => simp [intOf]; omega
          · have HROWC := Lib.hid fun (q : Nat) (z : Value) (hz : (rowI (rowAt u s))[q]? = some z) => HoldsI.rowA hx q z hz
            rw [← hmm] at s0 hc1 hrl
            clear hx hmm
            go_wp2_with fail
            refine HIX.out.mono ?_
            rintro e w2 ⟨rfl, rfl⟩
            go_wp2_with (at_builtin; refine wpList_append_own _ rfl _ _ 27 rfl w.heap.size 3 i0 (.int .i64 0) 1 8 Try.underlying27 HI.out HZ0.out HZ1.out HZ2.out rfl (by decide) _ _ _ rfl HOW.out xb m xc (rowI (rowAt u s)) rfl (by rw [rowI_len, HML.out, Nat.mul_one]) (fun q z hz => HROWC.out q z hz) (rowI_one _) (by unfold maxLen; omega) (by omega) hws ?_; intro v7 w7 hown7 hgrow7 _; have HB7 := Lib.hid (BR.out.trans (own_below hgrow7 hws (fun k hk => (own_lt HOW.out k hk).1))); have HO7 : Hid (OwnI w.heap.size w7 v7 (catU u ps (k + 1))) := Lib.hid (by rw [CNk.out]; unfold OwnI; rw [rowI_app, List.length_append, HML.out]; exact hown7); clear hown7 hgrow7)
            go_roundw
            case rel => exact ⟨k + 1, by omega, by go_num, HAX, HO7, HB7⟩
            case measure => simp [intOf]; omega
        · have HIX := Lib.hid (isIdx_no (ps.getD k 0) (nu : Int) wr (by omega))
          have hr := Lib.hid (NOk.out hin)
          have C9 := Lib.hid BR.out
          obtain ⟨y, hy⟩ : ∃ y, y = ps.getD k 0 := ⟨_, rfl⟩
          rw [← hy] at t0 HIX
          clear hin hy
          go_wp2_with fail
          refine HIX.out.mono ?_
          rintro e w2 ⟨rfl, rfl⟩
          go_wp2_with fail
          go_ret
          exact ⟨_, rfl, by rw [hr.out]; exact free_none, C9.out⟩
      · obtain rfl : k = n := by omega
        have hr := Lib.hid (END.out fun j hj => HIN.out j hj)
        generalize catU u ps k = zs at HOW hr hcl
        have hlen := sortI_len zs
        have o1 := HOW.out
        unfold OwnI at o1
        have CMP := Lib.hid fun (u6 : Value) => (show True from trivial)
        by_cases hz : zs.length = 0
        · obtain rfl := List.eq_nil_of_length_eq_zero hz
          obtain ⟨va, vc, rfl⟩ := own_slice o1
          have HS := Lib.hid (Try.slices_Sort_int_none va vc wr)
          have HC := Lib.hid (Try.slices_Compact_int_empty va vc wr)
          have HF := Lib.hid (FreeE.of_own (l := []) o1)
          have hr2 := Lib.hid (hr.out.trans (show Lib.compact (sortI ([] : List Int)) = [] by simp [sortI, Lib.compact, Lib.compactUpTo]))
          clear o1 hz hlen HOW hr
          go_wp2_with fail
          refine HS.out.mono ?_
          rintro e w2 ⟨rfl, rfl⟩
          go_wp2_with fail
          refine HC.out.mono ?_
          rintro e w2 ⟨rfl, rfl⟩
          go_wp2_with fail
          go_ret
          exact ⟨_, rfl, by rw [hr2.out]; exact HF.out, BR.out⟩
        · have hnn : u5 ≠ .slice none 0 0 := by
            intro e
            subst e
            rcases o1.2 with ⟨_, h0⟩ | ⟨g, cap, cur, e, _⟩
            · exact hz h0
            · cases e
          obtain ⟨g, cap, rfl, hbg, hgl, hnc, hcm, hlen2, hH⟩ := Lib.holds_of_ownsRow (enc := Value.int .i64) (zs := zs) o1 hnn
          have HS : (Calls Try.prog 53 #[.slice (some ⟨g, 0, none⟩) zs.length cap] wr fun e w' => e = .returned (.tuple #[]) ∧ w'.ownsRow w.heap.size 3 1 (.slice (some ⟨g, 0, none⟩) zs.length cap) zs.length (rowI (sortI zs)) ∧ Below w.heap.size w w') := by
            refine (Try.slices_Sort_int g 0 cap zs wr hH hgl (by omega)).mono ?_
            rintro e w' ⟨he, n, os, hw⟩
            refine ⟨he, ?_, ?_⟩
            · rcases o1.2 with ⟨e0, _⟩ | ⟨g', cap', cur, hv, q1, q2, q3, q4, q5, _⟩
              · cases e0
              · simp only [Value.slice.injEq, Option.some.injEq, Addr.mk.injEq, and_true, true_and] at hv
                obtain ⟨rfl, rfl⟩ := hv
                rw [hw]
                exact ownsRow_sortedI (ss := zs) (ts := sortI zs) (sortI_len zs) q1 q2 q3 q4 q5
            · rw [hw]
              exact BR.out.grown (grownBy_sortedI _) hws (fun k hk => by cases hk; exact hbg)
          have HS' := Lib.hid HS
          have HLN := Lib.hid hlen
          have hcap : zs.length ≤ cap ∧ cap ≤ 9223372036854775807 := by unfold maxLen at hcm; omega
          generalize sortI zs = ts at HS' hr HLN
          obtain ⟨N, hN⟩ : ∃ N, N = zs.length := ⟨_, rfl⟩
          rw [← hN] at HS' HLN hcap ⊢
          clear HS o1 hz hH hnn hlen hlen2 hcl HOW hN
          go_wp2_with fail
          refine HS'.out.mono ?_
          rintro e w2 ⟨rfl, o2, b2⟩
          have HB2 := Lib.hid b2
          have HC := Lib.hid (compactE_any g cap ts w.heap.size w2 (by rw [HLN.out]; exact o2) (by rw [HLN.out]; omega) hbg)
          rw [HLN.out] at HC
          clear o2 b2
          go_wp2_with fail
          refine HC.out.mono ?_
          rintro e w3 ⟨rfl, f3, b3⟩
          have HF3 := Lib.hid f3
          have HB3 := Lib.hid (HB2.out.trans b3)
          clear f3 b3
          go_wp2_with fail
          go_ret
          exact ⟨_, rfl, by rw [hr.out]; exact HF3.out, HB3.out⟩

end Go.Proofs.Ythlcjojhmhoadaa
