/-
  The model's chapter 12: PlugsValid.
-/
import Derived.Test.YthlcjojhmhoadaaPgS
import Derived.Laws.AppendOwnNone
import Derived.Deep.QuietTactic
import Derived.BigQuiet
namespace Go.Proofs.Ythlcjojhmhoadaa
open Go.RowKit
set_option linter.unusedVariables false

theorem plugsOk_bad {u : List (List Int)} {ps : List Int} {k : Nat} (hk : k < ps.length) (hc : ¬ (ps.getD k 0 ≠ -1 → ps.getD k 0 ∈ rowAt u k ∧ ps.getD k 0 ∉ ps.take k)) : plugsOk u ps = false := by
  cases he : plugsOk u ps
  · rfl
  · exact absurd ((plugsOk_iff.1 he).2.2 k hk) hc
theorem plugsOk_nouse {u : List (List Int)} {ps : List Int} (h : usesOk u = false) : plugsOk u ps = false := by
  cases he : plugsOk u ps
  · rfl
  · rw [(plugsOk_iff.1 he).1] at h; cases h
theorem plugsOk_nolen {u : List (List Int)} {ps : List Int} (h : ¬ ps.length = u.length) : plugsOk u ps = false := by
  cases he : plugsOk u ps
  · rfl
  · exact absurd (plugsOk_iff.1 he).2.1 h
theorem plugsOk_end {u : List (List Int)} {ps : List Int} (hu : usesOk u = true) (hl : ps.length = u.length) (h : ∀ k, k < ps.length → (ps.getD k 0 ≠ -1 → ps.getD k 0 ∈ rowAt u k ∧ ps.getD k 0 ∉ ps.take k)) : plugsOk u ps = true := plugsOk_iff.2 ⟨hu, hl, h⟩
set_option maxRecDepth 10000 in
set_option maxHeartbeats 4000000 in
theorem specPlugsValid_any (vu vp : Value) (u : List (List Int)) (ps : List Int) (w : World) (hu : HoldsY w vu u) (hp : HoldsI w vp ps) :
    Calls Try.prog 19 #[vu, vp] w fun e w' => e = .returned (.bool (plugsOk u ps)) ∧ Below w.heap.size w w' := by
  have HUV := Lib.hid (specUsesValid_any vu u w hu)
  have HU := Lib.hid fun (w' : World) (hs : Below w.heap.size w w') => hu.keep hs
  have HP := Lib.hid fun (w' : World) (hs : Below w.heap.size w w') => hp.keep hs
  have BAD := Lib.hid fun k hk hc => plugsOk_bad (u := u) (ps := ps) (k := k) hk hc
  obtain ⟨a, c, rfl⟩ : ∃ a c, vu = .slice a u.length c := by obtain ⟨a, c, e, _⟩ := hu; exact ⟨a, c, e⟩
  obtain ⟨pa, pc, rfl⟩ := hp.form
  have hm : u.length ≤ 9223372036854775807 := by have := hu.len; omega
  have hpc : ps.length ≤ pc ∧ pc ≤ 9223372036854775807 := by
    obtain ⟨a', c', e, q1, q2, _⟩ := hp
    simp only [Value.slice.injEq] at e
    obtain ⟨-, -, rfl⟩ := e
    unfold maxLen at q2
    omega
  have HT := Lib.hid fun k (hk : k ≤ ps.length) x (w' : World) (hs : Below w.heap.size w w') => l1Has_any (.slice pa k pc) (ps.take k) x w' (HoldsI.take k hk (hp.keep hs))
  cases hok : usesOk u
  · have hr := Lib.hid (plugsOk_nouse (ps := ps) hok)
    rw [hok] at HUV
    clear hu hp hok
    go_enter Try.func19, Try.ntmps19
    go_wp2_with fail
    refine HUV.out.mono ?_
    rintro e w2 ⟨rfl, b2⟩
    go_wp2_with fail
    go_ret
    exact ⟨by rw [hr.out]; rfl, b2⟩
  · rw [hok] at HUV
    by_cases hlen : ps.length = u.length
    · have END := Lib.hid fun h => plugsOk_end hok hlen h
      obtain ⟨res, hres⟩ : ∃ res, res = plugsOk u ps := ⟨_, rfl⟩
      rw [← hres] at BAD END ⊢
      obtain ⟨n, hn⟩ : ∃ n, n = ps.length := ⟨_, rfl⟩
      rw [← hlen, ← hn] at HU HUV hm ⊢
      rw [← hn] at HP BAD END HT hpc
      have hne : ((n : Int) != (n : Int)) = false := by simp
      clear hu hp hok hlen hres hn
      go_enter Try.func19, Try.ntmps19
      go_wp2_with fail
      refine HUV.out.mono ?_
      rintro e w2 ⟨rfl, b2⟩
      have B2 := Lib.hid b2
      clear b2 HUV
      go_wp2_with fail
      go_loopw [5] (fun i wr => ∃ k : Nat, k ≤ n ∧ i = .int .i64 k ∧ Hid (∀ j, j < k → (ps.getD j 0 ≠ -1 → ps.getD j 0 ∈ rowAt u j ∧ ps.getD j 0 ∉ ps.take j)) ∧ Hid (Below w.heap.size w wr)) (fun i _ => n - (intOf i).toNat)
      case atStart => exact ⟨0, by omega, rfl, Lib.hid fun j hj => by omega, B2⟩
      case round =>
        clear B2
        obtain ⟨k, hkn, rfl, HA, BR⟩ := hrel
        by_cases hlt : k < n
        · obtain ⟨pb, po, rfl, hpbl, t0⟩ := (HP.out wr BR.out).at_ hlt
          obtain ⟨ub, uo, x, xc, rfl, hubl, s0, -, -, -, hx⟩ := (HU.out wr BR.out).at_ hlt
          have ik : (k : Int) < (n : Int) := by omega
          have i0k : (0 : Int) ≤ (k : Int) := by omega
          have ikc : (k : Int) ≤ (pc : Int) := by omega
          have BADk := Lib.hid fun hc => BAD.out k hlt hc
          have HNX := Lib.hid fun (hc : ps.getD k 0 ≠ -1 → ps.getD k 0 ∈ rowAt u k ∧ ps.getD k 0 ∉ ps.take k) => (show ∀ j, j < k + 1 → (ps.getD j 0 ≠ -1 → ps.getD j 0 ∈ rowAt u j ∧ ps.getD j 0 ∉ ps.take j) from fun j hj => by
            by_cases e : j = k
            · subst e; exact hc
            · exact HA.out j (by omega))
          have B9 := Lib.hid fun n => (show Below w.heap.size w (wr.drewN n) from belowP_drewN BR.out n)
          have HXK := Lib.hid fun n => hx.keep (belowP_drewN (Below.refl wr.heap.size wr) n)
          have HQ1 := Lib.hid fun n => l1Has_any (.slice x (rowAt u k).length xc) (rowAt u k) (ps.getD k 0) (wr.drewN n) (HXK.out n)
          have HQ2 := Lib.hid fun n => HT.out k (by omega) (ps.getD k 0) (wr.drewN n) (B9.out n)
          obtain ⟨m, hmm⟩ : ∃ m, m = (rowAt u k).length := ⟨_, rfl⟩
          rw [← hmm] at s0 HQ1
          have CASE := Lib.hid (show ps.getD k 0 = -1 ∨ (ps.getD k 0 ≠ -1 ∧ (hasI (rowAt u k) (ps.getD k 0) = false ∨ (hasI (rowAt u k) (ps.getD k 0) = true ∧ (hasI (ps.take k) (ps.getD k 0) = true ∨ hasI (ps.take k) (ps.getD k 0) = false)))) from by
            by_cases e : ps.getD k 0 = -1
            · exact .inl e
            · refine .inr ⟨e, ?_⟩
              cases h1 : hasI (rowAt u k) (ps.getD k 0)
              · exact .inl rfl
              · cases h2 : hasI (ps.take k) (ps.getD k 0)
                · exact .inr ⟨rfl, .inr rfl⟩
                · exact .inr ⟨rfl, .inl rfl⟩)
          have M1 := Lib.hid (hasI_iffP (l := rowAt u k) (n := ps.getD k 0))
          have M2 := Lib.hid (hasI_iffP (l := ps.take k) (n := ps.getD k 0))
          obtain ⟨y, hy⟩ : ∃ y, y = ps.getD k 0 := ⟨_, rfl⟩
          rw [← hy] at t0 HQ1 HQ2 BADk HNX CASE M1 M2
          clear hx hmm hy
          rcases CASE.out with h1 | ⟨h1, h2 | ⟨h2, h3 | h3⟩⟩
          · subst h1
            have hnx := Lib.hid (HNX.out fun h => absurd rfl h)
            clear HQ1 HQ2
            go_wp2_with fail
            go_quiet (fail)
            go_wp2_with fail
            go_roundw
            case rel => exact ⟨k + 1, by omega, by go_num, hnx, Lib.hid (B9.out _)⟩
            case measure => simp [intOf]; omega
          · have hyd : (y != -1) = true := by simpa using h1
            rw [h2] at HQ1
            have hr := Lib.hid (BADk.out fun hc => by rw [M1.out.2 (hc h1).1] at h2; cases h2)
            clear HQ2 h2
            go_wp2_with fail
            go_quiet (first
              | (go_at_call 46; with_reducible refine quiet_same (HQ1.out _))
              | fail)
            go_wp2_with fail
            go_ret
            exact ⟨by rw [hr.out]; rfl, B9.out _⟩
          · have hyd : (y != -1) = true := by simpa using h1
            rw [h2] at HQ1
            rw [h3] at HQ2
            have hr := Lib.hid (BADk.out fun hc => (hc h1).2 (M2.out.1 h3))
            clear h2 h3
            go_wp2_with fail
            go_quiet (first
              | (go_at_call 46; with_reducible refine quiet_same (HQ1.out _))
              | (go_at_call 46; with_reducible refine quiet_same (HQ2.out _))
              | fail)
            go_wp2_with fail
            go_ret
            exact ⟨by rw [hr.out]; rfl, B9.out _⟩
          · have hyd : (y != -1) = true := by simpa using h1
            rw [h2] at HQ1
            rw [h3] at HQ2
            have hnx := Lib.hid (HNX.out fun _ => ⟨M1.out.1 h2, fun hm => by rw [M2.out.2 hm] at h3; cases h3⟩)
            clear h2 h3
            go_wp2_with fail
            go_quiet (first
              | (go_at_call 46; with_reducible refine quiet_same (HQ1.out _))
              | (go_at_call 46; with_reducible refine quiet_same (HQ2.out _))
              | fail)
            go_wp2_with fail
            go_roundw
            case rel => exact ⟨k + 1, by omega, by go_num, hnx, Lib.hid (B9.out _)⟩
            case measure => simp [intOf]; omega
        · obtain rfl : k = n := by omega
          have hr := Lib.hid (END.out fun j hj => HA.out j hj)
          have C9 := BR.out
          go_wp2_with fail
          go_ret
          exact ⟨by rw [hr.out]; rfl, C9⟩
    · have hr := Lib.hid (plugsOk_nolen (u := u) hlen)
      have hne : ((ps.length : Int) != (u.length : Int)) = true := by rw [bne_iff_ne]; omega
      obtain ⟨n, hn⟩ : ∃ n, n = ps.length := ⟨_, rfl⟩
      obtain ⟨nu, hnu⟩ : ∃ n, n = u.length := ⟨_, rfl⟩
      rw [← hn] at hne hpc ⊢
      rw [← hnu] at hne HUV ⊢
      clear hu hp hok hlen hn hnu
      go_enter Try.func19, Try.ntmps19
      go_wp2_with fail
      refine HUV.out.mono ?_
      rintro e w2 ⟨rfl, b2⟩
      go_wp2_with fail
      go_ret
      exact ⟨by rw [hr.out]; rfl, b2⟩

end Go.Proofs.Ythlcjojhmhoadaa
