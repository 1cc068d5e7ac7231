/-
  The model's chapter 12: PlugsOf.
-/
import Derived.Test.YthlcjojhmhoadaaPgS
import Derived.Laws.AppendOwnNone
import Derived.Deep.QuietTactic
import Derived.BigQuiet
namespace Go.Proofs.Ythlcjojhmhoadaa
open Go.RowKit
set_option linter.unusedVariables false

/-- The first plugs that at least one of some boxes can use. -/
def plugK (u : List (List Int)) (some : List Int) (q : Nat) : List Int := ((List.range q).map Int.ofNat).filter fun q => some.any fun k => decide (q ∈ useA u k.toNat)
theorem plugK_next (u : List (List Int)) (some : List Int) (q : Nat) : plugK u some (q + 1) = if (some.any fun k => hasI (rowAt u k.toNat) (q : Int)) = true then plugK u some q ++ [(q : Int)] else plugK u some q := by
  unfold plugK
  rw [List.range_succ, List.map_append, List.filter_append]
  have e : (some.any fun k => decide ((q : Int) ∈ useA u k.toNat)) = (some.any fun k => hasI (rowAt u k.toNat) (q : Int)) := rfl
  by_cases h : (some.any fun k => hasI (rowAt u k.toNat) (q : Int)) = true
  · rw [if_pos h]
    rw [← e] at h
    simp [h]
  · rw [if_neg h]
    rw [← e] at h
    simp [h]
theorem plugK_len (u : List (List Int)) (some : List Int) (q : Nat) : (plugK u some q).length ≤ q := by
  unfold plugK
  exact Nat.le_trans (List.length_filter_le _ _) (by simp)
theorem plugO_no {u : List (List Int)} {some : List Int} {k : Nat} (hk : k < some.length) (hc : ¬ (0 ≤ some.getD k 0 ∧ some.getD k 0 < (u.length : Int))) : plugO u some = [] := by
  unfold plugO
  rw [if_neg (fun h => hc (h.2 k hk))]
theorem plugO_end {u : List (List Int)} {some : List Int} (h : ∀ k, k < some.length → 0 ≤ some.getD k 0 ∧ some.getD k 0 < (u.length : Int)) : plugO u some = if usesOk u = true then plugK u some 6 else [] := by
  unfold plugO
  by_cases hu : usesOk u = true
  · rw [if_pos ⟨hu, h⟩, if_pos hu]; rfl
  · rw [if_neg (fun hc => hu hc.1), if_neg hu]
set_option maxRecDepth 10000 in
set_option maxHeartbeats 4000000 in
theorem specPlugsOf_any (vu vp : Value) (u : List (List Int)) (ps : List Int) (w : World) (hu : HoldsY w vu u) (hp : HoldsI w vp ps) :
    Calls Try.prog 30 #[vu, vp] w fun e w' => ∃ v', e = .returned v' ∧ OwnI w.heap.size w' v' (plugO u ps) ∧ Below w.heap.size w w' := by
  obtain ⟨i0, hi, hz0, hz1, hz2⟩ := info_parts infoInt
  have HI := Lib.hid hi
  have HZ0 := Lib.hid hz0
  have HZ1 := Lib.hid hz1
  have HZ2 := Lib.hid hz2
  clear hi hz0 hz1 hz2
  have HUV := Lib.hid fun (w' : World) (hs : Below w.heap.size w w') => specUsesValid_any vu u w' (hu.keep hs)
  have HU := Lib.hid fun (w' : World) (hs : Below w.heap.size w w') => hu.keep hs
  have HP := Lib.hid fun (w' : World) (hs : Below w.heap.size w w') => hp.keep hs
  have NO := Lib.hid fun k hk hc => plugO_no (u := u) (some := ps) (k := k) hk hc
  have END := Lib.hid fun h => plugO_end (u := u) (some := ps) h
  have HKN := Lib.hid fun q => plugK_next u ps q
  have HKL := Lib.hid fun q => plugK_len u ps q
  have HAN := Lib.hid fun q k (hk : k < ps.length) => (show ((ps.take (k + 1)).any fun x => hasI (rowAt u x.toNat) q) = (((ps.take k).any fun x => hasI (rowAt u x.toNat) q) || hasI (rowAt u (ps.getD k 0).toNat) q) from by
    rw [← List.take_append_getElem hk, List.any_append, getD_ps hk]; simp)
  have HAE := Lib.hid (show ps.take ps.length = ps from List.take_length)
  obtain ⟨a, c, rfl⟩ : ∃ a c, vu = .slice a u.length c := by obtain ⟨a, c, e, _⟩ := hu; exact ⟨a, c, e⟩
  obtain ⟨pa, pc, rfl⟩ := hp.form
  have hmu : u.length ≤ 9223372036854775807 := by have := hu.len; omega
  have hpc : ps.length ≤ pc ∧ pc ≤ 9223372036854775807 := by
    obtain ⟨a', c', e, q1, q2, _⟩ := hp
    simp only [Value.slice.injEq] at e
    obtain ⟨-, -, rfl⟩ := e
    unfold maxLen at q2
    omega
  have hb1 := (Below.refl w.heap.size w).alloc (Nat.le_refl _) (.cells #[] 3)
  have ho1 : OwnI w.heap.size (w.alloc (.cells #[] 3)) (.slice (some ⟨w.heap.size, 0, none⟩) 0 0) [] := OwnI.zero (Nat.le_refl _)
  obtain ⟨W1, hW1⟩ : ∃ W1, W1 = w.alloc (.cells #[] 3) := ⟨_, rfl⟩
  rw [← hW1] at hb1 ho1
  have HW := Lib.hid hW1
  have HB := Lib.hid hb1
  have HO := Lib.hid ho1
  obtain ⟨uk, huk⟩ : ∃ b, b = usesOk u := ⟨_, rfl⟩
  rw [← huk] at HUV END
  obtain ⟨R, hR⟩ : ∃ R, R = plugO u ps := ⟨_, rfl⟩
  rw [← hR] at NO END ⊢
  obtain ⟨nu, hnu⟩ : ∃ n, n = u.length := ⟨_, rfl⟩
  rw [← hnu] at HU HUV NO END hmu ⊢
  obtain ⟨n, hn⟩ : ∃ n, n = ps.length := ⟨_, rfl⟩
  rw [← hn] at HP NO END HAN HAE hpc ⊢
  clear hu hp hW1 hb1 ho1 huk hR hnu hn
  go_enter Try.func30, Try.ntmps30
  go_wp2_with fail
  rw [← HW.out]
  go_wp2_with fail
  go_loopw [5, 6] (fun va i wr => ∃ q : Nat, q ≤ 6 ∧ i = .int .i64 q ∧ Hid (0 < q → ∀ k, k < n → 0 ≤ ps.getD k 0 ∧ ps.getD k 0 < (nu : Int)) ∧ Hid (OwnI w.heap.size wr va (plugK u ps q)) ∧ Hid (Below w.heap.size w wr)) (fun _ i _ => 6 - (intOf i).toNat)
  case atStart => exact ⟨0, by omega, rfl, Lib.hid fun h => by omega, HO, HB⟩
  case round =>
    clear HO HB
    obtain ⟨q, hq6, rfl, HIN, HOW, BR⟩ := hrel
    obtain ⟨wo, rfl⟩ : ∃ wo : World, wo = wr := ⟨_, rfl⟩
    by_cases hlt : q < 6
    · have iq : (q : Int) < 6 := by omega
      go_wp2_with fail
      go_loopw [7, 8] (fun s i wr => ∃ k : Nat, k ≤ n ∧ s = .bool ((ps.take k).any fun x => hasI (rowAt u x.toNat) (q : Int)) ∧ i = .int .i64 k ∧ Hid (∀ j, j < k → 0 ≤ ps.getD j 0 ∧ ps.getD j 0 < (nu : Int)) ∧ Hid (OwnI w.heap.size wr u5 (plugK u ps q)) ∧ Hid (Below w.heap.size w wr)) (fun _ i _ => n - (intOf i).toNat)
      case atStart => exact ⟨0, by omega, by simp, rfl, Lib.hid fun j hj => by omega, HOW, BR⟩
      case round =>
        clear HOW BR
        obtain ⟨k, hkn, rfl, rfl, HAk, HOW, BR⟩ := hrel
        by_cases hltk : k < n
        · obtain ⟨pb, po, rfl, hpbl, t0⟩ := (HP.out wr BR.out).at_ hltk
          have ik : (k : Int) < (n : Int) := by omega
          have i0k : (0 : Int) ≤ (k : Int) := by omega
          have zn : IntKind.i64.wrap ((nu : Int) - 1) = (nu : Int) - 1 := IntWalk.i64_in _ (by omega)
          have hnx := Lib.hid (HAN.out (q : Int) k hltk)
          have NOk := Lib.hid fun hc => NO.out k hltk hc
          have HAX := Lib.hid fun (hc : 0 ≤ ps.getD k 0 ∧ ps.getD k 0 < (nu : Int)) => (show ∀ j, j < k + 1 → 0 ≤ ps.getD j 0 ∧ ps.getD j 0 < (nu : Int) from fun j hj => by
            by_cases e : j = k
            · subst e; exact hc
            · exact HAk.out j (by omega))
          generalize ((ps.take k).any fun x => hasI (rowAt u x.toNat) (q : Int)) = b at hnx ⊢
          by_cases hin : 0 ≤ ps.getD k 0 ∧ ps.getD k 0 < (nu : Int)
          · obtain ⟨s, hs⟩ : ∃ s : Nat, ps.getD k 0 = (s : Int) := ⟨(ps.getD k 0).toNat, by omega⟩
            rw [hs] at t0 hnx
            rw [Int.toNat_natCast] at hnx
            have hsn : s < nu := by omega
            have hax := Lib.hid (HAX.out hin)
            obtain ⟨ub, uo, x, xc, rfl, hubl, s0, -, -, -, hx⟩ := (HU.out wr BR.out).at_ hsn
            have HQ := Lib.hid (l1Has_any (.slice x (rowAt u s).length xc) (rowAt u s) (q : Int) wr hx)
            obtain ⟨m, hmm⟩ : ∃ m, m = (rowAt u s).length := ⟨_, rfl⟩
            rw [← hmm] at s0 HQ
            generalize hasI (rowAt u s) (q : Int) = b2 at HQ hnx
            have is : (s : Int) < (nu : Int) := by omega
            have i0s : (0 : Int) ≤ (s : Int) := by omega
            clear hin hs hx hmm
            cases b
            · go_wp2_with fail
              refine (l1In_yes (s : Int) 0 ((nu : Int) - 1) _ (by omega) (by omega)).mono ?_
              rintro e w' ⟨rfl, rfl⟩
              go_wp2_with fail
              refine HQ.out.mono ?_
              rintro e w' ⟨rfl, rfl⟩
              go_wp2_with fail
              go_roundw
              case rel => exact ⟨k + 1, by omega, by rw [hnx.out]; rfl, by go_num, hax, HOW, BR⟩
              case measure => simp [intOf]; omega
            · clear HQ s0
              go_wp2_with fail
              refine (l1In_yes (s : Int) 0 ((nu : Int) - 1) _ (by omega) (by omega)).mono ?_
              rintro e w' ⟨rfl, rfl⟩
              go_wp2_with fail
              go_roundw
              case rel => exact ⟨k + 1, by omega, by rw [hnx.out]; rfl, by go_num, hax, HOW, BR⟩
              case measure => simp [intOf]; omega
          · have hr := Lib.hid (NOk.out hin)
            obtain ⟨y, hy⟩ : ∃ y, y = ps.getD k 0 := ⟨_, rfl⟩
            rw [← hy] at t0 hin
            have C9 := BR.out.alloc BR.out.size (.cells #[] 3)
            have O9 : OwnI w.heap.size (wr.alloc (.cells #[] 3)) (.slice (some ⟨wr.heap.size, 0, none⟩) 0 0) [] := OwnI.zero BR.out.size
            clear hy
            go_wp2_with fail
            refine (l1In_no y 0 ((nu : Int) - 1) _ (by omega)).mono ?_
            rintro e w' ⟨rfl, rfl⟩
            go_wp2_with fail
            go_ret
            exact ⟨_, rfl, by rw [hr.out]; exact O9, C9⟩
        · obtain rfl : k = n := by omega
          have hkn2 := Lib.hid (HKN.out q)
          have hkl := HKL.out q
          have hin2 := Lib.hid (show 0 < q + 1 → ∀ j, j < k → 0 ≤ ps.getD j 0 ∧ ps.getD j 0 < (nu : Int) from fun _ => HAk.out)
          rw [HAE.out]
          generalize (ps.any fun x => hasI (rowAt u x.toNat) (q : Int)) = b at hkn2 ⊢
          have i0q : (0 : Int) ≤ (q : Int) := by omega
          obtain ⟨Ls, hLs⟩ : ∃ Ls, Ls = plugK u ps q := ⟨_, rfl⟩
          rw [← hLs] at HOW hkn2 hkl
          cases b
          · have e2 := Lib.hid (hkn2.out.trans (if_neg (by simp)))
            clear hkn2
            go_wp2_with fail
            go_roundw
            case rel => exact ⟨q + 1, by omega, by go_num, hin2, by rw [e2.out]; exact HOW, BR⟩
            case measure => simp [intOf]; omega
          · have e2 := Lib.hid (hkn2.out.trans (if_pos rfl))
            clear hkn2 hLs
            go_wp2_with (at_builtin; refine wpList_append_own _ rfl _ _ 27 rfl w.heap.size 3 i0 (.int .i64 0) 1 8 Try.underlying27 HI.out HZ0.out HZ1.out HZ2.out rfl (by decide) _ (Ls).length (rowI (Ls)) rfl (HOW.out.alloc _) ⟨wr.heap.size, 0, none⟩ 1 1 [.int .i64 (q : Int)] rfl rfl (fun j u hu => cells_new j u hu) (by simp [Value.oneCell']) (by unfold maxLen; omega) (by omega) (by have := BR.out.size; simp; omega) ?_; intro v5 w5 hown5 hgrow _)
            have hb5 : Below w.heap.size wr w5 := ((Below.refl _ _).alloc (by have := BR.out.size; omega) _).trans (own_below hgrow (by have := BR.out.size; simp; omega) (fun k' hk' => (own_lt HOW.out k' hk').1))
            have hO5 : OwnI w.heap.size w5 v5 (Ls ++ [(q : Int)]) := own_put hown5
            clear hgrow hown5
            rw [← e2.out] at hO5
            go_wp2_with fail
            go_roundw
            case rel => exact ⟨q + 1, by omega, by go_num, hin2, Lib.hid hO5, Lib.hid (BR.out.trans hb5)⟩
            case measure => simp [intOf]; omega
    · obtain rfl : q = 6 := by omega
      have hend := Lib.hid (END.out (HIN.out (by omega)))
      have HV := Lib.hid (HUV.out wo BR.out)
      go_wp2_with fail
      refine HV.out.mono ?_
      rintro e w2 ⟨rfl, b2⟩
      have O2 := HOW.out.keep b2
      have C2 := BR.out.trans (b2.mono BR.out.size)
      clear b2 HV
      cases uk
      · have e2 := Lib.hid (hend.out.trans (if_neg (by simp)))
        have C9 := C2.alloc C2.size (.cells #[] 3)
        have O9 : OwnI w.heap.size (w2.alloc (.cells #[] 3)) (.slice (some ⟨w2.heap.size, 0, none⟩) 0 0) [] := OwnI.zero C2.size
        clear hend
        go_wp2_with fail
        go_ret
        exact ⟨_, rfl, by rw [e2.out]; exact O9, C9⟩
      · have e2 := Lib.hid (hend.out.trans (if_pos rfl))
        rw [← e2.out] at O2
        clear hend
        go_wp2_with fail
        go_ret
        exact ⟨_, rfl, O2, C2⟩

end Go.Proofs.Ythlcjojhmhoadaa
