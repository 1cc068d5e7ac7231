/-
  For every code of bytes the law on PlugsValid (the model's answer; with any one plug pulled, plugs are valid; no more are plugged in than PlugMany) returns true and leaves its argument as it was. Conditions: none beyond the form's own reach.
-/
import Derived.Test.YthlcjojhmhoadaaRows
import Derived.Test.YthlcjojhmhoadaaGBase
import Derived.WalkKit
import Derived.ProofKit
import Derived.OpenShut
import Derived.ShutString
import Derived.ChangeOld
import Derived.Below
import Derived.Test.YthlcjojhmhoadaaGCr
import Derived.Test.YthlcjojhmhoadaaPgE
import Derived.Test.YthlcjojhmhoadaaPgF
import Derived.Test.YthlcjojhmhoadaaPgC
import Derived.Test.YthlcjojhmhoadaaPgT
import Derived.Test.YthlcjojhmhoadaaPgI
import Derived.Test.YthlcjojhmhoadaaSkMath
namespace Go.Proofs.Ythlcjojhmhoadaa.fnPlugsValid
open Go.ChangeShapes Go.WideShapes Go.ChangeAt Go.RowKit
open Go.ChangeMaps (open_string shut_string)
set_option linter.unusedVariables false


/-- What the walk is told of a slice of integers that came in. -/
def IsRow (k : IntKind) (w : World) (a : Option Addr) (len cap : Nat) (zs : List Int) : Prop :=
  (a = none ∧ len = 0 ∧ cap = 0 ∧ zs = []) ∨
  ∃ x, a = some x ∧ len ≤ cap ∧ cap ≤ maxLen ∧ zs.length = cap ∧ (∀ i, i < zs.length → w.cell? (x.add i) = some (.int k (zs.getD i 0))) ∧ ∀ n ∈ zs, (Lit.int k n).wf = true

set_option maxRecDepth 10000 in
set_option maxHeartbeats 4000000 in
theorem walk (a0 : Option Addr) (len0 cap0 : Nat) (w : World) (w0 : IsRow8 w a0 len0 cap0) :
    Calls Try.prog 4 #[.slice a0 len0 cap0] w fun e w' => e = .returned (.bool true) ∧ Below w.heap.size w w' := by
  have hm := row8_len w0
  unfold maxLen at hm
  by_cases hl : ¬ len0 ≤ 1048576
  · go_enter Try.func4, Try.ntmps4
    go_wp2
    go_ret
    exact ⟨rfl, Below.refl _ _⟩
  · have hl := Nat.not_lt.1 (fun h => hl (Nat.not_le.2 h))
    go_enter Try.func4, Try.ntmps4
    go_wp2_with fail
    obtain ⟨i0, hi, hz0, hz1, hz2⟩ := info_parts infoInt
    have HI := Lib.hid hi
    have HZ0 := Lib.hid hz0
    have HZ1 := Lib.hid hz1
    have HZ2 := Lib.hid hz2
    clear hi hz0 hz1 hz2
    refine (drawPlugsValid_any a0 len0 cap0 w w0).mono ?_
    rintro e w1 ⟨u, ss, v, ps, hl7, ha6, hp8, he, NY, OW, hb⟩
    subst he
    have hY := NY.holds
    have hV := OW.holds
    obtain ⟨ua, uc, rfl⟩ := NY.form
    obtain ⟨va, vc, rfl⟩ := hV.form
    have YK := Lib.hid fun (w' : World) (hs : Below w1.heap.size w1 w') => hY.keep hs
    have VK := Lib.hid fun (w' : World) (hs : Below w1.heap.size w1 w') => hV.keep hs
    have CB := Lib.hid hb
    have HIM := Lib.hid (implPlugsValid_any (.slice ua ss.length uc) (.slice va ps.length vc) ss ps w1 hY hV)
    have HSP := Lib.hid fun (w' : World) (hs : Below w1.heap.size w1 w') => specPlugsValid_any (.slice ua ss.length uc) (.slice va ps.length vc) ss ps w' (hY.keep hs) (hV.keep hs)
    clear NY OW hb ha6 w0 hY hV
    cases hok : plugsOk ss ps
    · rw [hok] at HIM HSP
      clear hok
      go_wp2_with fail
      refine HIM.out.mono ?_
      rintro e w2 ⟨rfl, d2⟩
      have HSP2 := Lib.hid (HSP.out w2 d2)
      have D2 := Lib.hid d2
      clear HIM HSP d2
      go_wp2_with fail
      refine HSP2.out.mono ?_
      rintro e w5 ⟨rfl, d3⟩
      have EK := Lib.hid (D2.out.trans (d3.mono D2.out.size))
      clear HSP2 D2 d3
      go_wp2_with fail
      refine (alive_yes _).mono ?_
      rintro e w' ⟨rfl, rfl⟩
      go_wp2_with fail
      go_ret
      exact ⟨rfl, CB.out.trans (EK.out.mono CB.out.size)⟩
    · rw [hok] at HIM HSP
      have PULL := Lib.hid fun k (hk : k < ps.length) => plugsOk_pull hok hk
      have hle : ((manyP ps : Nat) : Int) ≤ plugM ss := by
        have h1 := plugI_most hok
        have : plugM ss = ((manyP (plugI ss) : Nat) : Int) := by unfold plugM; rw [if_pos (plugsOk_iff.1 hok).1]
        omega
      have HPM := Lib.hid fun (w' : World) (h : HoldsY w' (.slice ua ss.length uc) ss) => implPlugMany_any _ ss w' h
      obtain ⟨pm, hpm⟩ : ∃ x, x = plugM ss := ⟨_, rfl⟩
      rw [← hpm] at hle HPM
      have MN := Lib.hid fun k (hk : k < ps.length) => (show manyP (ps.take (k + 1)) = manyP (ps.take k) + if 0 ≤ ps.getD k 0 then 1 else 0 from by
        rw [← List.take_append_getElem hk, manyP_app, getD_ps hk]
        congr 1
        rw [manyP_cons]; rfl)
      have ML := Lib.hid fun k => (show manyP (ps.take k) ≤ 8 from by
        have h1 : manyP (ps.take k) ≤ (ps.take k).length := List.length_filter_le _ _
        rw [List.length_take] at h1
        omega)
      have MA := Lib.hid (show ps.take ps.length = ps from List.take_length)
      clear hok hpm
      go_wp2_with fail
      refine HIM.out.mono ?_
      rintro e w2 ⟨rfl, d2⟩
      have HSP2 := Lib.hid (HSP.out w2 d2)
      have D2 := Lib.hid d2
      clear HIM HSP d2
      go_wp2_with fail
      refine HSP2.out.mono ?_
      rintro e w5 ⟨rfl, d3⟩
      have EK := Lib.hid (D2.out.trans (d3.mono D2.out.size))
      clear HSP2 D2 d3
      go_wp2_with fail
      go_loopw [6, 7] (fun nv i wr => ∃ (k m : Nat), k ≤ ps.length ∧ nv = .int .i64 m ∧ Hid (m = manyP (ps.take k)) ∧ i = .int .i64 k ∧ Hid (Below w5.heap.size w5 wr)) (fun _ i _ => ps.length - (intOf i).toNat)
      case atStart => exact ⟨0, 0, by omega, rfl, Lib.hid (by rw [List.take_zero]; rfl), rfl, Lib.hid (Below.refl _ _)⟩
      case round =>
        obtain ⟨k, m, hkn, rfl, HME, rfl, BR⟩ := hrel
        have ER := Lib.hid (EK.out.trans (BR.out.mono EK.out.size))
        have hm8 : m ≤ 8 := by have := HME.out; have := ML.out k; omega
        by_cases hlt : k < ps.length
        · obtain ⟨pb, po, rfl, hpbl, t0⟩ := (VK.out wr ER.out).at_ hlt
          have ik : (k : Int) < (ps.length : Int) := by omega
          have i0k : (0 : Int) ≤ (k : Int) := by omega
          have MNk := Lib.hid (MN.out k hlt)
          have NEWS := Lib.hid fun (w' : World) (hs : Since wr w') => HoldsI.rowA ((VK.out wr ER.out).keep hs)
          have HSA := Lib.hid (show Since wr (wr.alloc (.cells #[] 3)) from Since.alloc (Below.refl _ _) _)
          have HO0 := Lib.hid (show (wr.alloc (.cells #[] 3)).ownsRow wr.heap.size 3 1 (.slice (some ⟨wr.heap.size, 0, none⟩) 0 0) 0 [] from own_zero (Nat.le_refl _) (heap_alloc_new _ _))
          obtain ⟨y, hy⟩ : ∃ y, y = ps.getD k 0 := ⟨_, rfl⟩
          rw [← hy] at t0 MNk
          clear hy
          by_cases hy0 : 0 ≤ y
          · rw [if_pos hy0] at MNk
            have MM := Lib.hid (show m + 1 = manyP (ps.take (k + 1)) from by have := MNk.out; have := HME.out; omega)
            clear MNk
            go_wp2_with (at_builtin; refine wpList_append_own _ rfl _ _ 27 rfl wr.heap.size 3 i0 (.int .i64 0) 1 8 Try.underlying27 HI.out HZ0.out HZ1.out HZ2.out rfl (by decide) _ 0 [] rfl HO0.out ⟨pb, po, none⟩ ps.length vc (rowI ps) rfl (by rw [rowI_len, Nat.mul_one]) (NEWS.out _ HSA.out) (rowI_one _) (by unfold maxLen; omega) (by omega) (by simp) ?_; intro v6 w6 hown6 hgrow _; rw [Nat.zero_add, List.nil_append] at hown6; obtain ⟨g6, c6, rfl, hc6, hm6⟩ := own_form hown6 (by omega); obtain ⟨g6', eg, _, hKg, hgl, _, _, cg0, fg⟩ := own_cell hown6 hlt; cases eg; have cg : w6.cell? ⟨g6, k, none⟩ = some (.int .i64 ps[k]) := cg0.trans (by simp [rowI, hlt]); clear cg0; have S6 : Since wr w6 := Since.on HSA.out (own_below hgrow (by simp) (fun k' hk' => (own_lt HO0.out k' hk').1)); have OS := OwnI.set (K := wr.heap.size) hown6 hlt (-1); have S7 : Since wr (w6.setCell ⟨g6, k, none⟩ (.int .i64 (-1))) := Below.setCell S6 (p := ⟨g6, k, none⟩) hKg _; have HS7 := Lib.hid S7; have HOS := Lib.hid OS.holds; unfold maxLen at hm6; clear hown6 hgrow S6 S7 OS)
            have HE7 := Lib.hid (ER.out.trans (Below.mono HS7.out ER.out.size))
            have HV := Lib.hid (implPlugsValid_any (.slice ua ss.length uc) (.slice (some ⟨g6, 0, none⟩) ps.length c6) ss (ps.set k (-1)) _ (YK.out _ HE7.out) HOS.out)
            rw [PULL.out k hlt] at HV
            have HB7 := Lib.hid (BR.out.trans (Below.mono HS7.out BR.out.size))
            clear HOS NEWS HSA HO0
            go_wp2_with fail
            refine HV.out.mono ?_
            rintro e w9 ⟨rfl, d9⟩
            have HB9 := Lib.hid (HB7.out.trans (d9.mono HB7.out.size))
            clear d9 HV
            go_wp2_with fail
            go_roundw
            case rel => exact ⟨k + 1, m + 1, by omega, by go_num, MM, by go_num, HB9⟩
            case measure => simp [intOf]; omega
          · rw [if_neg hy0] at MNk
            have MM := Lib.hid (show m = manyP (ps.take (k + 1)) from by have := MNk.out; have := HME.out; omega)
            clear MNk
            go_wp2_with (at_builtin; refine wpList_append_own _ rfl _ _ 27 rfl wr.heap.size 3 i0 (.int .i64 0) 1 8 Try.underlying27 HI.out HZ0.out HZ1.out HZ2.out rfl (by decide) _ 0 [] rfl HO0.out ⟨pb, po, none⟩ ps.length vc (rowI ps) rfl (by rw [rowI_len, Nat.mul_one]) (NEWS.out _ HSA.out) (rowI_one _) (by unfold maxLen; omega) (by omega) (by simp) ?_; intro v6 w6 hown6 hgrow _; rw [Nat.zero_add, List.nil_append] at hown6; obtain ⟨g6, c6, rfl, hc6, hm6⟩ := own_form hown6 (by omega); obtain ⟨g6', eg, _, hKg, hgl, _, _, cg0, fg⟩ := own_cell hown6 hlt; cases eg; have cg : w6.cell? ⟨g6, k, none⟩ = some (.int .i64 ps[k]) := cg0.trans (by simp [rowI, hlt]); clear cg0; have S6 : Since wr w6 := Since.on HSA.out (own_below hgrow (by simp) (fun k' hk' => (own_lt HO0.out k' hk').1)); have OS := OwnI.set (K := wr.heap.size) hown6 hlt (-1); have S7 : Since wr (w6.setCell ⟨g6, k, none⟩ (.int .i64 (-1))) := Below.setCell S6 (p := ⟨g6, k, none⟩) hKg _; have HS7 := Lib.hid S7; have HOS := Lib.hid OS.holds; unfold maxLen at hm6; clear hown6 hgrow S6 S7 OS)
            have HE7 := Lib.hid (ER.out.trans (Below.mono HS7.out ER.out.size))
            have HV := Lib.hid (implPlugsValid_any (.slice ua ss.length uc) (.slice (some ⟨g6, 0, none⟩) ps.length c6) ss (ps.set k (-1)) _ (YK.out _ HE7.out) HOS.out)
            rw [PULL.out k hlt] at HV
            have HB7 := Lib.hid (BR.out.trans (Below.mono HS7.out BR.out.size))
            clear HOS NEWS HSA HO0
            go_wp2_with fail
            refine HV.out.mono ?_
            rintro e w9 ⟨rfl, d9⟩
            have HB9 := Lib.hid (HB7.out.trans (d9.mono HB7.out.size))
            clear d9 HV
            go_wp2_with fail
            go_roundw
            case rel => exact ⟨k + 1, m, by omega, by go_num, MM, by go_num, HB9⟩
            case measure => simp [intOf]; omega
        · obtain rfl : k = ps.length := by omega
          have HV := Lib.hid (HPM.out wr (YK.out wr ER.out))
          have hmm : (m : Int) ≤ pm := by have := HME.out; rw [MA.out] at this; omega
          have C9 := Lib.hid (CB.out.trans (ER.out.mono CB.out.size))
          have L9 := Lib.hid (CB.out.trans (ER.out.mono CB.out.size)).size
          clear HPM
          go_wp2_with fail
          refine HV.out.mono ?_
          rintro e w9 ⟨rfl, d9⟩
          go_wp2_with fail
          go_ret
          exact ⟨by first | (simp; done) | simpa using hmm, C9.out.trans (d9.mono L9.out)⟩

set_option maxRecDepth 100000 in
set_option maxHeartbeats 2000000 in
/-- What the walk gives, for every argument. -/
theorem contract (H : Type) (enc : TypeId × Value → H) (W : World) (base : Nat) (args : Array Value) (ds gs : List (DataW H)) (before : List MemPlace)
    (hval : ∀ (j : Nat) t v, Try.f4.params[j]? = some t → args[j]? = some v → Value.okWide Try.prog W .any base t v)
    (hW : DataW.Whole enc Try.prog Try.f4.params.toList Rows.fnPlugsValidSpec.vars false W args.toList ds gs before) :
    Calls Try.prog 4 args W fun e W' => ∃ v, e = .returned v ∧ Rows.fnPlugsValidSpec.post enc Try.prog Try.f4 false true false false W args v W' := by
  have hW' := hW
  obtain ⟨p, q, hA0, hV, rfl, hfz, hnd⟩ := hW
  have hA : DataW.TrodAll enc Try.prog W 0 (fun _ => true) true Try.f4.params.toList args.toList ds p := hA0
  rw [Try.params4] at hA hval
  obtain ⟨v0, vs0, d0, ds0, p0, q0, hargs, rfl, rfl, h0, r0⟩ := trodAll_cons hA
  obtain ⟨rfl, rfl, rfl⟩ := trodAll_nil r0
  obtain rfl : args = #[v0] := by cases args; simp_all
  obtain ⟨rfl, rfl⟩ := trodVars_none hV
  have k0 := h0
  have lt0 : ∀ x ∈ p0, x.block < W.heap.size := by obtain ⟨m, hm⟩ := k0; exact DataW.trod_lt m _ _ _ hm
  obtain ⟨a0, len0, cap0, rfl⟩ := okWide_slice Try.underlying22 (hval 0 22 v0 rfl rfl)
  obtain ⟨z0, x0⟩ : ∃ zs, IsRow .u8 W a0 len0 cap0 zs := by
    obtain ⟨fuel, hf⟩ := h0
    rcases open_ints Try.underlying22 Try.underlying5 (by kernel_rfl) hf with ⟨hcs, _⟩ | ⟨x, l, c, zs, hcs, _, hl, hm, hz, _, hcell, hwz⟩
    · simp [Value.cells] at hcs
      obtain ⟨rfl, rfl, rfl⟩ := hcs
      exact ⟨[], .inl ⟨rfl, rfl, rfl, rfl⟩⟩
    · simp [Value.cells] at hcs
      obtain ⟨rfl, rfl, rfl⟩ := hcs
      exact ⟨zs, .inr ⟨_, rfl, hl, hm, by simpa using hz, hcell, hwz⟩⟩
  clear hA0
  refine (walk a0 len0 cap0 W (row8_of x0)).mono fun e W' ⟨he, bel⟩ => ?_
  subst he
  exact ⟨_, rfl, _, _, _, [], _, [], hW', trodAll_mk1 (shut_bool Try.underlying4 _), (trodAll_cons_mk (Below.trod laidOut (by kernel_rfl) (of_decide_eq_true (by kernel_rfl)) k0 bel lt0) trodAll_mk0), rfl, bel.frame _, fun h => by cases h⟩

set_option maxRecDepth 100000 in
theorem lifted (os : Os) (started : os.Started) (H : Type) (enc : TypeId × Value → H) :
    ReturnsInHanded {} Try.checked os 4 .any (Rows.fnPlugsValidSpec.pre6 enc Try.prog Try.f4 Rows.fnPlugsValidRow.domain false) (Rows.fnPlugsValidSpec.post enc Try.prog Try.f4 false true false false) := by
  refine returnsInHanded_of_change (C := Try.checked) own started (by kernel_rfl) Try.func4
    (ChangeSpec.witness6 (enc := enc) (C := Try.checked) false ⟨#[], #[.slice none 0 0], []⟩ 8 (by kernel_rfl) (by kernel_rfl) (by kernel_rfl) (by kernel_rfl)) ?_
  intro W base args ds gs before hval hW _ _
  exact contract H enc W base args ds gs before hval hW

theorem proved : Rows.FnPlugsValidSaid :=
  OpenClaim.holds_of_wide 4 Try.f4 rfl rfl rfl rfl rfl rfl rfl ⟨rfl, rfl, rfl, rfl, rfl⟩ rfl rfl rfl rfl rfl (by kernel_rfl) Try.func4 (by kernel_rfl)
    (of_decide_eq_true (by kernel_rfl)) (by unfold Func.isWrapper; first | (rw [if_pos (by decide +kernel)]; kernel_rfl) | (rw [if_neg (by decide +kernel)]; exact ⟨rfl, rfl⟩))
    (fun os started H enc _ => lifted os started H enc)
#print axioms proved
end Go.Proofs.Ythlcjojhmhoadaa.fnPlugsValid
