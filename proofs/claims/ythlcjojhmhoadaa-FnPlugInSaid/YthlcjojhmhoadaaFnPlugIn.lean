/-
  For every code of bytes the law on PlugIn (the model's answer; its plugs are valid, and no box without a plug can use a plug that nobody has) returns true and leaves its argument as it was. Conditions: none beyond the form's own reach.
-/
import Derived.Test.YthlcjojhmhoadaaRows
import Derived.Test.YthlcjojhmhoadaaGBase
import Derived.WalkKit
import Derived.ProofKit
import Derived.OpenShut
import Derived.ShutString
import Derived.ChangeOld
import Derived.Below
import Derived.Test.YthlcjojhmhoadaaGCr
import Derived.Test.YthlcjojhmhoadaaPgE
import Derived.Test.YthlcjojhmhoadaaPgF
import Derived.Test.YthlcjojhmhoadaaPgC
import Derived.Test.YthlcjojhmhoadaaPgT
import Derived.Test.YthlcjojhmhoadaaPgI
import Derived.Test.YthlcjojhmhoadaaSkMath
namespace Go.Proofs.Ythlcjojhmhoadaa.fnPlugIn
open Go.ChangeShapes Go.WideShapes Go.ChangeAt Go.RowKit
open Go.ChangeMaps (open_string shut_string)
set_option linter.unusedVariables false


/-- What the walk is told of a slice of integers that came in. -/
def IsRow (k : IntKind) (w : World) (a : Option Addr) (len cap : Nat) (zs : List Int) : Prop :=
  (a = none ∧ len = 0 ∧ cap = 0 ∧ zs = []) ∨
  ∃ x, a = some x ∧ len ≤ cap ∧ cap ≤ maxLen ∧ zs.length = cap ∧ (∀ i, i < zs.length → w.cell? (x.add i) = some (.int k (zs.getD i 0))) ∧ ∀ n ∈ zs, (Lit.int k n).wf = true

theorem plugI_sign {u : List (List Int)} (hu : usesOk u = true) {k : Nat} (hk : k < (plugI u).length) : (plugI u).getD k 0 = -1 ∨ 0 ≤ (plugI u).getD k 0 := by
  rw [getD_ps hk]
  exact (plugsOk_val (plugI_ok hu) _ (List.getElem_mem hk)).imp id fun h => h.1
set_option maxRecDepth 10000 in
set_option maxHeartbeats 4000000 in
theorem walk (a0 : Option Addr) (len0 cap0 : Nat) (w : World) (w0 : IsRow8 w a0 len0 cap0) :
    Calls Try.prog 5 #[.slice a0 len0 cap0] w fun e w' => e = .returned (.bool true) ∧ Below w.heap.size w w' := by
  have hm := row8_len w0
  unfold maxLen at hm
  by_cases hl : ¬ len0 ≤ 1048576
  · go_enter Try.func5, Try.ntmps5
    go_wp2
    go_ret
    exact ⟨rfl, Below.refl _ _⟩
  · have hl := Nat.not_lt.1 (fun h => hl (Nat.not_le.2 h))
    go_enter Try.func5, Try.ntmps5
    go_wp2_with fail
    refine (drawPlugIn_any a0 len0 cap0 w w0).mono ?_
    rintro e w1 ⟨u, ss, hl7, ha6, rfl, NY, hb⟩
    have hY := NY.holds
    obtain ⟨ua, uc, rfl⟩ := NY.form
    have YK := Lib.hid fun (w' : World) (hs : Below w1.heap.size w1 w') => hY.keep hs
    have CB := Lib.hid hb
    clear NY hb ha6 w0
    go_wp2_with fail
    refine (implPlugIn_any (.slice ua ss.length uc) ss w1 hY).mono ?_
    rintro e w2 ⟨v2, rfl, g2, d2⟩
    have gi := g2.holds
    obtain ⟨ia, ic, rfl⟩ := gi.form
    clear g2 hY
    go_wp2_with fail
    refine (specPlugIn_any _ ss w2 (YK.out w2 d2)).mono ?_
    rintro e w3 ⟨v3, rfl, n3, d3⟩
    have e3 := d2.trans (d3.mono d2.size)
    have gi := gi.keep d3
    clear d2 d3
    go_wp2_with fail
    refine (sameInts_yes _ _ (plugI ss) w3 gi n3).mono ?_
    rintro e w4 ⟨rfl, d4⟩
    have e4 := e3.trans (d4.mono e3.size)
    have gi := gi.keep d4
    clear d4 e3 n3
    go_wp2_with fail
    refine (specUsesValid_any _ ss w4 (YK.out w4 e4)).mono ?_
    rintro e w5 ⟨rfl, d5⟩
    have e5 := e4.trans (d5.mono e4.size)
    have gi := gi.keep d5
    clear d5 e4
    cases hok : usesOk ss
    · have hz : (plugI ss).length = 0 := by unfold plugI; rw [hok]; rfl
      have e0 : (((plugI ss).length : Int) == 0) = true := by rw [hz]; rfl
      have C9 := CB.out.trans (e5.mono CB.out.size)
      clear hz gi YK CB e5
      go_wp2_with fail
      refine (alive_yes _).mono ?_
      rintro e w' ⟨rfl, rfl⟩
      go_wp2_with fail
      go_ret
      exact ⟨rfl, C9⟩
    · have hpl := Lib.hid ((plugsOk_iff.1 (plugI_ok hok)).2.1)
      have FULL := Lib.hid fun k q (hk : k < ss.length) hn hq => plugI_full hok (k := k) (q := q) hk hn hq
      have SIGN := Lib.hid fun k hk => plugI_sign hok (k := k) hk
      have POK := Lib.hid (plugI_ok hok)
      have IK := Lib.hid fun (w' : World) (hs : Below w5.heap.size w5 w') => gi.keep hs
      have EK := Lib.hid e5
      obtain ⟨P, hP⟩ : ∃ P, P = plugI ss := ⟨_, rfl⟩
      rw [← hP] at hpl FULL SIGN POK IK ⊢
      clear gi e5 hP hok
      go_wp2_with fail
      go_loopw [5] (fun i wr => ∃ k : Nat, k ≤ P.length ∧ i = .int .i64 k ∧ Hid (Below w5.heap.size w5 wr)) (fun i _ => P.length - (intOf i).toNat)
      case atStart => exact ⟨0, by omega, rfl, Lib.hid (Below.refl _ _)⟩
      case round =>
        obtain ⟨k, hkn, rfl, BR⟩ := hrel
        have ER := Lib.hid (EK.out.trans (BR.out.mono EK.out.size))
        have hplc : P.length ≤ 7 := by have := hpl.out; omega
        by_cases hlt : k < P.length
        · have hks : k < ss.length := by have := hpl.out; omega
          obtain ⟨pb, po, rfl, hpbl, t0⟩ := (IK.out wr BR.out).at_ hlt
          obtain ⟨ub, uo, x, xc, rfl, hubl, s0, hxl, hxc, -, hx⟩ := (YK.out wr ER.out).at_ hks
          have ik : (k : Int) < (P.length : Int) := by omega
          have iks : (k : Int) < (ss.length : Int) := by omega
          have i0k : (0 : Int) ≤ (k : Int) := by omega
          have HAS := Lib.hid fun y => hasInt_any (.slice (some ⟨pb, po, none⟩) P.length ic) P y wr (IK.out wr BR.out)
          have FULLk := Lib.hid fun q hn hq => FULL.out k q hks hn hq
          have SIGNk := Lib.hid (SIGN.out k hlt)
          obtain ⟨y, hy⟩ : ∃ y, y = P.getD k 0 := ⟨_, rfl⟩
          rw [← hy] at t0 FULLk SIGNk
          obtain ⟨rw_, hrw⟩ : ∃ r, r = rowAt ss k := ⟨_, rfl⟩
          have HRW := Lib.hid (show ∀ j, j < rw_.length → rw_.getD j 0 ∈ useA ss k from fun j hj => by
            subst hrw
            rw [getD_ps hj]
            exact List.getElem_mem hj)
          rw [← hrw] at s0 hxl hx
          have HX := Lib.hid hx
          clear hy hrw hx
          go_wp2_with fail
          obtain ⟨wo, hwo⟩ : ∃ wo : World, wo = wr := ⟨_, rfl⟩
          go_loopw [6] (fun i wx => ∃ j : Nat, j ≤ rw_.length ∧ i = .int .i64 j ∧ wo = wx) (fun i _ => rw_.length - (intOf i).toNat)
          case atStart => exact ⟨0, by omega, rfl, hwo⟩
          case round =>
            obtain ⟨j, hjn, rfl, hww⟩ := hrel
            subst hwo
            subst hww
            by_cases hjt : j < rw_.length
            · obtain ⟨rb, ro, rfl, hrbl, r0⟩ := HX.out.at_ hjt
              have ij : (j : Int) < (rw_.length : Int) := by omega
              have i0j : (0 : Int) ≤ (j : Int) := by omega
              by_cases hyn : y < 0
              · have hmem := FULLk.out (rw_.getD j 0) (by rcases SIGNk.out with h | h <;> omega) (HRW.out j hjt)
                have HASj := HAS.out (rw_.getD j 0)
                rw [hasI_iffP.2 hmem] at HASj
                obtain ⟨z, hz⟩ : ∃ z, z = rw_.getD j 0 := ⟨_, rfl⟩
                rw [← hz] at r0 HASj
                have HASz := Lib.hid HASj
                clear HASj hmem hz
                go_wp2_with fail
                refine HASz.out.mono ?_
                rintro e w' ⟨rfl, rfl⟩
                go_wp2_with fail
                go_roundw
                case rel => exact ⟨j + 1, by omega, by go_num, by first | trivial | rfl⟩
                case measure => simp [intOf]; omega
              · clear r0
                go_wp2_with fail
                go_roundw
                case rel => exact ⟨k + 1, by omega, by go_num, BR⟩
                case measure => simp [intOf]; omega
            · obtain rfl : j = rw_.length := by omega
              go_wp2_with fail
              go_roundw
              case rel => exact ⟨k + 1, by omega, by go_num, BR⟩
              case measure => simp [intOf]; omega
        · obtain rfl : k = P.length := by omega
          have HV := Lib.hid (implPlugsValid_any (.slice ua ss.length uc) (.slice ia P.length ic) ss P wr (YK.out wr ER.out) (IK.out wr BR.out))
          rw [POK.out] at HV
          have C9 := Lib.hid (CB.out.trans (ER.out.mono CB.out.size))
          have L9 := Lib.hid (CB.out.trans (ER.out.mono CB.out.size)).size
          go_wp2_with fail
          refine HV.out.mono ?_
          rintro e w9 ⟨rfl, d9⟩
          go_wp2_with fail
          go_ret
          exact ⟨rfl, C9.out.trans (d9.mono L9.out)⟩

set_option maxRecDepth 100000 in
set_option maxHeartbeats 2000000 in
/-- What the walk gives, for every argument. -/
theorem contract (H : Type) (enc : TypeId × Value → H) (W : World) (base : Nat) (args : Array Value) (ds gs : List (DataW H)) (before : List MemPlace)
    (hval : ∀ (j : Nat) t v, Try.f5.params[j]? = some t → args[j]? = some v → Value.okWide Try.prog W .any base t v)
    (hW : DataW.Whole enc Try.prog Try.f5.params.toList Rows.fnPlugInSpec.vars false W args.toList ds gs before) :
    Calls Try.prog 5 args W fun e W' => ∃ v, e = .returned v ∧ Rows.fnPlugInSpec.post enc Try.prog Try.f5 false true false false W args v W' := by
  have hW' := hW
  obtain ⟨p, q, hA0, hV, rfl, hfz, hnd⟩ := hW
  have hA : DataW.TrodAll enc Try.prog W 0 (fun _ => true) true Try.f5.params.toList args.toList ds p := hA0
  rw [Try.params5] at hA hval
  obtain ⟨v0, vs0, d0, ds0, p0, q0, hargs, rfl, rfl, h0, r0⟩ := trodAll_cons hA
  obtain ⟨rfl, rfl, rfl⟩ := trodAll_nil r0
  obtain rfl : args = #[v0] := by cases args; simp_all
  obtain ⟨rfl, rfl⟩ := trodVars_none hV
  have k0 := h0
  have lt0 : ∀ x ∈ p0, x.block < W.heap.size := by obtain ⟨m, hm⟩ := k0; exact DataW.trod_lt m _ _ _ hm
  obtain ⟨a0, len0, cap0, rfl⟩ := okWide_slice Try.underlying22 (hval 0 22 v0 rfl rfl)
  obtain ⟨z0, x0⟩ : ∃ zs, IsRow .u8 W a0 len0 cap0 zs := by
    obtain ⟨fuel, hf⟩ := h0
    rcases open_ints Try.underlying22 Try.underlying5 (by kernel_rfl) hf with ⟨hcs, _⟩ | ⟨x, l, c, zs, hcs, _, hl, hm, hz, _, hcell, hwz⟩
    · simp [Value.cells] at hcs
      obtain ⟨rfl, rfl, rfl⟩ := hcs
      exact ⟨[], .inl ⟨rfl, rfl, rfl, rfl⟩⟩
    · simp [Value.cells] at hcs
      obtain ⟨rfl, rfl, rfl⟩ := hcs
      exact ⟨zs, .inr ⟨_, rfl, hl, hm, by simpa using hz, hcell, hwz⟩⟩
  clear hA0
  refine (walk a0 len0 cap0 W (row8_of x0)).mono fun e W' ⟨he, bel⟩ => ?_
  subst he
  exact ⟨_, rfl, _, _, _, [], _, [], hW', trodAll_mk1 (shut_bool Try.underlying4 _), (trodAll_cons_mk (Below.trod laidOut (by kernel_rfl) (of_decide_eq_true (by kernel_rfl)) k0 bel lt0) trodAll_mk0), rfl, bel.frame _, fun h => by cases h⟩

set_option maxRecDepth 100000 in
theorem lifted (os : Os) (started : os.Started) (H : Type) (enc : TypeId × Value → H) :
    ReturnsInHanded {} Try.checked os 5 .any (Rows.fnPlugInSpec.pre6 enc Try.prog Try.f5 Rows.fnPlugInRow.domain false) (Rows.fnPlugInSpec.post enc Try.prog Try.f5 false true false false) := by
  refine returnsInHanded_of_change (C := Try.checked) own started (by kernel_rfl) Try.func5
    (ChangeSpec.witness6 (enc := enc) (C := Try.checked) false ⟨#[], #[.slice none 0 0], []⟩ 8 (by kernel_rfl) (by kernel_rfl) (by kernel_rfl) (by kernel_rfl)) ?_
  intro W base args ds gs before hval hW _ _
  exact contract H enc W base args ds gs before hval hW

theorem proved : Rows.FnPlugInSaid :=
  OpenClaim.holds_of_wide 5 Try.f5 rfl rfl rfl rfl rfl rfl rfl ⟨rfl, rfl, rfl, rfl, rfl⟩ rfl rfl rfl rfl rfl (by kernel_rfl) Try.func5 (by kernel_rfl)
    (of_decide_eq_true (by kernel_rfl)) (by unfold Func.isWrapper; first | (rw [if_pos (by decide +kernel)]; kernel_rfl) | (rw [if_neg (by decide +kernel)]; exact ⟨rfl, rfl⟩))
    (fun os started H enc _ => lifted os started H enc)
#print axioms proved
end Go.Proofs.Ythlcjojhmhoadaa.fnPlugIn
