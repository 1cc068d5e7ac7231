/-
  For every code of bytes the law on PlugMany (the model's answer; for every set of boxes, at most all but as many are plugged in as they are more than the plugs that they can use; and for one set it is exactly so many) returns true and leaves its argument as it was. Conditions: none beyond the form's own reach.
-/
import Derived.Test.YthlcjojhmhoadaaRows
import Derived.Test.YthlcjojhmhoadaaGBase
import Derived.WalkKit
import Derived.ProofKit
import Derived.OpenShut
import Derived.ShutString
import Derived.ChangeOld
import Derived.Below
import Derived.Test.YthlcjojhmhoadaaGCr
import Derived.Test.YthlcjojhmhoadaaPgE
import Derived.Test.YthlcjojhmhoadaaPgF
import Derived.Test.YthlcjojhmhoadaaPgC
import Derived.Test.YthlcjojhmhoadaaPgT
import Derived.Test.YthlcjojhmhoadaaPgS
import Derived.Test.YthlcjojhmhoadaaPgI
import Derived.Test.YthlcjojhmhoadaaGLm
import Derived.Test.YthlcjojhmhoadaaSkMath
namespace Go.Proofs.Ythlcjojhmhoadaa.fnPlugMany
open Go.ChangeShapes Go.WideShapes Go.ChangeAt Go.RowKit
open Go.ChangeMaps (open_string shut_string)
set_option linter.unusedVariables false


/-- What the walk is told of a slice of integers that came in. -/
def IsRow (k : IntKind) (w : World) (a : Option Addr) (len cap : Nat) (zs : List Int) : Prop :=
  (a = none ∧ len = 0 ∧ cap = 0 ∧ zs = []) ∨
  ∃ x, a = some x ∧ len ≤ cap ∧ cap ≤ maxLen ∧ zs.length = cap ∧ (∀ i, i < zs.length → w.cell? (x.add i) = some (.int k (zs.getD i 0))) ∧ ∀ n ∈ zs, (Lit.int k n).wf = true

theorem plugO_some {u : List (List Int)} (hu : usesOk u = true) (s : Nat) : plugO u (someS s u.length) = plugN u (someS s u.length) := by
  have hc : ∀ k, k < (someS s u.length).length → 0 ≤ (someS s u.length).getD k 0 ∧ (someS s u.length).getD k 0 < (u.length : Int) := fun k hk => by
    rw [getD_ps hk]
    obtain ⟨j, h1, -, h2⟩ := someS_mem.1 (List.getElem_mem hk)
    rw [h2]
    omega
  exact if_pos ⟨hu, hc⟩
theorem someS_next (s k : Nat) : someS s (k + 1) = if s.testBit k = true then someS s k ++ [(k : Int)] else someS s k := by
  unfold someS
  rw [List.range_succ, List.filter_append]
  by_cases h : s.testBit k = true
  · rw [if_pos h]; simp [h]
  · rw [if_neg h]; simp [h]
theorem someS_len (s k : Nat) : (someS s k).length ≤ k := by
  unfold someS
  rw [List.length_map]
  exact Nat.le_trans (List.length_filter_le _ _) (by rw [List.length_range]; omega)
theorem plugN_len (u : List (List Int)) (some : List Int) : (plugN u some).length ≤ 6 := by
  unfold plugN
  exact Nat.le_trans (List.length_filter_le _ _) (by simp)
def exP (g : Nat → Bool) (s : Nat) : Bool := (List.range s).any g
theorem exP_next (g : Nat → Bool) (s : Nat) : exP g (s + 1) = (exP g s || g s) := by unfold exP; rw [List.range_succ, List.any_append]; simp
theorem exP_yes {g : Nat → Bool} {s m : Nat} (h : g s = true) (hs : s < m) : exP g m = true := by unfold exP; rw [List.any_eq_true]; exact ⟨s, List.mem_range.2 hs, h⟩
set_option maxRecDepth 10000 in
set_option maxHeartbeats 4000000 in
theorem walk (a0 : Option Addr) (len0 cap0 : Nat) (w : World) (w0 : IsRow8 w a0 len0 cap0) :
    Calls Try.prog 6 #[.slice a0 len0 cap0] w fun e w' => e = .returned (.bool true) ∧ Below w.heap.size w w' := by
  have hm := row8_len w0
  unfold maxLen at hm
  by_cases hl : ¬ len0 ≤ 1048576
  · go_enter Try.func6, Try.ntmps6
    go_wp2
    go_ret
    exact ⟨rfl, Below.refl _ _⟩
  · have hl := Nat.not_lt.1 (fun h => hl (Nat.not_le.2 h))
    go_enter Try.func6, Try.ntmps6
    go_wp2_with fail
    obtain ⟨i0, hi, hz0, hz1, hz2⟩ := info_parts infoInt
    have HI := Lib.hid hi
    have HZ0 := Lib.hid hz0
    have HZ1 := Lib.hid hz1
    have HZ2 := Lib.hid hz2
    clear hi hz0 hz1 hz2
    refine (drawPlugMany_any a0 len0 cap0 w w0).mono ?_
    rintro e w1 ⟨u, ss, hl7, ha6, rfl, NY, hb⟩
    have hY := NY.holds
    obtain ⟨ua, uc, rfl⟩ := NY.form
    have YK := Lib.hid fun (w' : World) (hs : Below w1.heap.size w1 w') => hY.keep hs
    have CB := Lib.hid hb
    clear NY hb ha6 w0
    have HIM := Lib.hid (implPlugMany_any (.slice ua ss.length uc) ss w1 hY)
    have HSP := Lib.hid fun (w' : World) (hs : Below w1.heap.size w1 w') => specPlugMany_any (.slice ua ss.length uc) ss w' (hY.keep hs)
    clear hY
    cases hok : usesOk ss
    · have e0 : plugM ss = -1 := by unfold plugM; rw [hok]; rfl
      rw [e0] at HIM HSP
      clear hok e0
      go_wp2_with fail
      refine HIM.out.mono ?_
      rintro e w2 ⟨rfl, d2⟩
      have HSP2 := Lib.hid (HSP.out w2 d2)
      have D2 := Lib.hid d2
      clear HIM HSP d2
      go_wp2_with fail
      refine HSP2.out.mono ?_
      rintro e w3 ⟨rfl, d3⟩
      have C9 := CB.out.trans ((D2.out.trans (d3.mono D2.out.size)).mono CB.out.size)
      clear HSP2 D2 d3
      go_wp2_with fail
      refine (alive_yes _).mono ?_
      rintro e w' ⟨rfl, rfl⟩
      go_wp2_with fail
      go_ret
      exact ⟨rfl, C9⟩
    · have hN6 := (usesOk_iff.1 hok).1
      have MOST := Lib.hid fun s => plugM_most hok s
      obtain ⟨s0, hs0, hex⟩ := plugM_exact hok
      have POS := Lib.hid fun s => plugO_some hok s
      have SLN := Lib.hid fun s k => someS_len s k
      have SNX := Lib.hid fun s k => someS_next s k
      have PNL := Lib.hid fun s => plugN_len ss (someS s ss.length)
      have HPO := Lib.hid fun (s : Nat) (v : Value) (w' : World) (hs : Below w1.heap.size w1 w') (hq : HoldsI w' v (someS s ss.length)) => (plugO_some hok s) ▸ implPlugsOf_any (.slice ua ss.length uc) v ss (someS s ss.length) w' (YK.out w' hs) hq (by unfold someS; rw [List.length_map]; exact Nat.le_trans (List.length_filter_le _ _) (by rw [List.length_range]; omega))
      have hpm0 : -1 ≤ plugM ss ∧ plugM ss ≤ 100 ∧ 0 ≤ plugM ss := by
        have h1 := MOST.out s0
        have h2 := PNL.out s0
        have h3 : plugM ss = ((manyP (plugI ss) : Nat) : Int) := by unfold plugM; rw [if_pos hok]
        omega
      obtain ⟨pm, hpm⟩ : ∃ x, x = plugM ss := ⟨_, rfl⟩
      rw [← hpm] at HIM HSP MOST hex hpm0
      obtain ⟨N, hN⟩ : ∃ N, N = ss.length := ⟨_, rfl⟩
      rw [← hN] at HIM HSP MOST hex POS PNL HPO YK hl7 hs0 hN6 ⊢
      have hsh := shl_val (m := N) (by omega)
      have hM64 : 2 ^ N ≤ 2 ^ 6 := Nat.pow_le_pow_right (by omega) hN6
      obtain ⟨M, hMM⟩ : ∃ M : Nat, M = 2 ^ N := ⟨_, rfl⟩
      rw [← hMM] at hsh hs0 hM64
      have hM : M ≤ 64 := hM64
      obtain ⟨mst, hmst⟩ : ∃ mst : Nat → Int, mst = fun s => (N : Int) - ((someS s N).length : Int) + ((plugN ss (someS s N)).length : Int) := ⟨_, rfl⟩
      have HMS := Lib.hid fun s => (show mst s = (N : Int) - ((someS s N).length : Int) + ((plugN ss (someS s N)).length : Int) from by rw [hmst])
      obtain ⟨g, hg⟩ : ∃ g : Nat → Bool, g = fun s => decide (pm = mst s) := ⟨_, rfl⟩
      have GV := Lib.hid fun s => (show g s = (pm == mst s) from by rw [hg]; rfl)
      have GNX := Lib.hid fun s => exP_next g s
      have GEND := Lib.hid (show exP g M = true from exP_yes (s := s0) (by rw [hg, hmst]; exact decide_eq_true (show pm = (N : Int) - ((someS s0 N).length : Int) + ((plugN ss (someS s0 N)).length : Int) from by omega)) hs0)
      have G0 : exP g 0 = false := rfl
      have hxx : (pm != pm) = false := by simp
      have hx0 : decide (pm < 0) = false := decide_eq_false (by omega)
      have im64 : (N : Int) ≤ 64 := by omega
      clear hok hpm hN hMM hM64 hs0 hex hmst hg
      go_wp2_with fail
      refine HIM.out.mono ?_
      rintro e w2 ⟨rfl, d2⟩
      have HSP2 := Lib.hid (HSP.out w2 d2)
      have D2 := Lib.hid d2
      clear HIM HSP d2
      go_wp2_with fail
      refine HSP2.out.mono ?_
      rintro e w3 ⟨rfl, d3⟩
      have D3 := Lib.hid (D2.out.trans (d3.mono D2.out.size))
      clear HSP2 D2 d3
      go_wp2_with fail
      go_loopw [5, 6] (fun ex sv wr => ∃ s : Nat, s ≤ M ∧ ex = .bool (exP g s) ∧ sv = .int .i64 s ∧ Hid (Below w1.heap.size w1 wr)) (fun _ sv _ => M - (intOf sv).toNat)
      case atStart => exact ⟨0, by omega, by rw [G0], rfl, D3⟩
      case round =>
        clear G0 D3
        obtain ⟨s, hsM, rfl, rfl, DO⟩ := hrel
        obtain ⟨wo, rfl⟩ : ∃ wo : World, wo = wr := ⟨_, rfl⟩
        by_cases hlt : s < M
        · have is : (s : Int) < (M : Int) := by omega
          have O0 := Lib.hid (show OwnI wo.heap.size (wo.alloc (.cells #[] 3)) (.slice (some ⟨wo.heap.size, 0, none⟩) 0 0) (someS s 0) from OwnI.zero (Nat.le_refl _))
          have B0 := Lib.hid (show Below wo.heap.size wo (wo.alloc (.cells #[] 3)) from (Below.refl _ _).alloc (Nat.le_refl _) _)
          go_wp2_with fail
          go_loopw [7, 8] (fun va kv w2 => ∃ k : Nat, k ≤ N ∧ kv = .int .i64 k ∧ Hid (OwnI wo.heap.size w2 va (someS s k)) ∧ Hid (Below wo.heap.size wo w2)) (fun _ kv _ => N - (intOf kv).toNat)
          case atStart => exact ⟨0, by omega, rfl, O0, B0⟩
          case round =>
            clear O0 B0
            obtain ⟨k, hkN, rfl, HO, BI⟩ := hrel
            by_cases hltk : k < N
            · have ik : (k : Int) < (N : Int) := by omega
              have i0k : (0 : Int) ≤ (k : Int) := by omega
              have ik64 : (k : Int) ≤ 64 := by omega
              have bv := bit_val s k
              have bv2 := bit_val2 s k
              have HNk := Lib.hid (SNX.out s k)
              cases hbk : s.testBit k
              · rw [hbk, if_neg (by simp)] at bv bv2
                have HN2 := Lib.hid (HNk.out.trans (if_neg (by rw [hbk]; simp)))
                clear hbk HNk
                go_wp2_with fail
                go_roundw
                case rel => exact ⟨k + 1, by omega, by go_num, by rw [HN2.out]; exact HO, BI⟩
                case measure => simp [intOf]; omega
              · rw [hbk, if_pos rfl] at bv bv2
                have HNk := Lib.hid (HNk.out.trans (if_pos hbk))
                clear hbk
                have hzW : wo.heap.size ≤ wr.heap.size := BI.out.size
                have hle := SLN.out s k
                obtain ⟨L, hL⟩ : ∃ L, L = someS s k := ⟨_, rfl⟩
                rw [← hL] at HO hle HNk
                clear hL
                go_wp2_with (at_builtin; refine wpList_append_own _ rfl _ _ 27 rfl wo.heap.size 3 i0 (.int .i64 0) 1 8 Try.underlying27 HI.out HZ0.out HZ1.out HZ2.out rfl (by decide) _ L.length (rowI L) rfl (HO.out.alloc _) ⟨wr.heap.size, 0, none⟩ 1 1 [.int .i64 (k : Int)] rfl rfl (fun j u hu => cells_new j u hu) (by simp [Value.oneCell']) (by unfold maxLen; omega) (by omega) (by simp; omega) ?_; intro v8 w8 hown8 hgrow _)
                have hb8 : Below wo.heap.size wr w8 := ((Below.refl _ _).alloc hzW _).trans (own_below hgrow (by simp; omega) (fun k' hk' => (own_lt HO.out k' hk').1))
                have HO8 := Lib.hid (show OwnI wo.heap.size w8 v8 (L ++ [(k : Int)]) from own_put hown8)
                have B8 := Lib.hid (BI.out.trans hb8)
                clear hgrow hown8 hb8
                go_roundw
                case rel => exact ⟨k + 1, by omega, by go_num, by rw [HNk.out]; exact HO8, B8⟩
                case measure => simp [intOf]; omega
            · obtain rfl : k = N := by omega
              have ER := Lib.hid (DO.out.trans (BI.out.mono DO.out.size))
              have hh := HO.out.holds
              obtain ⟨va, vc, rfl⟩ := hh.form
              have HPs := Lib.hid (HPO.out s _ wr ER.out hh)
              have h1 := SLN.out s k
              have h2 := PNL.out s
              have hm1 := MOST.out s
              have hms := HMS.out s
              have hgv := GV.out s
              have hgn := GNX.out s
              obtain ⟨a, ha⟩ : ∃ a, a = (someS s k).length := ⟨_, rfl⟩
              rw [← ha] at hm1 hms h1 HPs ⊢
              obtain ⟨b, hb⟩ : ∃ b, b = (plugN ss (someS s k)).length := ⟨_, rfl⟩
              rw [← hb] at hm1 hms h2
              have HBL := Lib.hid hb
              have z1 : IntKind.i64.wrap ((k : Int) - (a : Int)) = (k : Int) - (a : Int) := IntWalk.i64_in _ (by omega)
              have z2 : IntKind.i64.wrap ((k : Int) - (a : Int) + (b : Int)) = (k : Int) - (a : Int) + (b : Int) := IntWalk.i64_in _ (by omega)
              have hgt : decide (pm > (k : Int) - (a : Int) + (b : Int)) = false := decide_eq_false (by omega)
              have hgt2 : decide ((k : Int) - (a : Int) + (b : Int) < pm) = false := hgt
              rw [hms] at hgv
              have HGN := Lib.hid hgn
              generalize g s = q at hgv HGN
              have hgv' := hgv.symm
              clear hh ha hb hm1 hms h1 h2 hgn hgv
              cases hex : exP g s
              · rw [hex] at HGN
                clear hex
                go_wp2_with fail
                refine HPs.out.mono ?_
                rintro e w6 ⟨v6, rfl, f6, b6⟩
                have h6 := f6.holds
                obtain ⟨a6, c6, rfl⟩ := h6.form
                rw [← HBL.out]
                have D6 := Lib.hid (ER.out.trans (b6.mono ER.out.size))
                clear f6 h6 b6
                go_wp2_with fail
                go_roundw
                case rel => exact ⟨s + 1, by omega, by rw [HGN.out]; rfl, by go_num, D6⟩
                case measure => simp [intOf]; omega
              · rw [hex] at HGN
                clear hex
                go_wp2_with fail
                refine HPs.out.mono ?_
                rintro e w6 ⟨v6, rfl, f6, b6⟩
                have h6 := f6.holds
                obtain ⟨a6, c6, rfl⟩ := h6.form
                rw [← HBL.out]
                have D6 := Lib.hid (ER.out.trans (b6.mono ER.out.size))
                clear f6 h6 b6
                go_wp2_with fail
                go_roundw
                case rel => exact ⟨s + 1, by omega, by rw [HGN.out]; rfl, by go_num, D6⟩
                case measure => simp [intOf]; omega
        · obtain rfl : s = M := by omega
          rw [GEND.out]
          have C9 := CB.out.trans (DO.out.mono CB.out.size)
          go_wp2_with fail
          go_ret
          exact ⟨rfl, C9⟩

set_option maxRecDepth 100000 in
set_option maxHeartbeats 2000000 in
/-- What the walk gives, for every argument. -/
theorem contract (H : Type) (enc : TypeId × Value → H) (W : World) (base : Nat) (args : Array Value) (ds gs : List (DataW H)) (before : List MemPlace)
    (hval : ∀ (j : Nat) t v, Try.f6.params[j]? = some t → args[j]? = some v → Value.okWide Try.prog W .any base t v)
    (hW : DataW.Whole enc Try.prog Try.f6.params.toList Rows.fnPlugManySpec.vars false W args.toList ds gs before) :
    Calls Try.prog 6 args W fun e W' => ∃ v, e = .returned v ∧ Rows.fnPlugManySpec.post enc Try.prog Try.f6 false true false false W args v W' := by
  have hW' := hW
  obtain ⟨p, q, hA0, hV, rfl, hfz, hnd⟩ := hW
  have hA : DataW.TrodAll enc Try.prog W 0 (fun _ => true) true Try.f6.params.toList args.toList ds p := hA0
  rw [Try.params6] at hA hval
  obtain ⟨v0, vs0, d0, ds0, p0, q0, hargs, rfl, rfl, h0, r0⟩ := trodAll_cons hA
  obtain ⟨rfl, rfl, rfl⟩ := trodAll_nil r0
  obtain rfl : args = #[v0] := by cases args; simp_all
  obtain ⟨rfl, rfl⟩ := trodVars_none hV
  have k0 := h0
  have lt0 : ∀ x ∈ p0, x.block < W.heap.size := by obtain ⟨m, hm⟩ := k0; exact DataW.trod_lt m _ _ _ hm
  obtain ⟨a0, len0, cap0, rfl⟩ := okWide_slice Try.underlying22 (hval 0 22 v0 rfl rfl)
  obtain ⟨z0, x0⟩ : ∃ zs, IsRow .u8 W a0 len0 cap0 zs := by
    obtain ⟨fuel, hf⟩ := h0
    rcases open_ints Try.underlying22 Try.underlying5 (by kernel_rfl) hf with ⟨hcs, _⟩ | ⟨x, l, c, zs, hcs, _, hl, hm, hz, _, hcell, hwz⟩
    · simp [Value.cells] at hcs
      obtain ⟨rfl, rfl, rfl⟩ := hcs
      exact ⟨[], .inl ⟨rfl, rfl, rfl, rfl⟩⟩
    · simp [Value.cells] at hcs
      obtain ⟨rfl, rfl, rfl⟩ := hcs
      exact ⟨zs, .inr ⟨_, rfl, hl, hm, by simpa using hz, hcell, hwz⟩⟩
  clear hA0
  refine (walk a0 len0 cap0 W (row8_of x0)).mono fun e W' ⟨he, bel⟩ => ?_
  subst he
  exact ⟨_, rfl, _, _, _, [], _, [], hW', trodAll_mk1 (shut_bool Try.underlying4 _), (trodAll_cons_mk (Below.trod laidOut (by kernel_rfl) (of_decide_eq_true (by kernel_rfl)) k0 bel lt0) trodAll_mk0), rfl, bel.frame _, fun h => by cases h⟩

set_option maxRecDepth 100000 in
theorem lifted (os : Os) (started : os.Started) (H : Type) (enc : TypeId × Value → H) :
    ReturnsInHanded {} Try.checked os 6 .any (Rows.fnPlugManySpec.pre6 enc Try.prog Try.f6 Rows.fnPlugManyRow.domain false) (Rows.fnPlugManySpec.post enc Try.prog Try.f6 false true false false) := by
  refine returnsInHanded_of_change (C := Try.checked) own started (by kernel_rfl) Try.func6
    (ChangeSpec.witness6 (enc := enc) (C := Try.checked) false ⟨#[], #[.slice none 0 0], []⟩ 8 (by kernel_rfl) (by kernel_rfl) (by kernel_rfl) (by kernel_rfl)) ?_
  intro W base args ds gs before hval hW _ _
  exact contract H enc W base args ds gs before hval hW

theorem proved : Rows.FnPlugManySaid :=
  OpenClaim.holds_of_wide 6 Try.f6 rfl rfl rfl rfl rfl rfl rfl ⟨rfl, rfl, rfl, rfl, rfl⟩ rfl rfl rfl rfl rfl (by kernel_rfl) Try.func6 (by kernel_rfl)
    (of_decide_eq_true (by kernel_rfl)) (by unfold Func.isWrapper; first | (rw [if_pos (by decide +kernel)]; kernel_rfl) | (rw [if_neg (by decide +kernel)]; exact ⟨rfl, rfl⟩))
    (fun os started H enc _ => lifted os started H enc)
#print axioms proved
end Go.Proofs.Ythlcjojhmhoadaa.fnPlugMany
