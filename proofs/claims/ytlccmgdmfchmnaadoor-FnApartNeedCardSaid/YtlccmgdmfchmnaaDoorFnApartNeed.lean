/-
  For every code of bytes the law on ApartNeed (the model's answer; the same for both classes exchanged; harmless boxes may be anywhere) returns true and leaves its argument as it was. Conditions: none beyond the form's own reach.
-/
import Derived.Test.YtlccmgdmfchmnaaDoorRows
import Derived.Test.YtlccmgdmfchmnaaDoorGBase
import Derived.WalkKit
import Derived.ProofKit
import Derived.OpenShut
import Derived.ShutString
import Derived.ChangeOld
import Derived.Below
import Derived.ChangeVars
import Derived.Test.YtlccmgdmfchmnaaDoorCards
import Derived.Test.YtlccmgdmfchmnaaDoorTie
import Derived.Deep.DeepHandedRow
import Derived.Lib.LaidTab
import Derived.Test.YtlccmgdmfchmnaaDoorGCr
import Derived.Test.YtlccmgdmfchmnaaDoorDaV
import Derived.Test.YtlccmgdmfchmnaaDoorDaS
import Derived.Test.YtlccmgdmfchmnaaDoorDaI
namespace Go.Proofs.YtlccmgdmfchmnaaDoor.fnApartNeed
open Go.ChangeShapes Go.WideShapes Go.ChangeAt Go.RowKit
open Go.ChangeMaps (open_string shut_string)
set_option linter.unusedVariables false


/-- What the walk is told of a slice of integers that came in. -/
def IsRow (k : IntKind) (w : World) (a : Option Addr) (len cap : Nat) (zs : List Int) : Prop :=
  (a = none ∧ len = 0 ∧ cap = 0 ∧ zs = []) ∨
  ∃ x, a = some x ∧ len ≤ cap ∧ cap ≤ maxLen ∧ zs.length = cap ∧ (∀ i, i < zs.length → w.cell? (x.add i) = some (.int k (zs.getD i 0))) ∧ ∀ n ∈ zs, (Lit.int k n).wf = true

set_option maxRecDepth 10000 in
set_option maxHeartbeats 4000000 in
theorem walk (a0 : Option Addr) (len0 cap0 : Nat) (w : World) (w0 : IsRow8 w a0 len0 cap0) (hT : TabA w) :
    Calls Tryd.prog 3 #[.slice a0 len0 cap0] w fun e w' => e = .returned (.bool true) ∧ Below w.heap.size w w' := by
  have hm := row8_len w0
  unfold maxLen at hm
  by_cases hl : ¬ len0 ≤ 1048576
  · go_enter Tryd.func3, Tryd.ntmps3
    go_wp2
    go_ret
    exact ⟨rfl, Below.refl _ _⟩
  · have hl := Nat.not_lt.1 (fun h => hl (Nat.not_le.2 h))
    go_enter Tryd.func3, Tryd.ntmps3
    go_wp2_with fail
    refine (drawApartNeed_any a0 len0 cap0 w w0).mono ?_
    rintro e w1 ⟨a, b, rfl, c1⟩
    clear w0
    have HI := Lib.hid fun (w' : World) (h : TabA w') => implApartNeed_any a b w' h
    have HJ := Lib.hid fun (w' : World) (h : TabA w') => implApartNeed_any b a w' h
    have HZ := Lib.hid fun (w' : World) (h : TabA w') => implApartNeed_any a 0 w' h
    have HS := Lib.hid fun (w' : World) => specApartNeed_any a b w'
    have hT := Lib.hid fun (w' : World) (hs : Below w.heap.size w w') => hT.keep hs
    rw [needC_comm b a] at HJ
    have hbd := needC_bd a b
    have hz : 0 ≤ needC a b → needC a 0 = 0 := fun h => needC_zero (needC_neg h).1 (needC_neg h).2.1
    generalize needC a b = x at HI HJ HS hbd hz
    have hr : (x != x) = false := by simp
    have hr2 : (x == x) = true := by simp
    have h3 : decide (x ≤ 3) = true := decide_eq_true hbd.2
    have h1 : decide (x ≥ -1) = true := decide_eq_true hbd.1
    have h1' : decide (-1 ≤ x) = true := h1
    by_cases hx : x < 0
    · have hxd : decide (x < 0) = true := decide_eq_true hx
      clear HZ hz hbd
      go_wp2_with fail
      refine (HI.out w1 (hT.out _ c1)).mono ?_
      rintro e w2 ⟨rfl, d2⟩
      have c2 := c1.trans (d2.mono c1.size)
      clear d2 c1
      go_wp2_with fail
      refine (HS.out w2).mono ?_
      rintro e w' ⟨rfl, rfl⟩
      go_wp2_with fail
      refine (HJ.out w2 (hT.out _ c2)).mono ?_
      rintro e w3 ⟨rfl, d3⟩
      have c3 := c2.trans (d3.mono c2.size)
      clear d3 c2
      go_wp2_with fail
      refine (alive_yes _).mono ?_
      rintro e w99 ⟨rfl, rfl⟩
      go_wp2_with fail
      go_ret
      exact ⟨rfl, c3⟩
    · have hxd : decide (x < 0) = false := decide_eq_false hx
      have hz0 := hz (by omega)
      rw [hz0] at HZ
      clear hz hbd hz0
      go_wp2_with fail
      refine (HI.out w1 (hT.out _ c1)).mono ?_
      rintro e w2 ⟨rfl, d2⟩
      have c2 := c1.trans (d2.mono c1.size)
      clear d2 c1
      go_wp2_with fail
      refine (HS.out w2).mono ?_
      rintro e w' ⟨rfl, rfl⟩
      go_wp2_with fail
      refine (HJ.out w2 (hT.out _ c2)).mono ?_
      rintro e w3 ⟨rfl, d3⟩
      have c3 := c2.trans (d3.mono c2.size)
      clear d3 c2
      go_wp2_with fail
      refine (HZ.out w3 (hT.out _ c3)).mono ?_
      rintro e w4 ⟨rfl, d4⟩
      have c4 := c3.trans (d4.mono c3.size)
      clear d4 c3
      go_wp2_with fail
      refine (alive_yes _).mono ?_
      rintro e w99 ⟨rfl, rfl⟩
      go_wp2_with fail
      go_ret
      exact ⟨rfl, c4⟩

theorem gtableA : Tryd.prog.globalNamed "loop.example/containerport/impl.apartNeeds" = some 0 := by kernel_rfl
theorem gtableAType : (Tryd.prog.globals[0]?).map (·.type) = some 71 := by kernel_rfl
theorem cellstableA : Tryd.prog.cellsOf 71 = 4 * 4 := by kernel_rfl
theorem cellstableARow : Tryd.prog.cellsOf 70 = 4 := by kernel_rfl
theorem cellstableAElem : Tryd.prog.cellsOf 3 = 1 := by kernel_rfl
/-- What the row's list gives: the table stands. -/
theorem tableA {W : World} (h : laidMetH Tryd.prog Rows.fnApartNeedRow.laid W) : TabA W := by
  obtain ⟨ps, hv, _⟩ := (show laidMet Tryd.prog Rows.fnApartNeedRow.laid W from h)
  obtain ⟨g', t', cs, fuel, p, q, hg', ht', hvar, hd, _, _⟩ := hv
  obtain rfl := Option.some.inj (gtableA.symm.trans hg')
  obtain rfl := Option.some.inj (gtableAType.symm.trans ht')
  have he := cells_of_tab2 (zss := [[0, 0, 0, 0], [0, 0, 1, 2], [0, 1, 0, 3], [0, 2, 3, 1]]) (k := .i64) Tryd.underlying71 Tryd.underlying70 Tryd.underlying3 cellstableARow cellstableAElem cellstableA hd
  unfold TabA
  rw [hvar]
  congr 1
  apply Array.ext'
  rw [he]
  rfl

set_option maxRecDepth 100000 in
set_option maxHeartbeats 2000000 in
/-- What the walk gives, for every argument. -/
theorem contract (H : Type) (enc : TypeId × Value → H) (W : World) (base : Nat) (args : Array Value) (ds gs : List (DataW H)) (before : List MemPlace)
    (hval : ∀ (j : Nat) t v, Tryd.f3.params[j]? = some t → args[j]? = some v → Value.okWide Tryd.prog W .any base t v)
    (hW : DataW.Whole enc Tryd.prog Tryd.f3.params.toList Rows.fnApartNeedSpec.vars false W args.toList ds gs before) (hL : laidMetH Tryd.prog Rows.fnApartNeedRow.laid W) :
    Calls Tryd.prog 3 args W fun e W' => ∃ v, e = .returned v ∧ Rows.fnApartNeedSpec.post enc Tryd.prog Tryd.f3 false true false false W args v W' := by
  have hW' := hW
  obtain ⟨p, q, hA0, hV, rfl, hfz, hnd⟩ := hW
  have hA : DataW.TrodAll enc Tryd.prog W 0 (fun _ => true) true Tryd.f3.params.toList args.toList ds p := hA0
  rw [Tryd.params3] at hA hval
  obtain ⟨v0, vs0, d0, ds0, p0, q0, hargs, rfl, rfl, h0, r0⟩ := trodAll_cons hA
  obtain ⟨rfl, rfl, rfl⟩ := trodAll_nil r0
  obtain rfl : args = #[v0] := by cases args; simp_all
  have hV1 : DataW.TrodVars enc Tryd.prog W (fun _ => true) ["loop.example/containerport/impl.apartNeeds"] gs q := hV
  obtain ⟨gv, tv, csv, fv, dv, pv, rfl, hgv, htv, hvv, hdv, rfl⟩ := trodVars_one hV1
  obtain rfl := Option.some.inj (gtableA.symm.trans hgv)
  obtain rfl := Option.some.inj (gtableAType.symm.trans htv)
  obtain rfl := Option.some.inj ((show W.var? Tryd.prog "loop.example/containerport/impl.apartNeeds" = some _ from tableA hL).symm.trans hvv)
  have hvars : ∀ W' : World, Below W.heap.size W W' → DataW.TrodVars enc Tryd.prog W' (fun b => decide (b < W.heap.size)) ["loop.example/containerport/impl.apartNeeds"] [dv] _ := fun W' bel => by
    have h1 : DataW.Trod enc Tryd.prog W 0 (fun _ => true) true 71 (.agg (tabA.map (Value.int .i64)).toArray) dv pv := ⟨fv, hdv⟩
    obtain ⟨f2, h2⟩ := Below.trod laidOut (by kernel_rfl) (of_decide_eq_true (by kernel_rfl)) h1 bel (DataW.trod_lt fv _ _ _ hdv)
    exact trodVars_mk1 gtableA gtableAType (keepVar bel hvv) h2
  clear hV hV1
  have k0 := h0
  have lt0 : ∀ x ∈ p0, x.block < W.heap.size := by obtain ⟨m, hm⟩ := k0; exact DataW.trod_lt m _ _ _ hm
  obtain ⟨a0, len0, cap0, rfl⟩ := okWide_slice Tryd.underlying22 (hval 0 22 v0 rfl rfl)
  obtain ⟨z0, x0⟩ : ∃ zs, IsRow .u8 W a0 len0 cap0 zs := by
    obtain ⟨fuel, hf⟩ := h0
    rcases open_ints Tryd.underlying22 Tryd.underlying5 (by kernel_rfl) hf with ⟨hcs, _⟩ | ⟨x, l, c, zs, hcs, _, hl, hm, hz, _, hcell, hwz⟩
    · simp [Value.cells] at hcs
      obtain ⟨rfl, rfl, rfl⟩ := hcs
      exact ⟨[], .inl ⟨rfl, rfl, rfl, rfl⟩⟩
    · simp [Value.cells] at hcs
      obtain ⟨rfl, rfl, rfl⟩ := hcs
      exact ⟨zs, .inr ⟨_, rfl, hl, hm, by simpa using hz, hcell, hwz⟩⟩
  clear hA0
  refine (walk a0 len0 cap0 W (row8_of x0) (tableA hL)).mono fun e W' ⟨he, bel⟩ => ?_
  subst he
  exact ⟨_, rfl, _, _, _, [], _, _, hW', trodAll_mk1 (shut_bool Tryd.underlying4 _), (trodAll_cons_mk (Below.trod laidOut (by kernel_rfl) (of_decide_eq_true (by kernel_rfl)) k0 bel lt0) trodAll_mk0), hvars _ bel, bel.frame _, fun h => by cases h⟩

/-- A world for the witness: the settled one, each listed variable holding what its initialiser lays. -/
noncomputable def laidWorld (os : Os) : World :=
  { World.holding Tryd.prog os ⟨#[], #[], []⟩ with heap := ((World.holding Tryd.prog os ⟨#[], #[], []⟩).heap.modify 0 fun | .cells _ t frozen => .cells #[.int .i64 0, .int .i64 0, .int .i64 0, .int .i64 0, .int .i64 0, .int .i64 0, .int .i64 1, .int .i64 2, .int .i64 0, .int .i64 1, .int .i64 0, .int .i64 3, .int .i64 0, .int .i64 2, .int .i64 3, .int .i64 1] t frozen | o => o) }
theorem laid_met (os : Os) : laidMet Tryd.prog Rows.fnApartNeedRow.laid ((laidWorld os).forCall (fun _ _ => 0) ⟨#[], #[.slice none 0 0], []⟩).memory :=
  laidMet_of_run' 8 (by kernel_rfl) (by kernel_rfl)
theorem reads (os : Os) {H : Type} (enc : TypeId × Value → H) : ∃ places, DataW.whole enc Tryd.prog ((laidWorld os).forCall (fun _ _ => 0) ⟨#[], #[.slice none 0 0], []⟩).memory Tryd.f3.params.toList Rows.fnApartNeedSpec.vars false (#[.slice none 0 0] : Array Value).toList 8 = some ([.nil], [Rows.laid_loop_example_containerport_impl_apartNeeds], places) :=
  ⟨(MemPlace.row ⟨0, 0, none⟩ 16 ++ []), by kernel_rfl⟩

set_option maxRecDepth 100000 in
theorem lifted (os : Os) (started : os.Started) (H : Type) (enc : TypeId × Value → H) (F : Stop.Interp) :
    ReturnsInHanded {} Tryd.checked os 3 .any ((OpenSpec.ofChange Rows.fnApartNeedSpec).preRow enc Tryd.prog Tryd.f3 Rows.fnApartNeedRow.domain false Rows.fnApartNeedRow.laid) (((OpenSpec.ofChange Rows.fnApartNeedSpec).at F).post enc Tryd.prog Tryd.f3 false true false false) := by
  obtain ⟨places, hx⟩ := reads os enc
  refine returnsInHanded_of_row (C := Tryd.checked) (s := OpenSpec.ofChange Rows.fnApartNeedSpec) own started (by kernel_rfl) Tryd.func3
    (witness_row_at (enc := enc) (C := Tryd.checked) false (laidWorld os) #[.slice none 0 0] rfl (by kernel_rfl) (by kernel_rfl) (by kernel_rfl)
      (OpenSpec.preRow_of_cond 8 hx (by kernel_rfl) (fun k hk => by cases hk) (by kernel_rfl) (laid_met os))) ?_
  intro W base args ds gs before hval hW _ _ _ hL _ _
  exact contract H enc W base args ds gs before hval hW hL

theorem said : Rows.FnApartNeedSaid :=
  OpenClaim.holds_of_cond 3 Tryd.f3 rfl rfl rfl rfl rfl rfl rfl ⟨rfl, rfl, rfl, rfl, rfl⟩ rfl rfl rfl rfl rfl (by kernel_rfl) Tryd.func3 (by kernel_rfl)
    (of_decide_eq_true (by kernel_rfl)) (by unfold Func.isWrapper; first | (rw [if_pos (by decide +kernel)]; kernel_rfl) | (rw [if_neg (by decide +kernel)]; exact ⟨rfl, rfl⟩))
    (fun os started H enc _ F => by rw [OpenClaim.pre_eq_preRow]; exact lifted os started H enc F)

/-- No parameter wants a stand-in; the program's own looks are off: what the card asks. -/
theorem plain (f : FuncId) (fn : Func) (hf : Tryd.pinned.checked.prog.funcNamed "loop.example/containerport/laws.FnApartNeed" = some f) (hfn : Tryd.pinned.checked.prog.funcs[f]? = some fn) :
    false = Tryd.pinned.checked.prog.looks [] ∧ ∀ (j : Nat) t, fn.params[j]? = some t → Tryd.pinned.checked.prog.wantsStandIn t = false := by
  obtain rfl : f = 3 := Option.some.inj ((show Tryd.prog.funcNamed "loop.example/containerport/laws.FnApartNeed" = some 3 by kernel_rfl).symm.trans hf) |>.symm
  obtain rfl : fn = Tryd.f3 := (Option.some.inj (Tryd.func3.symm.trans hfn)).symm
  refine ⟨by kernel_rfl, fun j t ht => ?_⟩
  rw [Tryd.params3] at ht
  have hm : t = 22 := by
    have := Array.mem_of_getElem? ht
    simp at this
    omega
  rcases hm with rfl
  · exact (show Tryd.prog.wantsStandIn 22 = false by kernel_rfl)

theorem proved : Rows.FnApartNeedCardSaid :=
  Claim7.holds_tied_plain_at .later [] _ _ _ _ said (fun _ h => by cases h) (by kernel_rfl) (fun _ h => by cases h) fnApartNeed_row_tie rfl ⟨rfl, rfl⟩ (by kernel_rfl) rfl plain (by kernel_rfl)
#print axioms proved
end Go.Proofs.YtlccmgdmfchmnaaDoor.fnApartNeed
