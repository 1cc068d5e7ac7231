/-
  For every code of bytes the law on BoxText (the model's text; a text is empty only for a box that is not valid; another is read as the box) returns true and leaves its argument as it was. Conditions: none beyond the form's own reach.
-/
import Derived.Test.YtjnoekhdkmgagaaDoorRows
import Derived.Test.YtjnoekhdkmgagaaDoorGBase
import Derived.WalkKit
import Derived.ProofKit
import Derived.OpenShut
import Derived.ShutString
import Derived.ChangeOld
import Derived.Below
import Derived.Test.YtjnoekhdkmgagaaDoorCards
import Derived.Test.YtjnoekhdkmgagaaDoorTie
import Derived.Deep.DeepHandedRow
import Derived.Lib.LaidTab
import Derived.Test.YtjnoekhdkmgagaaDoorGCr
import Derived.Test.YtjnoekhdkmgagaaDoorDrBt
import Derived.Test.YtjnoekhdkmgagaaDoorGBx
import Derived.Test.YtjnoekhdkmgagaaDoorGNo
import Derived.Test.YtjnoekhdkmgagaaDoorRbMath
import Derived.Test.YtjnoekhdkmgagaaDoorRbI
import Derived.Test.YtjnoekhdkmgagaaDoorBtI
import Derived.Lib.SlicesS
namespace Go.Proofs.YtjnoekhdkmgagaaDoor.fnBoxText
open Go.ChangeShapes Go.WideShapes Go.ChangeAt Go.RowKit
open Go.ChangeMaps (open_string shut_string)
set_option linter.unusedVariables false


/-- What the walk is told of a slice of integers that came in. -/
def IsRow (k : IntKind) (w : World) (a : Option Addr) (len cap : Nat) (zs : List Int) : Prop :=
  (a = none ∧ len = 0 ∧ cap = 0 ∧ zs = []) ∨
  ∃ x, a = some x ∧ len ≤ cap ∧ cap ≤ maxLen ∧ zs.length = cap ∧ (∀ i, i < zs.length → w.cell? (x.add i) = some (.int k (zs.getD i 0))) ∧ ∀ n ∈ zs, (Lit.int k n).wf = true

theorem bt_size {i g c p : Int} {d : Bool} (hi : i ≤ 999) (hg : g ≤ 30) (hc : c ≤ 3) (hp : p ≤ 6) : (btS i g c p d).size ≤ 100 := by
  have a := decB_size (n := i) (by omega)
  have b := decB_size (n := g) (by omega)
  have e := decB_size (n := c) (by omega)
  have f := decB_size (n := p) (by omega)
  have z1 : (⟨#[58]⟩ : ByteArray).size = 1 := rfl
  have z2 : (⟨#[47]⟩ : ByteArray).size = 1 := rfl
  have z3 : (⟨#[99]⟩ : ByteArray).size = 1 := rfl
  cases d
  · show (bt6 i g c p).size ≤ 100
    simp only [bt6, bt5, bt4, bt3, bt2, bt1, ByteArray.size_append, z1, z2]
    omega
  · show (bt6 i g c p ++ ⟨#[99]⟩).size ≤ 100
    simp only [bt6, bt5, bt4, bt3, bt2, bt1, ByteArray.size_append, z1, z2, z3]
    omega
theorem bt_some (i g c p : Int) (d : Bool) : btS i g c p d ≠ ⟨#[]⟩ := fun h => by
  have e := congrArg (fun s : ByteArray => s.data.toList) h
  simp only [bt_list] at e
  simp at e

set_option maxHeartbeats 1000000 in
theorem walk (a0 : Option Addr) (len0 cap0 : Nat) (w : World) (w0 : IsRow8 w a0 len0 cap0) (hT : Tab w) :
    Calls Tryd.prog 3 #[.slice a0 len0 cap0] w fun e w' => e = .returned (.bool true) ∧ Below w.heap.size w w' := by
  have hm := row8_len w0
  unfold maxLen at hm
  by_cases hl : len0 ≤ 1048576
  · go_enter Tryd.func3, Tryd.ntmps3
    go_wp2_with fail
    refine (drawBoxText_any a0 len0 cap0 w w0).mono ?_
    rintro e w1 ⟨⟨i, g, c, p, d⟩, rfl, hb⟩
    clear w0
    have HS := Lib.hid fun w => specBoxText_any i g c p d w
    have HI := Lib.hid fun w h => implBoxText_any i g c p d w h
    have HTb := Lib.hid (hT.keep hb)
    have HV := Lib.hid fun w => implBoxValid_any i g c p d w
    have HR := Lib.hid fun s w h => implReadBox_any s w h
    by_cases hv : bxOk i g c p = true
    · have ht : bxText i g c p d = btS i g c p d := if_pos hv
      rw [ht] at HS HI
      have hsz : (btS i g c p d).size ≤ 100 := by
        have k := bxOk_yes hv
        exact bt_size (by omega) (by omega) (by omega) (by omega)
      have hne : (btS i g c p d).toList.isEmpty = false := List.isEmpty_eq_false_iff.2 fun e => bt_some i g c p d ((Lib.bytes_beq_iff _ _).1 (by rw [e]; first | (simp; done) | (simp [ByteArray.toList, ByteArray.toList.loop]; done) | (unfold ByteArray.toList; unfold ByteArray.toList.loop; rfl)))
      have HT := Lib.hid fun (b : Bx) (ok : Bool) (h : RbIs (btS i g c p d) b ok) => h.text hv
      clear hv ht
      generalize btS i g c p d = t at HS HI hsz hne HT
      go_wp2_with fail
      refine (HI.out _ (HTb.out.keep ((Below.refl _ _).alloc (Nat.le_refl _) _))).mono ?_
      rintro e w2 ⟨rfl, b1⟩
      have hx := BoxAt.new b1
      obtain ⟨k0, k1, k2, k3, k4⟩ := hx.cells
      go_wp2_with fail
      refine (HS.out _).mono ?_
      rintro e w3 ⟨rfl, b2⟩
      have hx2 := hx.keep b2
      clear hx k0 k1 k2 k3 k4 b1 b2
      go_wp2_with fail
      refine (HR.out t _ (by unfold maxLen; omega)).mono ?_
      rintro e w4 ⟨b, ok, rfl, hr, b4⟩
      obtain ⟨rfl, rfl⟩ := HT.out b ok hr
      have hx3 := hx2.keep b4
      obtain ⟨k0, k1, k2, k3, k4⟩ := hx3.cells
      have hlt := hx3.2.1
      have hne : w1.heap.size ≠ w4.heap.size := Nat.ne_of_lt hlt
      have hbl := hb.trans (hx3.2.2.mono hb.size)
      clear hx2 hx3 hr b4
      generalize w1.heap.size = B at hlt hne k0 k1 k2 k3 k4 ⊢
      have hne2 : ¬ w4.heap.size = B := fun e => hne e.symm
      go_wp2_with fail
      go_ret
      exact ⟨rfl, hbl.alloc hbl.size _⟩
    · have ht : bxText i g c p d = ⟨#[]⟩ := if_neg hv
      have hv' : bxOk i g c p = false := by simpa using hv
      rw [ht] at HS HI
      rw [hv'] at HV
      clear hv ht hv'
      go_wp2_with fail
      refine (HI.out _ (HTb.out.keep ((Below.refl _ _).alloc (Nat.le_refl _) _))).mono ?_
      rintro e w2 ⟨rfl, b1⟩
      have hx := BoxAt.new b1
      obtain ⟨k0, k1, k2, k3, k4⟩ := hx.cells
      go_wp2_with fail
      refine (HS.out _).mono ?_
      rintro e w3 ⟨rfl, b2⟩
      have hx2 := hx.keep b2
      clear hx k0 k1 k2 k3 k4 b1 b2
      obtain ⟨k0, k1, k2, k3, k4⟩ := hx2.cells
      go_wp2_with fail
      refine (HV.out _).mono ?_
      rintro e w4 ⟨rfl, b4⟩
      have hbl := hb.trans ((hx2.keep b4).2.2.mono hb.size)
      go_wp2_with fail
      refine (alive_yes _).mono ?_
      rintro e w5 ⟨rfl, rfl⟩
      go_wp2
      go_ret
      exact ⟨rfl, hbl⟩
  · go_enter Tryd.func3, Tryd.ntmps3
    go_wp2
    go_ret
    exact ⟨rfl, Below.refl _ _⟩

theorem gtable : Tryd.prog.globalNamed "internal/strconv.uint64pow10" = some 1 := by kernel_rfl
theorem gtableType : (Tryd.prog.globals[1]?).map (·.type) = some 69 := by kernel_rfl
theorem cellstable : Tryd.prog.cellsOf 69 = 20 := by kernel_rfl
theorem cellstableElem : Tryd.prog.cellsOf 61 = 1 := by kernel_rfl
/-- What the row's list gives: the table stands. -/
theorem table {W : World} (h : laidMetH Tryd.prog Rows.fnBoxTextRow.laid W) : Tab W := by
  obtain ⟨ps, hv, _⟩ := (show laidMet Tryd.prog Rows.fnBoxTextRow.laid W from h)
  obtain ⟨_, _, _, _, _, q0, _, _, _, _, h0v, _⟩ := hv
  obtain ⟨_, _, _, _, _, q1, _, _, _, _, h1v, _⟩ := h0v
  obtain ⟨g', t', cs, fuel, p, q, hg', ht', hvar, hd, _, _⟩ := h1v
  obtain rfl := Option.some.inj (gtable.symm.trans hg')
  obtain rfl := Option.some.inj (gtableType.symm.trans ht')
  unfold Tab Lib.TabIs
  rw [hvar, ← Lib.cells_of_tab (zs := Lib.pow10Tab) (k := .u64) Tryd.underlying69 Tryd.underlying61 cellstableElem cellstable hd]

set_option maxRecDepth 100000 in
set_option maxHeartbeats 2000000 in
/-- What the walk gives, for every argument. -/
theorem contract (H : Type) (enc : TypeId × Value → H) (W : World) (base : Nat) (args : Array Value) (ds gs : List (DataW H)) (before : List MemPlace)
    (hval : ∀ (j : Nat) t v, Tryd.f3.params[j]? = some t → args[j]? = some v → Value.okWide Tryd.prog W .any base t v)
    (hW : DataW.Whole enc Tryd.prog Tryd.f3.params.toList Rows.fnBoxTextSpec.vars false W args.toList ds gs before) (hL : laidMetH Tryd.prog Rows.fnBoxTextRow.laid W) :
    Calls Tryd.prog 3 args W fun e W' => ∃ v, e = .returned v ∧ Rows.fnBoxTextSpec.post enc Tryd.prog Tryd.f3 false true false false W args v W' := by
  have hW' := hW
  obtain ⟨p, q, hA0, hV, rfl, hfz, hnd⟩ := hW
  have hA : DataW.TrodAll enc Tryd.prog W 0 (fun _ => true) true Tryd.f3.params.toList args.toList ds p := hA0
  rw [Tryd.params3] at hA hval
  obtain ⟨v0, vs0, d0, ds0, p0, q0, hargs, rfl, rfl, h0, r0⟩ := trodAll_cons hA
  obtain ⟨rfl, rfl, rfl⟩ := trodAll_nil r0
  obtain rfl : args = #[v0] := by cases args; simp_all
  obtain ⟨rfl, rfl⟩ := trodVars_none hV
  have k0 := h0
  have lt0 : ∀ x ∈ p0, x.block < W.heap.size := by obtain ⟨m, hm⟩ := k0; exact DataW.trod_lt m _ _ _ hm
  obtain ⟨a0, len0, cap0, rfl⟩ := okWide_slice Tryd.underlying22 (hval 0 22 v0 rfl rfl)
  obtain ⟨z0, x0⟩ : ∃ zs, IsRow .u8 W a0 len0 cap0 zs := by
    obtain ⟨fuel, hf⟩ := h0
    rcases open_ints Tryd.underlying22 Tryd.underlying5 (by kernel_rfl) hf with ⟨hcs, _⟩ | ⟨x, l, c, zs, hcs, _, hl, hm, hz, _, hcell, hwz⟩
    · simp [Value.cells] at hcs
      obtain ⟨rfl, rfl, rfl⟩ := hcs
      exact ⟨[], .inl ⟨rfl, rfl, rfl, rfl⟩⟩
    · simp [Value.cells] at hcs
      obtain ⟨rfl, rfl, rfl⟩ := hcs
      exact ⟨zs, .inr ⟨_, rfl, hl, hm, by simpa using hz, hcell, hwz⟩⟩
  clear hA0
  refine (walk a0 len0 cap0 W (row8_of x0) (table hL)).mono fun e W' ⟨he, bel⟩ => ?_
  subst he
  exact ⟨_, rfl, _, _, _, [], _, [], hW', trodAll_mk1 (shut_bool Tryd.underlying4 _), (trodAll_cons_mk (Below.trod laidOut (by kernel_rfl) (of_decide_eq_true (by kernel_rfl)) k0 bel lt0) trodAll_mk0), rfl, bel.frame _, fun h => by cases h⟩

/-- A world for the witness: the settled one, each listed variable holding what its initialiser lays. -/
noncomputable def laidWorld (os : Os) : World :=
  { World.holding Tryd.prog os ⟨#[], #[], []⟩ with heap := ((((World.holding Tryd.prog os ⟨#[], #[], []⟩).heap.modify 2 fun | .cells _ t frozen => .cells #[.int .u8 0, .int .u8 1, .int .u8 28, .int .u8 2, .int .u8 29, .int .u8 14, .int .u8 24, .int .u8 3, .int .u8 30, .int .u8 22, .int .u8 20, .int .u8 15, .int .u8 25, .int .u8 17, .int .u8 4, .int .u8 8, .int .u8 31, .int .u8 27, .int .u8 13, .int .u8 23, .int .u8 21, .int .u8 19, .int .u8 16, .int .u8 7, .int .u8 26, .int .u8 12, .int .u8 18, .int .u8 6, .int .u8 11, .int .u8 5, .int .u8 10, .int .u8 9] t frozen | o => o).modify 3 fun | .cells _ t frozen => .cells #[.int .u8 0, .int .u8 1, .int .u8 56, .int .u8 2, .int .u8 57, .int .u8 49, .int .u8 28, .int .u8 3, .int .u8 61, .int .u8 58, .int .u8 42, .int .u8 50, .int .u8 38, .int .u8 29, .int .u8 17, .int .u8 4, .int .u8 62, .int .u8 47, .int .u8 59, .int .u8 36, .int .u8 45, .int .u8 43, .int .u8 51, .int .u8 22, .int .u8 53, .int .u8 39, .int .u8 33, .int .u8 30, .int .u8 24, .int .u8 18, .int .u8 12, .int .u8 5, .int .u8 63, .int .u8 55, .int .u8 48, .int .u8 27, .int .u8 60, .int .u8 41, .int .u8 37, .int .u8 16, .int .u8 46, .int .u8 35, .int .u8 44, .int .u8 21, .int .u8 52, .int .u8 32, .int .u8 23, .int .u8 11, .int .u8 54, .int .u8 26, .int .u8 40, .int .u8 15, .int .u8 34, .int .u8 20, .int .u8 31, .int .u8 10, .int .u8 25, .int .u8 14, .int .u8 19, .int .u8 9, .int .u8 13, .int .u8 8, .int .u8 7, .int .u8 6] t frozen | o => o).modify 1 fun | .cells _ t frozen => .cells #[.int .u64 1, .int .u64 10, .int .u64 100, .int .u64 1000, .int .u64 10000, .int .u64 100000, .int .u64 1000000, .int .u64 10000000, .int .u64 100000000, .int .u64 1000000000, .int .u64 10000000000, .int .u64 100000000000, .int .u64 1000000000000, .int .u64 10000000000000, .int .u64 100000000000000, .int .u64 1000000000000000, .int .u64 10000000000000000, .int .u64 100000000000000000, .int .u64 1000000000000000000, .int .u64 10000000000000000000] t frozen | o => o) }
theorem laid_met (os : Os) : laidMet Tryd.prog Rows.fnBoxTextRow.laid ((laidWorld os).forCall (fun _ _ => 0) ⟨#[], #[.slice none 0 0], []⟩).memory :=
  laidMet_of_run' 8 (by kernel_rfl) (by kernel_rfl)
theorem reads (os : Os) {H : Type} (enc : TypeId × Value → H) : ∃ places, DataW.whole enc Tryd.prog ((laidWorld os).forCall (fun _ _ => 0) ⟨#[], #[.slice none 0 0], []⟩).memory Tryd.f3.params.toList Rows.fnBoxTextSpec.vars false (#[.slice none 0 0] : Array Value).toList 8 = some ([.nil], [], places) :=
  ⟨[], by kernel_rfl⟩

set_option maxRecDepth 100000 in
theorem lifted (os : Os) (started : os.Started) (H : Type) (enc : TypeId × Value → H) (F : Stop.Interp) :
    ReturnsInHanded {} Tryd.checked os 3 .any ((OpenSpec.ofChange Rows.fnBoxTextSpec).preRow enc Tryd.prog Tryd.f3 Rows.fnBoxTextRow.domain false Rows.fnBoxTextRow.laid) (((OpenSpec.ofChange Rows.fnBoxTextSpec).at F).post enc Tryd.prog Tryd.f3 false true false false) := by
  obtain ⟨places, hx⟩ := reads os enc
  refine returnsInHanded_of_row (C := Tryd.checked) (s := OpenSpec.ofChange Rows.fnBoxTextSpec) own started (by kernel_rfl) Tryd.func3
    (witness_row_at (enc := enc) (C := Tryd.checked) false (laidWorld os) #[.slice none 0 0] rfl (by kernel_rfl) (by kernel_rfl) (by kernel_rfl)
      (OpenSpec.preRow_of_cond 8 hx (by kernel_rfl) (fun k hk => by cases hk) (by kernel_rfl) (laid_met os))) ?_
  intro W base args ds gs before hval hW _ _ _ hL _ _
  exact contract H enc W base args ds gs before hval hW hL

theorem said : Rows.FnBoxTextSaid :=
  OpenClaim.holds_of_cond 3 Tryd.f3 rfl rfl rfl rfl rfl rfl rfl ⟨rfl, rfl, rfl, rfl, rfl⟩ rfl rfl rfl rfl rfl (by kernel_rfl) Tryd.func3 (by kernel_rfl)
    (of_decide_eq_true (by kernel_rfl)) (by unfold Func.isWrapper; first | (rw [if_pos (by decide +kernel)]; kernel_rfl) | (rw [if_neg (by decide +kernel)]; exact ⟨rfl, rfl⟩))
    (fun os started H enc _ F => by rw [OpenClaim.pre_eq_preRow]; exact lifted os started H enc F)

/-- No parameter wants a stand-in; the program's own looks are off: what the card asks. -/
theorem plain (f : FuncId) (fn : Func) (hf : Tryd.pinned.checked.prog.funcNamed "loop.example/containerport/laws.FnBoxText" = some f) (hfn : Tryd.pinned.checked.prog.funcs[f]? = some fn) :
    false = Tryd.pinned.checked.prog.looks [] ∧ ∀ (j : Nat) t, fn.params[j]? = some t → Tryd.pinned.checked.prog.wantsStandIn t = false := by
  obtain rfl : f = 3 := Option.some.inj ((show Tryd.prog.funcNamed "loop.example/containerport/laws.FnBoxText" = some 3 by kernel_rfl).symm.trans hf) |>.symm
  obtain rfl : fn = Tryd.f3 := (Option.some.inj (Tryd.func3.symm.trans hfn)).symm
  refine ⟨by kernel_rfl, fun j t ht => ?_⟩
  rw [Tryd.params3] at ht
  have hm : t = 22 := by
    have := Array.mem_of_getElem? ht
    simp at this
    omega
  rcases hm with rfl
  · exact (show Tryd.prog.wantsStandIn 22 = false by kernel_rfl)

theorem proved : Rows.FnBoxTextCardSaid :=
  Claim7.holds_tied_plain_at .later [] _ _ _ _ said (fun _ h => by cases h) (by kernel_rfl) (fun _ h => by cases h) fnBoxText_row_tie rfl ⟨rfl, rfl⟩ (by kernel_rfl) rfl plain (by kernel_rfl)
#print axioms proved
end Go.Proofs.YtjnoekhdkmgagaaDoor.fnBoxText
