/-
  For every code of bytes the law on ReadBox (the model's answer; a text that is none reads as no box; BoxText of the box is the text; with a slash behind it a text is refused) returns true and leaves its argument as it was. Conditions: none beyond the form's own reach.
-/
import Derived.Test.YtjnoekhdkmgagaaDoorRows
import Derived.Test.YtjnoekhdkmgagaaDoorGBase
import Derived.WalkKit
import Derived.ProofKit
import Derived.OpenShut
import Derived.ShutString
import Derived.ChangeOld
import Derived.Below
import Derived.Test.YtjnoekhdkmgagaaDoorCards
import Derived.Test.YtjnoekhdkmgagaaDoorTie
import Derived.Deep.DeepHandedRow
import Derived.Lib.LaidTab
import Derived.Test.YtjnoekhdkmgagaaDoorGCr
import Derived.Test.YtjnoekhdkmgagaaDoorDrRb
import Derived.Test.YtjnoekhdkmgagaaDoorRbI
import Derived.Test.YtjnoekhdkmgagaaDoorRbS
import Derived.Test.YtjnoekhdkmgagaaDoorBtI
import Derived.Test.YtjnoekhdkmgagaaDoorRbDMath
import Derived.Lib.SlicesS
namespace Go.Proofs.YtjnoekhdkmgagaaDoor.fnReadBox
open Go.ChangeShapes Go.WideShapes Go.ChangeAt Go.RowKit
open Go.ChangeMaps (open_string shut_string)
set_option linter.unusedVariables false


/-- What the walk is told of a slice of integers that came in. -/
def IsRow (k : IntKind) (w : World) (a : Option Addr) (len cap : Nat) (zs : List Int) : Prop :=
  (a = none ∧ len = 0 ∧ cap = 0 ∧ zs = []) ∨
  ∃ x, a = some x ∧ len ≤ cap ∧ cap ≤ maxLen ∧ zs.length = cap ∧ (∀ i, i < zs.length → w.cell? (x.add i) = some (.int k (zs.getD i 0))) ∧ ∀ n ∈ zs, (Lit.int k n).wf = true

set_option maxHeartbeats 2000000 in
theorem walk (a0 : Option Addr) (len0 cap0 : Nat) (w : World) (w0 : IsRow8 w a0 len0 cap0) (hT : Tab w) :
    Calls Tryd.prog 4 #[.slice a0 len0 cap0] w fun e w' => e = .returned (.bool true) ∧ Below w.heap.size w w' := by
  have hm := row8_len w0
  unfold maxLen at hm
  by_cases hl : len0 ≤ 1048576
  · go_enter Tryd.func4, Tryd.ntmps4
    go_wp2_with fail
    refine (drawReadBox_any a0 len0 cap0 w w0).mono ?_
    rintro e w1 ⟨s, hs, rfl, hb⟩
    clear w0
    have HTb := Lib.hid (hT.keep hb)
    clear hT
    have HI := Lib.hid fun s w (h : s.size ≤ maxLen) => implReadBox_any s w h
    have HS := Lib.hid fun w => specReadBox_any s w (by omega)
    have hsm : s.size ≤ maxLen := by unfold maxLen; omega
    go_wp2_with fail
    refine (HI.out s _ hsm).mono ?_
    rintro e w2 ⟨b, ok, rfl, hr, b2⟩
    go_wp2_with fail
    refine (HS.out _).mono ?_
    rintro e w3 ⟨b', ok', rfl, hr', b3⟩
    obtain ⟨rfl, rfl⟩ := hr.same hr'
    have hx := BoxAt.new b3
    obtain ⟨k0, k1, k2, k3, k4⟩ := hx.cells
    have hlt := hx.2.1
    have bb2 := hb.trans (b2.mono hb.size)
    have bb3 := bb2.trans (hx.2.2.mono bb2.size)
    have t3 := Lib.hid (HTb.out.keep (b2.trans (hx.2.2.mono b2.size)))
    have hbt := Lib.hid (fun w h => implBoxText_any b.i b.g b.c b.p b.d w h)
    have hbv := Lib.hid (fun w => implBoxValid_any b.i b.g b.c b.p b.d w)
    have HR := Lib.hid hr
    clear hx b2 b3 hb hr hr' HTb HS
    generalize w2.heap.size = B at hlt k0 k1 k2 k3 k4 ⊢
    have hne2 : ¬ w3.heap.size = B := fun e => by omega
    cases ok
    · have hz := rb_zero HR.out
      subst hz
      clear hbt hbv
      go_wp2_with fail
      refine (alive_yes _).mono ?_
      rintro e w5 ⟨rfl, rfl⟩
      go_wp2
      go_ret
      exact ⟨rfl, bb3.alloc bb3.size _⟩
    · obtain ⟨hv, ht⟩ := rb_valid HR.out
      have a1 := fun (w : World) => run_string_add (P := Tryd.prog) w s ⟨#[47]⟩ (by omega) (by show (1 : Int) ≤ _; decide)
      have hsz : (s ++ ⟨#[47]⟩ : ByteArray).size ≤ maxLen := by
        rw [ByteArray.size_append]
        have e : (⟨#[47]⟩ : ByteArray).size = 1 := rfl
        unfold maxLen; omega
      have HN := Lib.hid fun b' ok' (h : RbIs (s ++ ⟨#[47]⟩) b' ok') => slash_none HR.out h
      rw [hv] at hbv
      rw [ht] at hbt
      have hss : (s.toList == s.toList) = true := (Lib.bytes_beq_iff _ _).2 rfl
      clear hv ht
      go_wp2_with fail
      refine (HI.out _ _ hsz).mono ?_
      rintro e w4 ⟨b4, ok4, rfl, hr4, q4⟩
      obtain rfl := HN.out _ _ hr4
      have j : ∀ o, w4.cell? ⟨B, o, none⟩ = w3.cell? ⟨B, o, none⟩ := fun o => (q4.cell (p := ⟨B, o, none⟩) (by simp; omega)).trans (World.cell?_alloc_lt _ _ _ hlt)
      have j0 := (j 0).trans k0
      have j1 := (j 1).trans k1
      have j2 := (j 2).trans k2
      have j3 := (j 3).trans k3
      have j4 := (j 4).trans k4
      have bb4 := (bb3.alloc bb3.size (.cells #[.int .i64 b.i, .int .i64 b.g, .int .i64 b.c, .int .i64 b.p, .bool b.d] 24)).trans (q4.mono (by have := bb3.size; simp; omega))
      have t4 := Lib.hid (t3.out.keep (((Below.refl _ _).alloc (Nat.le_refl _) (.cells #[.int .i64 b.i, .int .i64 b.g, .int .i64 b.c, .int .i64 b.p, .bool b.d] 24)).trans (q4.mono (by simp))))
      have hlt4 : B < w4.heap.size := by have := q4.size; simp at this; omega
      have hne3 : ¬ w4.heap.size = B := fun e => by omega
      clear j k0 k1 k2 k3 k4 hr4 q4
      go_wp2_with fail
      refine (hbv.out _).mono ?_
      rintro e w5 ⟨rfl, q5⟩
      have j : ∀ o, w5.cell? ⟨B, o, none⟩ = w4.cell? ⟨B, o, none⟩ := fun o => (q5.cell (p := ⟨B, o, none⟩) (by simp; omega)).trans (World.cell?_alloc_lt _ _ _ hlt4)
      have k0 := (j 0).trans j0
      have k1 := (j 1).trans j1
      have k2 := (j 2).trans j2
      have k3 := (j 3).trans j3
      have k4 := (j 4).trans j4
      have q45 := ((Below.refl w4.heap.size w4).alloc (Nat.le_refl _) (.cells #[.int .i64 b4.i, .int .i64 b4.g, .int .i64 b4.c, .int .i64 b4.p, .bool b4.d] 24)).trans (q5.mono (by simp))
      have bb5 := bb4.trans (q45.mono bb4.size)
      have t5 := t4.out.keep q45
      clear j j0 j1 j2 j3 j4 q5 q45
      have T5 := Lib.hid t5
      clear t5
      go_wp2_with fail
      refine (hbt.out _ T5.out).mono ?_
      rintro e w6 ⟨rfl, q6⟩
      have bb6 := bb5.trans (q6.mono bb5.size)
      go_wp2_with fail
      go_ret
      exact ⟨rfl, bb6⟩
  · go_enter Tryd.func4, Tryd.ntmps4
    go_wp2
    go_ret
    exact ⟨rfl, Below.refl _ _⟩

theorem gtable : Tryd.prog.globalNamed "internal/strconv.uint64pow10" = some 1 := by kernel_rfl
theorem gtableType : (Tryd.prog.globals[1]?).map (·.type) = some 69 := by kernel_rfl
theorem cellstable : Tryd.prog.cellsOf 69 = 20 := by kernel_rfl
theorem cellstableElem : Tryd.prog.cellsOf 61 = 1 := by kernel_rfl
/-- What the row's list gives: the table stands. -/
theorem table {W : World} (h : laidMetH Tryd.prog Rows.fnReadBoxRow.laid W) : Tab W := by
  obtain ⟨ps, hv, _⟩ := (show laidMet Tryd.prog Rows.fnReadBoxRow.laid W from h)
  obtain ⟨_, _, _, _, _, q0, _, _, _, _, h0v, _⟩ := hv
  obtain ⟨_, _, _, _, _, q1, _, _, _, _, h1v, _⟩ := h0v
  obtain ⟨g', t', cs, fuel, p, q, hg', ht', hvar, hd, _, _⟩ := h1v
  obtain rfl := Option.some.inj (gtable.symm.trans hg')
  obtain rfl := Option.some.inj (gtableType.symm.trans ht')
  unfold Tab Lib.TabIs
  rw [hvar, ← Lib.cells_of_tab (zs := Lib.pow10Tab) (k := .u64) Tryd.underlying69 Tryd.underlying61 cellstableElem cellstable hd]

set_option maxRecDepth 100000 in
set_option maxHeartbeats 2000000 in
/-- What the walk gives, for every argument. -/
theorem contract (H : Type) (enc : TypeId × Value → H) (W : World) (base : Nat) (args : Array Value) (ds gs : List (DataW H)) (before : List MemPlace)
    (hval : ∀ (j : Nat) t v, Tryd.f4.params[j]? = some t → args[j]? = some v → Value.okWide Tryd.prog W .any base t v)
    (hW : DataW.Whole enc Tryd.prog Tryd.f4.params.toList Rows.fnReadBoxSpec.vars false W args.toList ds gs before) (hL : laidMetH Tryd.prog Rows.fnReadBoxRow.laid W) :
    Calls Tryd.prog 4 args W fun e W' => ∃ v, e = .returned v ∧ Rows.fnReadBoxSpec.post enc Tryd.prog Tryd.f4 false true false false W args v W' := by
  have hW' := hW
  obtain ⟨p, q, hA0, hV, rfl, hfz, hnd⟩ := hW
  have hA : DataW.TrodAll enc Tryd.prog W 0 (fun _ => true) true Tryd.f4.params.toList args.toList ds p := hA0
  rw [Tryd.params4] at hA hval
  obtain ⟨v0, vs0, d0, ds0, p0, q0, hargs, rfl, rfl, h0, r0⟩ := trodAll_cons hA
  obtain ⟨rfl, rfl, rfl⟩ := trodAll_nil r0
  obtain rfl : args = #[v0] := by cases args; simp_all
  obtain ⟨rfl, rfl⟩ := trodVars_none hV
  have k0 := h0
  have lt0 : ∀ x ∈ p0, x.block < W.heap.size := by obtain ⟨m, hm⟩ := k0; exact DataW.trod_lt m _ _ _ hm
  obtain ⟨a0, len0, cap0, rfl⟩ := okWide_slice Tryd.underlying22 (hval 0 22 v0 rfl rfl)
  obtain ⟨z0, x0⟩ : ∃ zs, IsRow .u8 W a0 len0 cap0 zs := by
    obtain ⟨fuel, hf⟩ := h0
    rcases open_ints Tryd.underlying22 Tryd.underlying5 (by kernel_rfl) hf with ⟨hcs, _⟩ | ⟨x, l, c, zs, hcs, _, hl, hm, hz, _, hcell, hwz⟩
    · simp [Value.cells] at hcs
      obtain ⟨rfl, rfl, rfl⟩ := hcs
      exact ⟨[], .inl ⟨rfl, rfl, rfl, rfl⟩⟩
    · simp [Value.cells] at hcs
      obtain ⟨rfl, rfl, rfl⟩ := hcs
      exact ⟨zs, .inr ⟨_, rfl, hl, hm, by simpa using hz, hcell, hwz⟩⟩
  clear hA0
  refine (walk a0 len0 cap0 W (row8_of x0) (table hL)).mono fun e W' ⟨he, bel⟩ => ?_
  subst he
  exact ⟨_, rfl, _, _, _, [], _, [], hW', trodAll_mk1 (shut_bool Tryd.underlying4 _), (trodAll_cons_mk (Below.trod laidOut (by kernel_rfl) (of_decide_eq_true (by kernel_rfl)) k0 bel lt0) trodAll_mk0), rfl, bel.frame _, fun h => by cases h⟩

/-- A world for the witness: the settled one, each listed variable holding what its initialiser lays. -/
noncomputable def laidWorld (os : Os) : World :=
  { World.holding Tryd.prog os ⟨#[], #[], []⟩ with heap := ((((World.holding Tryd.prog os ⟨#[], #[], []⟩).heap.modify 2 fun | .cells _ t frozen => .cells #[.int .u8 0, .int .u8 1, .int .u8 28, .int .u8 2, .int .u8 29, .int .u8 14, .int .u8 24, .int .u8 3, .int .u8 30, .int .u8 22, .int .u8 20, .int .u8 15, .int .u8 25, .int .u8 17, .int .u8 4, .int .u8 8, .int .u8 31, .int .u8 27, .int .u8 13, .int .u8 23, .int .u8 21, .int .u8 19, .int .u8 16, .int .u8 7, .int .u8 26, .int .u8 12, .int .u8 18, .int .u8 6, .int .u8 11, .int .u8 5, .int .u8 10, .int .u8 9] t frozen | o => o).modify 3 fun | .cells _ t frozen => .cells #[.int .u8 0, .int .u8 1, .int .u8 56, .int .u8 2, .int .u8 57, .int .u8 49, .int .u8 28, .int .u8 3, .int .u8 61, .int .u8 58, .int .u8 42, .int .u8 50, .int .u8 38, .int .u8 29, .int .u8 17, .int .u8 4, .int .u8 62, .int .u8 47, .int .u8 59, .int .u8 36, .int .u8 45, .int .u8 43, .int .u8 51, .int .u8 22, .int .u8 53, .int .u8 39, .int .u8 33, .int .u8 30, .int .u8 24, .int .u8 18, .int .u8 12, .int .u8 5, .int .u8 63, .int .u8 55, .int .u8 48, .int .u8 27, .int .u8 60, .int .u8 41, .int .u8 37, .int .u8 16, .int .u8 46, .int .u8 35, .int .u8 44, .int .u8 21, .int .u8 52, .int .u8 32, .int .u8 23, .int .u8 11, .int .u8 54, .int .u8 26, .int .u8 40, .int .u8 15, .int .u8 34, .int .u8 20, .int .u8 31, .int .u8 10, .int .u8 25, .int .u8 14, .int .u8 19, .int .u8 9, .int .u8 13, .int .u8 8, .int .u8 7, .int .u8 6] t frozen | o => o).modify 1 fun | .cells _ t frozen => .cells #[.int .u64 1, .int .u64 10, .int .u64 100, .int .u64 1000, .int .u64 10000, .int .u64 100000, .int .u64 1000000, .int .u64 10000000, .int .u64 100000000, .int .u64 1000000000, .int .u64 10000000000, .int .u64 100000000000, .int .u64 1000000000000, .int .u64 10000000000000, .int .u64 100000000000000, .int .u64 1000000000000000, .int .u64 10000000000000000, .int .u64 100000000000000000, .int .u64 1000000000000000000, .int .u64 10000000000000000000] t frozen | o => o) }
theorem laid_met (os : Os) : laidMet Tryd.prog Rows.fnReadBoxRow.laid ((laidWorld os).forCall (fun _ _ => 0) ⟨#[], #[.slice none 0 0], []⟩).memory :=
  laidMet_of_run' 8 (by kernel_rfl) (by kernel_rfl)
theorem reads (os : Os) {H : Type} (enc : TypeId × Value → H) : ∃ places, DataW.whole enc Tryd.prog ((laidWorld os).forCall (fun _ _ => 0) ⟨#[], #[.slice none 0 0], []⟩).memory Tryd.f4.params.toList Rows.fnReadBoxSpec.vars false (#[.slice none 0 0] : Array Value).toList 8 = some ([.nil], [], places) :=
  ⟨[], by kernel_rfl⟩

set_option maxRecDepth 100000 in
theorem lifted (os : Os) (started : os.Started) (H : Type) (enc : TypeId × Value → H) (F : Stop.Interp) :
    ReturnsInHanded {} Tryd.checked os 4 .any ((OpenSpec.ofChange Rows.fnReadBoxSpec).preRow enc Tryd.prog Tryd.f4 Rows.fnReadBoxRow.domain false Rows.fnReadBoxRow.laid) (((OpenSpec.ofChange Rows.fnReadBoxSpec).at F).post enc Tryd.prog Tryd.f4 false true false false) := by
  obtain ⟨places, hx⟩ := reads os enc
  refine returnsInHanded_of_row (C := Tryd.checked) (s := OpenSpec.ofChange Rows.fnReadBoxSpec) own started (by kernel_rfl) Tryd.func4
    (witness_row_at (enc := enc) (C := Tryd.checked) false (laidWorld os) #[.slice none 0 0] rfl (by kernel_rfl) (by kernel_rfl) (by kernel_rfl)
      (OpenSpec.preRow_of_cond 8 hx (by kernel_rfl) (fun k hk => by cases hk) (by kernel_rfl) (laid_met os))) ?_
  intro W base args ds gs before hval hW _ _ _ hL _ _
  exact contract H enc W base args ds gs before hval hW hL

theorem said : Rows.FnReadBoxSaid :=
  OpenClaim.holds_of_cond 4 Tryd.f4 rfl rfl rfl rfl rfl rfl rfl ⟨rfl, rfl, rfl, rfl, rfl⟩ rfl rfl rfl rfl rfl (by kernel_rfl) Tryd.func4 (by kernel_rfl)
    (of_decide_eq_true (by kernel_rfl)) (by unfold Func.isWrapper; first | (rw [if_pos (by decide +kernel)]; kernel_rfl) | (rw [if_neg (by decide +kernel)]; exact ⟨rfl, rfl⟩))
    (fun os started H enc _ F => by rw [OpenClaim.pre_eq_preRow]; exact lifted os started H enc F)

/-- No parameter wants a stand-in; the program's own looks are off: what the card asks. -/
theorem plain (f : FuncId) (fn : Func) (hf : Tryd.pinned.checked.prog.funcNamed "loop.example/containerport/laws.FnReadBox" = some f) (hfn : Tryd.pinned.checked.prog.funcs[f]? = some fn) :
    false = Tryd.pinned.checked.prog.looks [] ∧ ∀ (j : Nat) t, fn.params[j]? = some t → Tryd.pinned.checked.prog.wantsStandIn t = false := by
  obtain rfl : f = 4 := Option.some.inj ((show Tryd.prog.funcNamed "loop.example/containerport/laws.FnReadBox" = some 4 by kernel_rfl).symm.trans hf) |>.symm
  obtain rfl : fn = Tryd.f4 := (Option.some.inj (Tryd.func4.symm.trans hfn)).symm
  refine ⟨by kernel_rfl, fun j t ht => ?_⟩
  rw [Tryd.params4] at ht
  have hm : t = 22 := by
    have := Array.mem_of_getElem? ht
    simp at this
    omega
  rcases hm with rfl
  · exact (show Tryd.prog.wantsStandIn 22 = false by kernel_rfl)

theorem proved : Rows.FnReadBoxCardSaid :=
  Claim7.holds_tied_plain_at .later [] _ _ _ _ said (fun _ h => by cases h) (by kernel_rfl) (fun _ h => by cases h) fnReadBox_row_tie rfl ⟨rfl, rfl⟩ (by kernel_rfl) rfl plain (by kernel_rfl)
#print axioms proved
end Go.Proofs.YtjnoekhdkmgagaaDoor.fnReadBox
