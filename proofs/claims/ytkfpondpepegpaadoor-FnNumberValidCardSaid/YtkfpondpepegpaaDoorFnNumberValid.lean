/-
  For every code of bytes the law on NumberValid (a number has one check digit) returns true and leaves its argument as it was. Conditions: the listed variables of the standard library start as its text lays them (the card ties them); none besides.
-/
import Derived.Test.YtkfpondpepegpaaDoorRows
import Derived.WalkKit
import Derived.ProofKit
import Derived.OpenShut
import Derived.ShutString
import Derived.ChangeOld
import Derived.Below
import Derived.Test.YtkfpondpepegpaaDoorCards
import Derived.Test.YtkfpondpepegpaaDoorTie
import Derived.Deep.DeepHandedRow
import Derived.Lib.LaidTab
import Derived.Test.YtkfpondpepegpaaDoorNi
import Derived.Test.YtkfpondpepegpaaDoorNlMath
import Derived.Test.YtkfpondpepegpaaDoorDrV
import Derived.Test.YtkfpondpepegpaaDoorMisMath2
import Derived.Lib.SlicesS
namespace Go.Proofs.YtkfpondpepegpaaDoor.fnNumberValid
open Go.ChangeShapes Go.WideShapes Go.ChangeAt Go.RowKit
open Go.ChangeMaps (open_string shut_string)
set_option linter.unusedVariables false

theorem own : ownKnob Tryd.prog.godebug = none := by kernel_rfl
theorem laidOut : laidOutB Tryd.prog = true := by kernel_rfl

/-- WHAT THE WALK IS TOLD OF A SLICE OF INTEGERS THAT CAME IN: it is nil; or it leads to a row of 'cap' cells, the numbers 'zs' (the first 'len' are its elements, the rest its spare room), each fitting its kind. -/
def IsRow (k : IntKind) (w : World) (a : Option Addr) (len cap : Nat) (zs : List Int) : Prop :=
  (a = none ∧ len = 0 ∧ cap = 0 ∧ zs = []) ∨
  ∃ x, a = some x ∧ len ≤ cap ∧ cap ≤ maxLen ∧ zs.length = cap ∧ (∀ i, i < zs.length → w.cell? (x.add i) = some (.int k (zs.getD i 0))) ∧ ∀ n ∈ zs, (Lit.int k n).wf = true

theorem digit_facts (s : ByteArray) (d : Nat) (hs : numOk s = true) (hd : d < 10) :
    ∃ Y : ByteArray, Y.size ≤ 11 ∧ (∀ w, (Op.stringOp .add (s.extract 0 10) ((⟨#[48, 49, 50, 51, 52, 53, 54, 55, 56, 57]⟩ : ByteArray).extract d (d + 1))).run Tryd.prog w = .ok (.string Y) w) ∧
      numOk Y = decide ((d : Int) = crS (s.extract 0 10) % 10) := by
  obtain ⟨h1, h2, h3⟩ := numOk_yes hs
  have ht := digText_one d hd
  have hz : (digText.extract d (d + 1)).size = 1 := by rw [size_list, ht]; rfl
  have hx : (s.extract 0 10).size = 10 := by rw [ByteArray.size_extract]; omega
  exact ⟨s.extract 0 10 ++ digText.extract d (d + 1), by rw [ByteArray.size_append]; omega,
    fun w => run_string_add w (s.extract 0 10) (digText.extract d (d + 1)) (by omega) (by omega), numOk_put hx h2 hd ht⟩
def cnt (c : Int) (d : Nat) : Int := if c < d then 1 else 0

set_option maxHeartbeats 2000000 in
set_option maxRecDepth 100000 in
theorem walk (a0 : Option Addr) (len0 cap0 : Nat) (z0 : List Int) (w : World) (w0 : IsRow .u8 w a0 len0 cap0 z0) (hT : Tab w) :
    Calls Tryd.prog 3 #[.slice a0 len0 cap0] w fun e w' => e = .returned (.bool true) ∧ Below w.heap.size w w' := by
  have h8 : IsRow8 w a0 len0 cap0 := row8_of w0
  have hm := row8_len h8
  unfold maxLen at hm
  clear w0
  by_cases hl : len0 ≤ 1048576
  · have hld : decide (1048576 < (len0 : Int)) = false := decide_eq_false (by omega)
    go_enter Tryd.func3, Tryd.ntmps3
    go_wp2_with fail
    refine (drawNumberValid_any a0 len0 cap0 w h8).mono ?_
    rintro e w1 ⟨s, hs, rfl, hb⟩
    clear h8 hT
    have hsm : s.size ≤ maxLen := by unfold maxLen; omega
    have HI := Lib.hid fun w => implNumberValid_any s w hsm
    have HS := Lib.hid fun w => specNumberValid_any s w hsm
    cases hok : numOk s
    · rw [hok] at HI HS
      go_wp2_with fail
      refine (HI.out w1).mono ?_
      rintro e w2 ⟨rfl, n1, rfl⟩
      go_wp2_with fail
      refine (HS.out _).mono ?_
      rintro e w3 ⟨rfl, n2, rfl⟩
      go_wp2_with (go_at_call 12; refine (alive_yes _).mono ?_; rintro e w' ⟨rfl, rfl⟩)
      go_ret
      exact ⟨rfl, hb.os, hb.tape, hb.output, hb.size, hb.block⟩
    · rw [hok] at HI HS
      have hsz := (numOk_yes hok).1
      have hxs : (s.extract 0 10).size ≤ 10 := by rw [ByteArray.size_extract]; omega
      have HX := Lib.hid fun w => implNumberValid_any (s.extract 0 10) w (by unfold maxLen; omega)
      rw [numOk_size (s := s.extract 0 10) (by omega)] at HX
      have hc0 : 0 ≤ crS (s.extract 0 10) % 10 := by omega
      have hc9 : crS (s.extract 0 10) % 10 ≤ 9 := by omega
      have HD := Lib.hid fun d hd => digit_facts s d hok hd
      generalize crS (s.extract 0 10) % 10 = c at hc0 hc9 HD
      have s10 : 10 ≤ s.size := by omega
      clear hok hsz hxs
      go_wp2_with fail
      refine (HI.out w1).mono ?_
      rintro e w2 ⟨rfl, n1, rfl⟩
      go_wp2_with fail
      refine (HS.out _).mono ?_
      rintro e w3 ⟨rfl, n2, rfl⟩
      have hb3 : Below w.heap.size w ((w1.drewN n1).drewN n2) := ⟨hb.os, hb.tape, hb.output, hb.size, hb.block⟩
      generalize (w1.drewN n1).drewN n2 = w3 at hb3
      go_wp2_with fail
      go_loopw [5, 6] (fun v i wr => ∃ d : Nat, d ≤ 10 ∧ i = .int .i64 d ∧ v = .int .i64 (cnt c d) ∧ Below w.heap.size w wr) (fun _ i _ => 10 - (intOf i).toNat)
      case atStart => exact ⟨0, by omega, rfl, by unfold cnt; rw [if_neg (by omega)], hb3⟩
      case round =>
        obtain ⟨d, hd, rfl, rfl, hbr⟩ := hrel
        have hn : 0 ≤ cnt c d ∧ cnt c d ≤ 1 := by unfold cnt; split <;> omega
        obtain ⟨hn0, hn1⟩ := hn
        by_cases hlt : d < 10
        · obtain ⟨Y, hY, hadd, hok⟩ := HD.out d hlt
          have hYm : Y.size ≤ maxLen := by unfold maxLen; omega
          have hV := Lib.hid fun w => implNumberValid_any Y w hYm
          have e1 : IntKind.i64.wrap ((d : Int) + 1) = (d : Int) + 1 := IntWalk.i64_in _ (by omega)
          have f1 : (d : Int) + 1 ≤ 10 := by omega
          clear hYm
          by_cases he : (d : Int) = c
          · have hc1 := Lib.hid (show cnt c (d + 1) = cnt c d + 1 by unfold cnt; rw [if_pos (by omega), if_neg (by omega)]; rfl)
            rw [hok, decide_eq_true he] at hV
            clear he hok
            go_wp2_with fail
            go_quiet ((go_at_call 10; exact Calls.quiet_of (hV.out _)))
            go_wp2
            go_roundw
            case rel => exact ⟨d + 1, by omega, by go_num, by rw [hc1.out], ⟨hbr.os, hbr.tape, hbr.output, hbr.size, hbr.block⟩⟩
            case measure => simp [intOf]; omega
          · have hc1 := Lib.hid (show cnt c (d + 1) = cnt c d by unfold cnt; by_cases h : c < d; rw [if_pos (by omega), if_pos h]; rw [if_neg (by omega), if_neg h])
            rw [hok, decide_eq_false he] at hV
            clear he hok
            go_wp2_with fail
            go_quiet ((go_at_call 10; exact Calls.quiet_of (hV.out _)))
            go_wp2
            go_roundw
            case rel => exact ⟨d + 1, by omega, by go_num, by rw [hc1.out], ⟨hbr.os, hbr.tape, hbr.output, hbr.size, hbr.block⟩⟩
            case measure => simp [intOf]; omega
        · have hc1 : (cnt c d == 1) = true := by rw [beq_iff_eq]; unfold cnt; rw [if_pos (by omega)]
          go_wp2_with fail
          refine (HX.out wr).mono ?_
          rintro e w4 ⟨rfl, n3, rfl⟩
          go_wp2_with fail
          go_ret
          exact ⟨rfl, hbr.os, hbr.tape, hbr.output, hbr.size, hbr.block⟩
  · go_enter Tryd.func3, Tryd.ntmps3
    go_wp2
    go_ret
    exact ⟨rfl, Below.refl _ _⟩

theorem gTab : Tryd.prog.globalNamed "internal/strconv.uint64pow10" = some 0 := by kernel_rfl
theorem gTabType : (Tryd.prog.globals[0]?).map (·.type) = some 56 := by kernel_rfl
theorem cellsTab : Tryd.prog.cellsOf 56 = 20 := by kernel_rfl
theorem cellsElem : Tryd.prog.cellsOf 50 = 1 := by kernel_rfl
/-- What the row's list gives: the library's table of powers of ten. -/
theorem table {W : World} (h : laidMetH Tryd.prog Rows.fnNumberValidRow.laid W) : Tab W := by
  obtain ⟨ps, hv, _⟩ := (show laidMet Tryd.prog Rows.fnNumberValidRow.laid W from h)
  obtain ⟨_, _, _, _, _, q0, _, _, _, _, h0v, _⟩ := hv
  obtain ⟨_, _, _, _, _, q1, _, _, _, _, h1v, _⟩ := h0v
  obtain ⟨g', t', cs, fuel, p, q, hg', ht', hvar, hd, _, _⟩ := h1v
  obtain rfl := Option.some.inj (gTab.symm.trans hg')
  obtain rfl := Option.some.inj (gTabType.symm.trans ht')
  unfold Tab Lib.TabIs
  rw [hvar, ← Lib.cells_of_tab (zs := Lib.pow10Tab) (k := .u64) Tryd.underlying56 Tryd.underlying50 cellsElem cellsTab hd]

/-- What the walk gives, for every argument and every world that holds the tables. -/
theorem contract (H : Type) (enc : TypeId × Value → H) (W : World) (base : Nat) (args : Array Value) (ds gs : List (DataW H)) (before : List MemPlace)
    (hval : ∀ (j : Nat) t v, Tryd.f3.params[j]? = some t → args[j]? = some v → Value.okWide Tryd.prog W .any base t v)
    (hW : DataW.Whole enc Tryd.prog Tryd.f3.params.toList Rows.fnNumberValidSpec.vars false W args.toList ds gs before) (hL : laidMetH Tryd.prog Rows.fnNumberValidRow.laid W) :
    Calls Tryd.prog 3 args W fun e W' => ∃ v, e = .returned v ∧ Rows.fnNumberValidSpec.post enc Tryd.prog Tryd.f3 false true false false W args v W' := by
  have hW' := hW
  obtain ⟨p, q, hA0, hV, rfl, hfz, hnd⟩ := hW
  have hA : DataW.TrodAll enc Tryd.prog W 0 (fun _ => true) true Tryd.f3.params.toList args.toList ds p := hA0
  rw [Tryd.params3] at hA hval
  obtain ⟨v0, vs0, d0, ds0, p0, q0, hargs, rfl, rfl, h0, r0⟩ := trodAll_cons hA
  obtain ⟨rfl, rfl, rfl⟩ := trodAll_nil r0
  obtain rfl : args = #[v0] := by cases args; simp_all
  obtain ⟨rfl, rfl⟩ := trodVars_none hV
  obtain ⟨a0, len0, cap0, rfl⟩ := okWide_slice Tryd.underlying22 (hval 0 22 v0 rfl rfl)
  have k0 := h0
  have lt0 : ∀ x ∈ p0, x.block < W.heap.size := by obtain ⟨m, hm⟩ := k0; exact DataW.trod_lt m _ _ _ hm
  obtain ⟨z0, w0⟩ : ∃ zs, IsRow .u8 W a0 len0 cap0 zs := by
    obtain ⟨fuel, hf⟩ := h0
    rcases open_ints Tryd.underlying22 Tryd.underlying5 (by kernel_rfl) hf with ⟨hcs, _⟩ | ⟨x, l, c, zs, hcs, _, hl, hm, hz, _, hcell, hwz⟩
    · simp [Value.cells] at hcs
      obtain ⟨rfl, rfl, rfl⟩ := hcs
      exact ⟨[], .inl ⟨rfl, rfl, rfl, rfl⟩⟩
    · simp [Value.cells] at hcs
      obtain ⟨rfl, rfl, rfl⟩ := hcs
      exact ⟨zs, .inr ⟨_, rfl, hl, hm, by simpa using hz, hcell, hwz⟩⟩
  clear hA0
  refine (walk a0 len0 cap0 z0 W w0 (table hL)).mono fun e W' ⟨he, bel⟩ => ?_
  subst he
  exact ⟨_, rfl, _, _, _, [], _, [], hW', trodAll_mk1 (shut_bool Tryd.underlying4 _), (trodAll_cons_mk (Below.trod laidOut (by kernel_rfl) (of_decide_eq_true (by kernel_rfl)) k0 bel lt0) trodAll_mk0), rfl, bel.frame _, fun h => by cases h⟩

/-- A world for the witness: the settled one, each listed variable holding what its initialiser lays. -/
noncomputable def laidWorld (os : Os) : World :=
  { World.holding Tryd.prog os ⟨#[], #[], []⟩ with heap := ((((World.holding Tryd.prog os ⟨#[], #[], []⟩).heap.modify 2 fun | .cells _ t frozen => .cells #[.int .u8 0, .int .u8 1, .int .u8 28, .int .u8 2, .int .u8 29, .int .u8 14, .int .u8 24, .int .u8 3, .int .u8 30, .int .u8 22, .int .u8 20, .int .u8 15, .int .u8 25, .int .u8 17, .int .u8 4, .int .u8 8, .int .u8 31, .int .u8 27, .int .u8 13, .int .u8 23, .int .u8 21, .int .u8 19, .int .u8 16, .int .u8 7, .int .u8 26, .int .u8 12, .int .u8 18, .int .u8 6, .int .u8 11, .int .u8 5, .int .u8 10, .int .u8 9] t frozen | o => o).modify 3 fun | .cells _ t frozen => .cells #[.int .u8 0, .int .u8 1, .int .u8 56, .int .u8 2, .int .u8 57, .int .u8 49, .int .u8 28, .int .u8 3, .int .u8 61, .int .u8 58, .int .u8 42, .int .u8 50, .int .u8 38, .int .u8 29, .int .u8 17, .int .u8 4, .int .u8 62, .int .u8 47, .int .u8 59, .int .u8 36, .int .u8 45, .int .u8 43, .int .u8 51, .int .u8 22, .int .u8 53, .int .u8 39, .int .u8 33, .int .u8 30, .int .u8 24, .int .u8 18, .int .u8 12, .int .u8 5, .int .u8 63, .int .u8 55, .int .u8 48, .int .u8 27, .int .u8 60, .int .u8 41, .int .u8 37, .int .u8 16, .int .u8 46, .int .u8 35, .int .u8 44, .int .u8 21, .int .u8 52, .int .u8 32, .int .u8 23, .int .u8 11, .int .u8 54, .int .u8 26, .int .u8 40, .int .u8 15, .int .u8 34, .int .u8 20, .int .u8 31, .int .u8 10, .int .u8 25, .int .u8 14, .int .u8 19, .int .u8 9, .int .u8 13, .int .u8 8, .int .u8 7, .int .u8 6] t frozen | o => o).modify 0 fun | .cells _ t frozen => .cells #[.int .u64 1, .int .u64 10, .int .u64 100, .int .u64 1000, .int .u64 10000, .int .u64 100000, .int .u64 1000000, .int .u64 10000000, .int .u64 100000000, .int .u64 1000000000, .int .u64 10000000000, .int .u64 100000000000, .int .u64 1000000000000, .int .u64 10000000000000, .int .u64 100000000000000, .int .u64 1000000000000000, .int .u64 10000000000000000, .int .u64 100000000000000000, .int .u64 1000000000000000000, .int .u64 10000000000000000000] t frozen | o => o) }
theorem laid_met (os : Os) : laidMet Tryd.prog Rows.fnNumberValidRow.laid ((laidWorld os).forCall (fun _ _ => 0) ⟨#[], #[.slice none 0 0], []⟩).memory :=
  laidMet_of_run' 8 (by kernel_rfl) (by kernel_rfl)
theorem reads (os : Os) {H : Type} (enc : TypeId × Value → H) : ∃ places, DataW.whole enc Tryd.prog ((laidWorld os).forCall (fun _ _ => 0) ⟨#[], #[.slice none 0 0], []⟩).memory Tryd.f3.params.toList Rows.fnNumberValidSpec.vars false (#[.slice none 0 0] : Array Value).toList 8 = some ([.nil], [], places) :=
  ⟨[], by kernel_rfl⟩

set_option maxRecDepth 100000 in
theorem lifted (os : Os) (started : os.Started) (H : Type) (enc : TypeId × Value → H) (F : Stop.Interp) :
    ReturnsInHanded {} Tryd.checked os 3 .any ((OpenSpec.ofChange Rows.fnNumberValidSpec).preRow enc Tryd.prog Tryd.f3 Rows.fnNumberValidRow.domain false Rows.fnNumberValidRow.laid) (((OpenSpec.ofChange Rows.fnNumberValidSpec).at F).post enc Tryd.prog Tryd.f3 false true false false) := by
  obtain ⟨places, hx⟩ := reads os enc
  refine returnsInHanded_of_row (C := Tryd.checked) (s := OpenSpec.ofChange Rows.fnNumberValidSpec) own started (by kernel_rfl) Tryd.func3
    (witness_row_at (enc := enc) (C := Tryd.checked) false (laidWorld os) #[.slice none 0 0] rfl (by kernel_rfl) (by kernel_rfl) (by kernel_rfl)
      (OpenSpec.preRow_of_cond 8 hx (by kernel_rfl) (fun k hk => by cases hk) (by kernel_rfl) (laid_met os))) ?_
  intro W base args ds gs before hval hW _ _ _ hL _ _
  exact contract H enc W base args ds gs before hval hW hL

theorem said : Rows.FnNumberValidSaid :=
  OpenClaim.holds_of_cond 3 Tryd.f3 rfl rfl rfl rfl rfl rfl rfl ⟨rfl, rfl, rfl, rfl, rfl⟩ rfl rfl rfl rfl rfl (by kernel_rfl) Tryd.func3 (by kernel_rfl)
    (of_decide_eq_true (by kernel_rfl)) (by unfold Func.isWrapper; first | (rw [if_pos (by decide +kernel)]; kernel_rfl) | (rw [if_neg (by decide +kernel)]; exact ⟨rfl, rfl⟩))
    (fun os started H enc _ F => by rw [OpenClaim.pre_eq_preRow]; exact lifted os started H enc F)

/-- No parameter wants a stand-in; the program's own looks are off: what the card asks. -/
theorem plain (f : FuncId) (fn : Func) (hf : Tryd.pinned.checked.prog.funcNamed "loop.example/containerport/laws.FnNumberValid" = some f) (hfn : Tryd.pinned.checked.prog.funcs[f]? = some fn) :
    false = Tryd.pinned.checked.prog.looks [] ∧ ∀ (j : Nat) t, fn.params[j]? = some t → Tryd.pinned.checked.prog.wantsStandIn t = false := by
  obtain rfl : f = 3 := Option.some.inj ((show Tryd.prog.funcNamed "loop.example/containerport/laws.FnNumberValid" = some 3 by kernel_rfl).symm.trans hf) |>.symm
  obtain rfl : fn = Tryd.f3 := (Option.some.inj (Tryd.func3.symm.trans hfn)).symm
  refine ⟨by kernel_rfl, fun j t ht => ?_⟩
  rw [Tryd.params3] at ht
  have hm : t = 22 := by
    have := Array.mem_of_getElem? ht
    simp at this
    omega
  rcases hm with rfl
  · exact (show Tryd.prog.wantsStandIn 22 = false by kernel_rfl)

theorem proved : Rows.FnNumberValidCardSaid :=
  Claim7.holds_tied_plain_at .later [] _ _ _ _ said (fun _ h => by cases h) (by kernel_rfl) (fun _ h => by cases h) fnNumberValid_row_tie rfl ⟨rfl, rfl⟩ (by kernel_rfl) rfl plain (by kernel_rfl)
#print axioms proved
end Go.Proofs.YtkfpondpepegpaaDoor.fnNumberValid
