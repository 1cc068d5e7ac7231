/-
  For every code of bytes the law on BoxValid (the model's answer; with a weight of 0 not valid; harmless, with the same other numbers, valid) returns true and leaves its argument as it was. Conditions: none beyond the form's own reach.
-/
import Derived.Test.YtjnoekhdkmgagaaRows
import Derived.Test.YtjnoekhdkmgagaaGBase
import Derived.WalkKit
import Derived.ProofKit
import Derived.OpenShut
import Derived.ShutString
import Derived.ChangeOld
import Derived.Below
import Derived.Test.YtjnoekhdkmgagaaGCr
import Derived.Test.YtjnoekhdkmgagaaDrBv
import Derived.Test.YtjnoekhdkmgagaaGBx
import Derived.Test.YtjnoekhdkmgagaaGBl
namespace Go.Proofs.Ytjnoekhdkmgagaa.fnBoxValid
open Go.ChangeShapes Go.WideShapes Go.ChangeAt Go.RowKit
open Go.ChangeMaps (open_string shut_string)
set_option linter.unusedVariables false


/-- What the walk is told of a slice of integers that came in. -/
def IsRow (k : IntKind) (w : World) (a : Option Addr) (len cap : Nat) (zs : List Int) : Prop :=
  (a = none ∧ len = 0 ∧ cap = 0 ∧ zs = []) ∨
  ∃ x, a = some x ∧ len ≤ cap ∧ cap ≤ maxLen ∧ zs.length = cap ∧ (∀ i, i < zs.length → w.cell? (x.add i) = some (.int k (zs.getD i 0))) ∧ ∀ n ∈ zs, (Lit.int k n).wf = true

set_option maxHeartbeats 1000000 in
theorem walk (a0 : Option Addr) (len0 cap0 : Nat) (w : World) (w0 : IsRow8 w a0 len0 cap0) :
    Calls Try.prog 3 #[.slice a0 len0 cap0] w fun e w' => e = .returned (.bool true) ∧ Below w.heap.size w w' := by
  have hm := row8_len w0
  unfold maxLen at hm
  by_cases hl : len0 ≤ 1048576
  · go_enter Try.func3, Try.ntmps3
    go_wp2_with fail
    refine (drawBoxValid_any a0 len0 cap0 w w0).mono ?_
    rintro e w1 ⟨⟨i, g, c, p, d⟩, rfl, hb⟩
    clear w0
    have HS := Lib.hid fun w => specBoxValid_any i g c p d w
    have HI := Lib.hid fun w => implBoxValid_any i g c p d w
    have HX := Lib.hid fun w => implBoxValid_any i 0 c p d w
    have HY := Lib.hid fun w => implBoxValid_any i g 0 p d w
    have hx0 : bxOk i 0 c p = false := bxOk_no (by omega)
    have hy0 : bxOk i g c p = true → bxOk i g 0 p = true := fun h => by
      have := bxOk_yes h
      exact decide_eq_true (by omega)
    rw [hx0] at HX
    generalize bxOk i g 0 p = y at HY hy0
    generalize bxOk i g c p = b at HS HI hy0
    have hbb : (b != b) = false := by cases b <;> rfl
    have HB := Lib.hid hy0
    clear hx0 hy0
    go_wp2_with fail
    refine (HI.out _).mono ?_
    rintro e w2 ⟨rfl, b1⟩
    have hx := BoxAt.new b1
    obtain ⟨k0, k1, k2, k3, k4⟩ := hx.cells
    go_wp2_with fail
    refine (HS.out _).mono ?_
    rintro e w3 ⟨rfl, b2⟩
    have hx2 := hx.keep b2
    clear hx k0 k1 k2 k3 k4 b1 b2
    obtain ⟨k0, k1, k2, k3, k4⟩ := hx2.cells
    have hlt := hx2.2.1
    have hne : w1.heap.size ≠ w3.heap.size := Nat.ne_of_lt hlt
    have hbl := hb.trans (hx2.2.2.mono hb.size)
    clear hx2
    generalize w1.heap.size = B at hlt hne k0 k1 k2 k3 k4 ⊢
    have hne2 : ¬ w3.heap.size = B := fun e => hne e.symm
    go_wp2_with fail
    refine (HX.out _).mono ?_
    rintro e w4 ⟨rfl, b4⟩
    have hy := BoxAt.new b4
    have hz : (w3.alloc (.cells #[.int .i64 i, .int .i64 0, .int .i64 c, .int .i64 p, .bool d] 24)).heap.size = w3.heap.size + 1 := by simp
    rw [hz] at hy
    have hb4 : Below w.heap.size w w4 := (hbl.alloc hbl.size _).trans (hy.2.2.mono (by rw [hz]; have := hbl.size; omega))
    obtain ⟨y0, y1, y2, y3, y4⟩ := hy.cells
    clear hy hz b4 hbl k0 k1 k2 k3 k4
    cases b
    · go_wp2_with fail
      refine (alive_yes _).mono ?_
      rintro e w5 ⟨rfl, rfl⟩
      go_wp2
      go_ret
      exact ⟨rfl, hb4⟩
    · obtain rfl : y = true := HB.out rfl
      go_wp2_with fail
      refine (HY.out _).mono ?_
      rintro e w5 ⟨rfl, b5⟩
      have hb5 := hb4.trans (b5.mono hb4.size)
      go_wp2_with fail
      refine (alive_yes _).mono ?_
      rintro e w6 ⟨rfl, rfl⟩
      go_wp2
      go_ret
      exact ⟨rfl, hb5⟩
  · go_enter Try.func3, Try.ntmps3
    go_wp2
    go_ret
    exact ⟨rfl, Below.refl _ _⟩

set_option maxRecDepth 100000 in
set_option maxHeartbeats 2000000 in
/-- What the walk gives, for every argument. -/
theorem contract (H : Type) (enc : TypeId × Value → H) (W : World) (base : Nat) (args : Array Value) (ds gs : List (DataW H)) (before : List MemPlace)
    (hval : ∀ (j : Nat) t v, Try.f3.params[j]? = some t → args[j]? = some v → Value.okWide Try.prog W .any base t v)
    (hW : DataW.Whole enc Try.prog Try.f3.params.toList Rows.fnBoxValidSpec.vars false W args.toList ds gs before) :
    Calls Try.prog 3 args W fun e W' => ∃ v, e = .returned v ∧ Rows.fnBoxValidSpec.post enc Try.prog Try.f3 false true false false W args v W' := by
  have hW' := hW
  obtain ⟨p, q, hA0, hV, rfl, hfz, hnd⟩ := hW
  have hA : DataW.TrodAll enc Try.prog W 0 (fun _ => true) true Try.f3.params.toList args.toList ds p := hA0
  rw [Try.params3] at hA hval
  obtain ⟨v0, vs0, d0, ds0, p0, q0, hargs, rfl, rfl, h0, r0⟩ := trodAll_cons hA
  obtain ⟨rfl, rfl, rfl⟩ := trodAll_nil r0
  obtain rfl : args = #[v0] := by cases args; simp_all
  obtain ⟨rfl, rfl⟩ := trodVars_none hV
  have k0 := h0
  have lt0 : ∀ x ∈ p0, x.block < W.heap.size := by obtain ⟨m, hm⟩ := k0; exact DataW.trod_lt m _ _ _ hm
  obtain ⟨a0, len0, cap0, rfl⟩ := okWide_slice Try.underlying22 (hval 0 22 v0 rfl rfl)
  obtain ⟨z0, x0⟩ : ∃ zs, IsRow .u8 W a0 len0 cap0 zs := by
    obtain ⟨fuel, hf⟩ := h0
    rcases open_ints Try.underlying22 Try.underlying5 (by kernel_rfl) hf with ⟨hcs, _⟩ | ⟨x, l, c, zs, hcs, _, hl, hm, hz, _, hcell, hwz⟩
    · simp [Value.cells] at hcs
      obtain ⟨rfl, rfl, rfl⟩ := hcs
      exact ⟨[], .inl ⟨rfl, rfl, rfl, rfl⟩⟩
    · simp [Value.cells] at hcs
      obtain ⟨rfl, rfl, rfl⟩ := hcs
      exact ⟨zs, .inr ⟨_, rfl, hl, hm, by simpa using hz, hcell, hwz⟩⟩
  clear hA0
  refine (walk a0 len0 cap0 W (row8_of x0)).mono fun e W' ⟨he, bel⟩ => ?_
  subst he
  exact ⟨_, rfl, _, _, _, [], _, [], hW', trodAll_mk1 (shut_bool Try.underlying4 _), (trodAll_cons_mk (Below.trod laidOut (by kernel_rfl) (of_decide_eq_true (by kernel_rfl)) k0 bel lt0) trodAll_mk0), rfl, bel.frame _, fun h => by cases h⟩

set_option maxRecDepth 100000 in
theorem lifted (os : Os) (started : os.Started) (H : Type) (enc : TypeId × Value → H) :
    ReturnsInHanded {} Try.checked os 3 .any (Rows.fnBoxValidSpec.pre6 enc Try.prog Try.f3 Rows.fnBoxValidRow.domain false) (Rows.fnBoxValidSpec.post enc Try.prog Try.f3 false true false false) := by
  refine returnsInHanded_of_change (C := Try.checked) own started (by kernel_rfl) Try.func3
    (ChangeSpec.witness6 (enc := enc) (C := Try.checked) false ⟨#[], #[.slice none 0 0], []⟩ 8 (by kernel_rfl) (by kernel_rfl) (by kernel_rfl) (by kernel_rfl)) ?_
  intro W base args ds gs before hval hW _ _
  exact contract H enc W base args ds gs before hval hW

theorem proved : Rows.FnBoxValidSaid :=
  OpenClaim.holds_of_wide 3 Try.f3 rfl rfl rfl rfl rfl rfl rfl ⟨rfl, rfl, rfl, rfl, rfl⟩ rfl rfl rfl rfl rfl (by kernel_rfl) Try.func3 (by kernel_rfl)
    (of_decide_eq_true (by kernel_rfl)) (by unfold Func.isWrapper; first | (rw [if_pos (by decide +kernel)]; kernel_rfl) | (rw [if_neg (by decide +kernel)]; exact ⟨rfl, rfl⟩))
    (fun os started H enc _ => lifted os started H enc)
#print axioms proved
end Go.Proofs.Ytjnoekhdkmgagaa.fnBoxValid
