/-
  For every list of boxes and every list of ids the law on WeightOf's exact answer returns true and leaves its arguments as they were: the program's WeightOf and the model's give the same, and the program's writes nothing. Conditions: none beyond the form's own reach.
-/
import Derived.Test.YtjnoekhdkmgagaaRows
import Derived.Test.YtjnoekhdkmgagaaGBase
import Derived.WalkKit
import Derived.ProofKit
import Derived.OpenShut
import Derived.ShutString
import Derived.ChangeOld
import Derived.Below
import Derived.Test.YtjnoekhdkmgagaaGBx
import Derived.Test.YtjnoekhdkmgagaaGNo
import Derived.Test.YtjnoekhdkmgagaaGBl
namespace Go.Proofs.Ytjnoekhdkmgagaa.fnExactWeightOf
open Go.ChangeShapes Go.WideShapes Go.ChangeAt Go.RowKit
open Go.ChangeMaps (open_string shut_string)
set_option linter.unusedVariables false


/-- What the walk is told of a slice of integers that came in. -/
def IsRow (k : IntKind) (w : World) (a : Option Addr) (len cap : Nat) (zs : List Int) : Prop :=
  (a = none ∧ len = 0 ∧ cap = 0 ∧ zs = []) ∨
  ∃ x, a = some x ∧ len ≤ cap ∧ cap ≤ maxLen ∧ zs.length = cap ∧ (∀ i, i < zs.length → w.cell? (x.add i) = some (.int k (zs.getD i 0))) ∧ ∀ n ∈ zs, (Lit.int k n).wf = true

set_option maxHeartbeats 1000000 in
theorem walk (a0 : Option Addr) (len0 cap0 : Nat) (l0 : List Bx) (a1 : Option Addr) (len1 cap1 : Nat) (z1 : List Int) (w : World) (w0 : IsBoxes w a0 len0 cap0 l0) (w1 : IsRowI w a1 len1 cap1 z1) :
    Calls Try.prog 11 #[.slice a0 len0 cap0, .slice a1 len1 cap1] w fun e w' => e = .returned (.bool true) ∧ Below w.heap.size w w' := by
  obtain ⟨hh, hl⟩ := HoldsBx.of_came w0
  obtain ⟨gg, gl⟩ := HoldsI.of_came w1
  generalize z1.take len1 = ids at gg gl
  have hm : len0 ≤ maxLen := by obtain ⟨_, cap, h1, h2, h3, _⟩ := hh; omega
  have gm : len1 ≤ maxLen := by obtain ⟨_, cap, h1, h2, h3, _⟩ := gg; omega
  have gm' := gm
  unfold maxLen at gm'
  have HZ := Lib.hid fun w => szBoxS_any a0 len0 cap0 1048576 w (by omega) (by omega) hm
  have HH := Lib.hid hh
  have GG := Lib.hid gg
  clear w0 w1 hh hm gg gm
  by_cases gn : len1 ≤ 1048576
  · by_cases hn : len0 ≤ 1048576
    · rw [if_neg (by omega)] at HZ
      have HT := Lib.hid fun w1 (b1 : Below w.heap.size w w1) => toBoxS_any (.slice a0 len0 cap0) l0 w1 (HH.out.keep b1) (by omega)
      have GT := Lib.hid fun w1 (b1 : Below w.heap.size w w1) => toIntS_any (.slice a1 len1 cap1) ids w1 (GG.out.keep b1) (by omega)
      have d0 : decide ((1048576 : Int) - len0 < 0) = false := decide_eq_false (by omega)
      have HS := Lib.hid fun u v w1 (h : HoldsBx w1 u l0) (g : HoldsI w1 v ids) => specWeightOf_any u v l0 ids w1 h g (by omega)
      have HI := Lib.hid fun u v w1 (h : HoldsBx w1 u l0) (g : HoldsI w1 v ids) => implWeightOf_any u v l0 ids w1 h g (by omega)
      generalize weighS l0 ids = r at HS HI
      have hr : (r != r) = false := by simp
      go_enter Try.func11, Try.ntmps11
      go_wp2_with fail
      refine (HZ.out w).mono ?_
      rintro e w' ⟨rfl, rfl⟩
      go_wp2_with fail
      refine (HT.out w (Below.refl _ _)).mono ?_
      rintro e w1 ⟨u1, rfl, h1, c1⟩
      go_wp2_with fail
      refine (GT.out w1 c1).mono ?_
      rintro e w2 ⟨v1, rfl, g2, b2⟩
      have c2 := c1.trans (b2.mono c1.size)
      go_wp2_with fail
      refine (HS.out u1 v1 w2 (h1.keep b2) g2).mono ?_
      rintro e w3 ⟨rfl, b3⟩
      have c3 := c2.trans (b3.mono c2.size)
      go_wp2_with fail
      refine (HT.out w3 c3).mono ?_
      rintro e w4 ⟨u2, rfl, h4, b4⟩
      have c4 := c3.trans (b4.mono c3.size)
      go_wp2_with fail
      refine (GT.out w4 c4).mono ?_
      rintro e w5 ⟨v2, rfl, g5, b5⟩
      have c5 := c4.trans (b5.mono c4.size)
      have h5 := h4.keep b5
      go_wp2_with fail
      refine (HI.out u2 v2 w5 h5 g5).mono ?_
      rintro e w6 ⟨rfl, b6⟩
      have c6 := c5.trans (b6.mono c5.size)
      have h6 := h5.keep b6
      have g6 := g5.keep b6
      go_wp2_with fail
      refine (HT.out w6 c6).mono ?_
      rintro e w7 ⟨u3, rfl, h7, b7⟩
      have c7 := c6.trans (b7.mono c6.size)
      go_wp2_with fail
      refine (eqBoxS_same u2 u3 l0 w7 (h6.keep b7) h7).mono ?_
      rintro e w8 ⟨rfl, b8⟩
      have c8 := c7.trans (b8.mono c7.size)
      have g8 := (g6.keep b7).keep b8
      go_wp2_with fail
      refine (GT.out w8 c8).mono ?_
      rintro e w9 ⟨v3, rfl, g9, b9⟩
      have c9 := c8.trans (b9.mono c8.size)
      go_wp2_with fail
      refine (eqIntS_same v2 v3 ids w9 (g8.keep b9) g9).mono ?_
      rintro e wx ⟨rfl, bx⟩
      have cx := c9.trans (bx.mono c9.size)
      go_wp2_with fail
      go_ret
      exact ⟨rfl, cx⟩
    · rw [if_pos (by omega)] at HZ
      go_enter Try.func11, Try.ntmps11
      go_wp2_with fail
      refine (HZ.out w).mono ?_
      rintro e w' ⟨rfl, rfl⟩
      go_wp2_with fail
      go_ret
      exact ⟨rfl, Below.refl _ _⟩
  · go_enter Try.func11, Try.ntmps11
    go_wp2
    go_ret
    exact ⟨rfl, Below.refl _ _⟩

set_option maxRecDepth 100000 in
set_option maxHeartbeats 2000000 in
/-- What the walk gives, for every argument. -/
theorem contract (H : Type) (enc : TypeId × Value → H) (W : World) (base : Nat) (args : Array Value) (ds gs : List (DataW H)) (before : List MemPlace)
    (hval : ∀ (j : Nat) t v, Try.f11.params[j]? = some t → args[j]? = some v → Value.okWide Try.prog W .any base t v)
    (hW : DataW.Whole enc Try.prog Try.f11.params.toList Rows.fnExactWeightOfSpec.vars false W args.toList ds gs before) :
    Calls Try.prog 11 args W fun e W' => ∃ v, e = .returned v ∧ Rows.fnExactWeightOfSpec.post enc Try.prog Try.f11 false true false false W args v W' := by
  have hW' := hW
  obtain ⟨p, q, hA0, hV, rfl, hfz, hnd⟩ := hW
  have hA : DataW.TrodAll enc Try.prog W 0 (fun _ => true) true Try.f11.params.toList args.toList ds p := hA0
  rw [Try.params11] at hA hval
  obtain ⟨v0, vs0, d0, ds0, p0, q0, hargs, rfl, rfl, h0, r0⟩ := trodAll_cons hA
  obtain ⟨v1, vs1, d1, ds1, p1, q1, rfl, rfl, rfl, h1, r1⟩ := trodAll_cons r0
  obtain ⟨rfl, rfl, rfl⟩ := trodAll_nil r1
  obtain rfl : args = #[v0, v1] := by cases args; simp_all
  obtain ⟨rfl, rfl⟩ := trodVars_none hV
  have k0 := h0
  have lt0 : ∀ x ∈ p0, x.block < W.heap.size := by obtain ⟨m, hm⟩ := k0; exact DataW.trod_lt m _ _ _ hm
  obtain ⟨a0, len0, cap0, rfl⟩ := okWide_slice Try.underlying46 (hval 0 46 v0 rfl rfl)
  obtain ⟨l0, x0⟩ : ∃ l, IsBoxes W a0 len0 cap0 l := by
    obtain ⟨fuel, hf⟩ := h0
    exact boxes_slice Try.underlying46 Try.underlying39 (by kernel_rfl) (by kernel_rfl) (by simp) (by simpa [Value.cells] using hf)
  have k1 := h1
  have lt1 : ∀ x ∈ p1, x.block < W.heap.size := by obtain ⟨m, hm⟩ := k1; exact DataW.trod_lt m _ _ _ hm
  obtain ⟨a1, len1, cap1, rfl⟩ := okWide_slice Try.underlying35 (hval 1 35 v1 rfl rfl)
  obtain ⟨z1, x1⟩ : ∃ zs, IsRow .i64 W a1 len1 cap1 zs := by
    obtain ⟨fuel, hf⟩ := h1
    rcases open_ints Try.underlying35 Try.underlying3 (by kernel_rfl) hf with ⟨hcs, _⟩ | ⟨x, l, c, zs, hcs, _, hl, hm, hz, _, hcell, hwz⟩
    · simp [Value.cells] at hcs
      obtain ⟨rfl, rfl, rfl⟩ := hcs
      exact ⟨[], .inl ⟨rfl, rfl, rfl, rfl⟩⟩
    · simp [Value.cells] at hcs
      obtain ⟨rfl, rfl, rfl⟩ := hcs
      exact ⟨zs, .inr ⟨_, rfl, hl, hm, by simpa using hz, hcell, hwz⟩⟩
  clear hA0
  refine (walk a0 len0 cap0 l0 a1 len1 cap1 z1 W x0 x1).mono fun e W' ⟨he, bel⟩ => ?_
  subst he
  exact ⟨_, rfl, _, _, _, [], _, [], hW', trodAll_mk1 (shut_bool Try.underlying4 _), (trodAll_cons_mk (Below.trod laidOut (by kernel_rfl) (of_decide_eq_true (by kernel_rfl)) k0 bel lt0) (trodAll_cons_mk (Below.trod laidOut (by kernel_rfl) (of_decide_eq_true (by kernel_rfl)) k1 bel lt1) trodAll_mk0)), rfl, bel.frame _, fun h => by cases h⟩

set_option maxRecDepth 100000 in
theorem lifted (os : Os) (started : os.Started) (H : Type) (enc : TypeId × Value → H) :
    ReturnsInHanded {} Try.checked os 11 .any (Rows.fnExactWeightOfSpec.pre6 enc Try.prog Try.f11 Rows.fnExactWeightOfRow.domain false) (Rows.fnExactWeightOfSpec.post enc Try.prog Try.f11 false true false false) := by
  refine returnsInHanded_of_change (C := Try.checked) own started (by kernel_rfl) Try.func11
    (ChangeSpec.witness6 (enc := enc) (C := Try.checked) false ⟨#[], #[.slice none 0 0, .slice none 0 0], []⟩ 8 (by kernel_rfl) (by kernel_rfl) (by kernel_rfl) (by kernel_rfl)) ?_
  intro W base args ds gs before hval hW _ _
  exact contract H enc W base args ds gs before hval hW

theorem proved : Rows.FnExactWeightOfSaid :=
  OpenClaim.holds_of_wide 11 Try.f11 rfl rfl rfl rfl rfl rfl rfl ⟨rfl, rfl, rfl, rfl, rfl⟩ rfl rfl rfl rfl rfl (by kernel_rfl) Try.func11 (by kernel_rfl)
    (of_decide_eq_true (by kernel_rfl)) (by unfold Func.isWrapper; first | (rw [if_pos (by decide +kernel)]; kernel_rfl) | (rw [if_neg (by decide +kernel)]; exact ⟨rfl, rfl⟩))
    (fun os started H enc _ => lifted os started H enc)
#print axioms proved
end Go.Proofs.Ytjnoekhdkmgagaa.fnExactWeightOf
