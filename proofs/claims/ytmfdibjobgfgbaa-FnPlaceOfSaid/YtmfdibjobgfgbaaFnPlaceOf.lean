/-
  For every code of bytes the law on PlaceOf (the model's answer; SlotOf of the bay, the row and the tier is the slot) returns true and leaves its argument as it was. Conditions: none beyond the form's own reach.
-/
import Derived.Test.YtmfdibjobgfgbaaRows
import Derived.Test.YtmfdibjobgfgbaaGBase
import Derived.WalkKit
import Derived.ProofKit
import Derived.OpenShut
import Derived.ShutString
import Derived.ChangeOld
import Derived.Below
import Derived.Test.YtmfdibjobgfgbaaGCr
import Derived.Test.YtmfdibjobgfgbaaSlW
import Derived.Test.YtmfdibjobgfgbaaSlI
namespace Go.Proofs.Ytmfdibjobgfgbaa.fnPlaceOf
open Go.ChangeShapes Go.WideShapes Go.ChangeAt Go.RowKit
open Go.ChangeMaps (open_string shut_string)
set_option linter.unusedVariables false


/-- What the walk is told of a slice of integers that came in. -/
def IsRow (k : IntKind) (w : World) (a : Option Addr) (len cap : Nat) (zs : List Int) : Prop :=
  (a = none ∧ len = 0 ∧ cap = 0 ∧ zs = []) ∨
  ∃ x, a = some x ∧ len ≤ cap ∧ cap ≤ maxLen ∧ zs.length = cap ∧ (∀ i, i < zs.length → w.cell? (x.add i) = some (.int k (zs.getD i 0))) ∧ ∀ n ∈ zs, (Lit.int k n).wf = true

set_option maxRecDepth 10000 in
set_option maxHeartbeats 4000000 in
theorem walk (a0 : Option Addr) (len0 cap0 : Nat) (w : World) (w0 : IsRow8 w a0 len0 cap0) :
    Calls Try.prog 5 #[.slice a0 len0 cap0] w fun e w' => e = .returned (.bool true) ∧ Below w.heap.size w w' := by
  have hm := row8_len w0
  unfold maxLen at hm
  by_cases hl : ¬ len0 ≤ 1048576
  · go_enter Try.func5, Try.ntmps5
    go_wp2
    go_ret
    exact ⟨rfl, Below.refl _ _⟩
  · have hl := Nat.not_lt.1 (fun h => hl (Nat.not_le.2 h))
    go_enter Try.func5, Try.ntmps5
    go_wp2_with fail
    refine (drawPlaceOf_any a0 len0 cap0 w w0).mono ?_
    rintro e w1 ⟨h, s, rfl, hb⟩
    clear w0
    have HI0 := Lib.hid fun w => implPlaceOf_any h s w
    have HS0 := Lib.hid fun w => specPlaceOf_any h s w
    have HO0 := Lib.hid fun w => implSlotOf_any h (plOf h s).1 (plOf h s).2.1 (plOf h s).2.2 w
    have hv := plOf_cases h s
    generalize plOf h s = p at HI0 HS0 HO0 hv
    obtain ⟨x, y, z⟩ := p
    have HI : Hid (∀ w, Calls Try.prog 16 #[.agg #[.int .i64 h.b, .int .i64 h.r, .int .i64 h.t], .int .i64 s] w fun e w' => e = .returned (.tuple #[.int .i64 x, .int .i64 y, .int .i64 z]) ∧ Below w.heap.size w w') := HI0
    have HS : Hid (∀ w, Calls Try.prog 21 #[.agg #[.int .i64 h.b, .int .i64 h.r, .int .i64 h.t], .int .i64 s] w fun e w' => e = .returned (.tuple #[.int .i64 x, .int .i64 y, .int .i64 z]) ∧ Below w.heap.size w w') := HS0
    have HO1 : Hid (∀ w, Calls Try.prog 18 #[.agg #[.int .i64 h.b, .int .i64 h.r, .int .i64 h.t], .int .i64 x, .int .i64 y, .int .i64 z] w fun e w' => e = .returned (.int .i64 (slOf h x y z)) ∧ Below w.heap.size w w') := HO0
    have hv1 : (x = -1 ∧ y = -1 ∧ z = -1) ∨ (0 ≤ x ∧ slOf h x y z = s) := by
      rcases hv with ⟨_, e⟩ | ⟨_, _, _, h1, _, _, h4⟩
      · simp only [Prod.mk.injEq] at e; exact .inl e
      · exact .inr ⟨h1, h4⟩
    clear HI0 HS0 HO0 hv
    have hx : (x != x) = false := by simp
    have hy : (y != y) = false := by simp
    have hz : (z != z) = false := by simp
    have b2 : Below w1.heap.size w1 (w1.alloc (.cells #[.int .i64 h.b, .int .i64 h.r, .int .i64 h.t] 24)) := (Below.refl _ _).alloc (Nat.le_refl _) _
    have y2 := BoxH.new w1 h
    have C2 := hb.trans (b2.mono hb.size)
    generalize hW2 : w1.alloc (.cells #[.int .i64 h.b, .int .i64 h.r, .int .i64 h.t] 24) = W2 at b2 y2 C2
    have HW2 := Lib.hid hW2
    clear hW2 b2 hb
    have c0 := y2.c0
    have c1 := y2.c1
    have c2 := y2.c2
    go_wp2_with fail
    rw [HW2.out]
    generalize w1.heap.size = Y at y2 c0 c1 c2
    clear HW2
    go_wp2_with fail
    refine (HI.out W2).mono ?_
    rintro e w3 ⟨rfl, b3⟩
    have C3 := C2.trans (b3.mono C2.size)
    have y3 := y2.keep b3
    clear c0 c1 c2 y2 C2 b3
    have c0 := y3.c0
    have c1 := y3.c1
    have c2 := y3.c2
    go_wp2_with fail
    refine (HS.out w3).mono ?_
    rintro e w4 ⟨rfl, b4⟩
    have C4 := C3.trans (b4.mono C3.size)
    have y4 := y3.keep b4
    clear c0 c1 c2 y3 C3 b4
    have c0 := y4.c0
    have c1 := y4.c1
    have c2 := y4.c2
    rcases hv1 with ⟨rfl, rfl, rfl⟩ | ⟨x0, he⟩
    · go_wp2_with fail
      refine (alive_yes _).mono ?_
      rintro e w99 ⟨rfl, rfl⟩
      go_wp2
      go_ret
      exact ⟨rfl, C4⟩
    · have x1 : ¬ x < 0 := by omega
      rw [he] at HO1
      have HO := HO1
      clear HO1 he
      have e0 : (s == s) = true := by simp
      go_wp2_with fail
      refine (HO.out w4).mono ?_
      rintro e w5 ⟨rfl, b5⟩
      have C5 := C4.trans (b5.mono C4.size)
      have y5 := y4.keep b5
      clear c0 c1 c2 y4 C4 b5
      have c0 := y5.c0
      have c1 := y5.c1
      have c2 := y5.c2
      go_wp2_with fail
      go_ret
      exact ⟨rfl, C5⟩

set_option maxRecDepth 100000 in
set_option maxHeartbeats 2000000 in
/-- What the walk gives, for every argument. -/
theorem contract (H : Type) (enc : TypeId × Value → H) (W : World) (base : Nat) (args : Array Value) (ds gs : List (DataW H)) (before : List MemPlace)
    (hval : ∀ (j : Nat) t v, Try.f5.params[j]? = some t → args[j]? = some v → Value.okWide Try.prog W .any base t v)
    (hW : DataW.Whole enc Try.prog Try.f5.params.toList Rows.fnPlaceOfSpec.vars false W args.toList ds gs before) :
    Calls Try.prog 5 args W fun e W' => ∃ v, e = .returned v ∧ Rows.fnPlaceOfSpec.post enc Try.prog Try.f5 false true false false W args v W' := by
  have hW' := hW
  obtain ⟨p, q, hA0, hV, rfl, hfz, hnd⟩ := hW
  have hA : DataW.TrodAll enc Try.prog W 0 (fun _ => true) true Try.f5.params.toList args.toList ds p := hA0
  rw [Try.params5] at hA hval
  obtain ⟨v0, vs0, d0, ds0, p0, q0, hargs, rfl, rfl, h0, r0⟩ := trodAll_cons hA
  obtain ⟨rfl, rfl, rfl⟩ := trodAll_nil r0
  obtain rfl : args = #[v0] := by cases args; simp_all
  obtain ⟨rfl, rfl⟩ := trodVars_none hV
  have k0 := h0
  have lt0 : ∀ x ∈ p0, x.block < W.heap.size := by obtain ⟨m, hm⟩ := k0; exact DataW.trod_lt m _ _ _ hm
  obtain ⟨a0, len0, cap0, rfl⟩ := okWide_slice Try.underlying22 (hval 0 22 v0 rfl rfl)
  obtain ⟨z0, x0⟩ : ∃ zs, IsRow .u8 W a0 len0 cap0 zs := by
    obtain ⟨fuel, hf⟩ := h0
    rcases open_ints Try.underlying22 Try.underlying5 (by kernel_rfl) hf with ⟨hcs, _⟩ | ⟨x, l, c, zs, hcs, _, hl, hm, hz, _, hcell, hwz⟩
    · simp [Value.cells] at hcs
      obtain ⟨rfl, rfl, rfl⟩ := hcs
      exact ⟨[], .inl ⟨rfl, rfl, rfl, rfl⟩⟩
    · simp [Value.cells] at hcs
      obtain ⟨rfl, rfl, rfl⟩ := hcs
      exact ⟨zs, .inr ⟨_, rfl, hl, hm, by simpa using hz, hcell, hwz⟩⟩
  clear hA0
  refine (walk a0 len0 cap0 W (row8_of x0)).mono fun e W' ⟨he, bel⟩ => ?_
  subst he
  exact ⟨_, rfl, _, _, _, [], _, [], hW', trodAll_mk1 (shut_bool Try.underlying4 _), (trodAll_cons_mk (Below.trod laidOut (by kernel_rfl) (of_decide_eq_true (by kernel_rfl)) k0 bel lt0) trodAll_mk0), rfl, bel.frame _, fun h => by cases h⟩

set_option maxRecDepth 100000 in
theorem lifted (os : Os) (started : os.Started) (H : Type) (enc : TypeId × Value → H) :
    ReturnsInHanded {} Try.checked os 5 .any (Rows.fnPlaceOfSpec.pre6 enc Try.prog Try.f5 Rows.fnPlaceOfRow.domain false) (Rows.fnPlaceOfSpec.post enc Try.prog Try.f5 false true false false) := by
  refine returnsInHanded_of_change (C := Try.checked) own started (by kernel_rfl) Try.func5
    (ChangeSpec.witness6 (enc := enc) (C := Try.checked) false ⟨#[], #[.slice none 0 0], []⟩ 8 (by kernel_rfl) (by kernel_rfl) (by kernel_rfl) (by kernel_rfl)) ?_
  intro W base args ds gs before hval hW _ _
  exact contract H enc W base args ds gs before hval hW

theorem proved : Rows.FnPlaceOfSaid :=
  OpenClaim.holds_of_wide 5 Try.f5 rfl rfl rfl rfl rfl rfl rfl ⟨rfl, rfl, rfl, rfl, rfl⟩ rfl rfl rfl rfl rfl (by kernel_rfl) Try.func5 (by kernel_rfl)
    (of_decide_eq_true (by kernel_rfl)) (by unfold Func.isWrapper; first | (rw [if_pos (by decide +kernel)]; kernel_rfl) | (rw [if_neg (by decide +kernel)]; exact ⟨rfl, rfl⟩))
    (fun os started H enc _ => lifted os started H enc)
#print axioms proved
end Go.Proofs.Ytmfdibjobgfgbaa.fnPlaceOf
