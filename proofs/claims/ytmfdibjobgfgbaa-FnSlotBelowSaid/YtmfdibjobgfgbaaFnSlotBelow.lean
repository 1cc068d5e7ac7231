/-
  For every code of bytes the law on SlotBelow (the model's answer; it is one tier lower in the same bay and row, and only the lowest slots have none) returns true and leaves its argument as it was. Conditions: none beyond the form's own reach.
-/
import Derived.Test.YtmfdibjobgfgbaaRows
import Derived.Test.YtmfdibjobgfgbaaGBase
import Derived.WalkKit
import Derived.ProofKit
import Derived.OpenShut
import Derived.ShutString
import Derived.ChangeOld
import Derived.Below
import Derived.Test.YtmfdibjobgfgbaaGCr
import Derived.Test.YtmfdibjobgfgbaaSlW
import Derived.Test.YtmfdibjobgfgbaaSlI
namespace Go.Proofs.Ytmfdibjobgfgbaa.fnSlotBelow
open Go.ChangeShapes Go.WideShapes Go.ChangeAt Go.RowKit
open Go.ChangeMaps (open_string shut_string)
set_option linter.unusedVariables false


/-- What the walk is told of a slice of integers that came in. -/
def IsRow (k : IntKind) (w : World) (a : Option Addr) (len cap : Nat) (zs : List Int) : Prop :=
  (a = none ∧ len = 0 ∧ cap = 0 ∧ zs = []) ∨
  ∃ x, a = some x ∧ len ≤ cap ∧ cap ≤ maxLen ∧ zs.length = cap ∧ (∀ i, i < zs.length → w.cell? (x.add i) = some (.int k (zs.getD i 0))) ∧ ∀ n ∈ zs, (Lit.int k n).wf = true

set_option maxRecDepth 10000 in
set_option maxHeartbeats 4000000 in
theorem walk (a0 : Option Addr) (len0 cap0 : Nat) (w : World) (w0 : IsRow8 w a0 len0 cap0) :
    Calls Try.prog 6 #[.slice a0 len0 cap0] w fun e w' => e = .returned (.bool true) ∧ Below w.heap.size w w' := by
  have hm := row8_len w0
  unfold maxLen at hm
  by_cases hl : ¬ len0 ≤ 1048576
  · go_enter Try.func6, Try.ntmps6
    go_wp2
    go_ret
    exact ⟨rfl, Below.refl _ _⟩
  · have hl := Nat.not_lt.1 (fun h => hl (Nat.not_le.2 h))
    go_enter Try.func6, Try.ntmps6
    go_wp2_with fail
    refine (drawSlotBelow_any a0 len0 cap0 w w0).mono ?_
    rintro e w1 ⟨h, s, rfl, hb⟩
    clear w0
    have HI := Lib.hid fun w => implSlotBelow_any h s w
    have HS := Lib.hid fun w => specSlotBelow_any h s w
    have HP0 := Lib.hid fun w => implPlaceOf_any h s w
    have HQ0 := Lib.hid fun w => implPlaceOf_any h (slBelow h s) w
    have hv := slBelow_law h s
    have hbd : -1 ≤ (plOf h s).2.2 ∧ (plOf h s).2.2 ≤ 2 := by
      rcases plOf_cases h s with ⟨_, e⟩ | ⟨hk, h0, h1, _, _, _, _⟩
      · rw [e]; simp
      · obtain ⟨_, _, p3, _⟩ := plOf_in hk h0 h1
        obtain ⟨g1, g2, g3, g4, g5, g6⟩ := hlOk_iff.1 hk
        rw [plOf_yes hk h0 h1]
        simp only []
        omega
    generalize slBelow h s = v at HI HS HQ0 hv
    generalize plOf h s = p at HP0 hv hbd
    obtain ⟨x, y, z⟩ := p
    have HP : Hid (∀ w, Calls Try.prog 16 #[.agg #[.int .i64 h.b, .int .i64 h.r, .int .i64 h.t], .int .i64 s] w fun e w' => e = .returned (.tuple #[.int .i64 x, .int .i64 y, .int .i64 z]) ∧ Below w.heap.size w w') := HP0
    have hv1 : (v = -1 ∧ z ≤ 0) ∨ (0 ≤ v ∧ plOf h v = (x, y, z - 1)) := hv
    have hbd1 : -1 ≤ z ∧ z ≤ 2 := hbd
    clear HP0 hv hbd
    have zz : IntKind.i64.wrap (z - 1) = z - 1 := IntWalk.i64_in _ (by omega)
    have hr : (v != v) = false := by simp
    have b2 : Below w1.heap.size w1 (w1.alloc (.cells #[.int .i64 h.b, .int .i64 h.r, .int .i64 h.t] 24)) := (Below.refl _ _).alloc (Nat.le_refl _) _
    have y2 := BoxH.new w1 h
    have C2 := hb.trans (b2.mono hb.size)
    generalize hW2 : w1.alloc (.cells #[.int .i64 h.b, .int .i64 h.r, .int .i64 h.t] 24) = W2 at b2 y2 C2
    have HW2 := Lib.hid hW2
    clear hW2 b2 hb
    have c0 := y2.c0
    have c1 := y2.c1
    have c2 := y2.c2
    go_wp2_with fail
    rw [HW2.out]
    generalize w1.heap.size = Y at y2 c0 c1 c2
    clear HW2
    go_wp2_with fail
    refine (HI.out W2).mono ?_
    rintro e w3 ⟨rfl, b3⟩
    have C3 := C2.trans (b3.mono C2.size)
    have y3 := y2.keep b3
    clear c0 c1 c2 y2 C2 b3
    have c0 := y3.c0
    have c1 := y3.c1
    have c2 := y3.c2
    go_wp2_with fail
    refine (HS.out w3).mono ?_
    rintro e w4 ⟨rfl, b4⟩
    have C4 := C3.trans (b4.mono C3.size)
    have y4 := y3.keep b4
    clear c0 c1 c2 y3 C3 b4
    have c0 := y4.c0
    have c1 := y4.c1
    have c2 := y4.c2
    go_wp2_with fail
    refine (HP.out w4).mono ?_
    rintro e w5 ⟨rfl, b5⟩
    have C5 := C4.trans (b5.mono C4.size)
    have y5 := y4.keep b5
    clear c0 c1 c2 y4 C4 b5
    have c0 := y5.c0
    have c1 := y5.c1
    have c2 := y5.c2
    rcases hv1 with ⟨rfl, z0⟩ | ⟨v0, he⟩
    · clear HQ0
      go_wp2_with fail
      refine (alive_yes _).mono ?_
      rintro e w99 ⟨rfl, rfl⟩
      go_wp2
      go_ret
      exact ⟨rfl, C5⟩
    · have v1 : ¬ v < 0 := by omega
      rw [he] at HQ0
      have HQ : Hid (∀ w, Calls Try.prog 16 #[.agg #[.int .i64 h.b, .int .i64 h.r, .int .i64 h.t], .int .i64 v] w fun e w' => e = .returned (.tuple #[.int .i64 x, .int .i64 y, .int .i64 (z - 1)]) ∧ Below w.heap.size w w') := HQ0
      clear HQ0 he
      go_wp2_with fail
      refine (HQ.out w5).mono ?_
      rintro e w6 ⟨rfl, b6⟩
      have C6 := C5.trans (b6.mono C5.size)
      have y6 := y5.keep b6
      clear c0 c1 c2 y5 C5 b6
      have c0 := y6.c0
      have c1 := y6.c1
      have c2 := y6.c2
      have e0 : (x == x) = true := by simp
      have e1 : (y == y) = true := by simp
      have e2 : (z - 1 == z - 1) = true := by simp
      go_wp2_with fail
      go_ret
      exact ⟨rfl, C6⟩

set_option maxRecDepth 100000 in
set_option maxHeartbeats 2000000 in
/-- What the walk gives, for every argument. -/
theorem contract (H : Type) (enc : TypeId × Value → H) (W : World) (base : Nat) (args : Array Value) (ds gs : List (DataW H)) (before : List MemPlace)
    (hval : ∀ (j : Nat) t v, Try.f6.params[j]? = some t → args[j]? = some v → Value.okWide Try.prog W .any base t v)
    (hW : DataW.Whole enc Try.prog Try.f6.params.toList Rows.fnSlotBelowSpec.vars false W args.toList ds gs before) :
    Calls Try.prog 6 args W fun e W' => ∃ v, e = .returned v ∧ Rows.fnSlotBelowSpec.post enc Try.prog Try.f6 false true false false W args v W' := by
  have hW' := hW
  obtain ⟨p, q, hA0, hV, rfl, hfz, hnd⟩ := hW
  have hA : DataW.TrodAll enc Try.prog W 0 (fun _ => true) true Try.f6.params.toList args.toList ds p := hA0
  rw [Try.params6] at hA hval
  obtain ⟨v0, vs0, d0, ds0, p0, q0, hargs, rfl, rfl, h0, r0⟩ := trodAll_cons hA
  obtain ⟨rfl, rfl, rfl⟩ := trodAll_nil r0
  obtain rfl : args = #[v0] := by cases args; simp_all
  obtain ⟨rfl, rfl⟩ := trodVars_none hV
  have k0 := h0
  have lt0 : ∀ x ∈ p0, x.block < W.heap.size := by obtain ⟨m, hm⟩ := k0; exact DataW.trod_lt m _ _ _ hm
  obtain ⟨a0, len0, cap0, rfl⟩ := okWide_slice Try.underlying22 (hval 0 22 v0 rfl rfl)
  obtain ⟨z0, x0⟩ : ∃ zs, IsRow .u8 W a0 len0 cap0 zs := by
    obtain ⟨fuel, hf⟩ := h0
    rcases open_ints Try.underlying22 Try.underlying5 (by kernel_rfl) hf with ⟨hcs, _⟩ | ⟨x, l, c, zs, hcs, _, hl, hm, hz, _, hcell, hwz⟩
    · simp [Value.cells] at hcs
      obtain ⟨rfl, rfl, rfl⟩ := hcs
      exact ⟨[], .inl ⟨rfl, rfl, rfl, rfl⟩⟩
    · simp [Value.cells] at hcs
      obtain ⟨rfl, rfl, rfl⟩ := hcs
      exact ⟨zs, .inr ⟨_, rfl, hl, hm, by simpa using hz, hcell, hwz⟩⟩
  clear hA0
  refine (walk a0 len0 cap0 W (row8_of x0)).mono fun e W' ⟨he, bel⟩ => ?_
  subst he
  exact ⟨_, rfl, _, _, _, [], _, [], hW', trodAll_mk1 (shut_bool Try.underlying4 _), (trodAll_cons_mk (Below.trod laidOut (by kernel_rfl) (of_decide_eq_true (by kernel_rfl)) k0 bel lt0) trodAll_mk0), rfl, bel.frame _, fun h => by cases h⟩

set_option maxRecDepth 100000 in
theorem lifted (os : Os) (started : os.Started) (H : Type) (enc : TypeId × Value → H) :
    ReturnsInHanded {} Try.checked os 6 .any (Rows.fnSlotBelowSpec.pre6 enc Try.prog Try.f6 Rows.fnSlotBelowRow.domain false) (Rows.fnSlotBelowSpec.post enc Try.prog Try.f6 false true false false) := by
  refine returnsInHanded_of_change (C := Try.checked) own started (by kernel_rfl) Try.func6
    (ChangeSpec.witness6 (enc := enc) (C := Try.checked) false ⟨#[], #[.slice none 0 0], []⟩ 8 (by kernel_rfl) (by kernel_rfl) (by kernel_rfl) (by kernel_rfl)) ?_
  intro W base args ds gs before hval hW _ _
  exact contract H enc W base args ds gs before hval hW

theorem proved : Rows.FnSlotBelowSaid :=
  OpenClaim.holds_of_wide 6 Try.f6 rfl rfl rfl rfl rfl rfl rfl ⟨rfl, rfl, rfl, rfl, rfl⟩ rfl rfl rfl rfl rfl (by kernel_rfl) Try.func6 (by kernel_rfl)
    (of_decide_eq_true (by kernel_rfl)) (by unfold Func.isWrapper; first | (rw [if_pos (by decide +kernel)]; kernel_rfl) | (rw [if_neg (by decide +kernel)]; exact ⟨rfl, rfl⟩))
    (fun os started H enc _ => lifted os started H enc)
#print axioms proved
end Go.Proofs.Ytmfdibjobgfgbaa.fnSlotBelow
