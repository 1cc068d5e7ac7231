/-
  For every code of bytes the law on WeightOf (the model's answer; the sum of some is that of the first half and that of the others, and at least as much as there are ids) returns true and leaves its argument as it was. Conditions: none beyond the form's own reach.
-/
import Derived.Test.YtjnoekhdkmgagaaRows
import Derived.Test.YtjnoekhdkmgagaaGBase
import Derived.WalkKit
import Derived.ProofKit
import Derived.OpenShut
import Derived.ShutString
import Derived.ChangeOld
import Derived.Below
import Derived.Test.YtjnoekhdkmgagaaGCr
import Derived.Test.YtjnoekhdkmgagaaDrWo
import Derived.Test.YtjnoekhdkmgagaaGBl
import Derived.Test.YtjnoekhdkmgagaaBxGMath
import Derived.Deep.RegionWith
import Derived.IntWalk
namespace Go.Proofs.Ytjnoekhdkmgagaa.fnWeightOf
open Go.ChangeShapes Go.WideShapes Go.ChangeAt Go.RowKit
open Go.ChangeMaps (open_string shut_string)
set_option linter.unusedVariables false


/-- What the walk is told of a slice of integers that came in. -/
def IsRow (k : IntKind) (w : World) (a : Option Addr) (len cap : Nat) (zs : List Int) : Prop :=
  (a = none ∧ len = 0 ∧ cap = 0 ∧ zs = []) ∨
  ∃ x, a = some x ∧ len ≤ cap ∧ cap ≤ maxLen ∧ zs.length = cap ∧ (∀ i, i < zs.length → w.cell? (x.add i) = some (.int k (zs.getD i 0))) ∧ ∀ n ∈ zs, (Lit.int k n).wf = true

set_option maxHeartbeats 8000000 in
theorem walk (a0 : Option Addr) (len0 cap0 : Nat) (w : World) (w0 : IsRow8 w a0 len0 cap0) :
    Calls Try.prog 6 #[.slice a0 len0 cap0] w fun e w' => e = .returned (.bool true) ∧ Below w.heap.size w w' := by
  have hm := row8_len w0
  unfold maxLen at hm
  by_cases hl : len0 ≤ 1048576
  · go_enter Try.func6, Try.ntmps6
    go_wp2_with fail
    refine (drawWeightOf_any a0 len0 cap0 w w0).mono ?_
    rintro e w1 ⟨l, ids, v, u, rfl, hh, hi, ⟨b, cap, rfl⟩, hl40, hi6, hb⟩
    clear w0
    have HH := Lib.hid hh
    have HI := Lib.hid hi
    have HW := Lib.hid fun w u ids (h : HoldsBx w v l) (g : HoldsI w u ids) hlen => implWeightOf_any v u l ids w h g hlen
    have HG := Lib.hid fun w (h : HoldsBx w v l) (g : HoldsI w (.slice (some ⟨b, 0, none⟩) ids.length cap) ids) => specWeightOf_any v _ l ids w h g (by omega)
    obtain ⟨a, cap', he, q1, q2, q3⟩ := hi
    simp only [Value.slice.injEq, true_and] at he
    obtain ⟨rfl, rfl⟩ := he
    clear q3
    clear hh
    unfold maxLen at q2
    go_wp2_with fail
    refine (HW.out _ _ ids HH.out HI.out (by omega)).mono ?_
    rintro e w2 ⟨rfl, b2⟩
    go_wp2_with fail
    refine (HG.out _ (HH.out.keep b2) (HI.out.keep b2)).mono ?_
    rintro e w3 ⟨rfl, b3⟩
    have hb3 : Below w.heap.size w w3 := (hb.trans (b2.mono hb.size)).trans (b3.mono (Nat.le_trans hb.size b2.size))
    have HH3 := Lib.hid ((HH.out.keep b2).keep b3)
    have HI3 := Lib.hid ((HI.out.keep b2).keep b3)
    have hxx : (weighS l ids != weighS l ids) = false := by rw [bne_eq_false_iff_eq]
    have hbd := weighS_bd l ids
    have hcut := Lib.hid (weighS_cut (l := l) (ids := ids) (ids.length / 2) (by omega))
    clear HG HH HI b2 b3 hb
    by_cases hx : weighS l ids < 0
    · have hx1 : weighS l ids = -1 := by omega
      rw [hx1] at hxx ⊢
      clear hx hx1 hbd
      go_wp2_with fail
      refine (alive_yes _).mono ?_
      rintro e w5 ⟨rfl, rfl⟩
      go_wp2
      go_ret
      exact ⟨rfl, hb3⟩
    · obtain ⟨c1, c2, c3, c4⟩ := hcut.out (by omega)
      by_cases hz : ids.length = 0
      · obtain rfl := List.eq_nil_of_length_eq_zero hz
        have hx0 : weighS l [] = 0 := by
          have e1 : ([] : List Int).take (([] : List Int).length / 2) = [] := rfl
          have e2 : ([] : List Int).drop (([] : List Int).length / 2) = [] := rfl
          rw [e1, e2] at c1
          omega
        have HW1 := Lib.hid fun w a c (hc : c ≤ maxLen) (h : Below w3.heap.size w3 w) => HW.out w (.slice a 0 c) [] (HH3.out.keep h) ⟨a, c, rfl, Nat.zero_le _, hc, .inl rfl⟩ (Nat.zero_le _)
        rw [hx0] at HW1 hxx ⊢
        have hcm : cap ≤ maxLen := by unfold maxLen; omega
        clear hcut c1 c2 c3 c4 hbd hx HW hx0
        by_cases hc0 : cap = 0
        · subst hc0
          go_wp2_with fail
          have bd : Below w3.heap.size w3 w3.drew := (Below.refl _ _).drew
          (first | go_region_with (first | (go_at_call 23; ((with_reducible refine (HW1.out _ _ _ hcm bd).mono ?_); rintro e w4 ⟨rfl, b4⟩; have bb : Below w3.heap.size w3 w4 := bd.trans b4)) | (go_at_call 23; ((with_reducible refine (HW1.out _ _ _ hcm bb).mono ?_); rintro e w5 ⟨rfl, b5⟩))) | fail)
          all_goals
            have hx5 : Below w3.heap.size w3 w5 := bb.trans (b5.mono bb.size)
            go_wp2_with fail
            go_ret
            refine ⟨?_, hb3.trans (hx5.mono hb3.size)⟩
            (go_simp <;> exact IntWalk.i64_in _ (by omega))
        · go_wp2_with fail
          have bd : Below w3.heap.size w3 w3.drew := (Below.refl _ _).drew
          (first | go_region_with (first | (go_at_call 23; ((with_reducible refine (HW1.out _ _ _ hcm bd).mono ?_); rintro e w4 ⟨rfl, b4⟩; have bb : Below w3.heap.size w3 w4 := bd.trans b4)) | (go_at_call 23; ((with_reducible refine (HW1.out _ _ _ hcm bb).mono ?_); rintro e w5 ⟨rfl, b5⟩))) | fail)
          all_goals
            have hx5 : Below w3.heap.size w3 w5 := bb.trans (b5.mono bb.size)
            go_wp2_with fail
            go_ret
            refine ⟨?_, hb3.trans (hx5.mono hb3.size)⟩
            (go_simp <;> exact IntWalk.i64_in _ (by omega))
      · have hn40 := (weighS_bd l (ids.take (ids.length / 2))).2
        have hn41 := (weighS_bd l (ids.drop (ids.length / 2))).2
        rw [List.length_take] at hn40
        rw [List.length_drop] at hn41
        have hd0 := HI3.out.drop (ids.length / 2) (by omega)
        rw [Nat.zero_add] at hd0
        have hd := Lib.hid hd0
        clear hd0
        have ht := Lib.hid (HI3.out.take (ids.length / 2) (by omega))
        have HW1 := Lib.hid fun w (h : Below w3.heap.size w3 w) => HW.out w _ _ (HH3.out.keep h) (ht.out.keep h) (by rw [List.length_take]; omega)
        have HW2 := Lib.hid fun w (h : Below w3.heap.size w3 w) => HW.out w _ _ (HH3.out.keep h) (hd.out.keep h) (by rw [List.length_drop]; omega)
        have hcmp : (weighS l (ids.take (ids.length / 2)) + weighS l (ids.drop (ids.length / 2)) == weighS l ids) = true := by rw [beq_iff_eq]; exact c1
        clear hcut c1 HW
        have a180 : weighS l (ids.take (ids.length / 2)) ≤ 180 := by omega
        have d180 : weighS l (ids.drop (ids.length / 2)) ≤ 180 := by omega
        clear hn40 hn41
        generalize weighS l (ids.take (ids.length / 2)) = A at *
        generalize weighS l (ids.drop (ids.length / 2)) = D at *
        generalize weighS l ids = x at *
        have hn2 : (0 : Int) ≤ (ids.length : Int) / 2 := by omega
        have hn3 : (ids.length : Int) / 2 ≤ (ids.length : Int) := by omega
        have hn4 : (ids.length : Int) / 2 ≤ (cap : Int) := by omega
        have hn5 : ¬ cap = ids.length / 2 := by omega
        have hn6 : IntKind.i64.wrap (A + D) = A + D := IntWalk.i64_in _ (by omega)
        have hn7 : ((ids.length : Int) / 2).toNat = ids.length / 2 := by omega
        go_wp2_with fail
        have bd : Below w3.heap.size w3 w3.drew := (Below.refl _ _).drew
        (first | go_region_with (first | (go_at_call 23; ((with_reducible refine (HW1.out _ bd).mono ?_); rintro e w4 ⟨rfl, b4⟩; have bb : Below w3.heap.size w3 w4 := bd.trans b4)) | (go_at_call 23; ((with_reducible refine (HW2.out _ bb).mono ?_); rintro e w5 ⟨rfl, b5⟩))) | fail)
        all_goals
          have hx5 : Below w3.heap.size w3 w5 := bb.trans (b5.mono bb.size)
          go_wp2_with fail
          go_ret
          refine ⟨?_, hb3.trans (hx5.mono hb3.size)⟩
          (go_simp <;> exact IntWalk.i64_in _ (by omega))
  · go_enter Try.func6, Try.ntmps6
    go_wp2
    go_ret
    exact ⟨rfl, Below.refl _ _⟩

set_option maxRecDepth 100000 in
set_option maxHeartbeats 2000000 in
/-- What the walk gives, for every argument. -/
theorem contract (H : Type) (enc : TypeId × Value → H) (W : World) (base : Nat) (args : Array Value) (ds gs : List (DataW H)) (before : List MemPlace)
    (hval : ∀ (j : Nat) t v, Try.f6.params[j]? = some t → args[j]? = some v → Value.okWide Try.prog W .any base t v)
    (hW : DataW.Whole enc Try.prog Try.f6.params.toList Rows.fnWeightOfSpec.vars false W args.toList ds gs before) :
    Calls Try.prog 6 args W fun e W' => ∃ v, e = .returned v ∧ Rows.fnWeightOfSpec.post enc Try.prog Try.f6 false true false false W args v W' := by
  have hW' := hW
  obtain ⟨p, q, hA0, hV, rfl, hfz, hnd⟩ := hW
  have hA : DataW.TrodAll enc Try.prog W 0 (fun _ => true) true Try.f6.params.toList args.toList ds p := hA0
  rw [Try.params6] at hA hval
  obtain ⟨v0, vs0, d0, ds0, p0, q0, hargs, rfl, rfl, h0, r0⟩ := trodAll_cons hA
  obtain ⟨rfl, rfl, rfl⟩ := trodAll_nil r0
  obtain rfl : args = #[v0] := by cases args; simp_all
  obtain ⟨rfl, rfl⟩ := trodVars_none hV
  have k0 := h0
  have lt0 : ∀ x ∈ p0, x.block < W.heap.size := by obtain ⟨m, hm⟩ := k0; exact DataW.trod_lt m _ _ _ hm
  obtain ⟨a0, len0, cap0, rfl⟩ := okWide_slice Try.underlying22 (hval 0 22 v0 rfl rfl)
  obtain ⟨z0, x0⟩ : ∃ zs, IsRow .u8 W a0 len0 cap0 zs := by
    obtain ⟨fuel, hf⟩ := h0
    rcases open_ints Try.underlying22 Try.underlying5 (by kernel_rfl) hf with ⟨hcs, _⟩ | ⟨x, l, c, zs, hcs, _, hl, hm, hz, _, hcell, hwz⟩
    · simp [Value.cells] at hcs
      obtain ⟨rfl, rfl, rfl⟩ := hcs
      exact ⟨[], .inl ⟨rfl, rfl, rfl, rfl⟩⟩
    · simp [Value.cells] at hcs
      obtain ⟨rfl, rfl, rfl⟩ := hcs
      exact ⟨zs, .inr ⟨_, rfl, hl, hm, by simpa using hz, hcell, hwz⟩⟩
  clear hA0
  refine (walk a0 len0 cap0 W (row8_of x0)).mono fun e W' ⟨he, bel⟩ => ?_
  subst he
  exact ⟨_, rfl, _, _, _, [], _, [], hW', trodAll_mk1 (shut_bool Try.underlying4 _), (trodAll_cons_mk (Below.trod laidOut (by kernel_rfl) (of_decide_eq_true (by kernel_rfl)) k0 bel lt0) trodAll_mk0), rfl, bel.frame _, fun h => by cases h⟩

set_option maxRecDepth 100000 in
theorem lifted (os : Os) (started : os.Started) (H : Type) (enc : TypeId × Value → H) :
    ReturnsInHanded {} Try.checked os 6 .any (Rows.fnWeightOfSpec.pre6 enc Try.prog Try.f6 Rows.fnWeightOfRow.domain false) (Rows.fnWeightOfSpec.post enc Try.prog Try.f6 false true false false) := by
  refine returnsInHanded_of_change (C := Try.checked) own started (by kernel_rfl) Try.func6
    (ChangeSpec.witness6 (enc := enc) (C := Try.checked) false ⟨#[], #[.slice none 0 0], []⟩ 8 (by kernel_rfl) (by kernel_rfl) (by kernel_rfl) (by kernel_rfl)) ?_
  intro W base args ds gs before hval hW _ _
  exact contract H enc W base args ds gs before hval hW

theorem proved : Rows.FnWeightOfSaid :=
  OpenClaim.holds_of_wide 6 Try.f6 rfl rfl rfl rfl rfl rfl rfl ⟨rfl, rfl, rfl, rfl, rfl⟩ rfl rfl rfl rfl rfl (by kernel_rfl) Try.func6 (by kernel_rfl)
    (of_decide_eq_true (by kernel_rfl)) (by unfold Func.isWrapper; first | (rw [if_pos (by decide +kernel)]; kernel_rfl) | (rw [if_neg (by decide +kernel)]; exact ⟨rfl, rfl⟩))
    (fun os started H enc _ => lifted os started H enc)
#print axioms proved
end Go.Proofs.Ytjnoekhdkmgagaa.fnWeightOf
