/-
  For every code of bytes the law on DigAll (the model's answer; at least Blocking moves; it does not fail where there is room for as many boxes as the stacks may be high, less one) returns true and leaves its argument as it was. Conditions: none beyond the form's own reach.
-/
import Derived.Test.YtlcfldmiibjboaaRows
import Derived.Test.YtlcfldmiibjboaaGBase
import Derived.WalkKit
import Derived.ProofKit
import Derived.OpenShut
import Derived.ShutString
import Derived.ChangeOld
import Derived.Below
import Derived.Test.YtlcfldmiibjboaaGCr
import Derived.Test.YtlcfldmiibjboaaGYv
import Derived.Test.YtlcfldmiibjboaaDgW
import Derived.Test.YtlcfldmiibjboaaDgA
import Derived.Test.YtlcfldmiibjboaaDgB
import Derived.Test.YtlcfldmiibjboaaYiF
namespace Go.Proofs.Ytlcfldmiibjboaa.fnDigAll
open Go.ChangeShapes Go.WideShapes Go.ChangeAt Go.RowKit
open Go.ChangeMaps (open_string shut_string)
set_option linter.unusedVariables false


/-- What the walk is told of a slice of integers that came in. -/
def IsRow (k : IntKind) (w : World) (a : Option Addr) (len cap : Nat) (zs : List Int) : Prop :=
  (a = none ∧ len = 0 ∧ cap = 0 ∧ zs = []) ∨
  ∃ x, a = some x ∧ len ≤ cap ∧ cap ≤ maxLen ∧ zs.length = cap ∧ (∀ i, i < zs.length → w.cell? (x.add i) = some (.int k (zs.getD i 0))) ∧ ∀ n ∈ zs, (Lit.int k n).wf = true

theorem digA_law {h : Int} {ss : List (List Int)} {os : List Int} (ho : ordOk h ss os = true) : (∃ n : Nat, digA h ss os = ((n : Int), true) ∧ blocking h ss os ≤ (n : Int)) ∨ (digA h ss os = (-1, false) ∧ freeY h ss < h - 1) := by
  obtain ⟨h1, h2, h3⟩ := ordOk_iff.1 ho
  cases hd : dgA h os ss with
  | some n =>
    refine .inl ⟨n, by unfold digA; rw [if_pos ho, hd], ?_⟩
    have := dgA_ge os ss n hd
    unfold blocking
    rw [if_pos ho]
    omega
  | none =>
    refine .inr ⟨by unfold digA; rw [if_pos ho, hd], ?_⟩
    rcases Int.lt_or_le (freeY h ss) (h - 1) with hl | hl
    · exact hl
    · exact absurd hd (dgA_room os ss h1 h2 h3 hl)

set_option maxRecDepth 10000 in
set_option maxHeartbeats 8000000 in
theorem walk (a0 : Option Addr) (len0 cap0 : Nat) (w : World) (w0 : IsRow8 w a0 len0 cap0) :
    Calls Try.prog 13 #[.slice a0 len0 cap0] w fun e w' => e = .returned (.bool true) ∧ Below w.heap.size w w' := by
  have hm := row8_len w0
  unfold maxLen at hm
  by_cases hl : ¬ len0 ≤ 1048576
  · go_enter Try.func13, Try.ntmps13
    go_wp2
    go_ret
    exact ⟨rfl, Below.refl _ _⟩
  · have hl := Nat.not_lt.1 (fun h => hl (Nat.not_le.2 h))
    go_enter Try.func13, Try.ntmps13
    go_wp2_with fail
    refine (drawDigAll_any a0 len0 cap0 w w0).mono ?_
    rintro e w1 ⟨h0, u, ss, ov, os, hl7, hf, ho26, rfl, nY, nO, hb⟩
    clear w0
    obtain ⟨ua, uc, rfl⟩ := nY.form
    obtain ⟨oa, oc, rfl⟩ := nO.holds.form
    have hh := nY.holds
    have HI := Lib.hid fun u v w (g : HoldsY w u ss) (gi : HoldsI w v os) => implDigAll_any h0 u v ss os w g gi
    have HS := Lib.hid fun u v w (g : HoldsY w u ss) (gi : HoldsI w v os) => specDigAll_any h0 u v ss os w g gi (by omega)
    have HO := Lib.hid fun u v w (g : HoldsY w u ss) (gi : HoldsI w v os) => specOrderOk_any h0 u v ss os w g gi (by omega)
    have HB := Lib.hid fun u v w (g : HoldsY w u ss) (gi : HoldsI w v os) => implBlocking_any h0 u v ss os w g gi
    have HD := Lib.hid fun u w (g : HoldsY w u ss) => implYardIds_any h0 u ss w g
    have HL := Lib.hid fun ho => digA_law (h := h0) (ss := ss) (os := os) ho
    have HN := Lib.hid fun (ho : ordOk h0 ss os = false) => (show digA h0 ss os = (-1, false) by unfold digA; rw [ho]; rfl)
    have HF := Lib.hid fun (ho : ordOk h0 ss os = true) => (show (idsY h0 ss).length = ss.flatten.length ∧ ss.flatten.length ≤ 25 ∧ 1 ≤ ss.length ∧ ss.length ≤ 5 ∧ 1 ≤ h0 ∧ h0 ≤ 5 from ⟨idsY_len (ordOk_iff.1 ho).1, ydOk_size (ordOk_iff.1 ho).1, (ydOk_iff.1 (ordOk_iff.1 ho).1).2.2⟩)
    generalize hda : digA h0 ss os = da at HI HS HL HN
    obtain ⟨r, r2⟩ := da
    have HI' : Hid (∀ u v w, HoldsY w u ss → HoldsI w v os → Calls Try.prog 54 #[.agg #[.int .i64 h0, u], v] w fun e w' => e = .returned (.tuple #[.int .i64 r, .bool r2]) ∧ Below w.heap.size w w') := HI
    have HS' : Hid (∀ u v w, HoldsY w u ss → HoldsI w v os → Calls Try.prog 55 #[.agg #[.int .i64 h0, u], v] w fun e w' => e = .returned (.tuple #[.int .i64 r, .bool r2]) ∧ Below w.heap.size w w') := HS
    have hr : (r != r) = false := by simp
    have hr2 : (r2 != r2) = false := by cases r2 <;> rfl
    clear HI HS hda
    have b2 : Below w1.heap.size w1 (w1.alloc (.cells #[.int .i64 h0, .slice ua ss.length uc] 25)) := (Below.refl _ _).alloc (Nat.le_refl _) _
    have y2 := BoxY.new w1 h0 (.slice ua ss.length uc)
    have h2 := hh.keep b2
    have o2 := nO.holds.keep b2
    have C2 := hb.trans (b2.mono hb.size)
    generalize hW2 : w1.alloc (.cells #[.int .i64 h0, .slice ua ss.length uc] 25) = W2 at b2 y2 h2 o2 C2
    have HW2 := Lib.hid hW2
    clear hW2 b2 hb hh nY nO
    have ya := y2.c0
    have yb := y2.c1
    go_wp2_with fail
    rw [HW2.out]
    generalize w1.heap.size = Y at y2 ya yb
    clear HW2
    go_wp2_with fail
    refine (HI'.out _ _ W2 h2 o2).mono ?_
    rintro e w3 ⟨rfl, b3⟩
    have C3 := C2.trans (b3.mono C2.size)
    have y3 := y2.keep b3
    have h3 := h2.keep b3
    have o3 := o2.keep b3
    clear C2 y2 h2 o2 b3 ya yb
    have ya := y3.c0
    have yb := y3.c1
    go_wp2_with fail
    refine (HS'.out _ _ w3 h3 o3).mono ?_
    rintro e w4 ⟨rfl, b4⟩
    have C4 := C3.trans (b4.mono C3.size)
    have y4 := y3.keep b4
    have h4 := h3.keep b4
    have o4 := o3.keep b4
    clear C3 y3 h3 o3 b4 ya yb HI' HS'
    have ya := y4.c0
    have yb := y4.c1
    go_wp2_with fail
    refine (HO.out _ _ w4 h4 o4).mono ?_
    rintro e w5 ⟨rfl, b5⟩
    have C5 := C4.trans (b5.mono C4.size)
    have y5 := y4.keep b5
    have h5 := h4.keep b5
    have o5 := o4.keep b5
    clear C4 y4 h4 o4 b5 ya yb
    cases hk : ordOk h0 ss os
    · have hda := HN.out hk
      simp only [Prod.mk.injEq] at hda
      obtain ⟨rfl, rfl⟩ := hda
      clear HL HN HO HB HD HF h5 y5 o5 hr hr2
      go_wp2_with fail
      refine (alive_yes _).mono ?_
      rintro e w6 ⟨rfl, rfl⟩
      go_wp2
      go_ret
      exact ⟨rfl, C5⟩
    · obtain ⟨f1, f2, f3, f4, f5, f6⟩ := HF.out hk
      have hlaw := HL.out hk
      have hfr : freeY h0 ss = (ss.length : Int) * h0 - (ss.flatten.length : Int) := rfl
      rw [hfr, ← f1] at hlaw
      have h25 : (idsY h0 ss).length ≤ 25 := by omega
      have hp1 : (0 : Int) ≤ (ss.length : Int) * h0 := Int.mul_nonneg (by omega) (by omega)
      have hp2 : (ss.length : Int) * h0 ≤ 5 * 5 := Int.mul_le_mul (by omega) (by omega) (by omega) (by omega)
      obtain ⟨P, hP⟩ : ∃ P, P = (ss.length : Int) * h0 := ⟨_, rfl⟩
      rw [← hP] at hp1 hp2 hlaw
      have z1 : IntKind.i64.wrap ((ss.length : Int) * h0) = P := by rw [← hP]; exact IntWalk.i64_in _ (by omega)
      obtain ⟨N, hN⟩ : ∃ N, N = (idsY h0 ss).length := ⟨_, rfl⟩
      rw [← hN] at h25 hlaw
      have z2 : IntKind.i64.wrap (P - (N : Int)) = P - (N : Int) := IntWalk.i64_in _ (by omega)
      have z3 : IntKind.i64.wrap (h0 - 1) = h0 - 1 := IntWalk.i64_in _ (by omega)
      have HNN := Lib.hid hN.symm
      have HLAW := Lib.hid hlaw
      have HC5 := Lib.hid C5
      have HY5 := Lib.hid fun (w' : World) (hs : Since w5 w') => y5.keep hs
      have HH5 := Lib.hid fun (w' : World) (hs : Since w5 w') => h5.keep hs
      have HO5 := Lib.hid fun (w' : World) (hs : Since w5 w') => o5.keep hs
      have CELL := Lib.hid fun (w' : World) (hs : Since w5 w') => (show w'.cell? ⟨Y, 0, none⟩ = some (.int .i64 h0) ∧ w'.cell? ⟨Y, 1, none⟩ = some (.slice ua ss.length uc) ∧ Since w5 w' from ⟨(y5.keep hs).c0, (y5.keep hs).c1, hs⟩)
      have hstart := CELL.out _ (show Since w5 w5.drew from (Below.refl _ _).drew)
      have HD5 := Lib.hid fun (w' : World) (hs : Since w5 w') => HD.out (.slice ua ss.length uc) w' (h5.keep hs)
      clear HL HN HO HF HD h5 y5 o5 C5 hlaw hfr hP hN f1 f2 hk
      go_wp2_with fail
      go_region_held3 (fun w' => w'.cell? ⟨Y, 0, none⟩ = some (.int .i64 h0) ∧ w'.cell? ⟨Y, 1, none⟩ = some (.slice ua ss.length uc) ∧ Since w5 w')
        (first | exact hstart | exact CELL.out _ (Since.call (by exact (‹_ ∧ _› : _ ∧ _ ∧ Since w5 _).2.2) ‹_›))
        (first
          | (go_at_call 22; ((with_reducible refine (HD5.out _ (by exact (‹_ ∧ _› : _ ∧ _ ∧ Since w5 _).2.2)).mono ?_); rintro e w6 ⟨v6, rfl, n6, b6⟩; obtain ⟨p6, k6, rfl⟩ := HoldsI.form (FreeE.holds n6); rw [HNN.out]; clear n6))
          | fail)
      rename_i hheld
      have hx := hheld.2.2
      have C6 := HC5.out.trans (Below.mono hx HC5.out.size)
      have y6 := HY5.out _ hx
      have h6 := HH5.out _ hx
      have o6 := HO5.out _ hx
      clear hheld hx HC5 HY5 HH5 HO5 CELL hstart HD5
      have ya := y6.c0
      have yb := y6.c1
      rcases HLAW.out with ⟨n, he, hbl⟩ | ⟨he, hbl⟩
      · simp only [Prod.mk.injEq] at he
        obtain ⟨rfl, rfl⟩ := he
        clear HLAW y6 hr hr2
        go_wp2_with fail
        refine (HB.out _ _ _ h6 o6).mono ?_
        rintro e w7 ⟨rfl, b7⟩
        go_wp2_with fail
        go_ret
        exact ⟨by simp, C6.trans (b7.mono C6.size)⟩
      · simp only [Prod.mk.injEq] at he
        obtain ⟨rfl, rfl⟩ := he
        clear HLAW y6 hr hr2
        go_wp2_with fail
        go_ret
        exact ⟨rfl, C6⟩

set_option maxRecDepth 100000 in
set_option maxHeartbeats 2000000 in
/-- What the walk gives, for every argument. -/
theorem contract (H : Type) (enc : TypeId × Value → H) (W : World) (base : Nat) (args : Array Value) (ds gs : List (DataW H)) (before : List MemPlace)
    (hval : ∀ (j : Nat) t v, Try.f13.params[j]? = some t → args[j]? = some v → Value.okWide Try.prog W .any base t v)
    (hW : DataW.Whole enc Try.prog Try.f13.params.toList Rows.fnDigAllSpec.vars false W args.toList ds gs before) :
    Calls Try.prog 13 args W fun e W' => ∃ v, e = .returned v ∧ Rows.fnDigAllSpec.post enc Try.prog Try.f13 false true false false W args v W' := by
  have hW' := hW
  obtain ⟨p, q, hA0, hV, rfl, hfz, hnd⟩ := hW
  have hA : DataW.TrodAll enc Try.prog W 0 (fun _ => true) true Try.f13.params.toList args.toList ds p := hA0
  rw [Try.params13] at hA hval
  obtain ⟨v0, vs0, d0, ds0, p0, q0, hargs, rfl, rfl, h0, r0⟩ := trodAll_cons hA
  obtain ⟨rfl, rfl, rfl⟩ := trodAll_nil r0
  obtain rfl : args = #[v0] := by cases args; simp_all
  obtain ⟨rfl, rfl⟩ := trodVars_none hV
  have k0 := h0
  have lt0 : ∀ x ∈ p0, x.block < W.heap.size := by obtain ⟨m, hm⟩ := k0; exact DataW.trod_lt m _ _ _ hm
  obtain ⟨a0, len0, cap0, rfl⟩ := okWide_slice Try.underlying22 (hval 0 22 v0 rfl rfl)
  obtain ⟨z0, x0⟩ : ∃ zs, IsRow .u8 W a0 len0 cap0 zs := by
    obtain ⟨fuel, hf⟩ := h0
    rcases open_ints Try.underlying22 Try.underlying5 (by kernel_rfl) hf with ⟨hcs, _⟩ | ⟨x, l, c, zs, hcs, _, hl, hm, hz, _, hcell, hwz⟩
    · simp [Value.cells] at hcs
      obtain ⟨rfl, rfl, rfl⟩ := hcs
      exact ⟨[], .inl ⟨rfl, rfl, rfl, rfl⟩⟩
    · simp [Value.cells] at hcs
      obtain ⟨rfl, rfl, rfl⟩ := hcs
      exact ⟨zs, .inr ⟨_, rfl, hl, hm, by simpa using hz, hcell, hwz⟩⟩
  clear hA0
  refine (walk a0 len0 cap0 W (row8_of x0)).mono fun e W' ⟨he, bel⟩ => ?_
  subst he
  exact ⟨_, rfl, _, _, _, [], _, [], hW', trodAll_mk1 (shut_bool Try.underlying4 _), (trodAll_cons_mk (Below.trod laidOut (by kernel_rfl) (of_decide_eq_true (by kernel_rfl)) k0 bel lt0) trodAll_mk0), rfl, bel.frame _, fun h => by cases h⟩

set_option maxRecDepth 100000 in
theorem lifted (os : Os) (started : os.Started) (H : Type) (enc : TypeId × Value → H) :
    ReturnsInHanded {} Try.checked os 13 .any (Rows.fnDigAllSpec.pre6 enc Try.prog Try.f13 Rows.fnDigAllRow.domain false) (Rows.fnDigAllSpec.post enc Try.prog Try.f13 false true false false) := by
  refine returnsInHanded_of_change (C := Try.checked) own started (by kernel_rfl) Try.func13
    (ChangeSpec.witness6 (enc := enc) (C := Try.checked) false ⟨#[], #[.slice none 0 0], []⟩ 8 (by kernel_rfl) (by kernel_rfl) (by kernel_rfl) (by kernel_rfl)) ?_
  intro W base args ds gs before hval hW _ _
  exact contract H enc W base args ds gs before hval hW

theorem proved : Rows.FnDigAllSaid :=
  OpenClaim.holds_of_wide 13 Try.f13 rfl rfl rfl rfl rfl rfl rfl ⟨rfl, rfl, rfl, rfl, rfl⟩ rfl rfl rfl rfl rfl (by kernel_rfl) Try.func13 (by kernel_rfl)
    (of_decide_eq_true (by kernel_rfl)) (by unfold Func.isWrapper; first | (rw [if_pos (by decide +kernel)]; kernel_rfl) | (rw [if_neg (by decide +kernel)]; exact ⟨rfl, rfl⟩))
    (fun os started H enc _ => lifted os started H enc)
#print axioms proved
end Go.Proofs.Ytlcfldmiibjboaa.fnDigAll
