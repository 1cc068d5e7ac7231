/-
  For every code of bytes the law on PlanValid (the model's answer; below every box that is not in the lowest tier there is a box; the plan without boxes is valid) returns true and leaves its argument as it was. Conditions: none beyond the form's own reach.
-/
import Derived.Test.YtbaebamiiigmlaaRows
import Derived.Test.YtbaebamiiigmlaaGBase
import Derived.WalkKit
import Derived.ProofKit
import Derived.OpenShut
import Derived.ShutString
import Derived.ChangeOld
import Derived.Below
import Derived.Test.YtbaebamiiigmlaaGCr
import Derived.Test.YtbaebamiiigmlaaGPw
import Derived.Test.YtbaebamiiigmlaaGPn
import Derived.Test.YtbaebamiiigmlaaPlI
import Derived.Test.YtbaebamiiigmlaaGPs
import Derived.Test.YtbaebamiiigmlaaGPl
import Derived.Test.YtbaebamiiigmlaaGSl
namespace Go.Proofs.Ytbaebamiiigmlaa.fnPlanValid
open Go.ChangeShapes Go.WideShapes Go.ChangeAt Go.RowKit
open Go.ChangeMaps (open_string shut_string)
set_option linter.unusedVariables false


/-- What the walk is told of a slice of integers that came in. -/
def IsRow (k : IntKind) (w : World) (a : Option Addr) (len cap : Nat) (zs : List Int) : Prop :=
  (a = none ∧ len = 0 ∧ cap = 0 ∧ zs = []) ∨
  ∃ x, a = some x ∧ len ≤ cap ∧ cap ≤ maxLen ∧ zs.length = cap ∧ (∀ i, i < zs.length → w.cell? (x.add i) = some (.int k (zs.getD i 0))) ∧ ∀ n ∈ zs, (Lit.int k n).wf = true

set_option maxRecDepth 10000 in
set_option maxHeartbeats 4000000 in
theorem walk (a0 : Option Addr) (len0 cap0 : Nat) (w : World) (w0 : IsRow8 w a0 len0 cap0) :
    Calls Try.prog 3 #[.slice a0 len0 cap0] w fun e w' => e = .returned (.bool true) ∧ Below w.heap.size w w' := by
  have hm := row8_len w0
  unfold maxLen at hm
  by_cases hl : ¬ len0 ≤ 1048576
  · go_enter Try.func3, Try.ntmps3
    go_wp2
    go_ret
    exact ⟨rfl, Below.refl _ _⟩
  · have hl := Nat.not_lt.1 (fun h => hl (Nat.not_le.2 h))
    go_enter Try.func3, Try.ntmps3
    go_wp2_with fail
    refine (drawPlanValid_any a0 len0 cap0 w w0).mono ?_
    rintro e w1 ⟨h, l, p, u, v, hl40, hp40, he, NB, OW, hb⟩
    have he' : e = .returned (.tuple #[.agg #[.int .i64 h.b, .int .i64 h.r, .int .i64 h.t], u, v]) := he
    subst he'
    clear he w0
    have hu := NB.holds
    have hv := OW.holds
    clear NB OW
    obtain ⟨ua, uc, rfl⟩ : ∃ a c, u = .slice a l.length c := by obtain ⟨a, c, e, _⟩ := hu; exact ⟨a, c, e⟩
    obtain ⟨va, vc, rfl⟩ := hv.form
    have b2 : Below w1.heap.size w1 (w1.alloc (.cells #[.int .i64 h.b, .int .i64 h.r, .int .i64 h.t] 24)) := (Below.refl _ _).alloc (Nat.le_refl _) _
    have y2 := BoxH.new w1 h
    have C2 := hb.trans (b2.mono hb.size)
    have hu := hu.keep b2
    have hv := hv.keep b2
    generalize hW2 : w1.alloc (.cells #[.int .i64 h.b, .int .i64 h.r, .int .i64 h.t] 24) = W2 at b2 y2 C2 hu hv
    have HW2 := Lib.hid hW2
    clear hW2 b2 hb
    have BK := Lib.hid fun (w' : World) (hs : Below W2.heap.size W2 w') => hu.keep hs
    have PK := Lib.hid fun (w' : World) (hs : Below W2.heap.size W2 w') => hv.keep hs
    have CK := Lib.hid fun (w' : World) (hs : Below W2.heap.size W2 w') => C2.trans (hs.mono C2.size)
    have e2 : Below W2.heap.size W2 W2 := Below.refl _ _
    have k0 := y2.c0
    have k1 := y2.c1
    have k2 := y2.c2
    clear hu hv C2
    have HI := Lib.hid fun (w' : World) (hb : HoldsBx w' (.slice ua l.length uc) l) (hp : HoldsI w' (.slice va p.length vc) p) => implPlanValid_any h _ _ l p w' hb hp
    have HS := Lib.hid fun (w' : World) (hb : HoldsBx w' (.slice ua l.length uc) l) (hp : HoldsI w' (.slice va p.length vc) p) => specPlanValid_any h _ _ l p w' hb hp
    cases hok : plOk h (bxsOk l) (bxIds l) p
    · rw [hok] at HI HS
      clear hok
      go_wp2_with fail
      rw [HW2.out]
      generalize w1.heap.size = Y at y2 k0 k1 k2
      have YK := Lib.hid fun (w' : World) (hs : Below W2.heap.size W2 w') => y2.keep hs
      clear HW2 y2
      go_wp2_with fail
      refine (HI.out W2 (BK.out _ e2) (PK.out _ e2)).mono ?_
      rintro e W3 ⟨rfl, d⟩
      have e3 := e2.trans (d.mono e2.size)
      clear k0 k1 k2
      have k0 := (YK.out _ e3).c0
      have k1 := (YK.out _ e3).c1
      have k2 := (YK.out _ e3).c2
      clear d e2
      go_wp2_with fail
      refine (HS.out W3 (BK.out _ e3) (PK.out _ e3)).mono ?_
      rintro e W4 ⟨rfl, d⟩
      have e4 := e3.trans (d.mono e3.size)
      clear k0 k1 k2
      have k0 := (YK.out _ e4).c0
      have k1 := (YK.out _ e4).c1
      have k2 := (YK.out _ e4).c2
      clear d e3
      go_wp2_with fail
      refine (alive_yes _).mono ?_
      rintro e w' ⟨rfl, rfl⟩
      go_wp2_with fail
      go_ret
      exact ⟨rfl, CK.out _ e4⟩
    · have ZR := Lib.hid (plOk_zeroX hok)
      have BE := Lib.hid fun k (hl : k < p.length) => (show (slBelow h k = -1 ∧ (k : Int) % h.t = 0) ∨ (∃ j, k = j + 1 ∧ slBelow h k = (j : Int) ∧ ¬ (k : Int) % h.t = 0 ∧ (pAt p k ≠ 0 → pAt p j ≠ 0)) from by
        rcases pl_below (plOk_iff.1 hok).1 (plOk_iff.1 hok).2.2.1 hl with hb | ⟨j, hj, hb, ht⟩
        · exact .inl hb
        · refine .inr ⟨j, hj, hb, ht, fun hx => ?_⟩
          have := ((plOk_iff.1 hok).2.2.2 k hl hx).2.2 ht
          rw [hj] at this
          exact this)
      rw [hok] at HI HS
      clear hok
      go_wp2_with fail
      rw [HW2.out]
      generalize w1.heap.size = Y at y2 k0 k1 k2
      have YK := Lib.hid fun (w' : World) (hs : Below W2.heap.size W2 w') => y2.keep hs
      clear HW2 y2
      go_wp2_with fail
      refine (HI.out W2 (BK.out _ e2) (PK.out _ e2)).mono ?_
      rintro e W3 ⟨rfl, d⟩
      have e3 := e2.trans (d.mono e2.size)
      clear k0 k1 k2
      have k0 := (YK.out _ e3).c0
      have k1 := (YK.out _ e3).c1
      have k2 := (YK.out _ e3).c2
      clear d e2
      go_wp2_with fail
      refine (HS.out W3 (BK.out _ e3) (PK.out _ e3)).mono ?_
      rintro e W4 ⟨rfl, d⟩
      have e4 := e3.trans (d.mono e3.size)
      clear k0 k1 k2
      have k0 := (YK.out _ e4).c0
      have k1 := (YK.out _ e4).c1
      have k2 := (YK.out _ e4).c2
      clear d e3
      have EK := Lib.hid e4
      obtain ⟨N, hN⟩ : ∃ N, N = p.length := ⟨_, rfl⟩
      have hic : N ≤ vc ∧ vc ≤ 9223372036854775807 := by
        obtain ⟨a', c', e, q1, q2, _⟩ := PK.out _ e4
        simp only [Value.slice.injEq] at e
        obtain ⟨-, -, rfl⟩ := e
        unfold maxLen at q2
        omega
      have hN40 : N ≤ 40 := by omega
      rw [← hN] at PK ZR BE ⊢
      have HN := Lib.hid hN
      clear k0 k1 k2 hN e4 HI HS
      go_wp2_with fail
      go_loopw [7] (fun i wr => ∃ k : Nat, k ≤ N ∧ i = .int .i64 k ∧ Hid (Below W4.heap.size W4 wr)) (fun i _ => N - (intOf i).toNat)
      case atStart => exact ⟨0, by omega, rfl, Lib.hid (Below.refl _ _)⟩
      case round =>
        obtain ⟨k, hkN, rfl, BR⟩ := hrel
        have ER := Lib.hid (EK.out.trans (BR.out.mono EK.out.size))
        have y := YK.out wr ER.out
        have k0 := y.c0
        have k1 := y.c1
        have k2 := y.c2
        by_cases hlt : k < N
        · obtain ⟨b, off, rfl, hbl, s0⟩ := (PK.out wr ER.out).at_ hlt
          have e1 : p.getD k 0 = pAt p k := rfl
          rw [e1] at s0
          have HB := Lib.hid fun w' => implSlotBelow_any h k w'
          have ik : (k : Int) < (N : Int) := by omega
          have i0k : (0 : Int) ≤ (k : Int) := by omega
          have hrel9 := Lib.hid BR.out
          rcases BE.out k hlt with ⟨hb, ht⟩ | ⟨j, hj, hb, ht, hxy⟩
          · rw [hb] at HB
            clear e1 y ht hb
            go_wp2_with fail
            refine (HB.out wr).mono ?_
            rintro e w5 ⟨rfl, d5⟩
            have hx9 := Lib.hid (BR.out.trans (d5.mono BR.out.size))
            clear k0 k1 k2 s0 d5
            go_wp2_with fail
            go_roundw
            case rel => exact ⟨k + 1, by omega, by go_num, hx9⟩
            case measure => simp [intOf]; omega
          · obtain ⟨b', off', e', -, sj⟩ := (PK.out wr ER.out).at_ (k := j) (by omega)
            obtain ⟨rfl, rfl⟩ : b = b' ∧ off = off' := by simpa using e'
            have e2 : p.getD j 0 = pAt p j := rfl
            rw [e2] at sj
            have ij : (j : Int) < (N : Int) := by omega
            have i0j : (0 : Int) ≤ (j : Int) := by omega
            rw [hb] at HB
            obtain ⟨x, hx⟩ : ∃ x, x = pAt p k := ⟨_, rfl⟩
            obtain ⟨z, hz⟩ : ∃ z, z = pAt p j := ⟨_, rfl⟩
            rw [← hx, ← hz] at hxy
            rw [← hx] at s0
            rw [← hz] at sj
            clear e1 e2 e' y ht hb hx hz hj
            by_cases hpos : 0 < x
            · have hp0 : decide (0 < x) = true := decide_eq_true hpos
              have hz0 : (z == 0) = false := by simpa using hxy (by omega)
              go_wp2_with fail
              refine (HB.out wr).mono ?_
              rintro e w5 ⟨rfl, d5⟩
              have hx9 := Lib.hid (BR.out.trans (d5.mono BR.out.size))
              have s1 : w5.cell? ⟨b, off + k, none⟩ = some (.int .i64 x) := (d5.cell (p := ⟨b, off + k, none⟩) hbl).trans s0
              have s2 : w5.cell? ⟨b, off + j, none⟩ = some (.int .i64 z) := (d5.cell (p := ⟨b, off + j, none⟩) hbl).trans sj
              clear k0 k1 k2 s0 sj d5
              go_wp2_with fail
              go_roundw
              case rel => exact ⟨k + 1, by omega, by go_num, hx9⟩
              case measure => simp [intOf]; omega
            · have hp0 : decide (0 < x) = false := decide_eq_false hpos
              go_wp2_with fail
              refine (HB.out wr).mono ?_
              rintro e w5 ⟨rfl, d5⟩
              have hx9 := Lib.hid (BR.out.trans (d5.mono BR.out.size))
              have s1 : w5.cell? ⟨b, off + k, none⟩ = some (.int .i64 x) := (d5.cell (p := ⟨b, off + k, none⟩) hbl).trans s0
              clear k0 k1 k2 s0 sj d5
              go_wp2_with fail
              go_roundw
              case rel => exact ⟨k + 1, by omega, by go_num, hx9⟩
              case measure => simp [intOf]; omega
        · obtain rfl : k = N := by omega
          obtain ⟨i0, hi, hz0, hz1, hz2⟩ := info_parts infoInt
          have MI := Lib.hid hi
          have MZ0 := Lib.hid hz0
          have MZ1 := Lib.hid hz1
          have mb2 : i0.bytes * k ≤ 281474976710656 := by rw [hz2]; omega
          have mb3 : k ≤ maxLen := by unfold maxLen; omega
          obtain ⟨w7, hrun, ho7, hg7⟩ := run_make_full (P := Try.prog) wr.drew wr.heap.size 26 3 i0 (.int .i64 0) 1 Try.underlying26 hi hz0 hz1 .i64 .i64 k mb2 mb3 (Nat.le_refl _)
          have HO7 : Hid (HoldsI w7 (.slice (some ⟨wr.heap.size, 0, none⟩) k k) (List.replicate k 0)) := Lib.hid (OwnI.made ho7).holds
          have S7 := Lib.hid (show Since wr w7 from (show Since wr wr.drew from (Below.refl _ _).drew).on ((Below.refl _ _).grown hg7 (Nat.le_refl _) (fun k hk => by cases hk)))
          clear hi hz0 hz1 hz2 hlt hkN ho7 hg7 MI MZ0 MZ1 mb2 mb3
          have HC := Lib.hid (CK.out _ ER.out)
          have HP := Lib.hid fun (v' : Value) (w' : World) (hs : Since wr w') (hq : HoldsI w' v' (List.replicate k 0)) => implPlanValid_any h (.slice ua l.length uc) v' l (List.replicate k 0) w' (BK.out w' (ER.out.trans (Below.mono hs ER.out.size))) hq
          rw [ZR.out] at HP
          have HK := Lib.hid fun (w' : World) (hs : Since wr w') => (show w'.cell? ⟨Y, 0, none⟩ = some (.int .i64 h.b) ∧ w'.cell? ⟨Y, 1, none⟩ = some (.int .i64 h.r) ∧ w'.cell? ⟨Y, 2, none⟩ = some (.int .i64 h.t) ∧ Since wr w' from ⟨(y.keep hs).c0, (y.keep hs).c1, (y.keep hs).c2, hs⟩)
          have hstart := HK.out _ (show Since wr wr.drew from (Below.refl _ _).drew)
          clear k0 k1 k2 y BE
          go_wp2_with fail
          go_region_held3 (fun w' => w'.cell? ⟨Y, 0, none⟩ = some (.int .i64 h.b) ∧ w'.cell? ⟨Y, 1, none⟩ = some (.int .i64 h.r) ∧ w'.cell? ⟨Y, 2, none⟩ = some (.int .i64 h.t) ∧ Since wr w')
            (first | exact hstart | exact HK.out _ S9.out | exact HK.out _ S7.out | exact HK.out _ (by exact (‹_ ∧ _› : _ ∧ _ ∧ _ ∧ Since wr _).2.2.2) | fail)
            (first
              | (go_at_call 17; ((with_reducible refine (HP.out _ _ S7.out HO7.out).mono ?_); rintro e w9 ⟨rfl, d9⟩; have S9 := Lib.hid (show Since wr w9 from Since.call S7.out d9); clear d9))
              | fail)
          rename_i hheld
          have hx9 := HC.out.trans (Below.mono hheld.2.2.2 HC.out.size)
          clear hheld hstart
          go_wp2_with fail
          go_ret
          exact ⟨rfl, hx9⟩

set_option maxRecDepth 100000 in
set_option maxHeartbeats 2000000 in
/-- What the walk gives, for every argument. -/
theorem contract (H : Type) (enc : TypeId × Value → H) (W : World) (base : Nat) (args : Array Value) (ds gs : List (DataW H)) (before : List MemPlace)
    (hval : ∀ (j : Nat) t v, Try.f3.params[j]? = some t → args[j]? = some v → Value.okWide Try.prog W .any base t v)
    (hW : DataW.Whole enc Try.prog Try.f3.params.toList Rows.fnPlanValidSpec.vars false W args.toList ds gs before) :
    Calls Try.prog 3 args W fun e W' => ∃ v, e = .returned v ∧ Rows.fnPlanValidSpec.post enc Try.prog Try.f3 false true false false W args v W' := by
  have hW' := hW
  obtain ⟨p, q, hA0, hV, rfl, hfz, hnd⟩ := hW
  have hA : DataW.TrodAll enc Try.prog W 0 (fun _ => true) true Try.f3.params.toList args.toList ds p := hA0
  rw [Try.params3] at hA hval
  obtain ⟨v0, vs0, d0, ds0, p0, q0, hargs, rfl, rfl, h0, r0⟩ := trodAll_cons hA
  obtain ⟨rfl, rfl, rfl⟩ := trodAll_nil r0
  obtain rfl : args = #[v0] := by cases args; simp_all
  obtain ⟨rfl, rfl⟩ := trodVars_none hV
  have k0 := h0
  have lt0 : ∀ x ∈ p0, x.block < W.heap.size := by obtain ⟨m, hm⟩ := k0; exact DataW.trod_lt m _ _ _ hm
  obtain ⟨a0, len0, cap0, rfl⟩ := okWide_slice Try.underlying22 (hval 0 22 v0 rfl rfl)
  obtain ⟨z0, x0⟩ : ∃ zs, IsRow .u8 W a0 len0 cap0 zs := by
    obtain ⟨fuel, hf⟩ := h0
    rcases open_ints Try.underlying22 Try.underlying5 (by kernel_rfl) hf with ⟨hcs, _⟩ | ⟨x, l, c, zs, hcs, _, hl, hm, hz, _, hcell, hwz⟩
    · simp [Value.cells] at hcs
      obtain ⟨rfl, rfl, rfl⟩ := hcs
      exact ⟨[], .inl ⟨rfl, rfl, rfl, rfl⟩⟩
    · simp [Value.cells] at hcs
      obtain ⟨rfl, rfl, rfl⟩ := hcs
      exact ⟨zs, .inr ⟨_, rfl, hl, hm, by simpa using hz, hcell, hwz⟩⟩
  clear hA0
  refine (walk a0 len0 cap0 W (row8_of x0)).mono fun e W' ⟨he, bel⟩ => ?_
  subst he
  exact ⟨_, rfl, _, _, _, [], _, [], hW', trodAll_mk1 (shut_bool Try.underlying4 _), (trodAll_cons_mk (Below.trod laidOut (by kernel_rfl) (of_decide_eq_true (by kernel_rfl)) k0 bel lt0) trodAll_mk0), rfl, bel.frame _, fun h => by cases h⟩

set_option maxRecDepth 100000 in
theorem lifted (os : Os) (started : os.Started) (H : Type) (enc : TypeId × Value → H) :
    ReturnsInHanded {} Try.checked os 3 .any (Rows.fnPlanValidSpec.pre6 enc Try.prog Try.f3 Rows.fnPlanValidRow.domain false) (Rows.fnPlanValidSpec.post enc Try.prog Try.f3 false true false false) := by
  refine returnsInHanded_of_change (C := Try.checked) own started (by kernel_rfl) Try.func3
    (ChangeSpec.witness6 (enc := enc) (C := Try.checked) false ⟨#[], #[.slice none 0 0], []⟩ 8 (by kernel_rfl) (by kernel_rfl) (by kernel_rfl) (by kernel_rfl)) ?_
  intro W base args ds gs before hval hW _ _
  exact contract H enc W base args ds gs before hval hW

theorem proved : Rows.FnPlanValidSaid :=
  OpenClaim.holds_of_wide 3 Try.f3 rfl rfl rfl rfl rfl rfl rfl ⟨rfl, rfl, rfl, rfl, rfl⟩ rfl rfl rfl rfl rfl (by kernel_rfl) Try.func3 (by kernel_rfl)
    (of_decide_eq_true (by kernel_rfl)) (by unfold Func.isWrapper; first | (rw [if_pos (by decide +kernel)]; kernel_rfl) | (rw [if_neg (by decide +kernel)]; exact ⟨rfl, rfl⟩))
    (fun os started H enc _ => lifted os started H enc)
#print axioms proved
end Go.Proofs.Ytbaebamiiigmlaa.fnPlanValid
