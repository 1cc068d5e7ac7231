/-
  For every code of bytes the law on PlanIds (the model's answer; each id is that of a box, no two are equal, and each is found) returns true and leaves its argument as it was. Conditions: none beyond the form's own reach.
-/
import Derived.Test.YtbaebamiiigmlaaRows
import Derived.Test.YtbaebamiiigmlaaGBase
import Derived.WalkKit
import Derived.ProofKit
import Derived.OpenShut
import Derived.ShutString
import Derived.ChangeOld
import Derived.Below
import Derived.Test.YtbaebamiiigmlaaGCr
import Derived.Test.YtbaebamiiigmlaaGPw
import Derived.Test.YtbaebamiiigmlaaGPn
import Derived.Test.YtbaebamiiigmlaaPlI
import Derived.Test.YtbaebamiiigmlaaGPs
import Derived.Test.YtbaebamiiigmlaaPlC
import Derived.Test.YtbaebamiiigmlaaGBl
namespace Go.Proofs.Ytbaebamiiigmlaa.fnPlanIds
open Go.ChangeShapes Go.WideShapes Go.ChangeAt Go.RowKit
open Go.ChangeMaps (open_string shut_string)
set_option linter.unusedVariables false


/-- What the walk is told of a slice of integers that came in. -/
def IsRow (k : IntKind) (w : World) (a : Option Addr) (len cap : Nat) (zs : List Int) : Prop :=
  (a = none ∧ len = 0 ∧ cap = 0 ∧ zs = []) ∨
  ∃ x, a = some x ∧ len ≤ cap ∧ cap ≤ maxLen ∧ zs.length = cap ∧ (∀ i, i < zs.length → w.cell? (x.add i) = some (.int k (zs.getD i 0))) ∧ ∀ n ∈ zs, (Lit.int k n).wf = true

set_option maxRecDepth 10000 in
set_option maxHeartbeats 4000000 in
theorem walk (a0 : Option Addr) (len0 cap0 : Nat) (w : World) (w0 : IsRow8 w a0 len0 cap0) :
    Calls Try.prog 8 #[.slice a0 len0 cap0] w fun e w' => e = .returned (.bool true) ∧ Below w.heap.size w w' := by
  have hm := row8_len w0
  unfold maxLen at hm
  by_cases hl : ¬ len0 ≤ 1048576
  · go_enter Try.func8, Try.ntmps8
    go_wp2
    go_ret
    exact ⟨rfl, Below.refl _ _⟩
  · have hl := Nat.not_lt.1 (fun h => hl (Nat.not_le.2 h))
    go_enter Try.func8, Try.ntmps8
    go_wp2_with fail
    refine (drawPlanIds_any a0 len0 cap0 w w0).mono ?_
    rintro e w1 ⟨h, l, p, u, v, hl40, hp40, he, NB, OW, hb⟩
    have he' : e = .returned (.tuple #[.agg #[.int .i64 h.b, .int .i64 h.r, .int .i64 h.t], u, v]) := he
    subst he'
    clear he w0
    have hu := NB.holds
    have hv := OW.holds
    clear NB OW
    obtain ⟨ua, uc, rfl⟩ : ∃ a c, u = .slice a l.length c := by obtain ⟨a, c, e, _⟩ := hu; exact ⟨a, c, e⟩
    obtain ⟨va, vc, rfl⟩ := hv.form
    have b2 : Below w1.heap.size w1 (w1.alloc (.cells #[.int .i64 h.b, .int .i64 h.r, .int .i64 h.t] 24)) := (Below.refl _ _).alloc (Nat.le_refl _) _
    have y2 := BoxH.new w1 h
    have C2 := hb.trans (b2.mono hb.size)
    have hu := hu.keep b2
    have hv := hv.keep b2
    generalize hW2 : w1.alloc (.cells #[.int .i64 h.b, .int .i64 h.r, .int .i64 h.t] 24) = W2 at b2 y2 C2 hu hv
    have HW2 := Lib.hid hW2
    clear hW2 b2 hb
    have BK := Lib.hid fun (w' : World) (hs : Below W2.heap.size W2 w') => hu.keep hs
    have PK := Lib.hid fun (w' : World) (hs : Below W2.heap.size W2 w') => hv.keep hs
    have CK := Lib.hid fun (w' : World) (hs : Below W2.heap.size W2 w') => C2.trans (hs.mono C2.size)
    have e2 : Below W2.heap.size W2 W2 := Below.refl _ _
    have k0 := y2.c0
    have k1 := y2.c1
    have k2 := y2.c2
    clear hu hv C2
    have HI := Lib.hid fun (w' : World) (hb : HoldsBx w' (.slice ua l.length uc) l) (hp : HoldsI w' (.slice va p.length vc) p) => implPlanIds_any h _ _ l p w' hb hp
    have HS := Lib.hid fun (w' : World) (hb : HoldsBx w' (.slice ua l.length uc) l) (hp : HoldsI w' (.slice va p.length vc) p) => specPlanIds_any h _ _ l p w' hb hp
    have HX := Lib.hid fun k (hk : k < (idsP h (bxsOk l) (bxIds l) p).length) => idsP_law (h := h) (l := l) (p := p) hk
    generalize idsP h (bxsOk l) (bxIds l) p = L at HI HS HX
    go_wp2_with fail
    rw [HW2.out]
    generalize w1.heap.size = Y at y2 k0 k1 k2
    have YK := Lib.hid fun (w' : World) (hs : Below W2.heap.size W2 w') => y2.keep hs
    clear HW2 y2
    go_wp2_with fail
    refine (HI.out W2 (BK.out _ e2) (PK.out _ e2)).mono ?_
    rintro e W3 ⟨vi, rfl, g, d⟩
    have e3 := e2.trans (d.mono e2.size)
    clear k0 k1 k2
    have k0 := (YK.out _ e3).c0
    have k1 := (YK.out _ e3).c1
    have k2 := (YK.out _ e3).c2
    clear d e2
    have gi := g.holds
    clear g
    obtain ⟨ia, ic, rfl⟩ := gi.form
    go_wp2_with fail
    refine (HS.out W3 (BK.out _ e3) (PK.out _ e3)).mono ?_
    rintro e W4 ⟨vs, rfl, gs, d⟩
    have e4 := e3.trans (d.mono e3.size)
    have gi := gi.keep d
    clear k0 k1 k2
    have k0 := (YK.out _ e4).c0
    have k1 := (YK.out _ e4).c1
    have k2 := (YK.out _ e4).c2
    clear d e3
    have gs := gs.holds
    go_wp2_with fail
    refine (sameP_yes _ vs L W4 gi gs).mono ?_
    rintro e W5 ⟨rfl, d⟩
    have e5 := e4.trans (d.mono e4.size)
    have gi := gi.keep d
    clear k0 k1 k2
    have k0 := (YK.out _ e5).c0
    have k1 := (YK.out _ e5).c1
    have k2 := (YK.out _ e5).c2
    clear d e4
    clear gs HI HS
    have LK := Lib.hid fun (w' : World) (hs : Below W5.heap.size W5 w') => gi.keep hs
    have EK := Lib.hid e5
    obtain ⟨N, hN⟩ : ∃ N, N = L.length := ⟨_, rfl⟩
    have hic : N ≤ ic ∧ ic ≤ 9223372036854775807 := by
      obtain ⟨a', c', e, q1, q2, _⟩ := gi
      simp only [Value.slice.injEq] at e
      obtain ⟨-, -, rfl⟩ := e
      unfold maxLen at q2
      omega
    rw [← hN] at LK HX ⊢
    have HN := Lib.hid hN
    clear gi k0 k1 k2 hN e5
    go_wp2_with fail
    go_loopw [7] (fun i wr => ∃ k : Nat, k ≤ N ∧ i = .int .i64 k ∧ Hid (Below W5.heap.size W5 wr)) (fun i _ => N - (intOf i).toNat)
    case atStart => exact ⟨0, by omega, rfl, Lib.hid (Below.refl _ _)⟩
    case round =>
      obtain ⟨k, hkN, rfl, BR⟩ := hrel
      have ER := Lib.hid (EK.out.trans (BR.out.mono EK.out.size))
      by_cases hlt : k < N
      · obtain ⟨b, off, rfl, hbl, s0⟩ := (LK.out wr BR.out).at_ hlt
        obtain ⟨hx1, hx2, hx3⟩ := HX.out k hlt
        obtain ⟨x, hx⟩ : ∃ x, x = L.getD k 0 := ⟨_, rfl⟩
        rw [← hx] at s0 hx1 hx2 hx3
        have HH := Lib.hid fun (w' : World) (hs : Since wr w') => hasInt_any (.slice (some ⟨b, off, none⟩) k ic) (L.take k) x w' (HoldsI.take k (by have := HN.out; omega) (by have := LK.out w' (BR.out.trans (Below.mono hs BR.out.size)); rw [HN.out] at this; exact this))
        have HF := Lib.hid fun (w' : World) (hs : Since wr w') => implFindBox_any (.slice ua l.length uc) l x w' (BK.out w' (ER.out.trans (Below.mono hs ER.out.size)))
        have HP := Lib.hid fun (w' : World) (hs : Since wr w') => implPlanFind_any h (.slice ua l.length uc) (.slice va p.length vc) l p x w' (BK.out w' (ER.out.trans (Below.mono hs ER.out.size))) (PK.out w' (ER.out.trans (Below.mono hs ER.out.size)))
        have y := YK.out wr ER.out
        have hbl2 : b < wr.heap.size := hbl
        have HK := Lib.hid fun (w' : World) (hs : Since wr w') => (show w'.cell? ⟨Y, 0, none⟩ = some (.int .i64 h.b) ∧ w'.cell? ⟨Y, 1, none⟩ = some (.int .i64 h.r) ∧ w'.cell? ⟨Y, 2, none⟩ = some (.int .i64 h.t) ∧ w'.cell? ⟨b, off + k, none⟩ = some (.int .i64 x) ∧ Since wr w' from
          ⟨(y.keep hs).c0, (y.keep hs).c1, (y.keep hs).c2, (Below.cell hs (p := ⟨b, off + k, none⟩) hbl2).trans s0, hs⟩)
        have hstart := HK.out _ (show Since wr wr.drew from (Below.refl _ _).drew)
        rw [hx1] at HH
        generalize findS l x = f at HF hx2
        generalize findP h (bxsOk l) (bxIds l) p x = q at HP hx3
        have hf0 : decide (f < 0) = false := decide_eq_false (by omega)
        have hq0 : decide (q < 0) = false := decide_eq_false (by omega)
        have ik : (k : Int) < (N : Int) := by omega
        have i0k : (0 : Int) ≤ (k : Int) := by omega
        have ikc : (k : Int) ≤ (ic : Int) := by omega
        clear hx hx1 hx2 hx3 s0 y HX
        go_wp2_with fail
        go_region_held3 (fun w' => w'.cell? ⟨Y, 0, none⟩ = some (.int .i64 h.b) ∧ w'.cell? ⟨Y, 1, none⟩ = some (.int .i64 h.r) ∧ w'.cell? ⟨Y, 2, none⟩ = some (.int .i64 h.t) ∧ w'.cell? ⟨b, off + k, none⟩ = some (.int .i64 x) ∧ Since wr w')
          (first | exact hstart | exact HK.out _ s5 | exact HK.out _ s4 | exact HK.out _ (by exact (‹_ ∧ _› : _ ∧ _ ∧ _ ∧ _ ∧ Since wr _).2.2.2.2) | fail)
          (first
            | (go_at_call 31; ((with_reducible refine (HH.out _ (by exact (‹_ ∧ _› : _ ∧ _ ∧ _ ∧ _ ∧ Since wr _).2.2.2.2)).mono ?_); rintro e w3 ⟨rfl, rfl⟩))
            | (go_at_call 41; ((with_reducible refine (HF.out _ (by exact (‹_ ∧ _› : _ ∧ _ ∧ _ ∧ _ ∧ Since wr _).2.2.2.2)).mono ?_); rintro e w4 ⟨rfl, d4⟩; have s4 : Since wr w4 := Since.call (by exact (‹_ ∧ _› : _ ∧ _ ∧ _ ∧ _ ∧ Since wr _).2.2.2.2) d4; clear d4))
            | (go_at_call 29; ((with_reducible refine (HP.out _ (by exact (‹_ ∧ _› : _ ∧ _ ∧ _ ∧ _ ∧ Since wr _).2.2.2.2)).mono ?_); rintro e w5 ⟨rfl, d5⟩; have s5 : Since wr w5 := Since.call (by exact (‹_ ∧ _› : _ ∧ _ ∧ _ ∧ _ ∧ Since wr _).2.2.2.2) d5; clear d5))
            | fail)
        rename_i hheld
        have hx9 := Lib.hid (BR.out.trans (Below.mono hheld.2.2.2.2 BR.out.size))
        clear hheld hstart
        go_wp2_with fail
        go_roundw
        case rel => exact ⟨k + 1, by omega, by go_num, hx9⟩
        case measure => simp [intOf]; omega
      · obtain rfl : k = N := by omega
        have C9 := CK.out _ ER.out
        go_wp2_with fail
        refine (alive_yes _).mono ?_
        rintro e w' ⟨rfl, rfl⟩
        go_wp2_with fail
        go_ret
        exact ⟨rfl, C9⟩

set_option maxRecDepth 100000 in
set_option maxHeartbeats 2000000 in
/-- What the walk gives, for every argument. -/
theorem contract (H : Type) (enc : TypeId × Value → H) (W : World) (base : Nat) (args : Array Value) (ds gs : List (DataW H)) (before : List MemPlace)
    (hval : ∀ (j : Nat) t v, Try.f8.params[j]? = some t → args[j]? = some v → Value.okWide Try.prog W .any base t v)
    (hW : DataW.Whole enc Try.prog Try.f8.params.toList Rows.fnPlanIdsSpec.vars false W args.toList ds gs before) :
    Calls Try.prog 8 args W fun e W' => ∃ v, e = .returned v ∧ Rows.fnPlanIdsSpec.post enc Try.prog Try.f8 false true false false W args v W' := by
  have hW' := hW
  obtain ⟨p, q, hA0, hV, rfl, hfz, hnd⟩ := hW
  have hA : DataW.TrodAll enc Try.prog W 0 (fun _ => true) true Try.f8.params.toList args.toList ds p := hA0
  rw [Try.params8] at hA hval
  obtain ⟨v0, vs0, d0, ds0, p0, q0, hargs, rfl, rfl, h0, r0⟩ := trodAll_cons hA
  obtain ⟨rfl, rfl, rfl⟩ := trodAll_nil r0
  obtain rfl : args = #[v0] := by cases args; simp_all
  obtain ⟨rfl, rfl⟩ := trodVars_none hV
  have k0 := h0
  have lt0 : ∀ x ∈ p0, x.block < W.heap.size := by obtain ⟨m, hm⟩ := k0; exact DataW.trod_lt m _ _ _ hm
  obtain ⟨a0, len0, cap0, rfl⟩ := okWide_slice Try.underlying22 (hval 0 22 v0 rfl rfl)
  obtain ⟨z0, x0⟩ : ∃ zs, IsRow .u8 W a0 len0 cap0 zs := by
    obtain ⟨fuel, hf⟩ := h0
    rcases open_ints Try.underlying22 Try.underlying5 (by kernel_rfl) hf with ⟨hcs, _⟩ | ⟨x, l, c, zs, hcs, _, hl, hm, hz, _, hcell, hwz⟩
    · simp [Value.cells] at hcs
      obtain ⟨rfl, rfl, rfl⟩ := hcs
      exact ⟨[], .inl ⟨rfl, rfl, rfl, rfl⟩⟩
    · simp [Value.cells] at hcs
      obtain ⟨rfl, rfl, rfl⟩ := hcs
      exact ⟨zs, .inr ⟨_, rfl, hl, hm, by simpa using hz, hcell, hwz⟩⟩
  clear hA0
  refine (walk a0 len0 cap0 W (row8_of x0)).mono fun e W' ⟨he, bel⟩ => ?_
  subst he
  exact ⟨_, rfl, _, _, _, [], _, [], hW', trodAll_mk1 (shut_bool Try.underlying4 _), (trodAll_cons_mk (Below.trod laidOut (by kernel_rfl) (of_decide_eq_true (by kernel_rfl)) k0 bel lt0) trodAll_mk0), rfl, bel.frame _, fun h => by cases h⟩

set_option maxRecDepth 100000 in
theorem lifted (os : Os) (started : os.Started) (H : Type) (enc : TypeId × Value → H) :
    ReturnsInHanded {} Try.checked os 8 .any (Rows.fnPlanIdsSpec.pre6 enc Try.prog Try.f8 Rows.fnPlanIdsRow.domain false) (Rows.fnPlanIdsSpec.post enc Try.prog Try.f8 false true false false) := by
  refine returnsInHanded_of_change (C := Try.checked) own started (by kernel_rfl) Try.func8
    (ChangeSpec.witness6 (enc := enc) (C := Try.checked) false ⟨#[], #[.slice none 0 0], []⟩ 8 (by kernel_rfl) (by kernel_rfl) (by kernel_rfl) (by kernel_rfl)) ?_
  intro W base args ds gs before hval hW _ _
  exact contract H enc W base args ds gs before hval hW

theorem proved : Rows.FnPlanIdsSaid :=
  OpenClaim.holds_of_wide 8 Try.f8 rfl rfl rfl rfl rfl rfl rfl ⟨rfl, rfl, rfl, rfl, rfl⟩ rfl rfl rfl rfl rfl (by kernel_rfl) Try.func8 (by kernel_rfl)
    (of_decide_eq_true (by kernel_rfl)) (by unfold Func.isWrapper; first | (rw [if_pos (by decide +kernel)]; kernel_rfl) | (rw [if_neg (by decide +kernel)]; exact ⟨rfl, rfl⟩))
    (fun os started H enc _ => lifted os started H enc)
#print axioms proved
end Go.Proofs.Ytbaebamiiigmlaa.fnPlanIds
