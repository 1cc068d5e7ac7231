/-
  For every code of bytes the law on LoadOrder (the model's answer; LoadOk holds for the order, and no slot comes before one of a lesser tier) returns true and leaves its argument as it was. Conditions: none beyond the form's own reach.
-/
import Derived.Test.YtbaebamiiigmlabRows
import Derived.Test.YtbaebamiiigmlabGBase
import Derived.WalkKit
import Derived.ProofKit
import Derived.OpenShut
import Derived.ShutString
import Derived.ChangeOld
import Derived.Below
import Derived.Test.YtbaebamiiigmlabGCr
import Derived.Test.YtbaebamiiigmlabWtW
import Derived.Test.YtbaebamiiigmlabGLm
import Derived.Test.YtbaebamiiigmlabLdS
import Derived.Test.YtbaebamiiigmlabLdI
import Derived.Test.YtbaebamiiigmlabGPn
import Derived.Test.YtbaebamiiigmlabGSl
import Derived.Test.YtbaebamiiigmlabGPl
import Derived.Test.YtbaebamiiigmlabGPs
namespace Go.Proofs.Ytbaebamiiigmlab.fnLoadOrder
open Go.ChangeShapes Go.WideShapes Go.ChangeAt Go.RowKit
open Go.ChangeMaps (open_string shut_string)
set_option linter.unusedVariables false


/-- What the walk is told of a slice of integers that came in. -/
def IsRow (k : IntKind) (w : World) (a : Option Addr) (len cap : Nat) (zs : List Int) : Prop :=
  (a = none ∧ len = 0 ∧ cap = 0 ∧ zs = []) ∨
  ∃ x, a = some x ∧ len ≤ cap ∧ cap ≤ maxLen ∧ zs.length = cap ∧ (∀ i, i < zs.length → w.cell? (x.add i) = some (.int k (zs.getD i 0))) ∧ ∀ n ∈ zs, (Lit.int k n).wf = true

set_option maxRecDepth 10000 in
set_option maxHeartbeats 4000000 in
theorem walk (a0 : Option Addr) (len0 cap0 : Nat) (w : World) (w0 : IsRow8 w a0 len0 cap0) :
    Calls Try.prog 12 #[.slice a0 len0 cap0] w fun e w' => e = .returned (.bool true) ∧ Below w.heap.size w w' := by
  have hm := row8_len w0
  unfold maxLen at hm
  by_cases hl : ¬ len0 ≤ 1048576
  · go_enter Try.func12, Try.ntmps12
    go_wp2
    go_ret
    exact ⟨rfl, Below.refl _ _⟩
  · have hl := Nat.not_lt.1 (fun h => hl (Nat.not_le.2 h))
    go_enter Try.func12, Try.ntmps12
    go_wp2_with fail
    refine (drawLoadOrder_any a0 len0 cap0 w w0).mono ?_
    rintro e w1 ⟨h, l, p, u, v, hl40, hp40, he, NB, OW, hb⟩
    have he' : e = .returned (.tuple #[.agg #[.int .i64 h.b, .int .i64 h.r, .int .i64 h.t], u, v]) := he
    subst he'
    clear he w0
    have hu := NB.holds
    have hv := OW.holds
    clear NB OW
    obtain ⟨ua, uc, rfl⟩ : ∃ a c, u = .slice a l.length c := by obtain ⟨a, c, e, _⟩ := hu; exact ⟨a, c, e⟩
    obtain ⟨va, vc, rfl⟩ := hv.form
    have b2 : Below w1.heap.size w1 (w1.alloc (.cells #[.int .i64 h.b, .int .i64 h.r, .int .i64 h.t] 24)) := (Below.refl _ _).alloc (Nat.le_refl _) _
    have y2 := BoxH.new w1 h
    have C2 := hb.trans (b2.mono hb.size)
    have hu := hu.keep b2
    have hv := hv.keep b2
    generalize hW2 : w1.alloc (.cells #[.int .i64 h.b, .int .i64 h.r, .int .i64 h.t] 24) = W2 at b2 y2 C2 hu hv
    have HW2 := Lib.hid hW2
    clear hW2 b2 hb
    have BK := Lib.hid fun (w' : World) (hs : Below W2.heap.size W2 w') => hu.keep hs
    have PK := Lib.hid fun (w' : World) (hs : Below W2.heap.size W2 w') => hv.keep hs
    have CK := Lib.hid fun (w' : World) (hs : Below W2.heap.size W2 w') => C2.trans (hs.mono C2.size)
    have e2 : Below W2.heap.size W2 W2 := Below.refl _ _
    have k0 := y2.c0
    have k1 := y2.c1
    have k2 := y2.c2
    clear hu hv C2
    have HI := Lib.hid fun (w' : World) (hb : HoldsBx w' (.slice ua l.length uc) l) (hp : HoldsI w' (.slice va p.length vc) p) => implLoadOrder_any h _ _ l p w' hb hp
    have HS := Lib.hid fun (w' : World) (hb : HoldsBx w' (.slice ua l.length uc) l) (hp : HoldsI w' (.slice va p.length vc) p) => specLoadOrder_any h _ _ l p w' hb hp
    have HSV := Lib.hid fun (w' : World) (hb : HoldsBx w' (.slice ua l.length uc) l) (hp : HoldsI w' (.slice va p.length vc) p) => specPlanValid_any h _ _ l p w' hb hp
    cases hok : plOk h (bxsOk l) (bxIds l) p
    · have e0 : tierO h (bxsOk l) (bxIds l) p = [] := by unfold tierO; rw [hok]; rfl
      rw [e0] at HI HS
      rw [hok] at HSV
      clear hok e0
      go_wp2_with fail
      rw [HW2.out]
      generalize w1.heap.size = Y at y2 k0 k1 k2
      have YK := Lib.hid fun (w' : World) (hs : Below W2.heap.size W2 w') => y2.keep hs
      clear HW2 y2
      go_wp2_with fail
      refine (HI.out W2 (BK.out _ e2) (PK.out _ e2)).mono ?_
      rintro e W3 ⟨vi, rfl, g, d⟩
      have e3 := e2.trans (d.mono e2.size)
      clear k0 k1 k2
      have k0 := (YK.out _ e3).c0
      have k1 := (YK.out _ e3).c1
      have k2 := (YK.out _ e3).c2
      clear d e2
      have gi := g.holds
      clear g
      obtain ⟨ia, ic, rfl⟩ := gi.form
      go_wp2_with fail
      refine (HS.out W3 (BK.out _ e3) (PK.out _ e3)).mono ?_
      rintro e W4 ⟨vs, rfl, gs, d⟩
      have e4 := e3.trans (d.mono e3.size)
      have gi := gi.keep d
      clear k0 k1 k2
      have k0 := (YK.out _ e4).c0
      have k1 := (YK.out _ e4).c1
      have k2 := (YK.out _ e4).c2
      clear d e3
      have gs := gs.holds
      go_wp2_with fail
      refine (sameP_yes _ vs [] W4 gi gs).mono ?_
      rintro e W5 ⟨rfl, d⟩
      have e5 := e4.trans (d.mono e4.size)
      have gi := gi.keep d
      clear k0 k1 k2
      have k0 := (YK.out _ e5).c0
      have k1 := (YK.out _ e5).c1
      have k2 := (YK.out _ e5).c2
      clear d e4
      clear gs
      go_wp2_with fail
      refine (HSV.out W5 (BK.out _ e5) (PK.out _ e5)).mono ?_
      rintro e W6 ⟨rfl, d⟩
      have e6 := e5.trans (d.mono e5.size)
      have gi := gi.keep d
      clear k0 k1 k2
      have k0 := (YK.out _ e6).c0
      have k1 := (YK.out _ e6).c1
      have k2 := (YK.out _ e6).c2
      clear d e5
      go_wp2_with fail
      refine (alive_yes _).mono ?_
      rintro e w' ⟨rfl, rfl⟩
      go_wp2_with fail
      go_ret
      exact ⟨rfl, CK.out _ e6⟩
    · have SRT := Lib.hid fun k (hk : k + 1 < (tierO h (bxsOk l) (bxIds l) p).length) => tierO_sorted hok hk
      have hok2 := tierO_ok hok
      have hlen : (tierO h (bxsOk l) (bxIds l) p).length ≤ 40 := by
        have h1 := (ldOk_iff.1 hok2).2.1
        have h2 := fullS_le p
        omega
      have LOK := Lib.hid fun (vo : Value) (w' : World) (hb : HoldsBx w' (.slice ua l.length uc) l) (hp : HoldsI w' (.slice va p.length vc) p) (ho : HoldsI w' vo (tierO h (bxsOk l) (bxIds l) p)) => implLoadOk_any h _ _ vo l p (tierO h (bxsOk l) (bxIds l) p) w' hb hp ho
      rw [hok2] at LOK
      rw [hok] at HSV
      generalize tierO h (bxsOk l) (bxIds l) p = L at HI HS SRT LOK hlen
      clear hok hok2
      go_wp2_with fail
      rw [HW2.out]
      generalize w1.heap.size = Y at y2 k0 k1 k2
      have YK := Lib.hid fun (w' : World) (hs : Below W2.heap.size W2 w') => y2.keep hs
      clear HW2 y2
      go_wp2_with fail
      refine (HI.out W2 (BK.out _ e2) (PK.out _ e2)).mono ?_
      rintro e W3 ⟨vi, rfl, g, d⟩
      have e3 := e2.trans (d.mono e2.size)
      clear k0 k1 k2
      have k0 := (YK.out _ e3).c0
      have k1 := (YK.out _ e3).c1
      have k2 := (YK.out _ e3).c2
      clear d e2
      have gi := g.holds
      clear g
      obtain ⟨ia, ic, rfl⟩ := gi.form
      go_wp2_with fail
      refine (HS.out W3 (BK.out _ e3) (PK.out _ e3)).mono ?_
      rintro e W4 ⟨vs, rfl, gs, d⟩
      have e4 := e3.trans (d.mono e3.size)
      have gi := gi.keep d
      clear k0 k1 k2
      have k0 := (YK.out _ e4).c0
      have k1 := (YK.out _ e4).c1
      have k2 := (YK.out _ e4).c2
      clear d e3
      have gs := gs.holds
      go_wp2_with fail
      refine (sameP_yes _ vs L W4 gi gs).mono ?_
      rintro e W5 ⟨rfl, d⟩
      have e5 := e4.trans (d.mono e4.size)
      have gi := gi.keep d
      clear k0 k1 k2
      have k0 := (YK.out _ e5).c0
      have k1 := (YK.out _ e5).c1
      have k2 := (YK.out _ e5).c2
      clear d e4
      clear gs
      go_wp2_with fail
      refine (HSV.out W5 (BK.out _ e5) (PK.out _ e5)).mono ?_
      rintro e W6 ⟨rfl, d⟩
      have e6 := e5.trans (d.mono e5.size)
      have gi := gi.keep d
      clear k0 k1 k2
      have k0 := (YK.out _ e6).c0
      have k1 := (YK.out _ e6).c1
      have k2 := (YK.out _ e6).c2
      clear d e5
      have LK := Lib.hid fun (w' : World) (hs : Below W6.heap.size W6 w') => gi.keep hs
      have EK := Lib.hid e6
      obtain ⟨M, hM⟩ : ∃ M, M = L.length := ⟨_, rfl⟩
      have hM36 : M ≤ 1000 := by omega
      rw [← hM] at LK SRT ⊢
      have HM := Lib.hid hM
      clear k0 k1 k2 hM e6 HI HS HSV gi
      go_wp2_with fail
      go_loopw [7] (fun i wr => ∃ k : Nat, 1 ≤ k ∧ i = .int .i64 k ∧ Hid (Below W6.heap.size W6 wr)) (fun i _ => M - (intOf i).toNat)
      case atStart => exact ⟨1, Nat.le_refl _, rfl, Lib.hid (Below.refl _ _)⟩
      case round =>
        obtain ⟨k, hk1, rfl, BR⟩ := hrel
        have ER := Lib.hid (EK.out.trans (BR.out.mono EK.out.size))
        have y := YK.out wr ER.out
        by_cases hlt : k < M
        · obtain ⟨ob, oo, rfl, hobl, c1⟩ := (LK.out wr BR.out).at_ hlt
          obtain ⟨jj, hjj⟩ : ∃ jj : Nat, k = jj + 1 := ⟨k - 1, by omega⟩
          obtain ⟨ob', oo', e', _, c0⟩ := (LK.out wr BR.out).at_ (show jj < M by omega)
          simp only [Option.some.injEq, Addr.mk.injEq, and_true] at e'
          obtain ⟨rfl, rfl⟩ := e'
          have hxy := SRT.out jj (by omega)
          rw [← hjj] at hxy
          generalize L.getD k 0 = x1 at c1 hxy
          generalize L.getD jj 0 = x0 at c0 hxy
          have HA := Lib.hid fun (w' : World) => implPlaceOf_any h x0 w'
          have HB := Lib.hid fun (w' : World) => implPlaceOf_any h x1 w'
          generalize plOf h x0 = q0 at HA hxy
          generalize plOf h x1 = q1 at HB hxy
          obtain ⟨a0, b0, t0⟩ := q0
          obtain ⟨a1, b1, t1⟩ := q1
          simp only [] at hxy
          have hgt : decide (t0 > t1) = false := decide_eq_false (by omega)
          have hgt2 : decide (t1 < t0) = false := hgt
          have HA' : Hid (∀ w' : World, Calls Try.prog 49 #[.agg #[.int .i64 h.b, .int .i64 h.r, .int .i64 h.t], .int .i64 x0] w' fun e w2 => e = .returned (.tuple #[.int .i64 a0, .int .i64 b0, .int .i64 t0]) ∧ Below w'.heap.size w' w2) := HA
          have HB' : Hid (∀ w' : World, Calls Try.prog 49 #[.agg #[.int .i64 h.b, .int .i64 h.r, .int .i64 h.t], .int .i64 x1] w' fun e w2 => e = .returned (.tuple #[.int .i64 a1, .int .i64 b1, .int .i64 t1]) ∧ Below w'.heap.size w' w2) := HB
          have i0 : (0 : Int) ≤ (k : Int) := by omega
          have i1 : (k : Int) < (M : Int) := by omega
          have i2 : (0 : Int) ≤ (jj : Int) := by omega
          have i3 : (jj : Int) < (M : Int) := by omega
          have jw : IntKind.i64.wrap ((k : Int) - 1) = (jj : Int) := by rw [IntWalk.i64_in _ (by omega)]; omega
          have HK := Lib.hid fun (w' : World) (hs : Since wr w') => (show w'.cell? ⟨Y, 0, none⟩ = some (.int .i64 h.b) ∧ w'.cell? ⟨Y, 1, none⟩ = some (.int .i64 h.r) ∧ w'.cell? ⟨Y, 2, none⟩ = some (.int .i64 h.t) ∧ w'.cell? ⟨ob, oo + jj, none⟩ = some (.int .i64 x0) ∧ w'.cell? ⟨ob, oo + k, none⟩ = some (.int .i64 x1) ∧ Since wr w' from ⟨(y.keep hs).c0, (y.keep hs).c1, (y.keep hs).c2, (Below.cell hs (p := ⟨ob, oo + jj, none⟩) hobl).trans c0, (Below.cell hs (p := ⟨ob, oo + k, none⟩) hobl).trans c1, hs⟩)
          have hstart := HK.out _ (show Since wr wr.drew from (Below.refl _ _).drew)
          clear HA HB hxy c0 c1 y hjj
          go_wp2_with fail
          go_region_held3 (fun w' => w'.cell? ⟨Y, 0, none⟩ = some (.int .i64 h.b) ∧ w'.cell? ⟨Y, 1, none⟩ = some (.int .i64 h.r) ∧ w'.cell? ⟨Y, 2, none⟩ = some (.int .i64 h.t) ∧ w'.cell? ⟨ob, oo + jj, none⟩ = some (.int .i64 x0) ∧ w'.cell? ⟨ob, oo + k, none⟩ = some (.int .i64 x1) ∧ Since wr w')
            (first | exact hstart | exact HK.out _ s5 | exact HK.out _ (by exact (‹_ ∧ _› : _ ∧ _ ∧ _ ∧ _ ∧ _ ∧ Since wr _).2.2.2.2.2) | fail)
            (first
              | (go_at_call 49; ((with_reducible refine (HA'.out _).mono ?_); rintro e w_s5 ⟨rfl, d_s5⟩; have s5 : Since wr w_s5 := Since.call (by exact (‹_ ∧ _› : _ ∧ _ ∧ _ ∧ _ ∧ _ ∧ Since wr _).2.2.2.2.2) d_s5; clear d_s5))
              | fail)
          rename_i hheld
          have hS := hheld.2.2.2.2.2
          clear hheld hstart
          have hstart2 := HK.out _ hS.drew
          clear jw
          go_wp2_with fail
          go_region_held3 (fun w' => w'.cell? ⟨Y, 0, none⟩ = some (.int .i64 h.b) ∧ w'.cell? ⟨Y, 1, none⟩ = some (.int .i64 h.r) ∧ w'.cell? ⟨Y, 2, none⟩ = some (.int .i64 h.t) ∧ w'.cell? ⟨ob, oo + jj, none⟩ = some (.int .i64 x0) ∧ w'.cell? ⟨ob, oo + k, none⟩ = some (.int .i64 x1) ∧ Since wr w')
            (first | exact hstart2 | exact HK.out _ s6 | exact HK.out _ (by exact (‹_ ∧ _› : _ ∧ _ ∧ _ ∧ _ ∧ _ ∧ Since wr _).2.2.2.2.2) | fail)
            (first
              | (go_at_call 49; ((with_reducible refine (HB'.out _).mono ?_); rintro e w_s6 ⟨rfl, d_s6⟩; have s6 : Since wr w_s6 := Since.call (by exact (‹_ ∧ _› : _ ∧ _ ∧ _ ∧ _ ∧ _ ∧ Since wr _).2.2.2.2.2) d_s6; clear d_s6))
              | fail)
          rename_i hheld
          have hS2 := hheld.2.2.2.2.2
          clear hheld hstart2
          have hx9 := Lib.hid (BR.out.trans (Below.mono hS2 BR.out.size))
          clear hS hS2
          go_wp2_with fail
          go_roundw
          case rel => exact ⟨k + 1, by omega, by go_num, hx9⟩
          case measure => simp [intOf]; omega
        · have ik : decide ((k : Int) < (M : Int)) = false := decide_eq_false (by omega)
          have HLO := Lib.hid (LOK.out _ wr (BK.out wr ER.out) (PK.out wr ER.out) (by have := LK.out wr BR.out; rw [HM.out] at this; exact this))
          rw [← HM.out] at HLO
          have k0 := y.c0
          have k1 := y.c1
          have k2 := y.c2
          have C9 := CK.out _ ER.out
          clear y
          go_wp2_with fail
          refine HLO.out.mono ?_
          rintro e w9 ⟨rfl, d9⟩
          have C10 := C9.trans (d9.mono C9.size)
          go_wp2_with fail
          go_ret
          exact ⟨rfl, C10⟩

set_option maxRecDepth 100000 in
set_option maxHeartbeats 2000000 in
/-- What the walk gives, for every argument. -/
theorem contract (H : Type) (enc : TypeId × Value → H) (W : World) (base : Nat) (args : Array Value) (ds gs : List (DataW H)) (before : List MemPlace)
    (hval : ∀ (j : Nat) t v, Try.f12.params[j]? = some t → args[j]? = some v → Value.okWide Try.prog W .any base t v)
    (hW : DataW.Whole enc Try.prog Try.f12.params.toList Rows.fnLoadOrderSpec.vars false W args.toList ds gs before) :
    Calls Try.prog 12 args W fun e W' => ∃ v, e = .returned v ∧ Rows.fnLoadOrderSpec.post enc Try.prog Try.f12 false true false false W args v W' := by
  have hW' := hW
  obtain ⟨p, q, hA0, hV, rfl, hfz, hnd⟩ := hW
  have hA : DataW.TrodAll enc Try.prog W 0 (fun _ => true) true Try.f12.params.toList args.toList ds p := hA0
  rw [Try.params12] at hA hval
  obtain ⟨v0, vs0, d0, ds0, p0, q0, hargs, rfl, rfl, h0, r0⟩ := trodAll_cons hA
  obtain ⟨rfl, rfl, rfl⟩ := trodAll_nil r0
  obtain rfl : args = #[v0] := by cases args; simp_all
  obtain ⟨rfl, rfl⟩ := trodVars_none hV
  have k0 := h0
  have lt0 : ∀ x ∈ p0, x.block < W.heap.size := by obtain ⟨m, hm⟩ := k0; exact DataW.trod_lt m _ _ _ hm
  obtain ⟨a0, len0, cap0, rfl⟩ := okWide_slice Try.underlying22 (hval 0 22 v0 rfl rfl)
  obtain ⟨z0, x0⟩ : ∃ zs, IsRow .u8 W a0 len0 cap0 zs := by
    obtain ⟨fuel, hf⟩ := h0
    rcases open_ints Try.underlying22 Try.underlying5 (by kernel_rfl) hf with ⟨hcs, _⟩ | ⟨x, l, c, zs, hcs, _, hl, hm, hz, _, hcell, hwz⟩
    · simp [Value.cells] at hcs
      obtain ⟨rfl, rfl, rfl⟩ := hcs
      exact ⟨[], .inl ⟨rfl, rfl, rfl, rfl⟩⟩
    · simp [Value.cells] at hcs
      obtain ⟨rfl, rfl, rfl⟩ := hcs
      exact ⟨zs, .inr ⟨_, rfl, hl, hm, by simpa using hz, hcell, hwz⟩⟩
  clear hA0
  refine (walk a0 len0 cap0 W (row8_of x0)).mono fun e W' ⟨he, bel⟩ => ?_
  subst he
  exact ⟨_, rfl, _, _, _, [], _, [], hW', trodAll_mk1 (shut_bool Try.underlying4 _), (trodAll_cons_mk (Below.trod laidOut (by kernel_rfl) (of_decide_eq_true (by kernel_rfl)) k0 bel lt0) trodAll_mk0), rfl, bel.frame _, fun h => by cases h⟩

set_option maxRecDepth 100000 in
theorem lifted (os : Os) (started : os.Started) (H : Type) (enc : TypeId × Value → H) :
    ReturnsInHanded {} Try.checked os 12 .any (Rows.fnLoadOrderSpec.pre6 enc Try.prog Try.f12 Rows.fnLoadOrderRow.domain false) (Rows.fnLoadOrderSpec.post enc Try.prog Try.f12 false true false false) := by
  refine returnsInHanded_of_change (C := Try.checked) own started (by kernel_rfl) Try.func12
    (ChangeSpec.witness6 (enc := enc) (C := Try.checked) false ⟨#[], #[.slice none 0 0], []⟩ 8 (by kernel_rfl) (by kernel_rfl) (by kernel_rfl) (by kernel_rfl)) ?_
  intro W base args ds gs before hval hW _ _
  exact contract H enc W base args ds gs before hval hW

theorem proved : Rows.FnLoadOrderSaid :=
  OpenClaim.holds_of_wide 12 Try.f12 rfl rfl rfl rfl rfl rfl rfl ⟨rfl, rfl, rfl, rfl, rfl⟩ rfl rfl rfl rfl rfl (by kernel_rfl) Try.func12 (by kernel_rfl)
    (of_decide_eq_true (by kernel_rfl)) (by unfold Func.isWrapper; first | (rw [if_pos (by decide +kernel)]; kernel_rfl) | (rw [if_neg (by decide +kernel)]; exact ⟨rfl, rfl⟩))
    (fun os started H enc _ => lifted os started H enc)
#print axioms proved
end Go.Proofs.Ytbaebamiiigmlab.fnLoadOrder
