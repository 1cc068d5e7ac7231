/-
  For every code of bytes the law on LeftOver (the model's answer; every box is on the ship or left over, and no box is both) returns true and leaves its argument as it was. Conditions: none beyond the form's own reach.
-/
import Derived.Test.YtfeobdgdhgcgoaaRows
import Derived.Test.YtfeobdgdhgcgoaaGBase
import Derived.WalkKit
import Derived.ProofKit
import Derived.OpenShut
import Derived.ShutString
import Derived.ChangeOld
import Derived.Below
import Derived.Test.YtfeobdgdhgcgoaaGCr
import Derived.Test.YtfeobdgdhgcgoaaFlW
import Derived.Test.YtfeobdgdhgcgoaaFlMath2
import Derived.Test.YtfeobdgdhgcgoaaFlL
import Derived.Test.YtfeobdgdhgcgoaaFlI
import Derived.Test.YtfeobdgdhgcgoaaGPn
import Derived.Test.YtfeobdgdhgcgoaaGPl
import Derived.Test.YtfeobdgdhgcgoaaGPs
import Derived.Test.YtfeobdgdhgcgoaaSkMath
import Derived.Test.YtfeobdgdhgcgoaaPlI
import Derived.Test.YtfeobdgdhgcgoaaGBl
namespace Go.Proofs.Ytfeobdgdhgcgoaa.fnLeftOver
open Go.ChangeShapes Go.WideShapes Go.ChangeAt Go.RowKit
open Go.ChangeMaps (open_string shut_string)
set_option linter.unusedVariables false


/-- What the walk is told of a slice of integers that came in. -/
def IsRow (k : IntKind) (w : World) (a : Option Addr) (len cap : Nat) (zs : List Int) : Prop :=
  (a = none ∧ len = 0 ∧ cap = 0 ∧ zs = []) ∨
  ∃ x, a = some x ∧ len ≤ cap ∧ cap ≤ maxLen ∧ zs.length = cap ∧ (∀ i, i < zs.length → w.cell? (x.add i) = some (.int k (zs.getD i 0))) ∧ ∀ n ∈ zs, (Lit.int k n).wf = true

set_option maxRecDepth 10000 in
set_option maxHeartbeats 4000000 in
theorem walk (a0 : Option Addr) (len0 cap0 : Nat) (w : World) (w0 : IsRow8 w a0 len0 cap0) :
    Calls Try.prog 5 #[.slice a0 len0 cap0] w fun e w' => e = .returned (.bool true) ∧ Below w.heap.size w w' := by
  have hm := row8_len w0
  unfold maxLen at hm
  by_cases hl : ¬ len0 ≤ 1048576
  · go_enter Try.func5, Try.ntmps5
    go_wp2
    go_ret
    exact ⟨rfl, Below.refl _ _⟩
  · have hl := Nat.not_lt.1 (fun h => hl (Nat.not_le.2 h))
    go_enter Try.func5, Try.ntmps5
    go_wp2_with fail
    refine (drawLeftOver_any a0 len0 cap0 w w0).mono ?_
    rintro e w1 ⟨h, l, p, u, v, hl40, hp40, he, NB, OW, hb⟩
    have he' : e = .returned (.tuple #[.agg #[.int .i64 h.b, .int .i64 h.r, .int .i64 h.t], u, v]) := he
    subst he'
    clear he w0
    have hu := NB.holds
    have hv := OW.holds
    clear NB OW
    obtain ⟨ua, uc, rfl⟩ : ∃ a c, u = .slice a l.length c := by obtain ⟨a, c, e, _⟩ := hu; exact ⟨a, c, e⟩
    obtain ⟨va, vc, rfl⟩ := hv.form
    have b2 : Below w1.heap.size w1 (w1.alloc (.cells #[.int .i64 h.b, .int .i64 h.r, .int .i64 h.t] 36)) := (Below.refl _ _).alloc (Nat.le_refl _) _
    have y2 := BoxH.new w1 h
    have C2 := hb.trans (b2.mono hb.size)
    have hu := hu.keep b2
    have hv := hv.keep b2
    generalize hW2 : w1.alloc (.cells #[.int .i64 h.b, .int .i64 h.r, .int .i64 h.t] 36) = W2 at b2 y2 C2 hu hv
    have HW2 := Lib.hid hW2
    clear hW2 b2 hb
    have BK := Lib.hid fun (w' : World) (hs : Below W2.heap.size W2 w') => hu.keep hs
    have PK := Lib.hid fun (w' : World) (hs : Below W2.heap.size W2 w') => hv.keep hs
    have CK := Lib.hid fun (w' : World) (hs : Below W2.heap.size W2 w') => C2.trans (hs.mono C2.size)
    have e2 : Below W2.heap.size W2 W2 := Below.refl _ _
    have k0 := y2.c0
    have k1 := y2.c1
    have k2 := y2.c2
    clear hu hv C2
    have HI := Lib.hid fun (w' : World) (hb : HoldsBx w' (.slice ua l.length uc) l) (hp : HoldsI w' (.slice va p.length vc) p) => implLeftOver_any h _ _ l p w' hb hp
    have HS := Lib.hid fun (w' : World) (hb : HoldsBx w' (.slice ua l.length uc) l) (hp : HoldsI w' (.slice va p.length vc) p) => specLeftOver_any h _ _ l p w' hb hp
    have HSV := Lib.hid fun (w' : World) (hb : HoldsBx w' (.slice ua l.length uc) l) (hp : HoldsI w' (.slice va p.length vc) p) => specPlanValid_any h _ _ l p w' hb hp
    cases hok : plOk h (bxsOk l) (bxIds l) p
    · have e0 : leftO h l p = [] := leftO_bad hok
      rw [e0] at HI HS
      rw [hok] at HSV
      clear hok e0
      go_wp2_with fail
      rw [HW2.out]
      generalize w1.heap.size = Y at y2 k0 k1 k2
      have YK := Lib.hid fun (w' : World) (hs : Below W2.heap.size W2 w') => y2.keep hs
      clear HW2 y2
      go_wp2_with fail
      refine (HI.out W2 (BK.out _ e2) (PK.out _ e2)).mono ?_
      rintro e W3 ⟨vi, rfl, g, d⟩
      have e3 := e2.trans (d.mono e2.size)
      clear k0 k1 k2
      have k0 := (YK.out _ e3).c0
      have k1 := (YK.out _ e3).c1
      have k2 := (YK.out _ e3).c2
      clear d e2
      have gi := g.holds
      obtain ⟨ia, ic, rfl⟩ := gi.form
      clear g
      go_wp2_with fail
      refine (HS.out W3 (BK.out _ e3) (PK.out _ e3)).mono ?_
      rintro e W4 ⟨vs, rfl, gs, d⟩
      have e4 := e3.trans (d.mono e3.size)
      have gi := gi.keep d
      clear k0 k1 k2
      have k0 := (YK.out _ e4).c0
      have k1 := (YK.out _ e4).c1
      have k2 := (YK.out _ e4).c2
      clear d e3
      have gs := gs.holds
      go_wp2_with fail
      refine (sameInts_yes _ vs [] W4 gi gs).mono ?_
      rintro e W5 ⟨rfl, d⟩
      have e5 := e4.trans (d.mono e4.size)
      have gi := gi.keep d
      clear k0 k1 k2
      have k0 := (YK.out _ e5).c0
      have k1 := (YK.out _ e5).c1
      have k2 := (YK.out _ e5).c2
      clear d e4
      clear gs
      go_wp2_with fail
      refine (HSV.out W5 (BK.out _ e5) (PK.out _ e5)).mono ?_
      rintro e W6 ⟨rfl, d⟩
      have e6 := e5.trans (d.mono e5.size)
      have gi := gi.keep d
      clear k0 k1 k2
      have k0 := (YK.out _ e6).c0
      have k1 := (YK.out _ e6).c1
      have k2 := (YK.out _ e6).c2
      clear d e5
      go_wp2_with fail
      refine (alive_yes _).mono ?_
      rintro e w' ⟨rfl, rfl⟩
      go_wp2_with fail
      go_ret
      exact ⟨rfl, CK.out _ e6⟩
    · have HN := Lib.hid fun (w' : World) (hb : HoldsBx w' (.slice ua l.length uc) l) (hp : HoldsI w' (.slice va p.length vc) p) => implPlanIds_any h _ _ l p w' hb hp
      obtain ⟨hsum, hlaw⟩ := leftO_law hok
      have hbk := plOk_bok hok
      have HX := Lib.hid fun k (hk : k < (leftO h l p).length) => (show 0 ≤ findS l ((leftO h l p).getD k 0) ∧ hasI (idsP h (bxsOk l) (bxIds l) p) ((leftO h l p).getD k 0) = false from by
        obtain ⟨h1, h2⟩ := hlaw ((leftO h l p).getD k 0) (by rw [List.getD_eq_getElem?_getD, List.getElem?_eq_getElem hk, Option.getD_some]; exact List.getElem_mem hk)
        refine ⟨by unfold findS; rw [hbk]; exact h1, ?_⟩
        cases h3 : hasI (idsP h (bxsOk l) (bxIds l) p) ((leftO h l p).getD k 0)
        · rfl
        · exact absurd (hasI_iffP.1 h3) h2)
      rw [hok] at HSV
      generalize leftO h l p = L at HI HS HX hsum
      generalize idsP h (bxsOk l) (bxIds l) p = I at HN HX hsum
      clear hok hlaw hbk
      go_wp2_with fail
      rw [HW2.out]
      generalize w1.heap.size = Y at y2 k0 k1 k2
      have YK := Lib.hid fun (w' : World) (hs : Below W2.heap.size W2 w') => y2.keep hs
      clear HW2 y2
      go_wp2_with fail
      refine (HI.out W2 (BK.out _ e2) (PK.out _ e2)).mono ?_
      rintro e W3 ⟨vi, rfl, g, d⟩
      have e3 := e2.trans (d.mono e2.size)
      clear k0 k1 k2
      have k0 := (YK.out _ e3).c0
      have k1 := (YK.out _ e3).c1
      have k2 := (YK.out _ e3).c2
      clear d e2
      have gi := g.holds
      obtain ⟨ia, ic, rfl⟩ := gi.form
      clear g
      go_wp2_with fail
      refine (HS.out W3 (BK.out _ e3) (PK.out _ e3)).mono ?_
      rintro e W4 ⟨vs, rfl, gs, d⟩
      have e4 := e3.trans (d.mono e3.size)
      have gi := gi.keep d
      clear k0 k1 k2
      have k0 := (YK.out _ e4).c0
      have k1 := (YK.out _ e4).c1
      have k2 := (YK.out _ e4).c2
      clear d e3
      have gs := gs.holds
      go_wp2_with fail
      refine (sameInts_yes _ vs L W4 gi gs).mono ?_
      rintro e W5 ⟨rfl, d⟩
      have e5 := e4.trans (d.mono e4.size)
      have gi := gi.keep d
      clear k0 k1 k2
      have k0 := (YK.out _ e5).c0
      have k1 := (YK.out _ e5).c1
      have k2 := (YK.out _ e5).c2
      clear d e4
      clear gs
      go_wp2_with fail
      refine (HSV.out W5 (BK.out _ e5) (PK.out _ e5)).mono ?_
      rintro e W6 ⟨rfl, d⟩
      have e6 := e5.trans (d.mono e5.size)
      have gi := gi.keep d
      clear k0 k1 k2
      have k0 := (YK.out _ e6).c0
      have k1 := (YK.out _ e6).c1
      have k2 := (YK.out _ e6).c2
      clear d e5
      go_wp2_with fail
      refine (HN.out W6 (BK.out _ e6) (PK.out _ e6)).mono ?_
      rintro e W7 ⟨vn, rfl, gn, d⟩
      have e7 := e6.trans (d.mono e6.size)
      have gi := gi.keep d
      clear k0 k1 k2
      have k0 := (YK.out _ e7).c0
      have k1 := (YK.out _ e7).c1
      have k2 := (YK.out _ e7).c2
      clear d e6
      have gn := gn.holds
      obtain ⟨na, nc, rfl⟩ := gn.form
      have EK := Lib.hid e7
      have LK := Lib.hid fun (w' : World) (hs : Below W7.heap.size W7 w') => gi.keep hs
      have NK := Lib.hid fun (w' : World) (hs : Below W7.heap.size W7 w') => gn.keep hs
      have ZZ := Lib.hid (Below.refl W7.heap.size W7)
      obtain ⟨N, hN⟩ : ∃ N, N = L.length := ⟨_, rfl⟩
      obtain ⟨M, hM⟩ : ∃ M, M = I.length := ⟨_, rfl⟩
      obtain ⟨K, hK⟩ : ∃ K, K = l.length := ⟨_, rfl⟩
      have hK40 : K ≤ 40 := by omega
      have hN40 : N ≤ 40 := by omega
      have zs : IntKind.i64.wrap ((M : Int) + (N : Int)) = (K : Int) := by rw [IntWalk.i64_in _ (by omega)]; omega
      rw [← hN] at LK HX ⊢
      rw [← hM] at NK ⊢
      rw [← hK] at BK ⊢
      clear gi gn k0 k1 k2 hN hM hK hsum e7 HI HS HSV HN
      go_wp2_with fail
      go_loopw [8] (fun i wr => ∃ k : Nat, k ≤ N ∧ i = .int .i64 k ∧ Hid (Below W7.heap.size W7 wr)) (fun i _ => N - (intOf i).toNat)
      case atStart => exact ⟨0, by omega, rfl, ZZ⟩
      case round =>
        clear ZZ
        obtain ⟨k, hkN, rfl, BR⟩ := hrel
        have ER := Lib.hid (EK.out.trans (BR.out.mono EK.out.size))
        by_cases hlt : k < N
        · obtain ⟨b, off, rfl, hbl, s0⟩ := (LK.out wr BR.out).at_ hlt
          obtain ⟨hx1, hx2⟩ := HX.out k hlt
          obtain ⟨x, hx⟩ : ∃ x, x = L.getD k 0 := ⟨_, rfl⟩
          rw [← hx] at s0 hx1 hx2
          have HH := Lib.hid (hasInt_any (.slice na M nc) I x wr (NK.out wr BR.out))
          have HF := Lib.hid (implFindBox_any (.slice ua K uc) l x wr (BK.out wr ER.out))
          rw [hx2] at HH
          generalize findS l x = f at HF hx1
          have hf0 : decide (f < 0) = false := decide_eq_false (by omega)
          have ik : (k : Int) < (N : Int) := by omega
          have i0k : (0 : Int) ≤ (k : Int) := by omega
          clear hx hx1 hx2 HX
          go_wp2_with fail
          refine HH.out.mono ?_
          rintro e w3 ⟨rfl, rfl⟩
          go_wp2_with fail
          refine HF.out.mono ?_
          rintro e w4 ⟨rfl, d4⟩
          have B4 := Lib.hid (BR.out.trans (d4.mono BR.out.size))
          clear d4
          go_wp2_with fail
          go_roundw
          case rel => exact ⟨k + 1, by omega, by go_num, B4⟩
          case measure => simp [intOf]; omega
        · obtain rfl : k = N := by omega
          have C9 := CK.out _ ER.out
          have hnk : ¬ (k : Int) < (k : Int) := by omega
          have zs1 : (IntKind.i64.wrap ((M : Int) + (k : Int)) == (K : Int)) = true := by rw [zs]; simp
          go_wp2_with fail
          go_ret
          exact ⟨rfl, C9⟩

set_option maxRecDepth 100000 in
set_option maxHeartbeats 2000000 in
/-- What the walk gives, for every argument. -/
theorem contract (H : Type) (enc : TypeId × Value → H) (W : World) (base : Nat) (args : Array Value) (ds gs : List (DataW H)) (before : List MemPlace)
    (hval : ∀ (j : Nat) t v, Try.f5.params[j]? = some t → args[j]? = some v → Value.okWide Try.prog W .any base t v)
    (hW : DataW.Whole enc Try.prog Try.f5.params.toList Rows.fnLeftOverSpec.vars false W args.toList ds gs before) :
    Calls Try.prog 5 args W fun e W' => ∃ v, e = .returned v ∧ Rows.fnLeftOverSpec.post enc Try.prog Try.f5 false true false false W args v W' := by
  have hW' := hW
  obtain ⟨p, q, hA0, hV, rfl, hfz, hnd⟩ := hW
  have hA : DataW.TrodAll enc Try.prog W 0 (fun _ => true) true Try.f5.params.toList args.toList ds p := hA0
  rw [Try.params5] at hA hval
  obtain ⟨v0, vs0, d0, ds0, p0, q0, hargs, rfl, rfl, h0, r0⟩ := trodAll_cons hA
  obtain ⟨rfl, rfl, rfl⟩ := trodAll_nil r0
  obtain rfl : args = #[v0] := by cases args; simp_all
  obtain ⟨rfl, rfl⟩ := trodVars_none hV
  have k0 := h0
  have lt0 : ∀ x ∈ p0, x.block < W.heap.size := by obtain ⟨m, hm⟩ := k0; exact DataW.trod_lt m _ _ _ hm
  obtain ⟨a0, len0, cap0, rfl⟩ := okWide_slice Try.underlying22 (hval 0 22 v0 rfl rfl)
  obtain ⟨z0, x0⟩ : ∃ zs, IsRow .u8 W a0 len0 cap0 zs := by
    obtain ⟨fuel, hf⟩ := h0
    rcases open_ints Try.underlying22 Try.underlying5 (by kernel_rfl) hf with ⟨hcs, _⟩ | ⟨x, l, c, zs, hcs, _, hl, hm, hz, _, hcell, hwz⟩
    · simp [Value.cells] at hcs
      obtain ⟨rfl, rfl, rfl⟩ := hcs
      exact ⟨[], .inl ⟨rfl, rfl, rfl, rfl⟩⟩
    · simp [Value.cells] at hcs
      obtain ⟨rfl, rfl, rfl⟩ := hcs
      exact ⟨zs, .inr ⟨_, rfl, hl, hm, by simpa using hz, hcell, hwz⟩⟩
  clear hA0
  refine (walk a0 len0 cap0 W (row8_of x0)).mono fun e W' ⟨he, bel⟩ => ?_
  subst he
  exact ⟨_, rfl, _, _, _, [], _, [], hW', trodAll_mk1 (shut_bool Try.underlying4 _), (trodAll_cons_mk (Below.trod laidOut (by kernel_rfl) (of_decide_eq_true (by kernel_rfl)) k0 bel lt0) trodAll_mk0), rfl, bel.frame _, fun h => by cases h⟩

set_option maxRecDepth 100000 in
theorem lifted (os : Os) (started : os.Started) (H : Type) (enc : TypeId × Value → H) :
    ReturnsInHanded {} Try.checked os 5 .any (Rows.fnLeftOverSpec.pre6 enc Try.prog Try.f5 Rows.fnLeftOverRow.domain false) (Rows.fnLeftOverSpec.post enc Try.prog Try.f5 false true false false) := by
  refine returnsInHanded_of_change (C := Try.checked) own started (by kernel_rfl) Try.func5
    (ChangeSpec.witness6 (enc := enc) (C := Try.checked) false ⟨#[], #[.slice none 0 0], []⟩ 8 (by kernel_rfl) (by kernel_rfl) (by kernel_rfl) (by kernel_rfl)) ?_
  intro W base args ds gs before hval hW _ _
  exact contract H enc W base args ds gs before hval hW

theorem proved : Rows.FnLeftOverSaid :=
  OpenClaim.holds_of_wide 5 Try.f5 rfl rfl rfl rfl rfl rfl rfl ⟨rfl, rfl, rfl, rfl, rfl⟩ rfl rfl rfl rfl rfl (by kernel_rfl) Try.func5 (by kernel_rfl)
    (of_decide_eq_true (by kernel_rfl)) (by unfold Func.isWrapper; first | (rw [if_pos (by decide +kernel)]; kernel_rfl) | (rw [if_neg (by decide +kernel)]; exact ⟨rfl, rfl⟩))
    (fun os started H enc _ => lifted os started H enc)
#print axioms proved
end Go.Proofs.Ytfeobdgdhgcgoaa.fnLeftOver
