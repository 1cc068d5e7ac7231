/-
  For every code of bytes the law on AfterPort (the model's answer; the plan is valid, has no box for the port and all others, each in the same bay and row) returns true and leaves its argument as it was. Conditions: none beyond the form's own reach.
-/
import Derived.Test.YtmgnbkiphdlooaaRows
import Derived.Test.YtmgnbkiphdlooaaGBase
import Derived.WalkKit
import Derived.ProofKit
import Derived.OpenShut
import Derived.ShutString
import Derived.ChangeOld
import Derived.Below
import Derived.Test.YtmgnbkiphdlooaaGCr
import Derived.Test.YtmgnbkiphdlooaaWtW
import Derived.Test.YtmgnbkiphdlooaaGOm
import Derived.Test.YtmgnbkiphdlooaaOvS
import Derived.Test.YtmgnbkiphdlooaaOvQ
import Derived.Test.YtmgnbkiphdlooaaOvF
import Derived.Test.YtmgnbkiphdlooaaOvI
import Derived.Test.YtmgnbkiphdlooaaOvP
import Derived.Test.YtmgnbkiphdlooaaGPn
import Derived.Test.YtmgnbkiphdlooaaGPl
import Derived.Test.YtmgnbkiphdlooaaGPs
import Derived.Test.YtmgnbkiphdlooaaOvW
import Derived.Test.YtmgnbkiphdlooaaPlI
import Derived.Test.YtmgnbkiphdlooaaGSl
namespace Go.Proofs.Ytmgnbkiphdlooaa.fnAfterPort
open Go.ChangeShapes Go.WideShapes Go.ChangeAt Go.RowKit
open Go.ChangeMaps (open_string shut_string)
set_option linter.unusedVariables false


/-- What the walk is told of a slice of integers that came in. -/
def IsRow (k : IntKind) (w : World) (a : Option Addr) (len cap : Nat) (zs : List Int) : Prop :=
  (a = none ∧ len = 0 ∧ cap = 0 ∧ zs = []) ∨
  ∃ x, a = some x ∧ len ≤ cap ∧ cap ≤ maxLen ∧ zs.length = cap ∧ (∀ i, i < zs.length → w.cell? (x.add i) = some (.int k (zs.getD i 0))) ∧ ∀ n ∈ zs, (Lit.int k n).wf = true

set_option maxRecDepth 10000 in
set_option maxHeartbeats 4000000 in
theorem walk (a0 : Option Addr) (len0 cap0 : Nat) (w : World) (w0 : IsRow8 w a0 len0 cap0) :
    Calls Try.prog 5 #[.slice a0 len0 cap0] w fun e w' => e = .returned (.bool true) ∧ Below w.heap.size w w' := by
  have hm := row8_len w0
  unfold maxLen at hm
  by_cases hl : ¬ len0 ≤ 1048576
  · go_enter Try.func5, Try.ntmps5
    go_wp2
    go_ret
    exact ⟨rfl, Below.refl _ _⟩
  · have hl := Nat.not_lt.1 (fun h => hl (Nat.not_le.2 h))
    go_enter Try.func5, Try.ntmps5
    go_wp2_with fail
    refine (drawAfterPort_any a0 len0 cap0 w w0).mono ?_
    rintro e w1 ⟨q, hqa, hqb, h, l, p, u, v, hl40, hp40, he, NB, OW, hb⟩
    have he' : e = .returned (.tuple #[.agg #[.int .i64 h.b, .int .i64 h.r, .int .i64 h.t], u, v, .int .i64 q]) := he
    subst he'
    clear he w0
    have hu := NB.holds
    have hv := OW.holds
    clear NB OW
    obtain ⟨ua, uc, rfl⟩ : ∃ a c, u = .slice a l.length c := by obtain ⟨a, c, e, _⟩ := hu; exact ⟨a, c, e⟩
    obtain ⟨va, vc, rfl⟩ := hv.form
    have b2 : Below w1.heap.size w1 (w1.alloc (.cells #[.int .i64 h.b, .int .i64 h.r, .int .i64 h.t] 24)) := (Below.refl _ _).alloc (Nat.le_refl _) _
    have y2 := BoxH.new w1 h
    have C2 := hb.trans (b2.mono hb.size)
    have hu := hu.keep b2
    have hv := hv.keep b2
    generalize hW2 : w1.alloc (.cells #[.int .i64 h.b, .int .i64 h.r, .int .i64 h.t] 24) = W2 at b2 y2 C2 hu hv
    have HW2 := Lib.hid hW2
    clear hW2 b2 hb
    have BK := Lib.hid fun (w' : World) (hs : Below W2.heap.size W2 w') => hu.keep hs
    have PK := Lib.hid fun (w' : World) (hs : Below W2.heap.size W2 w') => hv.keep hs
    have CK := Lib.hid fun (w' : World) (hs : Below W2.heap.size W2 w') => C2.trans (hs.mono C2.size)
    have e2 : Below W2.heap.size W2 W2 := Below.refl _ _
    have k0 := y2.c0
    have k1 := y2.c1
    have k2 := y2.c2
    clear hu hv C2
    have HI := Lib.hid fun (w' : World) (hb : HoldsBx w' (.slice ua l.length uc) l) (hp : HoldsI w' (.slice va p.length vc) p) => implAfterPort_any h _ _ l p q w' hb hp
    have HS := Lib.hid fun (w' : World) (hb : HoldsBx w' (.slice ua l.length uc) l) (hp : HoldsI w' (.slice va p.length vc) p) => specAfterPort_any h _ _ l p q w' hb hp
    by_cases hok : plOk h (bxsOk l) (bxIds l) p = true ∧ 0 ≤ q ∧ q ≤ 6
    · obtain ⟨hok, hq0, hq6⟩ := hok
      obtain ⟨R, hTt, hT0, hRT⟩ := rows_pl hok
      obtain ⟨z1, z2, z3, z4, z5⟩ := aftO_ok hok hq0 hq6
      have HPF := Lib.hid fun k (hk : k < p.length) (hz : pAt p k ≠ 0) => pl_find hok hk hz
      have HAF := Lib.hid fun k (hk : k < p.length) (hz : pAt p k ≠ 0) => (show (ptB l (pAt p k) = q ∧ findP h (bxsOk l) (bxIds l) (aftO h l p q) (pAt p k) = -1) ∨ (ptB l (pAt p k) ≠ q ∧ ∃ a, a < p.length ∧ a / h.t.toNat = k / h.t.toNat ∧ findP h (bxsOk l) (bxIds l) (aftO h l p q) (pAt p k) = (a : Int)) from by
        rw [z1]; exact aft_find hok hTt hT0 hRT hk hz)
      have HRW := Lib.hid fun a k (ha : a < p.length) (hk : k < p.length) (he : a / h.t.toNat = k / h.t.toNat) => row_place (plOk_iff.1 hok).1 (plOk_iff.1 hok).2.2.1 hTt ha hk he
      have HLN := Lib.hid (show 1 ≤ (aftO h l p q).length from by rw [z1, aftP_len]; exact (pl_len hok).1)
      have HFD := Lib.hid fun (x : Int) (v' : Value) (w' : World) (hb : HoldsBx w' (.slice ua l.length uc) l) (hq : HoldsI w' v' (aftO h l p q)) => implPlanFind_any h _ v' l (aftO h l p q) x w' hb hq
      have HVL := Lib.hid fun (v' : Value) (w' : World) (hb : HoldsBx w' (.slice ua l.length uc) l) (hq : HoldsI w' v' (aftO h l p q)) => implPlanValid_any h (.slice ua l.length uc) v' l (aftO h l p q) w' hb hq
      have HML := Lib.hid fun (v' : Value) (w' : World) (hb : HoldsBx w' (.slice ua l.length uc) l) (hq : HoldsI w' v' (aftO h l p q)) => (show Calls Try.prog 18 #[.agg #[.int .i64 h.b, .int .i64 h.r, .int .i64 h.t], .slice ua l.length uc, v', .int .i64 q] w' fun e w2 => ∃ v'', e = .returned v'' ∧ FreeE w'.heap.size w2 v'' [] ∧ Below w'.heap.size w' w2 from by
        have := implPortMoves_any h (.slice ua l.length uc) v' l (aftO h l p q) q w' hb hq
        rw [z5] at this
        exact this)
      rw [z2] at HVL
      generalize aftO h l p q = L at HI HS HAF HLN HFD HVL HML
      clear hok z1 z2 z3 z4 z5 hTt hT0 hRT
      go_wp2_with fail
      rw [HW2.out]
      generalize w1.heap.size = Y at y2 k0 k1 k2
      have YK := Lib.hid fun (w' : World) (hs : Below W2.heap.size W2 w') => y2.keep hs
      clear HW2 y2
      go_wp2_with fail
      refine (HI.out W2 (BK.out _ e2) (PK.out _ e2)).mono ?_
      rintro e W3 ⟨vi, rfl, g, d⟩
      have e3 := e2.trans (d.mono e2.size)
      clear k0 k1 k2
      have k0 := (YK.out _ e3).c0
      have k1 := (YK.out _ e3).c1
      have k2 := (YK.out _ e3).c2
      clear d e2
      have gi := g.holds
      clear g
      obtain ⟨ia, ic, rfl⟩ := gi.form
      go_wp2_with fail
      refine (HS.out W3 (BK.out _ e3) (PK.out _ e3)).mono ?_
      rintro e W4 ⟨vs, rfl, gs, d⟩
      have e4 := e3.trans (d.mono e3.size)
      have gi := gi.keep d
      clear k0 k1 k2
      have k0 := (YK.out _ e4).c0
      have k1 := (YK.out _ e4).c1
      have k2 := (YK.out _ e4).c2
      clear d e3
      have gs := gs.holds
      go_wp2_with fail
      refine (sameP_yes _ vs L W4 gi gs).mono ?_
      rintro e W5 ⟨rfl, d⟩
      have e5 := e4.trans (d.mono e4.size)
      have gi := gi.keep d
      clear k0 k1 k2
      have k0 := (YK.out _ e5).c0
      have k1 := (YK.out _ e5).c1
      have k2 := (YK.out _ e5).c2
      clear d e4
      clear gs
      have LK := Lib.hid fun (w' : World) (hs : Below W5.heap.size W5 w') => gi.keep hs
      have EK := Lib.hid e5
      have hL0 : ((L.length : Int) == 0) = false := by
        have h9 := HLN.out
        have : (L.length : Int) ≠ 0 := by omega
        simpa using this
      have hL0n : ¬ L.length = 0 := by have h9 := HLN.out; omega
      obtain ⟨N, hN⟩ : ∃ N, N = p.length := ⟨_, rfl⟩
      have HNL := Lib.hid hN
      have hN40 : N ≤ 40 := by omega
      rw [← hN] at PK ⊢
      obtain ⟨M, hM⟩ : ∃ M, M = L.length := ⟨_, rfl⟩
      rw [← hM] at LK hL0 hL0n ⊢
      clear k0 k1 k2 hN hM e5 HI HS gi
      go_wp2_with fail
      go_loopw [8] (fun i wr => ∃ k : Nat, k ≤ N ∧ i = .int .i64 k ∧ Hid (Below W5.heap.size W5 wr)) (fun i _ => N - (intOf i).toNat)
      case atStart => exact ⟨0, by omega, rfl, Lib.hid (Below.refl _ _)⟩
      case round =>
        obtain ⟨k, hkN, rfl, BR⟩ := hrel
        have ER := Lib.hid (EK.out.trans (BR.out.mono EK.out.size))
        have y := YK.out wr ER.out
        by_cases hlt : k < N
        · obtain ⟨pb, po, rfl, hpbl, s0⟩ := (PK.out wr ER.out).at_ hlt
          have e0 : p.getD k 0 = pAt p k := rfl
          rw [e0] at s0
          have ik : (k : Int) < (N : Int) := by omega
          have i0k : (0 : Int) ≤ (k : Int) := by omega
          have hkp : k < p.length := by have := HNL.out; omega
          have HFk0 := Lib.hid fun (x : Int) (w' : World) (hs : Since wr w') => HFD.out x (.slice ia M ic) w' (BK.out _ (ER.out.trans (Below.mono hs ER.out.size))) (LK.out w' (BR.out.trans (Below.mono hs BR.out.size)))
          have HKX := Lib.hid fun (x : Int) (s0 : wr.cell? ⟨pb, po + k, none⟩ = some (.int .i64 x)) (w' : World) (hs : Since wr w') => (show w'.cell? ⟨Y, 0, none⟩ = some (.int .i64 h.b) ∧ w'.cell? ⟨Y, 1, none⟩ = some (.int .i64 h.r) ∧ w'.cell? ⟨Y, 2, none⟩ = some (.int .i64 h.t) ∧ w'.cell? ⟨pb, po + k, none⟩ = some (.int .i64 x) ∧ Since wr w' from ⟨(y.keep hs).c0, (y.keep hs).c1, (y.keep hs).c2, (Below.cell hs (p := ⟨pb, po + k, none⟩) hpbl).trans s0, hs⟩)
          clear e0 y
          by_cases hz : pAt p k = 0
          · rw [hz] at s0
            obtain ⟨x, hx⟩ : ∃ x : Int, x = 0 := ⟨0, rfl⟩
            rw [← hx] at s0
            have hx0 : (x == 0) = true := by simp [hx]
            have HFk := Lib.hid (HFk0.out x)
            have HK := Lib.hid (HKX.out x s0)
            obtain ⟨fv, hfv⟩ : ∃ fv, fv = findP h (bxsOk l) (bxIds l) L x := ⟨_, rfl⟩
            rw [← hfv] at HFk
            have hstart := HK.out _ (show Since wr wr.drew from (Below.refl _ _).drew)
            clear hx hfv hz s0
            go_wp2_with fail
            go_region_held3 (fun w' => w'.cell? ⟨Y, 0, none⟩ = some (.int .i64 h.b) ∧ w'.cell? ⟨Y, 1, none⟩ = some (.int .i64 h.r) ∧ w'.cell? ⟨Y, 2, none⟩ = some (.int .i64 h.t) ∧ w'.cell? ⟨pb, po + k, none⟩ = some (.int .i64 x) ∧ Since wr w')
              (first | exact hstart | exact HK.out _ s5 | exact HK.out _ (by exact (‹_ ∧ _› : _ ∧ _ ∧ _ ∧ _ ∧ Since wr _).2.2.2.2) | fail)
              (first
                | (go_at_call 26; ((with_reducible refine (HFk.out _ (by exact (‹_ ∧ _› : _ ∧ _ ∧ _ ∧ _ ∧ Since wr _).2.2.2.2)).mono ?_); rintro e w5 ⟨rfl, d5⟩; have s5 : Since wr w5 := Since.call (by exact (‹_ ∧ _› : _ ∧ _ ∧ _ ∧ _ ∧ Since wr _).2.2.2.2) d5; clear d5))
                | fail)
            rename_i hheld
            have X5 := Lib.hid (BR.out.trans (Below.mono hheld.2.2.2.2 BR.out.size))
            have E5 := Lib.hid (ER.out.trans (Below.mono hheld.2.2.2.2 ER.out.size))
            have s5' := hheld.2.2.2.1
            have y5 := YK.out _ E5.out
            have k0 := y5.c0
            have k1 := y5.c1
            have k2 := y5.c2
            clear hheld hstart y5
            go_wp2_with fail
            go_roundw
            case rel => exact ⟨k + 1, by omega, by go_num, X5⟩
            case measure => simp [intOf]; omega
          · have hcs := Lib.hid (HAF.out k hkp hz)
            have hdz : (pAt p k == 0) = false := by simpa using hz
            have HPO := Lib.hid fun (w' : World) (hb : HoldsBx w' (.slice ua l.length uc) l) => (show Calls Try.prog 22 #[.slice ua l.length uc, .int .i64 (pAt p k)] w' fun e w2 => e = .returned (.int .i64 (ptB l (pAt p k))) ∧ w' = w2 from by
              have := portOf_any (.slice ua l.length uc) l (pAt p k) w' hb
              rw [ptO_yes (HPF.out k hkp hz)] at this
              exact this)
            have HFk := Lib.hid (HFk0.out (pAt p k))
            have HK := Lib.hid (HKX.out (pAt p k) s0)
            obtain ⟨fk, hfk⟩ : ∃ fk, fk = ptB l (pAt p k) := ⟨_, rfl⟩
            have hcs' := hcs.out
            rw [← hfk] at HPO hcs'
            obtain ⟨fv, hfv⟩ : ∃ fv, fv = findP h (bxsOk l) (bxIds l) L (pAt p k) := ⟨_, rfl⟩
            rw [← hfv] at HFk hcs'
            obtain ⟨x, hx⟩ : ∃ x, x = pAt p k := ⟨_, rfl⟩
            rw [← hx] at s0 hdz HPO HFk HK
            have hstart := HK.out _ (show Since wr wr.drew from (Below.refl _ _).drew)
            have HPK1 := Lib.hid fun (w' : World) => implPlaceOf_any h (k : Int) w'
            rcases hcs' with ⟨hfq, hfm⟩ | ⟨hfq, at_, hal, hrow, hfa⟩
            · have HPK2 := Lib.hid fun (w' : World) => implPlaceOf_any h (-1) w'
              have hqq : (fk == q) = true := by simp [hfq]
              rw [hfm] at HFk
              generalize plOf h (k : Int) = a1 at HPK1
              generalize plOf h (-1) = a2 at HPK2
              clear hx hfv hfk hz s0 hfq hfm
              go_wp2_with fail
              go_region_held3 (fun w' => w'.cell? ⟨Y, 0, none⟩ = some (.int .i64 h.b) ∧ w'.cell? ⟨Y, 1, none⟩ = some (.int .i64 h.r) ∧ w'.cell? ⟨Y, 2, none⟩ = some (.int .i64 h.t) ∧ w'.cell? ⟨pb, po + k, none⟩ = some (.int .i64 x) ∧ Since wr w')
                (first | exact hstart | exact HK.out _ s5 | exact HK.out _ (by exact (‹_ ∧ _› : _ ∧ _ ∧ _ ∧ _ ∧ Since wr _).2.2.2.2) | fail)
                (first
                  | (go_at_call 26; ((with_reducible refine (HFk.out _ (by exact (‹_ ∧ _› : _ ∧ _ ∧ _ ∧ _ ∧ Since wr _).2.2.2.2)).mono ?_); rintro e w5 ⟨rfl, d5⟩; have s5 : Since wr w5 := Since.call (by exact (‹_ ∧ _› : _ ∧ _ ∧ _ ∧ _ ∧ Since wr _).2.2.2.2) d5; clear d5))
                  | fail)
              rename_i hheld
              have X5 := Lib.hid (BR.out.trans (Below.mono hheld.2.2.2.2 BR.out.size))
              have E5 := Lib.hid (ER.out.trans (Below.mono hheld.2.2.2.2 ER.out.size))
              have s5' := hheld.2.2.2.1
              have y5 := YK.out _ E5.out
              have k0 := y5.c0
              have k1 := y5.c1
              have k2 := y5.c2
              clear hheld hstart y5
              go_wp2_with fail
              refine (HPO.out _ (BK.out _ E5.out)).mono ?_
              rintro e w' ⟨rfl, rfl⟩
              go_wp2_with fail
              refine (HPK1.out _).mono ?_
              rintro e w6 ⟨rfl, d6⟩
              have X6 := Lib.hid (X5.out.trans (d6.mono X5.out.size))
              have E6 := Lib.hid (E5.out.trans (d6.mono E5.out.size))
              have y6 := YK.out _ E6.out
              have j0 := y6.c0
              have j1 := y6.c1
              have j2 := y6.c2
              clear d6 y6 k0 k1 k2
              go_wp2_with fail
              refine (HPK2.out _).mono ?_
              rintro e w7 ⟨rfl, d7⟩
              have X7 := Lib.hid (X6.out.trans (d7.mono X6.out.size))
              clear d7 j0 j1 j2
              go_wp2_with fail
              go_roundw
              case rel => exact ⟨k + 1, by omega, by go_num, X7⟩
              case measure => simp [intOf]; omega
            · have HPK2 := Lib.hid fun (w' : World) => implPlaceOf_any h (at_ : Int) w'
              obtain ⟨r1, r2⟩ := HRW.out at_ k hal hkp hrow
              have hqq : (fk == q) = false := by simpa using hfq
              have hat0 : decide ((at_ : Int) < 0) = false := decide_eq_false (by omega)
              have hat1 : decide ((at_ : Int) ≥ 0) = true := decide_eq_true (by omega)
              rw [hfa] at HFk
              generalize plOf h (k : Int) = a1 at HPK1 r1 r2
              generalize plOf h (at_ : Int) = a2 at HPK2 r1 r2
              obtain ⟨b1, b2, b3⟩ := a1
              obtain ⟨c1, c2, c3⟩ := a2
              simp only [] at r1 r2
              subst r1
              subst r2
              have HPK1' : Hid (∀ w' : World, Calls Try.prog 27 #[.agg #[.int .i64 h.b, .int .i64 h.r, .int .i64 h.t], .int .i64 (k : Int)] w' fun e w2 => e = .returned (.tuple #[.int .i64 c1, .int .i64 c2, .int .i64 b3]) ∧ Below w'.heap.size w' w2) := HPK1
              have HPK2' : Hid (∀ w' : World, Calls Try.prog 27 #[.agg #[.int .i64 h.b, .int .i64 h.r, .int .i64 h.t], .int .i64 (at_ : Int)] w' fun e w2 => e = .returned (.tuple #[.int .i64 c1, .int .i64 c2, .int .i64 c3]) ∧ Below w'.heap.size w' w2) := HPK2
              have n1 : (c1 != c1) = false := by simp
              have n2 : (c2 != c2) = false := by simp
              clear hx hfv hfk hz s0 hfq hfa hrow hal HPK1 HPK2
              have HPK1 := HPK1'
              have HPK2 := HPK2'
              go_wp2_with fail
              go_region_held3 (fun w' => w'.cell? ⟨Y, 0, none⟩ = some (.int .i64 h.b) ∧ w'.cell? ⟨Y, 1, none⟩ = some (.int .i64 h.r) ∧ w'.cell? ⟨Y, 2, none⟩ = some (.int .i64 h.t) ∧ w'.cell? ⟨pb, po + k, none⟩ = some (.int .i64 x) ∧ Since wr w')
                (first | exact hstart | exact HK.out _ s5 | exact HK.out _ (by exact (‹_ ∧ _› : _ ∧ _ ∧ _ ∧ _ ∧ Since wr _).2.2.2.2) | fail)
                (first
                  | (go_at_call 26; ((with_reducible refine (HFk.out _ (by exact (‹_ ∧ _› : _ ∧ _ ∧ _ ∧ _ ∧ Since wr _).2.2.2.2)).mono ?_); rintro e w5 ⟨rfl, d5⟩; have s5 : Since wr w5 := Since.call (by exact (‹_ ∧ _› : _ ∧ _ ∧ _ ∧ _ ∧ Since wr _).2.2.2.2) d5; clear d5))
                  | fail)
              rename_i hheld
              have X5 := Lib.hid (BR.out.trans (Below.mono hheld.2.2.2.2 BR.out.size))
              have E5 := Lib.hid (ER.out.trans (Below.mono hheld.2.2.2.2 ER.out.size))
              have s5' := hheld.2.2.2.1
              have y5 := YK.out _ E5.out
              have k0 := y5.c0
              have k1 := y5.c1
              have k2 := y5.c2
              clear hheld hstart y5
              go_wp2_with fail
              refine (HPO.out _ (BK.out _ E5.out)).mono ?_
              rintro e w' ⟨rfl, rfl⟩
              go_wp2_with fail
              refine (HPK1.out _).mono ?_
              rintro e w6 ⟨rfl, d6⟩
              have X6 := Lib.hid (X5.out.trans (d6.mono X5.out.size))
              have E6 := Lib.hid (E5.out.trans (d6.mono E5.out.size))
              have y6 := YK.out _ E6.out
              have j0 := y6.c0
              have j1 := y6.c1
              have j2 := y6.c2
              clear d6 y6 k0 k1 k2
              go_wp2_with fail
              refine (HPK2.out _).mono ?_
              rintro e w7 ⟨rfl, d7⟩
              have X7 := Lib.hid (X6.out.trans (d7.mono X6.out.size))
              clear d7 j0 j1 j2
              go_wp2_with fail
              go_roundw
              case rel => exact ⟨k + 1, by omega, by go_num, X7⟩
              case measure => simp [intOf]; omega
        · obtain rfl : k = N := by omega
          have ikN : decide ((k : Int) < (k : Int)) = false := decide_eq_false (by omega)
          have k0 := y.c0
          have k1 := y.c1
          have k2 := y.c2
          have HV9 := Lib.hid (HVL.out _ wr (BK.out wr ER.out) (LK.out wr BR.out))
          clear y
          go_wp2_with fail
          refine HV9.out.mono ?_
          rintro e w5 ⟨rfl, d5⟩
          have E5 := Lib.hid (ER.out.trans (d5.mono ER.out.size))
          have HM9 := Lib.hid (HML.out _ w5 (BK.out w5 E5.out) ((LK.out wr BR.out).keep d5))
          have y5 := YK.out w5 E5.out
          have j0 := y5.c0
          have j1 := y5.c1
          have j2 := y5.c2
          clear d5 y5 k0 k1 k2
          go_wp2_with fail
          refine HM9.out.mono ?_
          rintro e w6 ⟨v6, rfl, g6, d6⟩
          have C6 := CK.out _ (E5.out.trans (d6.mono E5.out.size))
          obtain ⟨ma, mc, rfl⟩ := g6.holds.form
          clear g6 d6 j0 j1 j2
          go_wp2_with fail
          go_ret
          exact ⟨rfl, C6⟩
    · have e0 : aftO h l p q = [] := by unfold aftO; rw [if_neg hok]
      rw [e0] at HI HS
      clear hok e0
      go_wp2_with fail
      rw [HW2.out]
      generalize w1.heap.size = Y at y2 k0 k1 k2
      have YK := Lib.hid fun (w' : World) (hs : Below W2.heap.size W2 w') => y2.keep hs
      clear HW2 y2
      go_wp2_with fail
      refine (HI.out W2 (BK.out _ e2) (PK.out _ e2)).mono ?_
      rintro e W3 ⟨vi, rfl, g, d⟩
      have e3 := e2.trans (d.mono e2.size)
      clear k0 k1 k2
      have k0 := (YK.out _ e3).c0
      have k1 := (YK.out _ e3).c1
      have k2 := (YK.out _ e3).c2
      clear d e2
      have gi := g.holds
      clear g
      obtain ⟨ia, ic, rfl⟩ := gi.form
      go_wp2_with fail
      refine (HS.out W3 (BK.out _ e3) (PK.out _ e3)).mono ?_
      rintro e W4 ⟨vs, rfl, gs, d⟩
      have e4 := e3.trans (d.mono e3.size)
      have gi := gi.keep d
      clear k0 k1 k2
      have k0 := (YK.out _ e4).c0
      have k1 := (YK.out _ e4).c1
      have k2 := (YK.out _ e4).c2
      clear d e3
      have gs := gs.holds
      go_wp2_with fail
      refine (sameP_yes _ vs [] W4 gi gs).mono ?_
      rintro e W5 ⟨rfl, d⟩
      have e5 := e4.trans (d.mono e4.size)
      have gi := gi.keep d
      clear k0 k1 k2
      have k0 := (YK.out _ e5).c0
      have k1 := (YK.out _ e5).c1
      have k2 := (YK.out _ e5).c2
      clear d e4
      clear gs
      go_wp2_with fail
      refine (alive_yes _).mono ?_
      rintro e w' ⟨rfl, rfl⟩
      go_wp2_with fail
      go_ret
      exact ⟨rfl, CK.out _ e5⟩

set_option maxRecDepth 100000 in
set_option maxHeartbeats 2000000 in
/-- What the walk gives, for every argument. -/
theorem contract (H : Type) (enc : TypeId × Value → H) (W : World) (base : Nat) (args : Array Value) (ds gs : List (DataW H)) (before : List MemPlace)
    (hval : ∀ (j : Nat) t v, Try.f5.params[j]? = some t → args[j]? = some v → Value.okWide Try.prog W .any base t v)
    (hW : DataW.Whole enc Try.prog Try.f5.params.toList Rows.fnAfterPortSpec.vars false W args.toList ds gs before) :
    Calls Try.prog 5 args W fun e W' => ∃ v, e = .returned v ∧ Rows.fnAfterPortSpec.post enc Try.prog Try.f5 false true false false W args v W' := by
  have hW' := hW
  obtain ⟨p, q, hA0, hV, rfl, hfz, hnd⟩ := hW
  have hA : DataW.TrodAll enc Try.prog W 0 (fun _ => true) true Try.f5.params.toList args.toList ds p := hA0
  rw [Try.params5] at hA hval
  obtain ⟨v0, vs0, d0, ds0, p0, q0, hargs, rfl, rfl, h0, r0⟩ := trodAll_cons hA
  obtain ⟨rfl, rfl, rfl⟩ := trodAll_nil r0
  obtain rfl : args = #[v0] := by cases args; simp_all
  obtain ⟨rfl, rfl⟩ := trodVars_none hV
  have k0 := h0
  have lt0 : ∀ x ∈ p0, x.block < W.heap.size := by obtain ⟨m, hm⟩ := k0; exact DataW.trod_lt m _ _ _ hm
  obtain ⟨a0, len0, cap0, rfl⟩ := okWide_slice Try.underlying22 (hval 0 22 v0 rfl rfl)
  obtain ⟨z0, x0⟩ : ∃ zs, IsRow .u8 W a0 len0 cap0 zs := by
    obtain ⟨fuel, hf⟩ := h0
    rcases open_ints Try.underlying22 Try.underlying5 (by kernel_rfl) hf with ⟨hcs, _⟩ | ⟨x, l, c, zs, hcs, _, hl, hm, hz, _, hcell, hwz⟩
    · simp [Value.cells] at hcs
      obtain ⟨rfl, rfl, rfl⟩ := hcs
      exact ⟨[], .inl ⟨rfl, rfl, rfl, rfl⟩⟩
    · simp [Value.cells] at hcs
      obtain ⟨rfl, rfl, rfl⟩ := hcs
      exact ⟨zs, .inr ⟨_, rfl, hl, hm, by simpa using hz, hcell, hwz⟩⟩
  clear hA0
  refine (walk a0 len0 cap0 W (row8_of x0)).mono fun e W' ⟨he, bel⟩ => ?_
  subst he
  exact ⟨_, rfl, _, _, _, [], _, [], hW', trodAll_mk1 (shut_bool Try.underlying4 _), (trodAll_cons_mk (Below.trod laidOut (by kernel_rfl) (of_decide_eq_true (by kernel_rfl)) k0 bel lt0) trodAll_mk0), rfl, bel.frame _, fun h => by cases h⟩

set_option maxRecDepth 100000 in
theorem lifted (os : Os) (started : os.Started) (H : Type) (enc : TypeId × Value → H) :
    ReturnsInHanded {} Try.checked os 5 .any (Rows.fnAfterPortSpec.pre6 enc Try.prog Try.f5 Rows.fnAfterPortRow.domain false) (Rows.fnAfterPortSpec.post enc Try.prog Try.f5 false true false false) := by
  refine returnsInHanded_of_change (C := Try.checked) own started (by kernel_rfl) Try.func5
    (ChangeSpec.witness6 (enc := enc) (C := Try.checked) false ⟨#[], #[.slice none 0 0], []⟩ 8 (by kernel_rfl) (by kernel_rfl) (by kernel_rfl) (by kernel_rfl)) ?_
  intro W base args ds gs before hval hW _ _
  exact contract H enc W base args ds gs before hval hW

theorem proved : Rows.FnAfterPortSaid :=
  OpenClaim.holds_of_wide 5 Try.f5 rfl rfl rfl rfl rfl rfl rfl ⟨rfl, rfl, rfl, rfl, rfl⟩ rfl rfl rfl rfl rfl (by kernel_rfl) Try.func5 (by kernel_rfl)
    (of_decide_eq_true (by kernel_rfl)) (by unfold Func.isWrapper; first | (rw [if_pos (by decide +kernel)]; kernel_rfl) | (rw [if_neg (by decide +kernel)]; exact ⟨rfl, rfl⟩))
    (fun os started H enc _ => lifted os started H enc)
#print axioms proved
end Go.Proofs.Ytmgnbkiphdlooaa.fnAfterPort
