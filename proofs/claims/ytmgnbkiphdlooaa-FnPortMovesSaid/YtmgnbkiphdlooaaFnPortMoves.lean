/-
  For every code of bytes the law on PortMoves (the model's answer; all boxes for the port are among them; if there are no Overstows, at the first port at which there are boxes there are no others) returns true and leaves its argument as it was. Conditions: none beyond the form's own reach.
-/
import Derived.Test.YtmgnbkiphdlooaaRows
import Derived.Test.YtmgnbkiphdlooaaGBase
import Derived.WalkKit
import Derived.ProofKit
import Derived.OpenShut
import Derived.ShutString
import Derived.ChangeOld
import Derived.Below
import Derived.Test.YtmgnbkiphdlooaaGCr
import Derived.Test.YtmgnbkiphdlooaaWtW
import Derived.Test.YtmgnbkiphdlooaaGOm
import Derived.Test.YtmgnbkiphdlooaaOvS
import Derived.Test.YtmgnbkiphdlooaaOvQ
import Derived.Test.YtmgnbkiphdlooaaOvF
import Derived.Test.YtmgnbkiphdlooaaOvI
import Derived.Test.YtmgnbkiphdlooaaOvP
import Derived.Test.YtmgnbkiphdlooaaGPn
import Derived.Test.YtmgnbkiphdlooaaGPl
import Derived.Test.YtmgnbkiphdlooaaGPs
import Derived.Test.YtmgnbkiphdlooaaOvW
import Derived.Test.YtmgnbkiphdlooaaOvN
namespace Go.Proofs.Ytmgnbkiphdlooaa.fnPortMoves
open Go.ChangeShapes Go.WideShapes Go.ChangeAt Go.RowKit
open Go.ChangeMaps (open_string shut_string)
set_option linter.unusedVariables false


/-- What the walk is told of a slice of integers that came in. -/
def IsRow (k : IntKind) (w : World) (a : Option Addr) (len cap : Nat) (zs : List Int) : Prop :=
  (a = none ∧ len = 0 ∧ cap = 0 ∧ zs = []) ∨
  ∃ x, a = some x ∧ len ≤ cap ∧ cap ≤ maxLen ∧ zs.length = cap ∧ (∀ i, i < zs.length → w.cell? (x.add i) = some (.int k (zs.getD i 0))) ∧ ∀ n ∈ zs, (Lit.int k n).wf = true

set_option maxRecDepth 10000 in
set_option maxHeartbeats 4000000 in
theorem walk (a0 : Option Addr) (len0 cap0 : Nat) (w : World) (w0 : IsRow8 w a0 len0 cap0) :
    Calls Try.prog 4 #[.slice a0 len0 cap0] w fun e w' => e = .returned (.bool true) ∧ Below w.heap.size w w' := by
  have hm := row8_len w0
  unfold maxLen at hm
  by_cases hl : ¬ len0 ≤ 1048576
  · go_enter Try.func4, Try.ntmps4
    go_wp2
    go_ret
    exact ⟨rfl, Below.refl _ _⟩
  · have hl := Nat.not_lt.1 (fun h => hl (Nat.not_le.2 h))
    go_enter Try.func4, Try.ntmps4
    go_wp2_with fail
    refine (drawPortMoves_any a0 len0 cap0 w w0).mono ?_
    rintro e w1 ⟨q, hqa, hqb, h, l, p, u, v, hl40, hp40, he, NB, OW, hb⟩
    have he' : e = .returned (.tuple #[.agg #[.int .i64 h.b, .int .i64 h.r, .int .i64 h.t], u, v, .int .i64 q]) := he
    subst he'
    clear he w0
    have hu := NB.holds
    have hv := OW.holds
    clear NB OW
    obtain ⟨ua, uc, rfl⟩ : ∃ a c, u = .slice a l.length c := by obtain ⟨a, c, e, _⟩ := hu; exact ⟨a, c, e⟩
    obtain ⟨va, vc, rfl⟩ := hv.form
    have b2 : Below w1.heap.size w1 (w1.alloc (.cells #[.int .i64 h.b, .int .i64 h.r, .int .i64 h.t] 24)) := (Below.refl _ _).alloc (Nat.le_refl _) _
    have y2 := BoxH.new w1 h
    have C2 := hb.trans (b2.mono hb.size)
    have hu := hu.keep b2
    have hv := hv.keep b2
    generalize hW2 : w1.alloc (.cells #[.int .i64 h.b, .int .i64 h.r, .int .i64 h.t] 24) = W2 at b2 y2 C2 hu hv
    have HW2 := Lib.hid hW2
    clear hW2 b2 hb
    have BK := Lib.hid fun (w' : World) (hs : Below W2.heap.size W2 w') => hu.keep hs
    have PK := Lib.hid fun (w' : World) (hs : Below W2.heap.size W2 w') => hv.keep hs
    have CK := Lib.hid fun (w' : World) (hs : Below W2.heap.size W2 w') => C2.trans (hs.mono C2.size)
    have e2 : Below W2.heap.size W2 W2 := Below.refl _ _
    have k0 := y2.c0
    have k1 := y2.c1
    have k2 := y2.c2
    clear hu hv C2
    have HI := Lib.hid fun (w' : World) (hb : HoldsBx w' (.slice ua l.length uc) l) (hp : HoldsI w' (.slice va p.length vc) p) => implPortMoves_any h _ _ l p q w' hb hp
    have HS := Lib.hid fun (w' : World) (hb : HoldsBx w' (.slice ua l.length uc) l) (hp : HoldsI w' (.slice va p.length vc) p) => specPortMoves_any h _ _ l p q w' hb hp
    have HSV := Lib.hid fun (w' : World) (hb : HoldsBx w' (.slice ua l.length uc) l) (hp : HoldsI w' (.slice va p.length vc) p) => specPlanValid_any h _ _ l p w' hb hp
    by_cases hok : plOk h (bxsOk l) (bxIds l) p = true ∧ 0 ≤ q ∧ q ≤ 6
    · obtain ⟨hok, hq0, hq6⟩ := hok
      have HFD := Lib.hid fun k (hk : k < p.length) (hz : pAt p k ≠ 0) => pl_find hok hk hz
      have HPX := Lib.hid fun k (hk : k < p.length) (hz : pAt p k ≠ 0) => (show 0 < pAt p k ∧ 0 ≤ ptB l (pAt p k) ∧ ptB l (pAt p k) ≤ 6 from ⟨plOk_posX hok hk hz, (ptB_pl hok hk hz).1, (ptB_pl hok hk hz).2⟩)
      have HHAS := Lib.hid fun k (hk : k < p.length) (hz : pAt p k ≠ 0) (hf : ptB l (pAt p k) = q) => moveO_has hok hq0 hq6 hk hz hf
      have HASC := Lib.hid (moveO_asc h l p q)
      have HFST := Lib.hid fun (m : Int) (h0 : 0 ≤ m) (h6 : m ≤ 6) (hm : ∀ j, j < p.length → pAt p j ≠ 0 → m ≤ ptB l (pAt p j)) => moveO_first hok h0 h6 hm
      have HPM := Lib.hid fun (m : Int) (w' : World) (hb : HoldsBx w' (.slice ua l.length uc) l) (hp : HoldsI w' (.slice va p.length vc) p) => implPortMoves_any h _ _ l p m w' hb hp
      have HOV := Lib.hid fun (w' : World) (hb : HoldsBx w' (.slice ua l.length uc) l) (hp : HoldsI w' (.slice va p.length vc) p) => implOverstows_any h _ _ l p w' hb hp
      rw [hok] at HSV
      generalize moveO h l p q = L at HI HS HHAS HASC
      clear hok
      go_wp2_with fail
      rw [HW2.out]
      generalize w1.heap.size = Y at y2 k0 k1 k2
      have YK := Lib.hid fun (w' : World) (hs : Below W2.heap.size W2 w') => y2.keep hs
      clear HW2 y2
      go_wp2_with fail
      refine (HI.out W2 (BK.out _ e2) (PK.out _ e2)).mono ?_
      rintro e W3 ⟨vi, rfl, g, d⟩
      have e3 := e2.trans (d.mono e2.size)
      clear k0 k1 k2
      have k0 := (YK.out _ e3).c0
      have k1 := (YK.out _ e3).c1
      have k2 := (YK.out _ e3).c2
      clear d e2
      have gi := g.holds
      clear g
      obtain ⟨ia, ic, rfl⟩ := gi.form
      go_wp2_with fail
      refine (HS.out W3 (BK.out _ e3) (PK.out _ e3)).mono ?_
      rintro e W4 ⟨vs, rfl, gs, d⟩
      have e4 := e3.trans (d.mono e3.size)
      have gi := gi.keep d
      clear k0 k1 k2
      have k0 := (YK.out _ e4).c0
      have k1 := (YK.out _ e4).c1
      have k2 := (YK.out _ e4).c2
      clear d e3
      have gs := gs.holds
      go_wp2_with fail
      refine (sameP_yes _ vs L W4 gi gs).mono ?_
      rintro e W5 ⟨rfl, d⟩
      have e5 := e4.trans (d.mono e4.size)
      have gi := gi.keep d
      clear k0 k1 k2
      have k0 := (YK.out _ e5).c0
      have k1 := (YK.out _ e5).c1
      have k2 := (YK.out _ e5).c2
      clear d e4
      clear gs
      go_wp2_with fail
      refine (HSV.out W5 (BK.out _ e5) (PK.out _ e5)).mono ?_
      rintro e W6 ⟨rfl, d⟩
      have e6 := e5.trans (d.mono e5.size)
      have gi := gi.keep d
      clear k0 k1 k2
      have k0 := (YK.out _ e6).c0
      have k1 := (YK.out _ e6).c1
      have k2 := (YK.out _ e6).c2
      clear d e5
      have LK := Lib.hid fun (w' : World) (hs : Below W6.heap.size W6 w') => gi.keep hs
      have EK := Lib.hid e6
      obtain ⟨N, hN⟩ : ∃ N, N = p.length := ⟨_, rfl⟩
      have HNL := Lib.hid hN
      have hN40 : N ≤ 40 := by omega
      rw [← hN] at PK HPM HOV ⊢
      have hq0d : decide (q < 0) = false := decide_eq_false (by omega)
      have hq6d : decide (q > 6) = false := decide_eq_false (by omega)
      have hq6d' : decide (6 < q) = false := hq6d
      clear k0 k1 k2 hN e6 HI HS HSV gi
      go_wp2_with fail
      go_loopw [8, 9] (fun lv i wr => ∃ (k : Nat) (m : Int), k ≤ N ∧ 0 ≤ m ∧ m ≤ 6 ∧ Hid (∀ j, j < k → pAt p j ≠ 0 → m ≤ ptB l (pAt p j)) ∧ lv = .int .i64 m ∧ i = .int .i64 k ∧ Hid (Below W6.heap.size W6 wr)) (fun _ i _ => N - (intOf i).toNat)
      case atStart => exact ⟨0, 6, by omega, by omega, by omega, Lib.hid fun j hj => by omega, rfl, rfl, Lib.hid (Below.refl _ _)⟩
      case round =>
        obtain ⟨k, m, hkN, hm0, hm6, HM, rfl, rfl, BR⟩ := hrel
        have ER := Lib.hid (EK.out.trans (BR.out.mono EK.out.size))
        by_cases hlt : k < N
        · obtain ⟨pb, po, rfl, hpbl, s0⟩ := (PK.out wr ER.out).at_ hlt
          have e0 : p.getD k 0 = pAt p k := rfl
          rw [e0] at s0
          have ik : (k : Int) < (N : Int) := by omega
          have i0k : (0 : Int) ≤ (k : Int) := by omega
          have hkp : k < p.length := by have := HNL.out; omega
          clear e0
          by_cases hz : pAt p k = 0
          · rw [hz] at s0
            have HZ := Lib.hid hz
            clear hz
            go_wp2_with fail
            go_roundw
            case rel => exact ⟨k + 1, m, by omega, by omega, by omega, Lib.hid (fun j hj hjz => (Classical.em (j = k)).elim (fun e => absurd HZ.out (e ▸ hjz)) (fun e => HM.out j (by omega) hjz)), rfl, by go_num, BR⟩
            case measure => simp [intOf]; omega
          · obtain ⟨hps, hf0, hf6⟩ := HPX.out k hkp hz
            have hpd : decide (pAt p k > 0) = true := decide_eq_true hps
            have hpd' : decide (0 < pAt p k) = true := hpd
            have HPO := Lib.hid (portOf_any (.slice ua l.length uc) l (pAt p k) wr (BK.out wr ER.out))
            rw [ptO_yes (HFD.out k hkp hz)] at HPO
            have HHI := Lib.hid (hasInt_any (.slice ia L.length ic) L (k : Int) wr (LK.out wr BR.out))
            have HC9' : ((ptB l (pAt p k) == q) = false) ∨ ((ptB l (pAt p k) == q) = true ∧ hasI L (k : Int) = true) := by
              by_cases hq9 : ptB l (pAt p k) = q
              · exact .inr ⟨by simp [hq9], HHAS.out k hkp hz hq9⟩
              · exact .inl (by simpa using hq9)
            obtain ⟨fk, hfk⟩ : ∃ fk, fk = ptB l (pAt p k) := ⟨_, rfl⟩
            have HFK := Lib.hid hfk
            rw [← hfk] at HPO HC9' hf0 hf6
            have HC9 := Lib.hid HC9'
            obtain ⟨x, hx⟩ : ∃ x, x = pAt p k := ⟨_, rfl⟩
            rw [← hx] at s0 HPO hpd hpd' hps
            have CASE := Lib.hid (show fk < m ∨ m ≤ fk by omega)
            clear hfk hx hz HC9'
            rcases CASE.out with hc | hc
            · have hmn : ∀ W : World, Sem.run Try.prog (Builtin.min_ #[3, 3] 3 #[.int .i64 m, .int .i64 fk]) W = .ok (.int .i64 fk) W := fun W => by
                simp [Builtin.min_, Builtin.min2, List.foldlM, Sem.run_pure, hc]
              go_wp2_with fail
              refine (HPO.out).mono ?_
              rintro e w' ⟨rfl, rfl⟩
              go_wp2_with fail
              refine (HPO.out).mono ?_
              rintro e w' ⟨rfl, rfl⟩
              rcases HC9.out with hne | ⟨hye, hhas⟩
              · go_wp2_with fail
                go_roundw
                case rel => exact ⟨k + 1, fk, by omega, by omega, by omega, Lib.hid (fun j hj hjz => (Classical.em (j = k)).elim (fun e => by subst e; rw [HFK.out]; exact Int.le_refl _) (fun e => by have := HM.out j (by omega) hjz; omega)), rfl, by go_num, BR⟩
                case measure => simp [intOf]; omega
              · rw [hhas] at HHI
                go_wp2_with fail
                refine HHI.out.mono ?_
                rintro e w' ⟨rfl, rfl⟩
                go_wp2_with fail
                go_roundw
                case rel => exact ⟨k + 1, fk, by omega, by omega, by omega, Lib.hid (fun j hj hjz => (Classical.em (j = k)).elim (fun e => by subst e; rw [HFK.out]; exact Int.le_refl _) (fun e => by have := HM.out j (by omega) hjz; omega)), rfl, by go_num, BR⟩
                case measure => simp [intOf]; omega
            · have hmn : ∀ W : World, Sem.run Try.prog (Builtin.min_ #[3, 3] 3 #[.int .i64 m, .int .i64 fk]) W = .ok (.int .i64 m) W := fun W => by
                have hc' : ¬ fk < m := by omega
                simp [Builtin.min_, Builtin.min2, List.foldlM, Sem.run_pure, hc']
              go_wp2_with fail
              refine (HPO.out).mono ?_
              rintro e w' ⟨rfl, rfl⟩
              go_wp2_with fail
              refine (HPO.out).mono ?_
              rintro e w' ⟨rfl, rfl⟩
              rcases HC9.out with hne | ⟨hye, hhas⟩
              · go_wp2_with fail
                go_roundw
                case rel => exact ⟨k + 1, m, by omega, by omega, by omega, Lib.hid (fun j hj hjz => (Classical.em (j = k)).elim (fun e => by subst e; rw [← HFK.out]; exact hc) (fun e => HM.out j (by omega) hjz)), rfl, by go_num, BR⟩
                case measure => simp [intOf]; omega
              · rw [hhas] at HHI
                go_wp2_with fail
                refine HHI.out.mono ?_
                rintro e w' ⟨rfl, rfl⟩
                go_wp2_with fail
                go_roundw
                case rel => exact ⟨k + 1, m, by omega, by omega, by omega, Lib.hid (fun j hj hjz => (Classical.em (j = k)).elim (fun e => by subst e; rw [← HFK.out]; exact hc) (fun e => HM.out j (by omega) hjz)), rfl, by go_num, BR⟩
                case measure => simp [intOf]; omega
        · obtain rfl : k = N := by omega
          have y := YK.out wr ER.out
          have k0 := y.c0
          have k1 := y.c1
          have k2 := y.c2
          have HMk := Lib.hid (HPM.out m wr (BK.out wr ER.out) (PK.out wr ER.out))
          have HF9 := Lib.hid (HFST.out m hm0 hm6 (fun j hj hz => HM.out j (by have := HNL.out; omega) hz))
          clear y
          go_wp2_with fail
          refine HMk.out.mono ?_
          rintro e w3 ⟨v3, rfl, g3, d3⟩
          have g3 := g3.holds
          obtain ⟨fa, fc, rfl⟩ := g3.form
          have B3 := BR.out.trans (d3.mono BR.out.size)
          have E3 := Lib.hid (EK.out.trans (B3.mono EK.out.size))
          have GF := Lib.hid fun (w' : World) (hs : Below w3.heap.size w3 w') => g3.keep hs
          have GL := Lib.hid fun (w' : World) (hs : Below w3.heap.size w3 w') => (LK.out w3 B3).keep hs
          obtain ⟨F, hF⟩ : ∃ F, F = moveO h l p m := ⟨_, rfl⟩
          rw [← hF] at GF HF9 ⊢
          obtain ⟨M, hM⟩ : ∃ M, M = F.length := ⟨_, rfl⟩
          have HML := Lib.hid hM
          have hM40 : M ≤ 40 := by have := HF9.out.1; omega
          rw [← hM] at GF ⊢
          clear d3 g3 k0 k1 k2 B3 hF hM
          go_wp2_with fail
          go_loopw [11] (fun i wr => ∃ k : Nat, k ≤ M ∧ i = .int .i64 k ∧ Hid (Below w3.heap.size w3 wr)) (fun i _ => M - (intOf i).toNat)
          case atStart => exact ⟨0, by omega, rfl, Lib.hid (Below.refl _ _)⟩
          case round =>
            obtain ⟨j, hjM, rfl, B4⟩ := hrel
            have E4 := Lib.hid (E3.out.trans (B4.out.mono E3.out.size))
            by_cases hjlt : j < M
            · have ij : (j : Int) < (M : Int) := by omega
              have i0j : (0 : Int) ≤ (j : Int) := by omega
              have y4 := YK.out wr E4.out
              have k0 := y4.c0
              have k1 := y4.c1
              have k2 := y4.c2
              have HOk := Lib.hid (HOV.out wr (BK.out wr E4.out) (PK.out wr E4.out))
              obtain ⟨xo, hxo⟩ : ∃ xo, xo = overO h l p := ⟨_, rfl⟩
              rw [← hxo] at HOk
              have HXO := Lib.hid hxo
              clear y4 hxo
              by_cases h0 : xo = 0
              · obtain ⟨t, htl, htz, ht, hft⟩ := HF9.out.2 (by rw [← HXO.out]; exact h0) j (by have := HML.out; omega)
                subst h0
                obtain ⟨fb, fo, rfl, hfbl, t0⟩ := (GF.out wr B4.out).at_ hjlt
                rw [ht] at t0
                have htk : t < k := by have := HNL.out; omega
                obtain ⟨pb, po, rfl, hpbl, s0⟩ := (PK.out wr E4.out).at_ htk
                have e0 : p.getD t 0 = pAt p t := rfl
                rw [e0] at s0
                have it : (t : Int) < (k : Int) := by omega
                have i0t : (0 : Int) ≤ (t : Int) := by omega
                have d1 : decide ((t : Int) < 0) = false := decide_eq_false (by omega)
                have d2 : decide ((t : Int) ≥ (k : Int)) = false := decide_eq_false (by omega)
                have d2n : ¬ k ≤ t := by omega
                have FB := Lib.hid fun (w' : World) (hs : Below wr.heap.size wr w') => (show w'.cell? ⟨fb, fo + j, none⟩ = some (.int .i64 (t : Int)) ∧ w'.cell? ⟨pb, po + t, none⟩ = some (.int .i64 (pAt p t)) from ⟨(Below.cell hs (p := ⟨fb, fo + j, none⟩) hfbl).trans t0, (Below.cell hs (p := ⟨pb, po + t, none⟩) hpbl).trans s0⟩)
                have HPO := Lib.hid fun (w' : World) (hs : Below wr.heap.size wr w') => (show Calls Try.prog 22 #[.slice ua l.length uc, .int .i64 (pAt p t)] w' fun e w2 => e = .returned (.int .i64 m) ∧ w' = w2 from by
                  have := portOf_any (.slice ua l.length uc) l (pAt p t) w' (BK.out w' (E4.out.trans (hs.mono E4.out.size)))
                  rw [ptO_yes (HFD.out t htl htz), hft] at this
                  exact this)
                have hmm : (m != m) = false := by simp
                clear t0 s0 e0 ht hft htz
                go_wp2_with fail
                refine HOk.out.mono ?_
                rintro e w5 ⟨rfl, d5⟩
                obtain ⟨t5, s5⟩ := FB.out w5 d5
                have HP5 := Lib.hid (HPO.out w5 d5)
                have B5 := Lib.hid (B4.out.trans (d5.mono B4.out.size))
                obtain ⟨x, hx⟩ : ∃ x, x = pAt p t := ⟨_, rfl⟩
                rw [← hx] at s5 HP5
                clear d5 hx k0 k1 k2
                go_wp2_with fail
                refine HP5.out.mono ?_
                rintro e w' ⟨rfl, rfl⟩
                go_wp2_with fail
                go_roundw
                case rel => exact ⟨j + 1, by omega, by go_num, B5⟩
                case measure => simp [intOf]; omega
              · have h0d : (xo == 0) = false := by simpa using h0
                have HAL := Lib.hid fun (w' : World) (hs : Below wr.heap.size wr w') => ascendP_yes (.slice ia L.length ic) L w' ((GL.out wr B4.out).keep hs) HASC.out
                go_wp2_with fail
                refine HOk.out.mono ?_
                rintro e w5 ⟨rfl, d5⟩
                have HA5 := Lib.hid (HAL.out w5 d5)
                have C5 := CK.out _ (E4.out.trans (d5.mono E4.out.size))
                clear d5 k0 k1 k2
                go_wp2_with fail
                refine HA5.out.mono ?_
                rintro e w6 ⟨rfl, d6⟩
                have C6 := C5.trans (d6.mono C5.size)
                go_wp2_with fail
                go_ret
                exact ⟨rfl, C6⟩
            · obtain rfl : j = M := by omega
              have HAL := Lib.hid (ascendP_yes (.slice ia L.length ic) L wr (GL.out wr B4.out) HASC.out)
              have C5 := CK.out _ E4.out
              go_wp2_with fail
              refine HAL.out.mono ?_
              rintro e w6 ⟨rfl, d6⟩
              have C6 := C5.trans (d6.mono C5.size)
              go_wp2_with fail
              go_ret
              exact ⟨rfl, C6⟩
    · have e0 : moveO h l p q = [] := by unfold moveO; rw [if_neg hok]
      have hcase : plOk h (bxsOk l) (bxIds l) p = false ∨ (plOk h (bxsOk l) (bxIds l) p = true ∧ decide (q < 0) = true) ∨ (plOk h (bxsOk l) (bxIds l) p = true ∧ decide (q < 0) = false ∧ decide (6 < q) = true) := by
        cases hk : plOk h (bxsOk l) (bxIds l) p
        · exact .inl rfl
        · rcases (by omega : q < 0 ∨ (¬ q < 0 ∧ (6 < q ∨ (0 ≤ q ∧ q ≤ 6)))) with h1 | ⟨h1, h2 | h2⟩
          · exact .inr (.inl ⟨rfl, decide_eq_true h1⟩)
          · exact .inr (.inr ⟨rfl, decide_eq_false h1, decide_eq_true h2⟩)
          · exact absurd ⟨hk, h2⟩ hok
      rw [e0] at HI HS
      clear hok e0
      go_wp2_with fail
      rw [HW2.out]
      generalize w1.heap.size = Y at y2 k0 k1 k2
      have YK := Lib.hid fun (w' : World) (hs : Below W2.heap.size W2 w') => y2.keep hs
      clear HW2 y2
      go_wp2_with fail
      refine (HI.out W2 (BK.out _ e2) (PK.out _ e2)).mono ?_
      rintro e W3 ⟨vi, rfl, g, d⟩
      have e3 := e2.trans (d.mono e2.size)
      clear k0 k1 k2
      have k0 := (YK.out _ e3).c0
      have k1 := (YK.out _ e3).c1
      have k2 := (YK.out _ e3).c2
      clear d e2
      have gi := g.holds
      clear g
      obtain ⟨ia, ic, rfl⟩ := gi.form
      go_wp2_with fail
      refine (HS.out W3 (BK.out _ e3) (PK.out _ e3)).mono ?_
      rintro e W4 ⟨vs, rfl, gs, d⟩
      have e4 := e3.trans (d.mono e3.size)
      have gi := gi.keep d
      clear k0 k1 k2
      have k0 := (YK.out _ e4).c0
      have k1 := (YK.out _ e4).c1
      have k2 := (YK.out _ e4).c2
      clear d e3
      have gs := gs.holds
      go_wp2_with fail
      refine (sameP_yes _ vs [] W4 gi gs).mono ?_
      rintro e W5 ⟨rfl, d⟩
      have e5 := e4.trans (d.mono e4.size)
      have gi := gi.keep d
      clear k0 k1 k2
      have k0 := (YK.out _ e5).c0
      have k1 := (YK.out _ e5).c1
      have k2 := (YK.out _ e5).c2
      clear d e4
      clear gs
      go_wp2_with fail
      refine (HSV.out W5 (BK.out _ e5) (PK.out _ e5)).mono ?_
      rintro e W6 ⟨rfl, d⟩
      have e6 := e5.trans (d.mono e5.size)
      have gi := gi.keep d
      clear k0 k1 k2
      have k0 := (YK.out _ e6).c0
      have k1 := (YK.out _ e6).c1
      have k2 := (YK.out _ e6).c2
      clear d e5
      rcases hcase with hd | ⟨hd, hq1⟩ | ⟨hd, hq0, hq1⟩
      · rw [hd]
        go_wp2_with fail
        refine (alive_yes _).mono ?_
        rintro e w' ⟨rfl, rfl⟩
        go_wp2_with fail
        go_ret
        exact ⟨rfl, CK.out _ e6⟩
      · rw [hd]
        go_wp2_with fail
        refine (alive_yes _).mono ?_
        rintro e w' ⟨rfl, rfl⟩
        go_wp2_with fail
        go_ret
        exact ⟨rfl, CK.out _ e6⟩
      · rw [hd]
        go_wp2_with fail
        refine (alive_yes _).mono ?_
        rintro e w' ⟨rfl, rfl⟩
        go_wp2_with fail
        go_ret
        exact ⟨rfl, CK.out _ e6⟩

set_option maxRecDepth 100000 in
set_option maxHeartbeats 2000000 in
/-- What the walk gives, for every argument. -/
theorem contract (H : Type) (enc : TypeId × Value → H) (W : World) (base : Nat) (args : Array Value) (ds gs : List (DataW H)) (before : List MemPlace)
    (hval : ∀ (j : Nat) t v, Try.f4.params[j]? = some t → args[j]? = some v → Value.okWide Try.prog W .any base t v)
    (hW : DataW.Whole enc Try.prog Try.f4.params.toList Rows.fnPortMovesSpec.vars false W args.toList ds gs before) :
    Calls Try.prog 4 args W fun e W' => ∃ v, e = .returned v ∧ Rows.fnPortMovesSpec.post enc Try.prog Try.f4 false true false false W args v W' := by
  have hW' := hW
  obtain ⟨p, q, hA0, hV, rfl, hfz, hnd⟩ := hW
  have hA : DataW.TrodAll enc Try.prog W 0 (fun _ => true) true Try.f4.params.toList args.toList ds p := hA0
  rw [Try.params4] at hA hval
  obtain ⟨v0, vs0, d0, ds0, p0, q0, hargs, rfl, rfl, h0, r0⟩ := trodAll_cons hA
  obtain ⟨rfl, rfl, rfl⟩ := trodAll_nil r0
  obtain rfl : args = #[v0] := by cases args; simp_all
  obtain ⟨rfl, rfl⟩ := trodVars_none hV
  have k0 := h0
  have lt0 : ∀ x ∈ p0, x.block < W.heap.size := by obtain ⟨m, hm⟩ := k0; exact DataW.trod_lt m _ _ _ hm
  obtain ⟨a0, len0, cap0, rfl⟩ := okWide_slice Try.underlying22 (hval 0 22 v0 rfl rfl)
  obtain ⟨z0, x0⟩ : ∃ zs, IsRow .u8 W a0 len0 cap0 zs := by
    obtain ⟨fuel, hf⟩ := h0
    rcases open_ints Try.underlying22 Try.underlying5 (by kernel_rfl) hf with ⟨hcs, _⟩ | ⟨x, l, c, zs, hcs, _, hl, hm, hz, _, hcell, hwz⟩
    · simp [Value.cells] at hcs
      obtain ⟨rfl, rfl, rfl⟩ := hcs
      exact ⟨[], .inl ⟨rfl, rfl, rfl, rfl⟩⟩
    · simp [Value.cells] at hcs
      obtain ⟨rfl, rfl, rfl⟩ := hcs
      exact ⟨zs, .inr ⟨_, rfl, hl, hm, by simpa using hz, hcell, hwz⟩⟩
  clear hA0
  refine (walk a0 len0 cap0 W (row8_of x0)).mono fun e W' ⟨he, bel⟩ => ?_
  subst he
  exact ⟨_, rfl, _, _, _, [], _, [], hW', trodAll_mk1 (shut_bool Try.underlying4 _), (trodAll_cons_mk (Below.trod laidOut (by kernel_rfl) (of_decide_eq_true (by kernel_rfl)) k0 bel lt0) trodAll_mk0), rfl, bel.frame _, fun h => by cases h⟩

set_option maxRecDepth 100000 in
theorem lifted (os : Os) (started : os.Started) (H : Type) (enc : TypeId × Value → H) :
    ReturnsInHanded {} Try.checked os 4 .any (Rows.fnPortMovesSpec.pre6 enc Try.prog Try.f4 Rows.fnPortMovesRow.domain false) (Rows.fnPortMovesSpec.post enc Try.prog Try.f4 false true false false) := by
  refine returnsInHanded_of_change (C := Try.checked) own started (by kernel_rfl) Try.func4
    (ChangeSpec.witness6 (enc := enc) (C := Try.checked) false ⟨#[], #[.slice none 0 0], []⟩ 8 (by kernel_rfl) (by kernel_rfl) (by kernel_rfl) (by kernel_rfl)) ?_
  intro W base args ds gs before hval hW _ _
  exact contract H enc W base args ds gs before hval hW

theorem proved : Rows.FnPortMovesSaid :=
  OpenClaim.holds_of_wide 4 Try.f4 rfl rfl rfl rfl rfl rfl rfl ⟨rfl, rfl, rfl, rfl, rfl⟩ rfl rfl rfl rfl rfl (by kernel_rfl) Try.func4 (by kernel_rfl)
    (of_decide_eq_true (by kernel_rfl)) (by unfold Func.isWrapper; first | (rw [if_pos (by decide +kernel)]; kernel_rfl) | (rw [if_neg (by decide +kernel)]; exact ⟨rfl, rfl⟩))
    (fun os started H enc _ => lifted os started H enc)
#print axioms proved
end Go.Proofs.Ytmgnbkiphdlooaa.fnPortMoves
