/-
  For every code of bytes the law on PlanNext (the model's answer; into each next slot a box that is not on the ship can be put, and into no other; there are as many as rows that have room) returns true and leaves its argument as it was. Conditions: none beyond the form's own reach.
-/
import Derived.Test.YtbaebamiiigmlaaRows
import Derived.Test.YtbaebamiiigmlaaGBase
import Derived.WalkKit
import Derived.ProofKit
import Derived.OpenShut
import Derived.ShutString
import Derived.ChangeOld
import Derived.Below
import Derived.Test.YtbaebamiiigmlaaGCr
import Derived.Test.YtbaebamiiigmlaaGPw
import Derived.Test.YtbaebamiiigmlaaGPn
import Derived.Test.YtbaebamiiigmlaaPlI
import Derived.Test.YtbaebamiiigmlaaGPs
import Derived.Test.YtbaebamiiigmlaaGPl
import Derived.Test.YtbaebamiiigmlaaPlC
namespace Go.Proofs.Ytbaebamiiigmlaa.fnPlanNext
open Go.ChangeShapes Go.WideShapes Go.ChangeAt Go.RowKit
open Go.ChangeMaps (open_string shut_string)
set_option linter.unusedVariables false


/-- What the walk is told of a slice of integers that came in. -/
def IsRow (k : IntKind) (w : World) (a : Option Addr) (len cap : Nat) (zs : List Int) : Prop :=
  (a = none ∧ len = 0 ∧ cap = 0 ∧ zs = []) ∨
  ∃ x, a = some x ∧ len ≤ cap ∧ cap ≤ maxLen ∧ zs.length = cap ∧ (∀ i, i < zs.length → w.cell? (x.add i) = some (.int k (zs.getD i 0))) ∧ ∀ n ∈ zs, (Lit.int k n).wf = true

set_option maxRecDepth 10000 in
set_option maxHeartbeats 4000000 in
theorem walk (a0 : Option Addr) (len0 cap0 : Nat) (w : World) (w0 : IsRow8 w a0 len0 cap0) :
    Calls Try.prog 9 #[.slice a0 len0 cap0] w fun e w' => e = .returned (.bool true) ∧ Below w.heap.size w w' := by
  have hm := row8_len w0
  unfold maxLen at hm
  by_cases hl : ¬ len0 ≤ 1048576
  · go_enter Try.func9, Try.ntmps9
    go_wp2
    go_ret
    exact ⟨rfl, Below.refl _ _⟩
  · have hl := Nat.not_lt.1 (fun h => hl (Nat.not_le.2 h))
    go_enter Try.func9, Try.ntmps9
    go_wp2_with fail
    refine (drawPlanNext_any a0 len0 cap0 w w0).mono ?_
    rintro e w1 ⟨h, l, p, u, v, hl40, hp40, he, NB, OW, hb⟩
    have he' : e = .returned (.tuple #[.agg #[.int .i64 h.b, .int .i64 h.r, .int .i64 h.t], u, v]) := he
    subst he'
    clear he w0
    have hu := NB.holds
    have hv := OW.holds
    clear NB OW
    obtain ⟨ua, uc, rfl⟩ : ∃ a c, u = .slice a l.length c := by obtain ⟨a, c, e, _⟩ := hu; exact ⟨a, c, e⟩
    obtain ⟨va, vc, rfl⟩ := hv.form
    have b2 : Below w1.heap.size w1 (w1.alloc (.cells #[.int .i64 h.b, .int .i64 h.r, .int .i64 h.t] 24)) := (Below.refl _ _).alloc (Nat.le_refl _) _
    have y2 := BoxH.new w1 h
    have C2 := hb.trans (b2.mono hb.size)
    have hu := hu.keep b2
    have hv := hv.keep b2
    generalize hW2 : w1.alloc (.cells #[.int .i64 h.b, .int .i64 h.r, .int .i64 h.t] 24) = W2 at b2 y2 C2 hu hv
    have HW2 := Lib.hid hW2
    clear hW2 b2 hb
    have BK := Lib.hid fun (w' : World) (hs : Below W2.heap.size W2 w') => hu.keep hs
    have PK := Lib.hid fun (w' : World) (hs : Below W2.heap.size W2 w') => hv.keep hs
    have CK := Lib.hid fun (w' : World) (hs : Below W2.heap.size W2 w') => C2.trans (hs.mono C2.size)
    have e2 : Below W2.heap.size W2 W2 := Below.refl _ _
    have k0 := y2.c0
    have k1 := y2.c1
    have k2 := y2.c2
    clear hu hv C2
    have HI := Lib.hid fun (w' : World) (hb : HoldsBx w' (.slice ua l.length uc) l) (hp : HoldsI w' (.slice va p.length vc) p) => implPlanNext_any h _ _ l p w' hb hp
    have HS := Lib.hid fun (w' : World) (hb : HoldsBx w' (.slice ua l.length uc) l) (hp : HoldsI w' (.slice va p.length vc) p) => specPlanNext_any h _ _ l p w' hb hp
    have HSV := Lib.hid fun (w' : World) (hb : HoldsBx w' (.slice ua l.length uc) l) (hp : HoldsI w' (.slice va p.length vc) p) => specPlanValid_any h _ _ l p w' hb hp
    cases hok : plOk h (bxsOk l) (bxIds l) p
    · rw [hok] at HSV
      rw [nextI_bad hok] at HI HS
      clear hok
      go_wp2_with fail
      rw [HW2.out]
      generalize w1.heap.size = Y at y2 k0 k1 k2
      have YK := Lib.hid fun (w' : World) (hs : Below W2.heap.size W2 w') => y2.keep hs
      clear HW2 y2
      go_wp2_with fail
      refine (HI.out W2 (BK.out _ e2) (PK.out _ e2)).mono ?_
      rintro e W3 ⟨vi, rfl, g, d⟩
      have e3 := e2.trans (d.mono e2.size)
      clear k0 k1 k2
      have k0 := (YK.out _ e3).c0
      have k1 := (YK.out _ e3).c1
      have k2 := (YK.out _ e3).c2
      clear d e2
      have gi := g.holds
      clear g
      obtain ⟨ia, ic, rfl⟩ := gi.form
      go_wp2_with fail
      refine (HS.out W3 (BK.out _ e3) (PK.out _ e3)).mono ?_
      rintro e W4 ⟨vs, rfl, gs, d⟩
      have e4 := e3.trans (d.mono e3.size)
      have gi := gi.keep d
      clear k0 k1 k2
      have k0 := (YK.out _ e4).c0
      have k1 := (YK.out _ e4).c1
      have k2 := (YK.out _ e4).c2
      clear d e3
      have gs := gs.holds
      go_wp2_with fail
      refine (sameP_yes _ vs [] W4 gi gs).mono ?_
      rintro e W5 ⟨rfl, d⟩
      have e5 := e4.trans (d.mono e4.size)
      have gi := gi.keep d
      clear k0 k1 k2
      have k0 := (YK.out _ e5).c0
      have k1 := (YK.out _ e5).c1
      have k2 := (YK.out _ e5).c2
      clear d e4
      clear gs
      go_wp2_with fail
      refine (HSV.out W5 (BK.out _ e5) (PK.out _ e5)).mono ?_
      rintro e W6 ⟨rfl, d⟩
      have e6 := e5.trans (d.mono e5.size)
      have gi := gi.keep d
      clear k0 k1 k2
      have k0 := (YK.out _ e6).c0
      have k1 := (YK.out _ e6).c1
      have k2 := (YK.out _ e6).c2
      clear d e5
      go_wp2_with fail
      refine (alive_yes _).mono ?_
      rintro e w' ⟨rfl, rfl⟩
      go_wp2_with fail
      go_ret
      exact ⟨rfl, CK.out _ e6⟩
    · have NA := Lib.hid (nextI_asc h (bxsOk l) (bxIds l) p)
      have LL := Lib.hid fun (T n : Nat) hT hn => nextI_len hok (T := T) (n := n) hT hn
      have NH := Lib.hid fun k (hl : k < p.length) => nextI_has hok hl
      have PN := Lib.hid fun i (hi : i < l.length) hn k (hl : k < p.length) => putP_nextX hok hi hn hl
      have hRT := rows_of (plOk_iff.1 hok).1 (plOk_iff.1 hok).2.2.1
      rw [hok] at HSV
      generalize nextI h (bxsOk l) (bxIds l) p = L at HI HS NA LL NH
      clear hok
      go_wp2_with fail
      rw [HW2.out]
      generalize w1.heap.size = Y at y2 k0 k1 k2
      have YK := Lib.hid fun (w' : World) (hs : Below W2.heap.size W2 w') => y2.keep hs
      clear HW2 y2
      go_wp2_with fail
      refine (HI.out W2 (BK.out _ e2) (PK.out _ e2)).mono ?_
      rintro e W3 ⟨vi, rfl, g, d⟩
      have e3 := e2.trans (d.mono e2.size)
      clear k0 k1 k2
      have k0 := (YK.out _ e3).c0
      have k1 := (YK.out _ e3).c1
      have k2 := (YK.out _ e3).c2
      clear d e2
      have gi := g.holds
      clear g
      obtain ⟨ia, ic, rfl⟩ := gi.form
      go_wp2_with fail
      refine (HS.out W3 (BK.out _ e3) (PK.out _ e3)).mono ?_
      rintro e W4 ⟨vs, rfl, gs, d⟩
      have e4 := e3.trans (d.mono e3.size)
      have gi := gi.keep d
      clear k0 k1 k2
      have k0 := (YK.out _ e4).c0
      have k1 := (YK.out _ e4).c1
      have k2 := (YK.out _ e4).c2
      clear d e3
      have gs := gs.holds
      go_wp2_with fail
      refine (sameP_yes _ vs L W4 gi gs).mono ?_
      rintro e W5 ⟨rfl, d⟩
      have e5 := e4.trans (d.mono e4.size)
      have gi := gi.keep d
      clear k0 k1 k2
      have k0 := (YK.out _ e5).c0
      have k1 := (YK.out _ e5).c1
      have k2 := (YK.out _ e5).c2
      clear d e4
      clear gs
      go_wp2_with fail
      refine (HSV.out W5 (BK.out _ e5) (PK.out _ e5)).mono ?_
      rintro e W6 ⟨rfl, d⟩
      have e6 := e5.trans (d.mono e5.size)
      have gi := gi.keep d
      clear k0 k1 k2
      have k0 := (YK.out _ e6).c0
      have k1 := (YK.out _ e6).c1
      have k2 := (YK.out _ e6).c2
      clear d e5
      have LK := Lib.hid fun (w' : World) (hs : Below W6.heap.size W6 w') => gi.keep hs
      have EK := Lib.hid e6
      obtain ⟨N, hN⟩ : ∃ N, N = p.length := ⟨_, rfl⟩
      obtain ⟨B, hB⟩ : ∃ B, B = l.length := ⟨_, rfl⟩
      obtain ⟨M, hM⟩ : ∃ M, M = L.length := ⟨_, rfl⟩
      have hic : M ≤ 9223372036854775807 := by
        obtain ⟨a', c', e, q1, q2, _⟩ := gi
        unfold maxLen at q2
        omega
      have hbc : B ≤ 9223372036854775807 := by
        obtain ⟨a', c', e, q1, q2, _⟩ := BK.out _ e6
        unfold maxLen at q2
        omega
      have hN40 : N ≤ 40 := by omega
      rw [← hN] at PK NH hRT ⊢
      rw [← hB] at BK ⊢
      rw [← hM] at LK LL ⊢
      have HN := Lib.hid hN
      have HB := Lib.hid hB
      have HM := Lib.hid hM
      clear k0 k1 k2 hN hB hM e6 HI HS HSV gi hl40 hp40
      go_wp2_with fail
      go_loopw [7] (fun i wr => ∃ k : Nat, k ≤ B ∧ i = .int .i64 k ∧ Hid (Below W6.heap.size W6 wr)) (fun i _ => B - (intOf i).toNat)
      case atStart => exact ⟨0, by omega, rfl, Lib.hid (Below.refl _ _)⟩
      case round =>
        obtain ⟨i, hiB, rfl, BR⟩ := hrel
        have ER := Lib.hid (EK.out.trans (BR.out.mono EK.out.size))
        obtain ⟨wo, rfl⟩ : ∃ wo : World, wo = wr := ⟨_, rfl⟩
        by_cases hlt : i < B
        · have iB : (i : Int) < (B : Int) := by omega
          have i0B : (0 : Int) ≤ (i : Int) := by omega
          have hil : i < l.length := by have := HB.out; omega
          have hbx := BK.out wo ER.out
          obtain ⟨bb, bo, rfl, hbbl, hcells⟩ : ∃ b off, ua = some ⟨b, off, none⟩ ∧ b < wo.heap.size ∧ (∀ k (hk : k < l.length), ∀ j, j < 5 → wo.cell? ⟨b, off + (k * 5 + j), none⟩ = l[k].cells[j]?) := by
            obtain ⟨a', c', e, q1, q2, q3⟩ := hbx
            rcases q3 with q3 | ⟨b, off, q4, q5, q6⟩
            · have := HB.out; omega
            · simp only [Value.slice.injEq] at e
              exact ⟨b, off, e.1.trans q4, q5, q6⟩
          have s0 : wo.cell? ⟨bb, bo + i * 5, none⟩ = some (.int .i64 l[i].i) := hcells i hil 0 (by omega)
          have PNi := Lib.hid fun (hn : hasI p l[i].i = false) k (hl : k < N) => PN.out i hil hn k (by have := HN.out; omega)
          have HH := Lib.hid (hasInt_any (.slice va N vc) p l[i].i wo (by have := PK.out wo ER.out; exact this))
          obtain ⟨x, hx⟩ : ∃ x, x = l[i].i := ⟨_, rfl⟩
          rw [← hx] at s0 PNi HH
          clear hx hbx hcells
          cases hq : hasI p x
          · rw [hq] at HH
            have PNi := Lib.hid (PNi.out hq)
            clear hq
            go_wp2_with fail
            refine HH.out.mono ?_
            rintro e w' ⟨rfl, rfl⟩
            go_wp2_with fail
            go_loopw [8] (fun k wr => ∃ j : Nat, j ≤ N ∧ k = .int .i64 j ∧ Hid (Below wo.heap.size wo wr)) (fun k _ => N - (intOf k).toNat)
            case atStart => exact ⟨0, by omega, rfl, Lib.hid (Below.refl _ _)⟩
            case round =>
              obtain ⟨k, hkN, rfl, CR⟩ := hrel
              have FR := Lib.hid (ER.out.trans (CR.out.mono ER.out.size))
              have GR := Lib.hid (BR.out.trans (CR.out.mono BR.out.size))
              by_cases hltk : k < N
              · have ik : (k : Int) < (N : Int) := by omega
                have i0k : (0 : Int) ≤ (k : Int) := by omega
                have y := YK.out wr FR.out
                have t0 : wr.cell? ⟨bb, bo + i * 5, none⟩ = some (.int .i64 x) := (CR.out.cell (p := ⟨bb, bo + i * 5, none⟩) hbbl).trans s0
                have hbl2 : bb < wr.heap.size := Nat.lt_of_lt_of_le hbbl CR.out.size
                have HP := Lib.hid fun (w' : World) (hs : Since wr w') => implPlanPut_any h (.slice (some ⟨bb, bo, none⟩) B uc) (.slice va N vc) l p (k : Int) x w' (BK.out w' (FR.out.trans (Below.mono hs FR.out.size))) (PK.out w' (FR.out.trans (Below.mono hs FR.out.size)))
                rw [PNi.out k hltk] at HP
                have HL := Lib.hid fun (w' : World) (hs : Since wr w') => hasInt_any (.slice ia M ic) L (k : Int) w' (LK.out w' (GR.out.trans (Below.mono hs GR.out.size)))
                rw [NH.out k hltk] at HL
                generalize (putP h (bxsOk l) (bxIds l) p (k : Int) x).1 = pp at HP
                generalize nextOk h p k = q at HP HL
                have hqq : (q != q) = false := by simp
                have HK := Lib.hid fun (w' : World) (hs : Since wr w') => (show w'.cell? ⟨Y, 0, none⟩ = some (.int .i64 h.b) ∧ w'.cell? ⟨Y, 1, none⟩ = some (.int .i64 h.r) ∧ w'.cell? ⟨Y, 2, none⟩ = some (.int .i64 h.t) ∧ w'.cell? ⟨bb, bo + i * 5, none⟩ = some (.int .i64 x) ∧ Since wr w' from
                  ⟨(y.keep hs).c0, (y.keep hs).c1, (y.keep hs).c2, (Below.cell hs (p := ⟨bb, bo + i * 5, none⟩) hbl2).trans t0, hs⟩)
                have hstart := HK.out _ (show Since wr wr.drew from (Below.refl _ _).drew)
                clear t0 y s0
                go_wp2_with fail
                go_region_held3 (fun w' => w'.cell? ⟨Y, 0, none⟩ = some (.int .i64 h.b) ∧ w'.cell? ⟨Y, 1, none⟩ = some (.int .i64 h.r) ∧ w'.cell? ⟨Y, 2, none⟩ = some (.int .i64 h.t) ∧ w'.cell? ⟨bb, bo + i * 5, none⟩ = some (.int .i64 x) ∧ Since wr w')
                  (first | exact hstart | exact HK.out _ s5 | exact HK.out _ (by exact (‹_ ∧ _› : _ ∧ _ ∧ _ ∧ _ ∧ Since wr _).2.2.2.2) | fail)
                  (first
                    | (go_at_call 33; ((with_reducible refine (HP.out _ (by exact (‹_ ∧ _› : _ ∧ _ ∧ _ ∧ _ ∧ Since wr _).2.2.2.2)).mono ?_); rintro e w5 ⟨vp, rfl, gp, d5⟩; have s5 : Since wr w5 := Since.call (by exact (‹_ ∧ _› : _ ∧ _ ∧ _ ∧ _ ∧ Since wr _).2.2.2.2) d5; clear d5 gp))
                    | fail)
                rename_i hheld
                have HL9 := Lib.hid (HL.out _ hheld.2.2.2.2)
                have hx9 := Lib.hid (CR.out.trans (Below.mono hheld.2.2.2.2 CR.out.size))
                clear hheld hstart
                go_wp2_with fail
                refine HL9.out.mono ?_
                rintro e w' ⟨rfl, rfl⟩
                go_wp2_with fail
                go_roundw
                case rel => exact ⟨k + 1, by omega, by go_num, hx9⟩
                case measure => simp [intOf]; omega
              · obtain rfl : k = N := by omega
                go_wp2_with fail
                go_roundw
                case rel => exact ⟨i + 1, by omega, by go_num, GR⟩
                case measure => simp [intOf]; omega
          · rw [hq] at HH
            clear hq
            go_wp2_with fail
            refine HH.out.mono ?_
            rintro e w' ⟨rfl, rfl⟩
            go_wp2_with fail
            go_roundw
            case rel => exact ⟨i + 1, by omega, by go_num, BR⟩
            case measure => simp [intOf]; omega
        · obtain rfl : i = B := by omega
          obtain ⟨R, T, hT, hT1, hT3, hRT⟩ := hRT
          have LL := Lib.hid (LL.out T R hT (by rw [hRT]; exact HN.out))
          have LK := Lib.hid (LK.out wo BR.out)
          have PK := Lib.hid (PK.out wo ER.out)
          have HA := Lib.hid (ascendP_yes (.slice ia M ic) L wo (by have := LK.out; rw [HM.out] at this ⊢; exact this) NA.out)
          have y2 := (YK.out wo ER.out).c2
          have C9 := CK.out _ ER.out
          rw [← hT] at y2
          have hw1 : IntKind.i64.wrap ((T : Int) - 1) = ((0 * T + (T - 1) : Nat) : Int) := by rw [Nat.zero_mul, Nat.zero_add, IntWalk.i64_in _ (by omega)]; omega
          have r0 : roomRows T p 0 = 0 := rfl
          clear BK PN NH YK CK EK BR ER LK NA hlt hiB hT
          go_wp2_with fail
          go_loopw [11, 12] (fun rr kk wr => ∃ j : Nat, rr = .int .i64 (roomRows T p j : Nat) ∧ kk = .int .i64 (j * T + (T - 1) : Nat) ∧ j ≤ R ∧ roomRows T p j ≤ j ∧ wr = wo) (fun _ kk _ => N + 10 - (intOf kk).toNat)
          case atStart => exact ⟨0, (by first | rfl | trivial), (by first | rfl | simp), by omega, by omega, (by first | rfl | trivial)⟩
          case round =>
            obtain ⟨j, rfl, rfl, hjR, hjr, rfl⟩ := hrel
            by_cases hltj : j < R
            · have hjN : j * T + (T - 1) < N := by
                have h1 : (j + 1) * T ≤ R * T := Nat.mul_le_mul_right T hltj
                rw [Nat.add_mul, Nat.one_mul] at h1
                omega
              obtain ⟨b, off, rfl, hbl, s0⟩ := PK.out.at_ hjN
              have e1 : p.getD (j * T + (T - 1)) 0 = pAt p (j * T + (T - 1)) := rfl
              rw [e1] at s0
              clear e1
              have hnx := roomRows_next T p j
              have hnk : (j + 1) * T + (T - 1) = j * T + (T - 1) + T := by rw [Nat.add_mul, Nat.one_mul]; omega
              have hjb : j * T ≤ 40 := by omega
              obtain ⟨K, hK⟩ : ∃ K, K = j * T + (T - 1) := ⟨_, rfl⟩
              rw [← hK] at s0 hjN hnx hnk ⊢
              obtain ⟨q, hq⟩ : ∃ q, q = roomRows T p j := ⟨_, rfl⟩
              rw [← hq] at hnx hjr ⊢
              have iK : (K : Int) < (N : Int) := by omega
              have i0K : (0 : Int) ≤ (K : Int) := by omega
              have hj40 : j ≤ 40 := by
                have := Nat.mul_le_mul_left j hT1
                omega
              have zK : IntKind.i64.wrap ((K : Int) + (T : Int)) = ((K + T : Nat) : Int) := by rw [IntWalk.i64_in _ (by omega)]; omega
              have zq : IntKind.i64.wrap ((q : Int) + 1) = ((q + 1 : Nat) : Int) := by rw [IntWalk.i64_in _ (by omega)]; omega
              clear hK hq
              by_cases hz : pAt p K = 0
              · rw [if_pos hz] at hnx
                rw [hz] at s0
                clear hz
                go_wp2_with fail
                go_roundw
                case rel => exact ⟨j + 1, by rw [hnx]; first | done | rfl | simp, by rw [hnk]; first | done | rfl | simp, by omega, by omega, (by first | rfl | trivial)⟩
                case measure => simp [intOf]; omega
              · rw [if_neg hz] at hnx
                have hdz : (pAt p K == 0) = false := by simpa using hz
                obtain ⟨z, hzz⟩ : ∃ z, z = pAt p K := ⟨_, rfl⟩
                rw [← hzz] at s0 hdz
                clear hz hzz
                go_wp2_with fail
                go_roundw
                case rel => exact ⟨j + 1, by rw [hnx]; first | done | rfl | simp, by rw [hnk]; first | done | rfl | simp, by omega, by omega, (by first | rfl | trivial)⟩
                case measure => simp [intOf]; omega
            · obtain rfl : j = R := by omega
              have hge : N ≤ j * T + (T - 1) := by omega
              obtain ⟨K, hK⟩ : ∃ K, K = j * T + (T - 1) := ⟨_, rfl⟩
              rw [← hK] at hge ⊢
              have iK : decide ((K : Int) < (N : Int)) = false := decide_eq_false (by omega)
              have eL := LL.out
              rw [← eL]
              have hMM : ((M : Int) == (M : Int)) = true := by simp
              clear hK eL hjr
              go_wp2_with fail
              refine HA.out.mono ?_
              rintro e w9 ⟨rfl, d9⟩
              have C10 := C9.trans (d9.mono C9.size)
              go_wp2_with fail
              go_ret
              exact ⟨rfl, C10⟩

set_option maxRecDepth 100000 in
set_option maxHeartbeats 2000000 in
/-- What the walk gives, for every argument. -/
theorem contract (H : Type) (enc : TypeId × Value → H) (W : World) (base : Nat) (args : Array Value) (ds gs : List (DataW H)) (before : List MemPlace)
    (hval : ∀ (j : Nat) t v, Try.f9.params[j]? = some t → args[j]? = some v → Value.okWide Try.prog W .any base t v)
    (hW : DataW.Whole enc Try.prog Try.f9.params.toList Rows.fnPlanNextSpec.vars false W args.toList ds gs before) :
    Calls Try.prog 9 args W fun e W' => ∃ v, e = .returned v ∧ Rows.fnPlanNextSpec.post enc Try.prog Try.f9 false true false false W args v W' := by
  have hW' := hW
  obtain ⟨p, q, hA0, hV, rfl, hfz, hnd⟩ := hW
  have hA : DataW.TrodAll enc Try.prog W 0 (fun _ => true) true Try.f9.params.toList args.toList ds p := hA0
  rw [Try.params9] at hA hval
  obtain ⟨v0, vs0, d0, ds0, p0, q0, hargs, rfl, rfl, h0, r0⟩ := trodAll_cons hA
  obtain ⟨rfl, rfl, rfl⟩ := trodAll_nil r0
  obtain rfl : args = #[v0] := by cases args; simp_all
  obtain ⟨rfl, rfl⟩ := trodVars_none hV
  have k0 := h0
  have lt0 : ∀ x ∈ p0, x.block < W.heap.size := by obtain ⟨m, hm⟩ := k0; exact DataW.trod_lt m _ _ _ hm
  obtain ⟨a0, len0, cap0, rfl⟩ := okWide_slice Try.underlying22 (hval 0 22 v0 rfl rfl)
  obtain ⟨z0, x0⟩ : ∃ zs, IsRow .u8 W a0 len0 cap0 zs := by
    obtain ⟨fuel, hf⟩ := h0
    rcases open_ints Try.underlying22 Try.underlying5 (by kernel_rfl) hf with ⟨hcs, _⟩ | ⟨x, l, c, zs, hcs, _, hl, hm, hz, _, hcell, hwz⟩
    · simp [Value.cells] at hcs
      obtain ⟨rfl, rfl, rfl⟩ := hcs
      exact ⟨[], .inl ⟨rfl, rfl, rfl, rfl⟩⟩
    · simp [Value.cells] at hcs
      obtain ⟨rfl, rfl, rfl⟩ := hcs
      exact ⟨zs, .inr ⟨_, rfl, hl, hm, by simpa using hz, hcell, hwz⟩⟩
  clear hA0
  refine (walk a0 len0 cap0 W (row8_of x0)).mono fun e W' ⟨he, bel⟩ => ?_
  subst he
  exact ⟨_, rfl, _, _, _, [], _, [], hW', trodAll_mk1 (shut_bool Try.underlying4 _), (trodAll_cons_mk (Below.trod laidOut (by kernel_rfl) (of_decide_eq_true (by kernel_rfl)) k0 bel lt0) trodAll_mk0), rfl, bel.frame _, fun h => by cases h⟩

set_option maxRecDepth 100000 in
theorem lifted (os : Os) (started : os.Started) (H : Type) (enc : TypeId × Value → H) :
    ReturnsInHanded {} Try.checked os 9 .any (Rows.fnPlanNextSpec.pre6 enc Try.prog Try.f9 Rows.fnPlanNextRow.domain false) (Rows.fnPlanNextSpec.post enc Try.prog Try.f9 false true false false) := by
  refine returnsInHanded_of_change (C := Try.checked) own started (by kernel_rfl) Try.func9
    (ChangeSpec.witness6 (enc := enc) (C := Try.checked) false ⟨#[], #[.slice none 0 0], []⟩ 8 (by kernel_rfl) (by kernel_rfl) (by kernel_rfl) (by kernel_rfl)) ?_
  intro W base args ds gs before hval hW _ _
  exact contract H enc W base args ds gs before hval hW

theorem proved : Rows.FnPlanNextSaid :=
  OpenClaim.holds_of_wide 9 Try.f9 rfl rfl rfl rfl rfl rfl rfl ⟨rfl, rfl, rfl, rfl, rfl⟩ rfl rfl rfl rfl rfl (by kernel_rfl) Try.func9 (by kernel_rfl)
    (of_decide_eq_true (by kernel_rfl)) (by unfold Func.isWrapper; first | (rw [if_pos (by decide +kernel)]; kernel_rfl) | (rw [if_neg (by decide +kernel)]; exact ⟨rfl, rfl⟩))
    (fun os started H enc _ => lifted os started H enc)
#print axioms proved
end Go.Proofs.Ytbaebamiiigmlaa.fnPlanNext
