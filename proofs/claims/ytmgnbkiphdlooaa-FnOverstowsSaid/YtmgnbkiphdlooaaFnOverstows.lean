/-
  For every code of bytes the law on Overstows (the model's answer; with all boxes for one port there are none; and behind the first port at which there are boxes there are no more than before) returns true and leaves its argument as it was. Conditions: none beyond the form's own reach.
-/
import Derived.Test.YtmgnbkiphdlooaaRows
import Derived.Test.YtmgnbkiphdlooaaGBase
import Derived.WalkKit
import Derived.ProofKit
import Derived.OpenShut
import Derived.ShutString
import Derived.ChangeOld
import Derived.Below
import Derived.Test.YtmgnbkiphdlooaaGCr
import Derived.Test.YtmgnbkiphdlooaaWtW
import Derived.Test.YtmgnbkiphdlooaaGOm
import Derived.Test.YtmgnbkiphdlooaaOvS
import Derived.Test.YtmgnbkiphdlooaaOvQ
import Derived.Test.YtmgnbkiphdlooaaOvF
import Derived.Test.YtmgnbkiphdlooaaOvI
import Derived.Test.YtmgnbkiphdlooaaOvP
import Derived.Test.YtmgnbkiphdlooaaGPn
import Derived.Test.YtmgnbkiphdlooaaGPl
import Derived.Test.YtmgnbkiphdlooaaGPs
import Derived.Test.YtmgnbkiphdlooaaGDr
import Derived.Test.YtmgnbkiphdlooaaGBx
namespace Go.Proofs.Ytmgnbkiphdlooaa.fnOverstows
open Go.ChangeShapes Go.WideShapes Go.ChangeAt Go.RowKit
open Go.ChangeMaps (open_string shut_string)
set_option linter.unusedVariables false


/-- What the walk is told of a slice of integers that came in. -/
def IsRow (k : IntKind) (w : World) (a : Option Addr) (len cap : Nat) (zs : List Int) : Prop :=
  (a = none ∧ len = 0 ∧ cap = 0 ∧ zs = []) ∨
  ∃ x, a = some x ∧ len ≤ cap ∧ cap ≤ maxLen ∧ zs.length = cap ∧ (∀ i, i < zs.length → w.cell? (x.add i) = some (.int k (zs.getD i 0))) ∧ ∀ n ∈ zs, (Lit.int k n).wf = true

set_option maxRecDepth 10000 in
set_option maxHeartbeats 4000000 in
theorem walk (a0 : Option Addr) (len0 cap0 : Nat) (w : World) (w0 : IsRow8 w a0 len0 cap0) :
    Calls Try.prog 3 #[.slice a0 len0 cap0] w fun e w' => e = .returned (.bool true) ∧ Below w.heap.size w w' := by
  have hm := row8_len w0
  unfold maxLen at hm
  by_cases hl : ¬ len0 ≤ 1048576
  · go_enter Try.func3, Try.ntmps3
    go_wp2
    go_ret
    exact ⟨rfl, Below.refl _ _⟩
  · have hl := Nat.not_lt.1 (fun h => hl (Nat.not_le.2 h))
    go_enter Try.func3, Try.ntmps3
    go_wp2_with fail
    refine (drawOverstows_any a0 len0 cap0 w w0).mono ?_
    rintro e w1 ⟨h, l, p, u, v, hl40, hp40, he, NB, OW, hb⟩
    have he' : e = .returned (.tuple #[.agg #[.int .i64 h.b, .int .i64 h.r, .int .i64 h.t], u, v]) := he
    subst he'
    clear he w0
    have hu := NB.holds
    have hv := OW.holds
    clear NB OW
    obtain ⟨ua, uc, rfl⟩ : ∃ a c, u = .slice a l.length c := by obtain ⟨a, c, e, _⟩ := hu; exact ⟨a, c, e⟩
    obtain ⟨va, vc, rfl⟩ := hv.form
    have b2 : Below w1.heap.size w1 (w1.alloc (.cells #[.int .i64 h.b, .int .i64 h.r, .int .i64 h.t] 24)) := (Below.refl _ _).alloc (Nat.le_refl _) _
    have y2 := BoxH.new w1 h
    have C2 := hb.trans (b2.mono hb.size)
    have hu := hu.keep b2
    have hv := hv.keep b2
    generalize hW2 : w1.alloc (.cells #[.int .i64 h.b, .int .i64 h.r, .int .i64 h.t] 24) = W2 at b2 y2 C2 hu hv
    have HW2 := Lib.hid hW2
    clear hW2 b2 hb
    have BK := Lib.hid fun (w' : World) (hs : Below W2.heap.size W2 w') => hu.keep hs
    have PK := Lib.hid fun (w' : World) (hs : Below W2.heap.size W2 w') => hv.keep hs
    have CK := Lib.hid fun (w' : World) (hs : Below W2.heap.size W2 w') => C2.trans (hs.mono C2.size)
    have e2 : Below W2.heap.size W2 W2 := Below.refl _ _
    have k0 := y2.c0
    have k1 := y2.c1
    have k2 := y2.c2
    clear hu hv C2
    have HI := Lib.hid fun (w' : World) (hb : HoldsBx w' (.slice ua l.length uc) l) (hp : HoldsI w' (.slice va p.length vc) p) => implOverstows_any h _ _ l p w' hb hp
    have HS := Lib.hid fun (w' : World) (hb : HoldsBx w' (.slice ua l.length uc) l) (hp : HoldsI w' (.slice va p.length vc) p) => specOverstows_any h _ _ l p w' hb hp
    cases hok : plOk h (bxsOk l) (bxIds l) p
    · have e0 : overO h l p = -1 := by unfold overO; rw [hok]; rfl
      rw [e0] at HI HS
      clear hok e0
      go_wp2_with fail
      rw [HW2.out]
      generalize w1.heap.size = Y at y2 k0 k1 k2
      have YK := Lib.hid fun (w' : World) (hs : Below W2.heap.size W2 w') => y2.keep hs
      clear HW2 y2
      go_wp2_with fail
      refine (HI.out W2 (BK.out _ e2) (PK.out _ e2)).mono ?_
      rintro e W3 ⟨rfl, d⟩
      have e3 := e2.trans (d.mono e2.size)
      clear k0 k1 k2
      have k0 := (YK.out _ e3).c0
      have k1 := (YK.out _ e3).c1
      have k2 := (YK.out _ e3).c2
      clear d e2
      go_wp2_with fail
      refine (HS.out W3 (BK.out _ e3) (PK.out _ e3)).mono ?_
      rintro e W4 ⟨rfl, d⟩
      have e4 := e3.trans (d.mono e3.size)
      clear k0 k1 k2
      have k0 := (YK.out _ e4).c0
      have k1 := (YK.out _ e4).c1
      have k2 := (YK.out _ e4).c2
      clear d e3
      go_wp2_with fail
      refine (alive_yes _).mono ?_
      rintro e w' ⟨rfl, rfl⟩
      go_wp2_with fail
      go_ret
      exact ⟨rfl, CK.out _ e4⟩
    · have hbk := plOk_bok hok
      have HPB := Lib.hid fun k (hk : k < l.length) => (show 0 ≤ l[k].p ∧ l[k].p ≤ 6 from by have := bxOk_yes (bxsOk_box hbk hk); omega)
      have HAP := Lib.hid fun (q : Int) (h0 : 0 ≤ q) (h6 : q ≤ 6) (w' : World) (hb : HoldsBx w' (.slice ua l.length uc) l) (hp : HoldsI w' (.slice va p.length vc) p) => implAfterPort_any h _ _ l p q w' hb hp
      have HOV := Lib.hid fun (q : Int) (h0 : 0 ≤ q) (h6 : q ≤ 6) (v' : Value) (w' : World) (hb : HoldsBx w' (.slice ua l.length uc) l) (hq : HoldsI w' v' (aftO h l p q)) => implOverstows_any h _ v' l (aftO h l p q) w' hb hq
      have HOS := Lib.hid fun (u' : Value) (w' : World) (hb : HoldsBx w' u' (samePt l)) (hp : HoldsI w' (.slice va p.length vc) p) => (show Calls Try.prog 12 #[.agg #[.int .i64 h.b, .int .i64 h.r, .int .i64 h.t], u', .slice va p.length vc] w' fun e w2 => e = .returned (.int .i64 0) ∧ Below w'.heap.size w' w2 from by
        have := implOverstows_any h u' (.slice va p.length vc) (samePt l) p w' hb hp
        rw [overO_same (samePt_ok hbk) hok] at this
        exact this)
      have HAX := Lib.hid fun (q : Int) (h0 : 0 ≤ q) (h6 : q ≤ 6) => (show 0 ≤ overO h l (aftO h l p q) ∧ overO h l (aftO h l p q) ≤ overO h l p from by
        obtain ⟨_, _, q3, q4, _⟩ := aftO_ok hok h0 h6
        exact ⟨q4, q3⟩)
      have hx0 : 0 ≤ overO h l p := by unfold overO; rw [if_pos hok]; exact Int.natCast_nonneg _
      generalize overO h l p = x at HI HS HAX hx0
      have hxx : (x != x) = false := by simp
      have hxd : decide (x < 0) = false := decide_eq_false (by omega)
      clear hok hbk
      go_wp2_with fail
      rw [HW2.out]
      generalize w1.heap.size = Y at y2 k0 k1 k2
      have YK := Lib.hid fun (w' : World) (hs : Below W2.heap.size W2 w') => y2.keep hs
      clear HW2 y2
      go_wp2_with fail
      refine (HI.out W2 (BK.out _ e2) (PK.out _ e2)).mono ?_
      rintro e W3 ⟨rfl, d⟩
      have e3 := e2.trans (d.mono e2.size)
      clear k0 k1 k2
      have k0 := (YK.out _ e3).c0
      have k1 := (YK.out _ e3).c1
      have k2 := (YK.out _ e3).c2
      clear d e2
      go_wp2_with fail
      refine (HS.out W3 (BK.out _ e3) (PK.out _ e3)).mono ?_
      rintro e W4 ⟨rfl, d⟩
      have e4 := e3.trans (d.mono e3.size)
      clear k0 k1 k2
      have k0 := (YK.out _ e4).c0
      have k1 := (YK.out _ e4).c1
      have k2 := (YK.out _ e4).c2
      clear d e3
      have EK := Lib.hid e4
      have own0 : (W4.alloc (.cells #[] 32)).ownsRow W4.heap.size 32 5 (.slice (some ⟨W4.heap.size, 0, none⟩) 0 0) ((samePt l).take 0).length (rowB ((samePt l).take 0)) := own_zero (Nat.le_refl _) (heap_alloc_new _ _)
      have OWZ := Lib.hid own0
      have DZ := Lib.hid (show Below W4.heap.size W4 (W4.alloc (.cells #[] 32)) from (Below.refl _ _).alloc (Nat.le_refl _) _)
      obtain ⟨i0, hi, hz0, hz1, hz2⟩ := info_parts infoBox
      have HBI := Lib.hid hi
      have HB0 := Lib.hid hz0
      have HB1 := Lib.hid hz1
      have HB2 := Lib.hid hz2
      obtain ⟨N, hN⟩ : ∃ N, N = l.length := ⟨_, rfl⟩
      have HNL := Lib.hid hN
      have hN40 : N ≤ 40 := by omega
      rw [← hN] at BK HAP HOV ⊢
      have HPK := Lib.hid PK.out
      clear k0 k1 k2 hN e4 HI HS own0 hi hz0 hz1 hz2
      go_wp2_with fail
      go_loopw [7, 8, 9] (fun sv lv i wr => ∃ (k : Nat) (m : Int) (s9 : Value), s9 = sv ∧ k ≤ N ∧ 0 ≤ m ∧ m ≤ 6 ∧ lv = .int .i64 m ∧ i = .int .i64 k ∧ Hid (wr.ownsRow W4.heap.size 32 5 s9 ((samePt l).take k).length (rowB ((samePt l).take k))) ∧ Hid (Below W4.heap.size W4 wr)) (fun _ _ i _ => N - (intOf i).toNat)
      case atStart => exact ⟨0, 6, _, rfl, by omega, by omega, by omega, rfl, rfl, OWZ, DZ⟩
      case round =>
        clear OWZ DZ
        obtain ⟨k, m, s9, rfl, hkN, hm0, hm6, rfl, rfl, OW, DR⟩ := hrel
        have ER := Lib.hid (EK.out.trans (DR.out.mono EK.out.size))
        by_cases hlt : k < N
        · have hkl : k < l.length := by have := HNL.out; omega
          obtain ⟨bb, bo, rfl, hbbl, hcs⟩ : ∃ bb bo, ua = some ⟨bb, bo, none⟩ ∧ bb < wr.heap.size ∧ ∀ j, j < 5 → wr.cell? ⟨bb, bo + (k * 5 + j), none⟩ = l[k].cells[j]? := by
            obtain ⟨a', c', e', _, _, h4⟩ := BK.out wr ER.out
            simp only [Value.slice.injEq] at e'
            rcases h4 with h4 | ⟨b9, off9, h5, h6, h7⟩
            · have := HNL.out; omega
            · exact ⟨b9, off9, e'.1.trans h5, h6, h7 k hkl⟩
          have HTK := Lib.hid (samePt_take hkl)
          have htl := samePt_take_len (l := l) (k := k) (by omega)
          have hpb := HPB.out k hkl
          generalize l[k] = b at hcs HTK hpb
          have s0 : wr.cell? ⟨bb, bo + k * 5, none⟩ = some (.int .i64 b.i) := hcs 0 (by omega)
          have s1 : wr.cell? ⟨bb, bo + k * 5 + 1, none⟩ = some (.int .i64 b.g) := hcs 1 (by omega)
          have s2 : wr.cell? ⟨bb, bo + k * 5 + 2, none⟩ = some (.int .i64 b.c) := hcs 2 (by omega)
          have s3 : wr.cell? ⟨bb, bo + k * 5 + 3, none⟩ = some (.int .i64 b.p) := hcs 3 (by omega)
          have s4 : wr.cell? ⟨bb, bo + k * 5 + 4, none⟩ = some (.bool b.d) := hcs 4 (by omega)
          have ik : (k : Int) < (N : Int) := by omega
          have i0k : (0 : Int) ≤ (k : Int) := by omega
          have hwn : W4.heap.size ≤ wr.heap.size := DR.out.size
          have K5' : (wr.alloc (.cells #[.int .i64 b.i, .int .i64 b.g, .int .i64 b.c, .int .i64 b.p, .bool b.d] 32)).heap[wr.heap.size]? = some (.cells #[.int .i64 b.i, .int .i64 b.g, .int .i64 b.c, .int .i64 b.p, .bool b.d] 32 (0, 0)) := heap_alloc_new _ _
          have hb5 : Below wr.heap.size wr (wr.alloc (.cells #[.int .i64 b.i, .int .i64 b.g, .int .i64 b.c, .int .i64 b.p, .bool b.d] 32)) := (Below.refl _ _).alloc (Nat.le_refl _) _
          obtain ⟨W5, hW5⟩ : ∃ W5, W5 = wr.alloc (.cells #[.int .i64 b.i, .int .i64 b.g, .int .i64 b.c, .int .i64 b.p, .bool b.d] 32) := ⟨_, rfl⟩
          rw [← hW5] at K5' hb5
          have hs5 : W5.heap.size = wr.heap.size + 1 := by rw [hW5]; simp
          have HW5 := Lib.hid hW5
          have HX5 := Lib.hid (hasInt_any (.slice va p.length vc) p b.i W5 ((HPK.out wr ER.out).keep hb5))
          obtain ⟨hv, hhv⟩ : ∃ hv, hv = hasI p b.i := ⟨_, rfl⟩
          rw [← hhv] at HX5
          clear hcs hW5 hhv
          obtain ⟨B5, hB5⟩ : ∃ B5, B5 = wr.heap.size := ⟨_, rfl⟩
          have HB5E := Lib.hid hB5
          rw [← hB5] at K5'
          have K5 := Lib.hid K5'
          have hB5n : W4.heap.size ≤ B5 := by omega
          have hB5s : B5 < W5.heap.size := by omega
          have HB5 := Lib.hid (hb5.mono (show W4.heap.size ≤ wr.heap.size from hwn))
          have e0 : W5.cell? ⟨B5, 0, none⟩ = some (.int .i64 b.i) := by simp [World.cell?, K5']
          have e3 : W5.cell? ⟨B5, 3, none⟩ = some (.int .i64 b.p) := by simp [World.cell?, K5']
          have fz : W5.frozen? ⟨B5, 3, none⟩ = false := by simp [World.frozen?, K5']
          have OW6 := Lib.hid (show (W5.setCell ⟨B5, 3, none⟩ (.int .i64 2)).ownsRow W4.heap.size 32 5 s9 ((samePt l).take k).length (rowB ((samePt l).take k)) from own_keep OW.out (fun j hj1 hj2 => by rw [Below.heap_setCell _ _ _ _ (show j ≠ B5 by omega)]; exact hb5.block j hj2))
          have c9 : ∀ j (hj : j < 5), (W5.setCell ⟨B5, 3, none⟩ (.int .i64 2)).cell? ⟨B5, j, none⟩ = (#[.int .i64 b.i, .int .i64 b.g, .int .i64 b.c, .int .i64 2, .bool b.d] : Array Value)[j]? := fun j hj => by
            have e := Joins.block_setCell (i := 3) K5.out (.int .i64 2)
            simp only [World.cell?, e]
            rfl
          have d0 : (W5.setCell ⟨B5, 3, none⟩ (.int .i64 2)).cell? ⟨B5, 0, none⟩ = some (.int .i64 b.i) := c9 0 (by omega)
          have d1 : (W5.setCell ⟨B5, 3, none⟩ (.int .i64 2)).cell? ⟨B5, 1, none⟩ = some (.int .i64 b.g) := c9 1 (by omega)
          have d2 : (W5.setCell ⟨B5, 3, none⟩ (.int .i64 2)).cell? ⟨B5, 2, none⟩ = some (.int .i64 b.c) := c9 2 (by omega)
          have d3 : (W5.setCell ⟨B5, 3, none⟩ (.int .i64 2)).cell? ⟨B5, 3, none⟩ = some (.int .i64 2) := c9 3 (by omega)
          have d4 : (W5.setCell ⟨B5, 3, none⟩ (.int .i64 2)).cell? ⟨B5, 4, none⟩ = some (.bool b.d) := c9 4 (by omega)
          clear c9
          have hWn5 : W4.heap.size ≤ W5.heap.size := by omega
          rw [htl] at OW6
          have hsb : i0.bytes * (k + 1) ≤ 281474976710656 := by rw [HB2.out]; omega
          have HCN := Lib.hid (show ∀ (j : Nat) (u : Value), ([.int .i64 b.i, .int .i64 b.g, .int .i64 b.c, .int .i64 2, .bool b.d] : List Value)[j]? = some u → ((W5.setCell ⟨B5, 3, none⟩ (.int .i64 2)).alloc (.cells #[.int .i64 b.i, .int .i64 b.g, .int .i64 b.c, .int .i64 2, .bool b.d] 32)).cell? ((⟨W5.heap.size, 0, none⟩ : Addr).add j) = some u from fun j u hu => by
            have e : (W5.setCell ⟨B5, 3, none⟩ (.int .i64 2)).heap.size = W5.heap.size := by simp [World.setCell]
            rw [← e]
            exact cells_new j u hu)
          have CASE := Lib.hid (show b.p < m ∨ m ≤ b.p by omega)
          clear hb5 K5' hB5 hwn hs5
          go_wp2_with fail
          rw [← HW5.out, ← HB5E.out]
          refine HX5.out.mono ?_
          rintro e w' ⟨rfl, rfl⟩
          cases hv
          · go_wp2_with (at_builtin; refine wpList_append_own _ rfl _ _ 25 rfl W4.heap.size 32 i0 (.agg #[.int .i64 0, .int .i64 0, .int .i64 0, .int .i64 0, .bool false]) 5 40 Try.underlying25 HBI.out HB0.out HB1.out HB2.out rfl (by decide) _ _ _ rfl (OW6.out.alloc _) ⟨_, 0, none⟩ 1 1 [.int .i64 b.i, .int .i64 b.g, .int .i64 b.c, .int .i64 2, .bool b.d] rfl rfl (fun j u hu => HCN.out j u hu) (by simp [Value.oneCell']) (by unfold maxLen; omega) (by omega) (by simp [World.setCell]; omega) ?_; intro v' w8 hown8 hgrow8 _)
            have hb8 : Below W4.heap.size ((W5.setCell ⟨B5, 3, none⟩ (.int .i64 2)).alloc (.cells #[.int .i64 b.i, .int .i64 b.g, .int .i64 b.c, .int .i64 2, .bool b.d] 32)) w8 := own_below hgrow8 (by simp [World.setCell]; omega) (fun k hk => (own_lt OW6.out k hk).1)
            have D8 := Lib.hid (DR.out.trans ((HB5.out.trans (((Below.refl W4.heap.size W5).setCell (p := ⟨B5, 3, none⟩) hB5n _).alloc (by simp [World.setCell]; omega) (.cells #[.int .i64 b.i, .int .i64 b.g, .int .i64 b.c, .int .i64 2, .bool b.d] 32))).trans hb8))
            have hown9 : w8.ownsRow W4.heap.size 32 5 v' ((samePt l).take (k + 1)).length (rowB ((samePt l).take (k + 1))) := by
              rw [samePt_take_len (by have := HNL.out; omega), HTK.out, rowB_app]
              exact hown8
            have H9 := Lib.hid hown9
            clear hown8 hgrow8 hb8 hown9
            go_wp2_with fail
            go_roundw
            case rel => exact ⟨k + 1, m, _, rfl, by omega, by omega, by omega, rfl, by go_num, H9, D8⟩
            case measure => simp [intOf]; omega
          · rcases CASE.out with hc | hc
            · have hmn : ∀ W : World, Sem.run Try.prog (Builtin.min_ #[3, 3] 3 #[.int .i64 m, .int .i64 b.p]) W = .ok (.int .i64 b.p) W := fun W => by
                have : (if b.p < m then b.p else m) = b.p := if_pos hc
                simp [Builtin.min_, Builtin.min2, List.foldlM, Sem.run_pure, hc]
              go_wp2_with (at_builtin; refine wpList_append_own _ rfl _ _ 25 rfl W4.heap.size 32 i0 (.agg #[.int .i64 0, .int .i64 0, .int .i64 0, .int .i64 0, .bool false]) 5 40 Try.underlying25 HBI.out HB0.out HB1.out HB2.out rfl (by decide) _ _ _ rfl (OW6.out.alloc _) ⟨_, 0, none⟩ 1 1 [.int .i64 b.i, .int .i64 b.g, .int .i64 b.c, .int .i64 2, .bool b.d] rfl rfl (fun j u hu => HCN.out j u hu) (by simp [Value.oneCell']) (by unfold maxLen; omega) (by omega) (by simp [World.setCell]; omega) ?_; intro v' w8 hown8 hgrow8 _)
              have hb8 : Below W4.heap.size ((W5.setCell ⟨B5, 3, none⟩ (.int .i64 2)).alloc (.cells #[.int .i64 b.i, .int .i64 b.g, .int .i64 b.c, .int .i64 2, .bool b.d] 32)) w8 := own_below hgrow8 (by simp [World.setCell]; omega) (fun k hk => (own_lt OW6.out k hk).1)
              have D8 := Lib.hid (DR.out.trans ((HB5.out.trans (((Below.refl W4.heap.size W5).setCell (p := ⟨B5, 3, none⟩) hB5n _).alloc (by simp [World.setCell]; omega) (.cells #[.int .i64 b.i, .int .i64 b.g, .int .i64 b.c, .int .i64 2, .bool b.d] 32))).trans hb8))
              have hown9 : w8.ownsRow W4.heap.size 32 5 v' ((samePt l).take (k + 1)).length (rowB ((samePt l).take (k + 1))) := by
                rw [samePt_take_len (by have := HNL.out; omega), HTK.out, rowB_app]
                exact hown8
              have H9 := Lib.hid hown9
              clear hown8 hgrow8 hb8 hown9
              go_wp2_with fail
              go_roundw
              case rel => exact ⟨k + 1, b.p, _, rfl, by omega, by omega, by omega, rfl, by go_num, H9, D8⟩
              case measure => simp [intOf]; omega
            · have hmn : ∀ W : World, Sem.run Try.prog (Builtin.min_ #[3, 3] 3 #[.int .i64 m, .int .i64 b.p]) W = .ok (.int .i64 m) W := fun W => by
                have hc' : ¬ b.p < m := by omega
                simp [Builtin.min_, Builtin.min2, List.foldlM, Sem.run_pure, hc']
              go_wp2_with (at_builtin; refine wpList_append_own _ rfl _ _ 25 rfl W4.heap.size 32 i0 (.agg #[.int .i64 0, .int .i64 0, .int .i64 0, .int .i64 0, .bool false]) 5 40 Try.underlying25 HBI.out HB0.out HB1.out HB2.out rfl (by decide) _ _ _ rfl (OW6.out.alloc _) ⟨_, 0, none⟩ 1 1 [.int .i64 b.i, .int .i64 b.g, .int .i64 b.c, .int .i64 2, .bool b.d] rfl rfl (fun j u hu => HCN.out j u hu) (by simp [Value.oneCell']) (by unfold maxLen; omega) (by omega) (by simp [World.setCell]; omega) ?_; intro v' w8 hown8 hgrow8 _)
              have hb8 : Below W4.heap.size ((W5.setCell ⟨B5, 3, none⟩ (.int .i64 2)).alloc (.cells #[.int .i64 b.i, .int .i64 b.g, .int .i64 b.c, .int .i64 2, .bool b.d] 32)) w8 := own_below hgrow8 (by simp [World.setCell]; omega) (fun k hk => (own_lt OW6.out k hk).1)
              have D8 := Lib.hid (DR.out.trans ((HB5.out.trans (((Below.refl W4.heap.size W5).setCell (p := ⟨B5, 3, none⟩) hB5n _).alloc (by simp [World.setCell]; omega) (.cells #[.int .i64 b.i, .int .i64 b.g, .int .i64 b.c, .int .i64 2, .bool b.d] 32))).trans hb8))
              have hown9 : w8.ownsRow W4.heap.size 32 5 v' ((samePt l).take (k + 1)).length (rowB ((samePt l).take (k + 1))) := by
                rw [samePt_take_len (by have := HNL.out; omega), HTK.out, rowB_app]
                exact hown8
              have H9 := Lib.hid hown9
              clear hown8 hgrow8 hb8 hown9
              go_wp2_with fail
              go_roundw
              case rel => exact ⟨k + 1, m, _, rfl, by omega, by omega, by omega, rfl, by go_num, H9, D8⟩
              case measure => simp [intOf]; omega
        · obtain rfl : k = N := by omega
          have y := YK.out wr ER.out
          have hsl := samePt_take_len (l := l) (k := k) (by have := HNL.out; omega)
          have hsame : (samePt l).take k = samePt l := List.take_of_length_le (by rw [samePt_len]; have := HNL.out; omega)
          have hown := OW.out
          rw [hsame] at hown
          have HSM := Lib.hid (NewBx.of_own hown).holds
          obtain ⟨sa, sc, rfl⟩ : ∃ a c, s9 = .slice a (samePt l).length c := by obtain ⟨a, c, e, _⟩ := HSM.out; exact ⟨a, c, e⟩
          have HAk := Lib.hid fun (w' : World) (hs : Since wr w') => HAP.out m hm0 hm6 w' (BK.out _ (ER.out.trans (Below.mono hs ER.out.size))) (PK.out _ (ER.out.trans (Below.mono hs ER.out.size)))
          have HOk := Lib.hid fun (v' : Value) (w' : World) (hs : Since wr w') (hq : HoldsI w' v' (aftO h l p m)) => HOV.out m hm0 hm6 v' w' (BK.out _ (ER.out.trans (Below.mono hs ER.out.size))) hq
          obtain ⟨ha0, ha1⟩ := HAX.out m hm0 hm6
          have hSM := Lib.hid fun (w' : World) (hs : Since wr w') => HOS.out _ w' (HSM.out.keep hs) (PK.out _ (ER.out.trans (Below.mono hs ER.out.size)))
          generalize overO h l (aftO h l p m) = av at HOk ha0 ha1
          have HK := Lib.hid fun (w' : World) (hs : Since wr w') => (show w'.cell? ⟨Y, 0, none⟩ = some (.int .i64 h.b) ∧ w'.cell? ⟨Y, 1, none⟩ = some (.int .i64 h.r) ∧ w'.cell? ⟨Y, 2, none⟩ = some (.int .i64 h.t) ∧ Since wr w' from ⟨(y.keep hs).c0, (y.keep hs).c1, (y.keep hs).c2, hs⟩)
          have hstart := HK.out _ (show Since wr wr.drew from (Below.refl _ _).drew)
          have ikN : decide ((k : Int) < (k : Int)) = false := decide_eq_false (by omega)
          clear y hown hsl hsame OW
          go_wp2_with fail
          go_region_held3 (fun w' => w'.cell? ⟨Y, 0, none⟩ = some (.int .i64 h.b) ∧ w'.cell? ⟨Y, 1, none⟩ = some (.int .i64 h.r) ∧ w'.cell? ⟨Y, 2, none⟩ = some (.int .i64 h.t) ∧ Since wr w')
            (first | exact hstart | exact HK.out _ s6 | exact HK.out _ s5 | exact HK.out _ (by exact (‹_ ∧ _› : _ ∧ _ ∧ _ ∧ Since wr _).2.2.2) | fail)
            (first
              | (go_at_call 16; ((with_reducible refine (HAk.out _ (by exact (‹_ ∧ _› : _ ∧ _ ∧ _ ∧ Since wr _).2.2.2)).mono ?_); rintro e w5 ⟨vt, rfl, gt, d5⟩; have s5 : Since wr w5 := Since.call (by exact (‹_ ∧ _› : _ ∧ _ ∧ _ ∧ Since wr _).2.2.2) d5; have gt2 := Lib.hid gt.holds; clear d5 gt))
              | (go_at_call 12; ((with_reducible refine (HOk.out _ _ s5 gt2.out).mono ?_); rintro e w6 ⟨rfl, d6⟩; have s6 : Since wr w6 := Since.call s5 d6; clear d6))
              | fail)
          rename_i hheld
          have hS9 := hheld.2.2.2
          have HOS9 := Lib.hid (hSM.out _ hS9)
          have E9 := ER.out.trans (Below.mono hS9 ER.out.size)
          have y9 := YK.out _ E9
          have k0 := y9.c0
          have k1 := y9.c1
          have k2 := y9.c2
          have CE := Lib.hid fun (w' : World) (hs : Below _ _ w') => CK.out w' (E9.trans (hs.mono E9.size))
          have hav : decide (av ≥ 0) = true := decide_eq_true ha0
          have hav2 : decide (0 ≤ av) = true := decide_eq_true ha0
          have hax : decide (av ≤ x) = true := decide_eq_true ha1
          clear hheld hstart y9 hS9
          go_wp2_with fail
          refine HOS9.out.mono ?_
          rintro e w8 ⟨rfl, d8⟩
          have C9 := CE.out _ d8
          go_wp2_with fail
          go_ret
          exact ⟨rfl, C9⟩

set_option maxRecDepth 100000 in
set_option maxHeartbeats 2000000 in
/-- What the walk gives, for every argument. -/
theorem contract (H : Type) (enc : TypeId × Value → H) (W : World) (base : Nat) (args : Array Value) (ds gs : List (DataW H)) (before : List MemPlace)
    (hval : ∀ (j : Nat) t v, Try.f3.params[j]? = some t → args[j]? = some v → Value.okWide Try.prog W .any base t v)
    (hW : DataW.Whole enc Try.prog Try.f3.params.toList Rows.fnOverstowsSpec.vars false W args.toList ds gs before) :
    Calls Try.prog 3 args W fun e W' => ∃ v, e = .returned v ∧ Rows.fnOverstowsSpec.post enc Try.prog Try.f3 false true false false W args v W' := by
  have hW' := hW
  obtain ⟨p, q, hA0, hV, rfl, hfz, hnd⟩ := hW
  have hA : DataW.TrodAll enc Try.prog W 0 (fun _ => true) true Try.f3.params.toList args.toList ds p := hA0
  rw [Try.params3] at hA hval
  obtain ⟨v0, vs0, d0, ds0, p0, q0, hargs, rfl, rfl, h0, r0⟩ := trodAll_cons hA
  obtain ⟨rfl, rfl, rfl⟩ := trodAll_nil r0
  obtain rfl : args = #[v0] := by cases args; simp_all
  obtain ⟨rfl, rfl⟩ := trodVars_none hV
  have k0 := h0
  have lt0 : ∀ x ∈ p0, x.block < W.heap.size := by obtain ⟨m, hm⟩ := k0; exact DataW.trod_lt m _ _ _ hm
  obtain ⟨a0, len0, cap0, rfl⟩ := okWide_slice Try.underlying22 (hval 0 22 v0 rfl rfl)
  obtain ⟨z0, x0⟩ : ∃ zs, IsRow .u8 W a0 len0 cap0 zs := by
    obtain ⟨fuel, hf⟩ := h0
    rcases open_ints Try.underlying22 Try.underlying5 (by kernel_rfl) hf with ⟨hcs, _⟩ | ⟨x, l, c, zs, hcs, _, hl, hm, hz, _, hcell, hwz⟩
    · simp [Value.cells] at hcs
      obtain ⟨rfl, rfl, rfl⟩ := hcs
      exact ⟨[], .inl ⟨rfl, rfl, rfl, rfl⟩⟩
    · simp [Value.cells] at hcs
      obtain ⟨rfl, rfl, rfl⟩ := hcs
      exact ⟨zs, .inr ⟨_, rfl, hl, hm, by simpa using hz, hcell, hwz⟩⟩
  clear hA0
  refine (walk a0 len0 cap0 W (row8_of x0)).mono fun e W' ⟨he, bel⟩ => ?_
  subst he
  exact ⟨_, rfl, _, _, _, [], _, [], hW', trodAll_mk1 (shut_bool Try.underlying4 _), (trodAll_cons_mk (Below.trod laidOut (by kernel_rfl) (of_decide_eq_true (by kernel_rfl)) k0 bel lt0) trodAll_mk0), rfl, bel.frame _, fun h => by cases h⟩

set_option maxRecDepth 100000 in
theorem lifted (os : Os) (started : os.Started) (H : Type) (enc : TypeId × Value → H) :
    ReturnsInHanded {} Try.checked os 3 .any (Rows.fnOverstowsSpec.pre6 enc Try.prog Try.f3 Rows.fnOverstowsRow.domain false) (Rows.fnOverstowsSpec.post enc Try.prog Try.f3 false true false false) := by
  refine returnsInHanded_of_change (C := Try.checked) own started (by kernel_rfl) Try.func3
    (ChangeSpec.witness6 (enc := enc) (C := Try.checked) false ⟨#[], #[.slice none 0 0], []⟩ 8 (by kernel_rfl) (by kernel_rfl) (by kernel_rfl) (by kernel_rfl)) ?_
  intro W base args ds gs before hval hW _ _
  exact contract H enc W base args ds gs before hval hW

theorem proved : Rows.FnOverstowsSaid :=
  OpenClaim.holds_of_wide 3 Try.f3 rfl rfl rfl rfl rfl rfl rfl ⟨rfl, rfl, rfl, rfl, rfl⟩ rfl rfl rfl rfl rfl (by kernel_rfl) Try.func3 (by kernel_rfl)
    (of_decide_eq_true (by kernel_rfl)) (by unfold Func.isWrapper; first | (rw [if_pos (by decide +kernel)]; kernel_rfl) | (rw [if_neg (by decide +kernel)]; exact ⟨rfl, rfl⟩))
    (fun os started H enc _ => lifted os started H enc)
#print axioms proved
end Go.Proofs.Ytmgnbkiphdlooaa.fnOverstows
