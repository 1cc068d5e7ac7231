/-
  For every code of bytes the law on OnLighter (the model's answer; none of these slots is the lowest one; with all boxes of one weight there are none) returns true and leaves its argument as it was. Conditions: none beyond the form's own reach.
-/
import Derived.Test.YtmgnbkiphdlooabRows
import Derived.Test.YtmgnbkiphdlooabGBase
import Derived.WalkKit
import Derived.ProofKit
import Derived.OpenShut
import Derived.ShutString
import Derived.ChangeOld
import Derived.Below
import Derived.Test.YtmgnbkiphdlooabGCr
import Derived.Test.YtmgnbkiphdlooabWtW
import Derived.Test.YtmgnbkiphdlooabRwMath2
import Derived.Test.YtmgnbkiphdlooabRwS
import Derived.Test.YtmgnbkiphdlooabRwI
import Derived.Test.YtmgnbkiphdlooabGPn
import Derived.Test.YtmgnbkiphdlooabGPl
import Derived.Test.YtmgnbkiphdlooabGPs
import Derived.Test.YtmgnbkiphdlooabSkMath
import Derived.Test.YtmgnbkiphdlooabGSl
import Derived.Test.YtmgnbkiphdlooabGDr
import Derived.Test.YtmgnbkiphdlooabGBx
namespace Go.Proofs.Ytmgnbkiphdlooab.fnOnLighter
open Go.ChangeShapes Go.WideShapes Go.ChangeAt Go.RowKit
open Go.ChangeMaps (open_string shut_string)
set_option linter.unusedVariables false


/-- What the walk is told of a slice of integers that came in. -/
def IsRow (k : IntKind) (w : World) (a : Option Addr) (len cap : Nat) (zs : List Int) : Prop :=
  (a = none ∧ len = 0 ∧ cap = 0 ∧ zs = []) ∨
  ∃ x, a = some x ∧ len ≤ cap ∧ cap ≤ maxLen ∧ zs.length = cap ∧ (∀ i, i < zs.length → w.cell? (x.add i) = some (.int k (zs.getD i 0))) ∧ ∀ n ∈ zs, (Lit.int k n).wf = true

theorem sameWt_take {l : List Bx} {k : Nat} (hk : k < l.length) : (sameWt l).take (k + 1) = (sameWt l).take k ++ [{ l[k] with g := 9 }] := by
  rw [List.take_add_one, List.getElem?_eq_getElem (show k < (sameWt l).length by rw [sameWt_len]; exact hk), sameWt_at hk]
  rfl
theorem sameWt_take_len {l : List Bx} {k : Nat} (hk : k ≤ l.length) : ((sameWt l).take k).length = k := by rw [List.length_take, sameWt_len]; omega
theorem light_below {h : Hl} {l : List Bx} {p : List Int} (hok : plOk h (bxsOk l) (bxIds l) p = true) {j : Nat} (hj : j < (lightO h l p).length) : 0 ≤ slBelow h ((lightO h l p).getD j 0) := by
  obtain ⟨k, h1, h2, h3⟩ := (lightO_law hok).1 j hj
  obtain ⟨R, q1, q2, q3⟩ := rows_pl hok
  rw [h3, slBelow_val (plOk_iff.1 hok).1 (by omega) (by have := (plOk_iff.1 hok).2.2.1; omega), ← q1, if_neg (by omega)]
  have : k ≠ 0 := fun e => h2 (by rw [e]; simp)
  omega
theorem light_asc {h : Hl} {l : List Bx} {p : List Int} (hok : plOk h (bxsOk l) (bxIds l) p = true) : ∀ k, k + 1 < (lightO h l p).length → (lightO h l p).getD k 0 < (lightO h l p).getD (k + 1) 0 := by
  intro k hk
  have := List.pairwise_iff_getElem.1 (lightO_law hok).2.1 k (k + 1) (by omega) hk (by omega)
  rw [List.getD_eq_getElem?_getD, List.getElem?_eq_getElem (by omega), Option.getD_some, List.getD_eq_getElem?_getD, List.getElem?_eq_getElem hk, Option.getD_some]
  exact this
set_option maxRecDepth 10000 in
set_option maxHeartbeats 4000000 in
theorem walk (a0 : Option Addr) (len0 cap0 : Nat) (w : World) (w0 : IsRow8 w a0 len0 cap0) :
    Calls Try.prog 5 #[.slice a0 len0 cap0] w fun e w' => e = .returned (.bool true) ∧ Below w.heap.size w w' := by
  have hm := row8_len w0
  unfold maxLen at hm
  by_cases hl : ¬ len0 ≤ 1048576
  · go_enter Try.func5, Try.ntmps5
    go_wp2
    go_ret
    exact ⟨rfl, Below.refl _ _⟩
  · have hl := Nat.not_lt.1 (fun h => hl (Nat.not_le.2 h))
    go_enter Try.func5, Try.ntmps5
    go_wp2_with fail
    refine (drawOnLighter_any a0 len0 cap0 w w0).mono ?_
    rintro e w1 ⟨h, l, p, u, v, hl40, hp40, he, NB, OW, hb⟩
    have he' : e = .returned (.tuple #[.agg #[.int .i64 h.b, .int .i64 h.r, .int .i64 h.t], u, v]) := he
    subst he'
    clear he w0
    have hu := NB.holds
    have hv := OW.holds
    clear NB OW
    obtain ⟨ua, uc, rfl⟩ : ∃ a c, u = .slice a l.length c := by obtain ⟨a, c, e, _⟩ := hu; exact ⟨a, c, e⟩
    obtain ⟨va, vc, rfl⟩ := hv.form
    have b2 : Below w1.heap.size w1 (w1.alloc (.cells #[.int .i64 h.b, .int .i64 h.r, .int .i64 h.t] 24)) := (Below.refl _ _).alloc (Nat.le_refl _) _
    have y2 := BoxH.new w1 h
    have C2 := hb.trans (b2.mono hb.size)
    have hu := hu.keep b2
    have hv := hv.keep b2
    generalize hW2 : w1.alloc (.cells #[.int .i64 h.b, .int .i64 h.r, .int .i64 h.t] 24) = W2 at b2 y2 C2 hu hv
    have HW2 := Lib.hid hW2
    clear hW2 b2 hb
    have BK := Lib.hid fun (w' : World) (hs : Below W2.heap.size W2 w') => hu.keep hs
    have PK := Lib.hid fun (w' : World) (hs : Below W2.heap.size W2 w') => hv.keep hs
    have CK := Lib.hid fun (w' : World) (hs : Below W2.heap.size W2 w') => C2.trans (hs.mono C2.size)
    have e2 : Below W2.heap.size W2 W2 := Below.refl _ _
    have k0 := y2.c0
    have k1 := y2.c1
    have k2 := y2.c2
    clear hu hv C2
    have HI := Lib.hid fun (w' : World) (hb : HoldsBx w' (.slice ua l.length uc) l) (hp : HoldsI w' (.slice va p.length vc) p) => implOnLighter_any h _ _ l p w' hb hp
    have HS := Lib.hid fun (w' : World) (hb : HoldsBx w' (.slice ua l.length uc) l) (hp : HoldsI w' (.slice va p.length vc) p) => specOnLighter_any h _ _ l p w' hb hp
    have HSV := Lib.hid fun (w' : World) (hb : HoldsBx w' (.slice ua l.length uc) l) (hp : HoldsI w' (.slice va p.length vc) p) => specPlanValid_any h _ _ l p w' hb hp
    cases hok : plOk h (bxsOk l) (bxIds l) p
    · have e0 : lightO h l p = [] := lightO_bad hok
      rw [e0] at HI HS
      rw [hok] at HSV
      clear hok e0
      go_wp2_with fail
      rw [HW2.out]
      generalize w1.heap.size = Y at y2 k0 k1 k2
      have YK := Lib.hid fun (w' : World) (hs : Below W2.heap.size W2 w') => y2.keep hs
      clear HW2 y2
      go_wp2_with fail
      refine (HI.out W2 (BK.out _ e2) (PK.out _ e2)).mono ?_
      rintro e W3 ⟨vi, rfl, g, d⟩
      have e3 := e2.trans (d.mono e2.size)
      clear k0 k1 k2
      have k0 := (YK.out _ e3).c0
      have k1 := (YK.out _ e3).c1
      have k2 := (YK.out _ e3).c2
      clear d e2
      have gi := g.holds
      obtain ⟨ia, ic, rfl⟩ := gi.form
      clear g
      go_wp2_with fail
      refine (HS.out W3 (BK.out _ e3) (PK.out _ e3)).mono ?_
      rintro e W4 ⟨vs, rfl, gs, d⟩
      have e4 := e3.trans (d.mono e3.size)
      have gi := gi.keep d
      clear k0 k1 k2
      have k0 := (YK.out _ e4).c0
      have k1 := (YK.out _ e4).c1
      have k2 := (YK.out _ e4).c2
      clear d e3
      have gs := gs.holds
      go_wp2_with fail
      refine (sameInts_yes _ vs [] W4 gi gs).mono ?_
      rintro e W5 ⟨rfl, d⟩
      have e5 := e4.trans (d.mono e4.size)
      have gi := gi.keep d
      clear k0 k1 k2
      have k0 := (YK.out _ e5).c0
      have k1 := (YK.out _ e5).c1
      have k2 := (YK.out _ e5).c2
      clear d e4
      clear gs
      go_wp2_with fail
      refine (HSV.out W5 (BK.out _ e5) (PK.out _ e5)).mono ?_
      rintro e W6 ⟨rfl, d⟩
      have e6 := e5.trans (d.mono e5.size)
      have gi := gi.keep d
      clear k0 k1 k2
      have k0 := (YK.out _ e6).c0
      have k1 := (YK.out _ e6).c1
      have k2 := (YK.out _ e6).c2
      clear d e5
      go_wp2_with fail
      refine (alive_yes _).mono ?_
      rintro e w' ⟨rfl, rfl⟩
      go_wp2_with fail
      go_ret
      exact ⟨rfl, CK.out _ e6⟩
    · have HSB := Lib.hid fun (x : Int) (w' : World) => implSlotBelow_any h x w'
      have HBL := Lib.hid fun j (hj : j < (lightO h l p).length) => light_below hok hj
      have HAS := Lib.hid (light_asc hok)
      have hL40 : (lightO h l p).length ≤ 40 := Nat.le_trans (lightO_law hok).2.2 hp40
      have HOS := Lib.hid fun (u' : Value) (w' : World) (hb : HoldsBx w' u' (sameWt l)) (hp : HoldsI w' (.slice va p.length vc) p) => (show Calls Try.prog 22 #[.agg #[.int .i64 h.b, .int .i64 h.r, .int .i64 h.t], u', .slice va p.length vc] w' fun e w2 => ∃ v', e = .returned v' ∧ FreeE w'.heap.size w2 v' [] ∧ Below w'.heap.size w' w2 from by
        have := implOnLighter_any h u' (.slice va p.length vc) (sameWt l) p w' hb hp
        rw [lightO_same hok] at this
        exact this)
      rw [hok] at HSV
      generalize lightO h l p = L at HI HS HBL HAS hL40
      clear hok
      go_wp2_with fail
      rw [HW2.out]
      generalize w1.heap.size = Y at y2 k0 k1 k2
      have YK := Lib.hid fun (w' : World) (hs : Below W2.heap.size W2 w') => y2.keep hs
      clear HW2 y2
      go_wp2_with fail
      refine (HI.out W2 (BK.out _ e2) (PK.out _ e2)).mono ?_
      rintro e W3 ⟨vi, rfl, g, d⟩
      have e3 := e2.trans (d.mono e2.size)
      clear k0 k1 k2
      have k0 := (YK.out _ e3).c0
      have k1 := (YK.out _ e3).c1
      have k2 := (YK.out _ e3).c2
      clear d e2
      have gi := g.holds
      obtain ⟨ia, ic, rfl⟩ := gi.form
      clear g
      go_wp2_with fail
      refine (HS.out W3 (BK.out _ e3) (PK.out _ e3)).mono ?_
      rintro e W4 ⟨vs, rfl, gs, d⟩
      have e4 := e3.trans (d.mono e3.size)
      have gi := gi.keep d
      clear k0 k1 k2
      have k0 := (YK.out _ e4).c0
      have k1 := (YK.out _ e4).c1
      have k2 := (YK.out _ e4).c2
      clear d e3
      have gs := gs.holds
      go_wp2_with fail
      refine (sameInts_yes _ vs L W4 gi gs).mono ?_
      rintro e W5 ⟨rfl, d⟩
      have e5 := e4.trans (d.mono e4.size)
      have gi := gi.keep d
      clear k0 k1 k2
      have k0 := (YK.out _ e5).c0
      have k1 := (YK.out _ e5).c1
      have k2 := (YK.out _ e5).c2
      clear d e4
      clear gs
      go_wp2_with fail
      refine (HSV.out W5 (BK.out _ e5) (PK.out _ e5)).mono ?_
      rintro e W6 ⟨rfl, d⟩
      have e6 := e5.trans (d.mono e5.size)
      have gi := gi.keep d
      clear k0 k1 k2
      have k0 := (YK.out _ e6).c0
      have k1 := (YK.out _ e6).c1
      have k2 := (YK.out _ e6).c2
      clear d e5
      have EK := Lib.hid e6
      have LK := Lib.hid fun (w' : World) (hs : Below W6.heap.size W6 w') => gi.keep hs
      have own0 : (W6.alloc (.cells #[] 41)).ownsRow W6.heap.size 41 5 (.slice (some ⟨W6.heap.size, 0, none⟩) 0 0) ((sameWt l).take 0).length (rowB ((sameWt l).take 0)) := own_zero (Nat.le_refl _) (heap_alloc_new _ _)
      have OWZ := Lib.hid own0
      have DZ := Lib.hid (show Below W6.heap.size W6 (W6.alloc (.cells #[] 41)) from (Below.refl _ _).alloc (Nat.le_refl _) _)
      obtain ⟨i0, hi, hz0, hz1, hz2⟩ := info_parts infoBox
      have HBI := Lib.hid hi
      have HB0 := Lib.hid hz0
      have HB1 := Lib.hid hz1
      have HB2 := Lib.hid hz2
      obtain ⟨N, hN⟩ : ∃ N, N = l.length := ⟨_, rfl⟩
      have HNL := Lib.hid hN
      have hN40 : N ≤ 40 := by omega
      rw [← hN] at BK ⊢
      clear k0 k1 k2 hN e6 HI HS HSV own0 hi hz0 hz1 hz2 gi
      go_wp2_with fail
      go_loopw [7, 8] (fun sv i wr => ∃ (k : Nat) (s9 : Value), s9 = sv ∧ k ≤ N ∧ i = .int .i64 k ∧ Hid (wr.ownsRow W6.heap.size 41 5 s9 ((sameWt l).take k).length (rowB ((sameWt l).take k))) ∧ Hid (Below W6.heap.size W6 wr)) (fun _ i _ => N - (intOf i).toNat)
      case atStart => exact ⟨0, _, rfl, by omega, rfl, OWZ, DZ⟩
      case round =>
        clear OWZ DZ
        obtain ⟨k, s9, rfl, hkN, rfl, OW, DR⟩ := hrel
        have ER := Lib.hid (EK.out.trans (DR.out.mono EK.out.size))
        by_cases hlt : k < N
        · have hkl : k < l.length := by have := HNL.out; omega
          obtain ⟨bb, bo, rfl, hbbl, hcs⟩ : ∃ bb bo, ua = some ⟨bb, bo, none⟩ ∧ bb < wr.heap.size ∧ ∀ j, j < 5 → wr.cell? ⟨bb, bo + (k * 5 + j), none⟩ = l[k].cells[j]? := by
            obtain ⟨a', c', e', _, _, h4⟩ := BK.out wr ER.out
            simp only [Value.slice.injEq] at e'
            rcases h4 with h4 | ⟨b9, off9, h5, h6, h7⟩
            · have := HNL.out; omega
            · exact ⟨b9, off9, e'.1.trans h5, h6, h7 k hkl⟩
          have HTK2 := Lib.hid (sameWt_take hkl)
          have htl := sameWt_take_len (l := l) (k := k) (by omega)
          generalize l[k] = b at hcs HTK2
          have s0 : wr.cell? ⟨bb, bo + k * 5, none⟩ = some (.int .i64 b.i) := hcs 0 (by omega)
          have s1 : wr.cell? ⟨bb, bo + k * 5 + 1, none⟩ = some (.int .i64 b.g) := hcs 1 (by omega)
          have s2 : wr.cell? ⟨bb, bo + k * 5 + 2, none⟩ = some (.int .i64 b.c) := hcs 2 (by omega)
          have s3 : wr.cell? ⟨bb, bo + k * 5 + 3, none⟩ = some (.int .i64 b.p) := hcs 3 (by omega)
          have s4 : wr.cell? ⟨bb, bo + k * 5 + 4, none⟩ = some (.bool b.d) := hcs 4 (by omega)
          have ik : (k : Int) < (N : Int) := by omega
          have i0k : (0 : Int) ≤ (k : Int) := by omega
          have hwn : W6.heap.size ≤ wr.heap.size := DR.out.size
          have K5 : (wr.alloc (.cells #[.int .i64 b.i, .int .i64 b.g, .int .i64 b.c, .int .i64 b.p, .bool b.d] 41)).heap[wr.heap.size]? = some (.cells #[.int .i64 b.i, .int .i64 b.g, .int .i64 b.c, .int .i64 b.p, .bool b.d] 41 (0, 0)) := heap_alloc_new _ _
          have K6 : (wr.alloc (.cells #[.int .i64 b.i, .int .i64 9, .int .i64 b.c, .int .i64 b.p, .bool b.d] 41)).heap[wr.heap.size]? = some (.cells #[.int .i64 b.i, .int .i64 9, .int .i64 b.c, .int .i64 b.p, .bool b.d] 41 (0, 0)) := heap_alloc_new _ _
          have e1 : (wr.alloc (.cells #[.int .i64 b.i, .int .i64 b.g, .int .i64 b.c, .int .i64 b.p, .bool b.d] 41)).cell? ⟨wr.heap.size, 1, none⟩ = some (.int .i64 b.g) := by simp only [World.cell?, K5]; rfl
          have fz : (wr.alloc (.cells #[.int .i64 b.i, .int .i64 b.g, .int .i64 b.c, .int .i64 b.p, .bool b.d] 41)).frozen? ⟨wr.heap.size, 1, none⟩ = false := by simp only [World.frozen?, K5]; rfl
          have hb6 : Below wr.heap.size wr (wr.alloc (.cells #[.int .i64 b.i, .int .i64 9, .int .i64 b.c, .int .i64 b.p, .bool b.d] 41)) := (Below.refl _ _).alloc (Nat.le_refl _) _
          have d0 : (wr.alloc (.cells #[.int .i64 b.i, .int .i64 9, .int .i64 b.c, .int .i64 b.p, .bool b.d] 41)).cell? ⟨wr.heap.size, 0, none⟩ = some (.int .i64 b.i) := by simp only [World.cell?, K6]; rfl
          have d1 : (wr.alloc (.cells #[.int .i64 b.i, .int .i64 9, .int .i64 b.c, .int .i64 b.p, .bool b.d] 41)).cell? ⟨wr.heap.size, 1, none⟩ = some (.int .i64 9) := by simp only [World.cell?, K6]; rfl
          have d2 : (wr.alloc (.cells #[.int .i64 b.i, .int .i64 9, .int .i64 b.c, .int .i64 b.p, .bool b.d] 41)).cell? ⟨wr.heap.size, 2, none⟩ = some (.int .i64 b.c) := by simp only [World.cell?, K6]; rfl
          have d3 : (wr.alloc (.cells #[.int .i64 b.i, .int .i64 9, .int .i64 b.c, .int .i64 b.p, .bool b.d] 41)).cell? ⟨wr.heap.size, 3, none⟩ = some (.int .i64 b.p) := by simp only [World.cell?, K6]; rfl
          have d4 : (wr.alloc (.cells #[.int .i64 b.i, .int .i64 9, .int .i64 b.c, .int .i64 b.p, .bool b.d] 41)).cell? ⟨wr.heap.size, 4, none⟩ = some (.bool b.d) := by simp only [World.cell?, K6]; rfl
          have hsz6 : (wr.alloc (.cells #[.int .i64 b.i, .int .i64 9, .int .i64 b.c, .int .i64 b.p, .bool b.d] 41)).heap.size = wr.heap.size + 1 := by simp
          have OW6 := Lib.hid (own_keep OW.out (w' := (wr.alloc (.cells #[.int .i64 b.i, .int .i64 9, .int .i64 b.c, .int .i64 b.p, .bool b.d] 41))) (fun j hj1 hj2 => hb6.block j hj2))
          rw [htl] at OW6
          have HW6 := Lib.hid (hb6.mono hwn)
          have HCN := Lib.hid (show ∀ (j : Nat) (u : Value), ([.int .i64 b.i, .int .i64 9, .int .i64 b.c, .int .i64 b.p, .bool b.d] : List Value)[j]? = some u → ((wr.alloc (.cells #[.int .i64 b.i, .int .i64 9, .int .i64 b.c, .int .i64 b.p, .bool b.d] 41)).alloc (.cells #[.int .i64 b.i, .int .i64 9, .int .i64 b.c, .int .i64 b.p, .bool b.d] 41)).cell? ((⟨wr.heap.size + 1, 0, none⟩ : Addr).add j) = some u from fun j u hu => by rw [← hsz6]; exact cells_new j u hu)
          have HS6 := Lib.hid hsz6
          clear hcs K5 K6 hb6 hsz6
          go_wp2_with (at_builtin; refine wpList_append_own _ rfl _ _ 25 rfl W6.heap.size 41 i0 (.agg #[.int .i64 0, .int .i64 0, .int .i64 0, .int .i64 0, .bool false]) 5 40 Try.underlying25 HBI.out HB0.out HB1.out HB2.out rfl (by decide) _ _ _ rfl (OW6.out.alloc _) ⟨_, 0, none⟩ 1 1 [.int .i64 b.i, .int .i64 9, .int .i64 b.c, .int .i64 b.p, .bool b.d] rfl rfl (fun j u hu => HCN.out j u hu) (by simp [Value.oneCell']) (by unfold maxLen; omega) (by omega) (by simp; omega) ?_; intro v' w8 hown8 hgrow8 _)
          have hb8 : Below W6.heap.size ((wr.alloc (.cells #[.int .i64 b.i, .int .i64 9, .int .i64 b.c, .int .i64 b.p, .bool b.d] 41)).alloc (.cells #[.int .i64 b.i, .int .i64 9, .int .i64 b.c, .int .i64 b.p, .bool b.d] 41)) w8 := own_below hgrow8 (by simp; omega) (fun k hk => (own_lt OW6.out k hk).1)
          have D8 := Lib.hid (DR.out.trans ((HW6.out.alloc (by rw [HS6.out]; omega) (.cells #[.int .i64 b.i, .int .i64 9, .int .i64 b.c, .int .i64 b.p, .bool b.d] 41)).trans hb8))
          have hown9 : w8.ownsRow W6.heap.size 41 5 v' ((sameWt l).take (k + 1)).length (rowB ((sameWt l).take (k + 1))) := by
            rw [sameWt_take_len (by have := HNL.out; omega), HTK2.out, rowB_app]
            exact hown8
          have H9 := Lib.hid hown9
          clear hown8 hgrow8 hb8 hown9
          go_wp2_with fail
          go_roundw
          case rel => exact ⟨k + 1, _, rfl, by omega, by go_num, H9, D8⟩
          case measure => simp [intOf]; omega
        · obtain rfl : k = N := by omega
          have hsl := sameWt_take_len (l := l) (k := k) (by have := HNL.out; omega)
          have hsame : (sameWt l).take k = sameWt l := List.take_of_length_le (by rw [sameWt_len]; have := HNL.out; omega)
          have hown := OW.out
          rw [hsame] at hown
          have HSM0 := (NewBx.of_own hown).holds
          obtain ⟨sa, sc, rfl⟩ : ∃ a c, s9 = .slice a (sameWt l).length c := by obtain ⟨a, c, e, _⟩ := HSM0; exact ⟨a, c, e⟩
          have HOSk := Lib.hid fun (w' : World) (hs : Below W2.heap.size W2 w') (hb : HoldsBx w' (.slice sa (sameWt l).length sc) (sameWt l)) => HOS.out _ w' hb (PK.out _ hs)
          rw [sameWt_len, ← HNL.out] at HSM0 HOSk ⊢
          obtain ⟨wh, hwh⟩ : ∃ wh, wh = wr := ⟨_, rfl⟩
          rw [← hwh] at HSM0 ER
          have HSM := Lib.hid fun (w' : World) (hs : Below wh.heap.size wh w') => HSM0.keep hs
          have EW := Lib.hid ER.out
          have LW := Lib.hid fun (w' : World) (hs : Below wh.heap.size wh w') => LK.out w' (DR.out.trans (by rw [hwh] at hs; exact hs.mono DR.out.size))
          have BZ := Lib.hid (show Below wh.heap.size wh wr by rw [hwh]; exact Below.refl _ _)
          obtain ⟨K, hK⟩ : ∃ K, K = L.length := ⟨_, rfl⟩
          have HKL := Lib.hid hK
          have hK40 : K ≤ 40 := by omega
          rw [← hK] at LW HBL ⊢
          clear hown hsame hsl HSM0 hwh hK OW DR ER EK LK
          go_wp2_with fail
          go_loopw [10] (fun i wr => ∃ k : Nat, k ≤ K ∧ i = .int .i64 k ∧ Hid (Below wh.heap.size wh wr)) (fun i _ => K - (intOf i).toNat)
          case atStart => exact ⟨0, by omega, rfl, BZ⟩
          case round =>
            clear BZ
            obtain ⟨k, hk2, rfl, BR⟩ := hrel
            have ER := Lib.hid (EW.out.trans (BR.out.mono EW.out.size))
            have y := YK.out wr ER.out
            by_cases hltk : k < K
            · obtain ⟨lb, lo, rfl, hlbl, t0⟩ := (LW.out wr BR.out).at_ hltk
              have hbl := HBL.out k hltk
              obtain ⟨x, hx⟩ : ∃ x, x = L.getD k 0 := ⟨_, rfl⟩
              rw [← hx] at t0 hbl
              have HSk := Lib.hid fun (w' : World) => HSB.out x w'
              obtain ⟨z, hz⟩ : ∃ z, z = slBelow h x := ⟨_, rfl⟩
              rw [← hz] at hbl HSk
              have z0 : decide (z < 0) = false := decide_eq_false (by omega)
              have ik : (k : Int) < (K : Int) := by omega
              have i0k : (0 : Int) ≤ (k : Int) := by omega
              have HK := Lib.hid fun (w' : World) (hs : Since wr w') => (show w'.cell? ⟨Y, 0, none⟩ = some (.int .i64 h.b) ∧ w'.cell? ⟨Y, 1, none⟩ = some (.int .i64 h.r) ∧ w'.cell? ⟨Y, 2, none⟩ = some (.int .i64 h.t) ∧ w'.cell? ⟨lb, lo + k, none⟩ = some (.int .i64 x) ∧ Since wr w' from ⟨(y.keep hs).c0, (y.keep hs).c1, (y.keep hs).c2, (Below.cell hs (p := ⟨lb, lo + k, none⟩) hlbl).trans t0, hs⟩)
              have hstart := HK.out _ (show Since wr wr.drew from (Below.refl _ _).drew)
              clear y hx hz hbl t0
              go_wp2_with fail
              go_region_held3 (fun w' => w'.cell? ⟨Y, 0, none⟩ = some (.int .i64 h.b) ∧ w'.cell? ⟨Y, 1, none⟩ = some (.int .i64 h.r) ∧ w'.cell? ⟨Y, 2, none⟩ = some (.int .i64 h.t) ∧ w'.cell? ⟨lb, lo + k, none⟩ = some (.int .i64 x) ∧ Since wr w')
                (first | exact hstart | exact HK.out _ s5 | exact HK.out _ (by exact (‹_ ∧ _› : _ ∧ _ ∧ _ ∧ _ ∧ Since wr _).2.2.2.2) | fail)
                (first
                  | (go_at_call 25; ((with_reducible refine (HSk.out _).mono ?_); rintro e w5 ⟨rfl, d5⟩; have s5 : Since wr w5 := Since.call (by exact (‹_ ∧ _› : _ ∧ _ ∧ _ ∧ _ ∧ Since wr _).2.2.2.2) d5; clear d5))
                  | fail)
              rename_i hheld
              have BR8 := Lib.hid (BR.out.trans (Below.mono hheld.2.2.2.2 BR.out.size))
              clear hheld hstart
              go_wp2_with fail
              go_roundw
              case rel => exact ⟨k + 1, by omega, by go_num, BR8⟩
              case measure => simp [intOf]; omega
            · obtain rfl : k = K := by omega
              have hll := LW.out wr BR.out
              have HSC := Lib.hid fun (w' : World) (hs : Below wr.heap.size wr w') => HSM.out w' (BR.out.trans (hs.mono BR.out.size))
              have HEC := Lib.hid fun (w' : World) (hs : Below wr.heap.size wr w') => ER.out.trans (hs.mono ER.out.size)
              have HAC := Lib.hid (ascendP_yes _ L wr hll HAS.out)
              clear y hll
              go_wp2_with fail
              refine HAC.out.mono ?_
              rintro e w5 ⟨rfl, d5⟩
              have e5 := HEC.out w5 d5
              have y5 := YK.out w5 e5
              have k0 := y5.c0
              have k1 := y5.c1
              have k2 := y5.c2
              have HO5 := Lib.hid (HOSk.out w5 e5 (HSC.out w5 d5))
              have E5 := Lib.hid e5
              clear y5 e5 d5
              go_wp2_with fail
              refine HO5.out.mono ?_
              rintro e w6 ⟨v6, rfl, g6, d6⟩
              obtain ⟨oa, oc, rfl⟩ := g6.holds.form
              have C9 := CK.out _ (E5.out.trans (d6.mono E5.out.size))
              go_wp2_with fail
              go_ret
              exact ⟨rfl, C9⟩

set_option maxRecDepth 100000 in
set_option maxHeartbeats 2000000 in
/-- What the walk gives, for every argument. -/
theorem contract (H : Type) (enc : TypeId × Value → H) (W : World) (base : Nat) (args : Array Value) (ds gs : List (DataW H)) (before : List MemPlace)
    (hval : ∀ (j : Nat) t v, Try.f5.params[j]? = some t → args[j]? = some v → Value.okWide Try.prog W .any base t v)
    (hW : DataW.Whole enc Try.prog Try.f5.params.toList Rows.fnOnLighterSpec.vars false W args.toList ds gs before) :
    Calls Try.prog 5 args W fun e W' => ∃ v, e = .returned v ∧ Rows.fnOnLighterSpec.post enc Try.prog Try.f5 false true false false W args v W' := by
  have hW' := hW
  obtain ⟨p, q, hA0, hV, rfl, hfz, hnd⟩ := hW
  have hA : DataW.TrodAll enc Try.prog W 0 (fun _ => true) true Try.f5.params.toList args.toList ds p := hA0
  rw [Try.params5] at hA hval
  obtain ⟨v0, vs0, d0, ds0, p0, q0, hargs, rfl, rfl, h0, r0⟩ := trodAll_cons hA
  obtain ⟨rfl, rfl, rfl⟩ := trodAll_nil r0
  obtain rfl : args = #[v0] := by cases args; simp_all
  obtain ⟨rfl, rfl⟩ := trodVars_none hV
  have k0 := h0
  have lt0 : ∀ x ∈ p0, x.block < W.heap.size := by obtain ⟨m, hm⟩ := k0; exact DataW.trod_lt m _ _ _ hm
  obtain ⟨a0, len0, cap0, rfl⟩ := okWide_slice Try.underlying22 (hval 0 22 v0 rfl rfl)
  obtain ⟨z0, x0⟩ : ∃ zs, IsRow .u8 W a0 len0 cap0 zs := by
    obtain ⟨fuel, hf⟩ := h0
    rcases open_ints Try.underlying22 Try.underlying5 (by kernel_rfl) hf with ⟨hcs, _⟩ | ⟨x, l, c, zs, hcs, _, hl, hm, hz, _, hcell, hwz⟩
    · simp [Value.cells] at hcs
      obtain ⟨rfl, rfl, rfl⟩ := hcs
      exact ⟨[], .inl ⟨rfl, rfl, rfl, rfl⟩⟩
    · simp [Value.cells] at hcs
      obtain ⟨rfl, rfl, rfl⟩ := hcs
      exact ⟨zs, .inr ⟨_, rfl, hl, hm, by simpa using hz, hcell, hwz⟩⟩
  clear hA0
  refine (walk a0 len0 cap0 W (row8_of x0)).mono fun e W' ⟨he, bel⟩ => ?_
  subst he
  exact ⟨_, rfl, _, _, _, [], _, [], hW', trodAll_mk1 (shut_bool Try.underlying4 _), (trodAll_cons_mk (Below.trod laidOut (by kernel_rfl) (of_decide_eq_true (by kernel_rfl)) k0 bel lt0) trodAll_mk0), rfl, bel.frame _, fun h => by cases h⟩

set_option maxRecDepth 100000 in
theorem lifted (os : Os) (started : os.Started) (H : Type) (enc : TypeId × Value → H) :
    ReturnsInHanded {} Try.checked os 5 .any (Rows.fnOnLighterSpec.pre6 enc Try.prog Try.f5 Rows.fnOnLighterRow.domain false) (Rows.fnOnLighterSpec.post enc Try.prog Try.f5 false true false false) := by
  refine returnsInHanded_of_change (C := Try.checked) own started (by kernel_rfl) Try.func5
    (ChangeSpec.witness6 (enc := enc) (C := Try.checked) false ⟨#[], #[.slice none 0 0], []⟩ 8 (by kernel_rfl) (by kernel_rfl) (by kernel_rfl) (by kernel_rfl)) ?_
  intro W base args ds gs before hval hW _ _
  exact contract H enc W base args ds gs before hval hW

theorem proved : Rows.FnOnLighterSaid :=
  OpenClaim.holds_of_wide 5 Try.f5 rfl rfl rfl rfl rfl rfl rfl ⟨rfl, rfl, rfl, rfl, rfl⟩ rfl rfl rfl rfl rfl (by kernel_rfl) Try.func5 (by kernel_rfl)
    (of_decide_eq_true (by kernel_rfl)) (by unfold Func.isWrapper; first | (rw [if_pos (by decide +kernel)]; kernel_rfl) | (rw [if_neg (by decide +kernel)]; exact ⟨rfl, rfl⟩))
    (fun os started H enc _ => lifted os started H enc)
#print axioms proved
end Go.Proofs.Ytmgnbkiphdlooab.fnOnLighter
