/-
  The model's PlanPut.
-/
import Derived.Test.YtmgnbkiphdlooabGPl
import Derived.Laws.AppendOwnNone
namespace Go.Proofs.Ytmgnbkiphdlooab
open Go.RowKit
set_option linter.unusedVariables false

set_option maxRecDepth 10000 in
set_option maxHeartbeats 2000000 in
theorem specPlanPut_any (h : Hl) (u v : Value) (l : List Bx) (p : List Int) (s id : Int) (w : World) (hb : HoldsBx w u l) (hp : HoldsI w v p) :
    Calls Try.prog 78 #[.agg #[.int .i64 h.b, .int .i64 h.r, .int .i64 h.t], u, v, .int .i64 s, .int .i64 id] w fun e w' => ∃ v', e = .returned (.tuple #[v', .bool (putP h (bxsOk l) (bxIds l) p s id).2]) ∧ OwnI w.heap.size w' v' (putP h (bxsOk l) (bxIds l) p s id).1 ∧ Below w.heap.size w w' := by
  have hb1 := (Below.refl w.heap.size w).alloc (Nat.le_refl _) (.cells #[.int .i64 h.b, .int .i64 h.r, .int .i64 h.t] 24)
  have hx1 := BoxH.new w h
  obtain ⟨W1, hW1⟩ : ∃ W1, W1 = w.alloc (.cells #[.int .i64 h.b, .int .i64 h.r, .int .i64 h.t] 24) := ⟨_, rfl⟩
  rw [← hW1] at hb1 hx1
  have HW := Lib.hid hW1
  have HB := Lib.hid hb1
  have y0 := hx1.c0
  have y1 := hx1.c1
  have y2 := hx1.c2
  have HX := Lib.hid fun (w' : World) (hs : Below W1.heap.size W1 w') => hx1.keep hs
  have PK := Lib.hid fun (w' : World) (hs : Below w.heap.size w w') => hp.keep hs
  have BK := Lib.hid fun (w' : World) (hs : Below w.heap.size w w') => hb.keep hs
  have HPV := Lib.hid fun (w' : World) (hs : Below w.heap.size w w') => specPlanValid_any h u v l p w' (hb.keep hs) (hp.keep hs)
  have HPV2 := Lib.hid fun v' q (w' : World) (hs : Below w.heap.size w w') (hq : HoldsI w' v' q) => specPlanValid_any h u v' l q w' (hb.keep hs) hq
  obtain ⟨i0, hi, hz0, hz1, hz2⟩ := info_parts infoInt
  have HI := Lib.hid hi
  have HZ0 := Lib.hid hz0
  have HZ1 := Lib.hid hz1
  have HZ2 := Lib.hid hz2
  clear hi hz0 hz1 hz2
  cases hok : plOk h (bxsOk l) (bxIds l) p
  · have HE := Lib.hid (show putP h (bxsOk l) (bxIds l) p s id = ([], false) by unfold putP; rw [hok]; rfl)
    rw [hok] at HPV
    clear hok hW1 hb1 hx1 hb hp
    go_enter Try.func78, Try.ntmps78
    go_wp2_with fail
    rw [← HW.out]
    go_wp2_with fail
    refine (HPV.out _ HB.out).mono ?_
    rintro e w2 ⟨rfl, b2⟩
    have C2 := HB.out.trans (b2.mono HB.out.size)
    go_wp2_with fail
    go_ret2
    exact ⟨_, by rw [HE.out]; rfl, by rw [HE.out]; exact OwnI.zero C2.size, C2.alloc C2.size _⟩
  · have hlen : 1 ≤ p.length ∧ p.length ≤ 36 := by
      obtain ⟨q1, _, q3, _⟩ := plOk_iff.1 hok
      obtain ⟨m1, m2, _⟩ := slMany_bd q1
      omega
    obtain ⟨pa, pc, rfl⟩ := hp.form
    have hpc : p.length ≤ pc ∧ pc ≤ maxLen := by
      obtain ⟨a', c', e, q1, q2, _⟩ := hp
      simp only [Value.slice.injEq] at e
      obtain ⟨-, -, rfl⟩ := e
      exact ⟨q1, q2⟩
    unfold maxLen at hpc
    obtain ⟨b, off, rfl, hbl, -⟩ := hp.at_ (k := 0) (by omega)
    have SK := Lib.hid fun k (hk : k < p.length) (w' : World) (hs : Below w.heap.size w w') => show w'.cell? ⟨b, off + k, none⟩ = some (.int .i64 (pAt p k)) from by
      obtain ⟨b', off', e', -, s0⟩ := (PK.out w' hs).at_ hk
      obtain ⟨rfl, rfl⟩ : b = b' ∧ off = off' := by simpa using e'
      exact s0
    have HS1 := Lib.hid fun (hc : ¬ ((0 ≤ s ∧ s < (p.length : Int)) ∧ pAt p s.toNat = 0 ∧ id ≠ 0 ∧ plOk h (bxsOk l) (bxIds l) (p.set s.toNat id) = true)) => (show putP h (bxsOk l) (bxIds l) p s id = (p, false) from by unfold putP; rw [if_pos hok, if_neg hc])
    have HS2 := Lib.hid fun (hc : (0 ≤ s ∧ s < (p.length : Int)) ∧ pAt p s.toNat = 0 ∧ id ≠ 0 ∧ plOk h (bxsOk l) (bxIds l) (p.set s.toNat id) = true) => (show putP h (bxsOk l) (bxIds l) p s id = (p.set s.toNat id, true) from by unfold putP; rw [if_pos hok, if_pos hc])
    rw [hok] at HPV
    have zl : IntKind.i64.wrap ((p.length : Int) - 1) = (p.length : Int) - 1 := IntWalk.i64_in _ (by omega)
    clear hok hW1 hb1 hx1 hb hp
    go_enter Try.func78, Try.ntmps78
    go_wp2_with fail
    rw [← HW.out]
    go_wp2_with fail
    refine (HPV.out _ HB.out).mono ?_
    rintro e w2 ⟨rfl, b2⟩
    have C2 := HB.out.trans (b2.mono HB.out.size)
    have D2 := b2
    clear b2 y0 y1 y2
    have P2 := Lib.hid (PK.out w2 C2)
    have P3 := Lib.hid (P2.out.keep ((Below.refl _ _).alloc (Nat.le_refl _) (.cells #[] 3)))
    have own2 : (w2.alloc (.cells #[] 3)).ownsRow w2.heap.size 3 1 (.slice (some ⟨w2.heap.size, 0, none⟩) 0 0) 0 [] := own_empty (Nat.le_refl _) (heap_alloc_new _ _)
    have tok1 : True := trivial
    go_wp2_with (at_builtin; have _t := tok1; refine wpList_append_own _ rfl _ _ 26 rfl w2.heap.size 3 i0 (.int .i64 0) 1 8 Try.underlying26 HI.out HZ0.out HZ1.out HZ2.out rfl (by decide) _ 0 [] rfl own2 ⟨b, off, none⟩ p.length pc (rowI p) rfl (by rw [rowI_len, Nat.mul_one]) (fun j u hu => HoldsI.rowA P3.out j u hu) (rowI_one p) (by unfold maxLen; omega) (by omega) (by simp) ?_; intro v4 w4 hown4 hgrow4 _; clear tok1; simp only [Nat.zero_add, List.nil_append] at hown4; have hb4 : Below w2.heap.size w2 w4 := ((Below.refl w2.heap.size w2).alloc (Nat.le_refl _) (.cells #[] 3)).trans (own_below (v := .slice (some ⟨w2.heap.size, 0, none⟩) 0 0) hgrow4 (by simp) (fun k hk => (own_lt own2 k hk).1)); clear hgrow4)
    have OW : OwnI w2.heap.size w4 v4 p := hown4
    have C4 := C2.trans (hb4.mono C2.size)
    have D4 := D2.trans (hb4.mono D2.size)
    have x4 := HX.out w4 D4
    have c0 := x4.c0
    have c1 := x4.c1
    have c2 := x4.c2
    have hBn : w.heap.size < w2.heap.size := Nat.lt_of_lt_of_le (by rw [HW.out]; simp) D2.size
    clear hown4 own2 P3 hb4
    obtain ⟨g, cap, cur, rfl, hg1, hg2, hcur, hcap, hcapm, hcs, hct⟩ := OW.form (by omega)
    by_cases hs : 0 ≤ s ∧ s < (p.length : Int)
    · obtain ⟨k, rfl⟩ : ∃ k : Nat, s = (k : Int) := ⟨s.toNat, by omega⟩
      rw [Int.toNat_natCast] at HS1 HS2
      have hkl : k < p.length := by omega
      have ik0 : (0 : Int) ≤ (k : Int) := by omega
      have s0 := SK.out k hkl w4 C4
      by_cases hz : pAt p k = 0
      · rw [hz] at s0
        by_cases hid : id = 0
        · have hr := Lib.hid (HS1.out fun hc => hc.2.2.1 hid)
          have hdi : (id == 0) = true := by simpa using hid
          subst hid
          go_wp2_with fail
          refine (l1In_yes (k : Int) 0 ((p.length : Int) - 1) _ (by omega) (by omega)).mono ?_
          rintro e w' ⟨rfl, rfl⟩
          go_wp2_with fail
          go_ret2
          exact ⟨_, by rw [hr.out]; rfl, by rw [hr.out]; exact OW.from_ C2.size, C4⟩
        · have hdi : (id == 0) = false := by simpa using hid
          have OS := OW.set hkl id
          have t0 : w4.cell? ⟨g, k, none⟩ = some (cur[k]'(by omega)) := by
            simp only [World.cell?, hcur]
            exact Array.getElem?_eq_getElem _
          have f0 : w4.frozen? ⟨g, k, none⟩ = false := by simp [World.frozen?, hcur]
          obtain ⟨x0, t0'⟩ : ∃ x, w4.cell? ⟨g, k, none⟩ = some x := ⟨_, t0⟩
          have hbs : Below w2.heap.size w4 (w4.setCell ⟨g, k, none⟩ (.int .i64 id)) := (Below.refl _ _).setCell hg1 _
          have C5 : Below w.heap.size w (w4.setCell ⟨g, k, none⟩ (.int .i64 id)) := C4.trans (hbs.mono C2.size)
          have D5 : Below W1.heap.size W1 (w4.setCell ⟨g, k, none⟩ (.int .i64 id)) := D4.trans (hbs.mono D2.size)
          have x5 := HX.out _ D5
          have d0 := x5.c0
          have d1 := x5.c1
          have d2 := x5.c2
          have HPS := Lib.hid (HPV2.out _ (p.set k id) _ C5 OS.holds)
          have HOS := Lib.hid OS
          have HC5 := Lib.hid C5
          have hne : ¬ g = w.heap.size := by omega
          clear x5 D5 C5 OS t0 hct OW hcur
          cases hok2 : plOk h (bxsOk l) (bxIds l) (p.set k id)
          · have hr := Lib.hid (HS1.out fun hc => by rw [hok2] at hc; exact absurd hc.2.2.2 (by simp))
            rw [hok2] at HPS
            clear hok2
            go_wp2_with fail
            refine (l1In_yes (k : Int) 0 ((p.length : Int) - 1) _ (by omega) (by omega)).mono ?_
            rintro e w' ⟨rfl, rfl⟩
            go_wp2_with fail
            refine HPS.out.mono ?_
            rintro e w6 ⟨rfl, b6⟩
            have C6 := HC5.out.trans (b6.mono HC5.out.size)
            clear d0 d1 d2 c0 c1 c2 s0
            have P6 := Lib.hid ((PK.out w6 C6).keep ((Below.refl _ _).alloc (Nat.le_refl _) (.cells #[] 3)))
            have own6 : (w6.alloc (.cells #[] 3)).ownsRow w6.heap.size 3 1 (.slice (some ⟨w6.heap.size, 0, none⟩) 0 0) 0 [] := own_empty (Nat.le_refl _) (heap_alloc_new _ _)
            go_wp2_with (at_builtin; refine wpList_append_own _ rfl _ _ 26 rfl w6.heap.size 3 i0 (.int .i64 0) 1 8 Try.underlying26 HI.out HZ0.out HZ1.out HZ2.out rfl (by decide) _ 0 [] rfl own6 ⟨b, off, none⟩ p.length pc (rowI p) rfl (by rw [rowI_len, Nat.mul_one]) (fun j u hu => HoldsI.rowA P6.out j u hu) (rowI_one p) (by unfold maxLen; omega) (by omega) (by simp) ?_; intro v7 w7 hown7 hgrow7 _)
            simp only [Nat.zero_add, List.nil_append] at hown7
            have hb7 : Below w6.heap.size w6 w7 := ((Below.refl w6.heap.size w6).alloc (Nat.le_refl _) (.cells #[] 3)).trans (own_below (v := .slice (some ⟨w6.heap.size, 0, none⟩) 0 0) hgrow7 (by simp) (fun k hk => (own_lt own6 k hk).1))
            have hn7 : OwnI w.heap.size w7 v7 p := OwnI.from_ hown7 C6.size
            clear hgrow7 hown7
            go_ret2
            exact ⟨v7, by rw [hr.out]; rfl, by rw [hr.out]; exact hn7, C6.trans (hb7.mono C6.size)⟩
          · have hr := Lib.hid (HS2.out ⟨hs, hz, hid, hok2⟩)
            rw [hok2] at HPS
            clear hok2
            go_wp2_with fail
            refine (l1In_yes (k : Int) 0 ((p.length : Int) - 1) _ (by omega) (by omega)).mono ?_
            rintro e w' ⟨rfl, rfl⟩
            go_wp2_with fail
            refine HPS.out.mono ?_
            rintro e w6 ⟨rfl, b6⟩
            have C6 := HC5.out.trans (b6.mono HC5.out.size)
            have O6 := Lib.hid ((HOS.out.from_ C2.size).keep b6)
            clear d0 d1 d2 c0 c1 c2 s0
            go_wp2_with fail
            go_ret2
            exact ⟨_, by rw [hr.out]; rfl, by rw [hr.out]; have := O6.out; exact this, C6⟩
      · have hr := Lib.hid (HS1.out fun hc => hz hc.2.1)
        have hdz : (pAt p k != 0) = true := by simpa using hz
        obtain ⟨x, hxx⟩ : ∃ x, x = pAt p k := ⟨_, rfl⟩
        rw [← hxx] at s0 hdz
        clear hxx hz
        go_wp2_with fail
        refine (l1In_yes (k : Int) 0 ((p.length : Int) - 1) _ (by omega) (by omega)).mono ?_
        rintro e w' ⟨rfl, rfl⟩
        go_wp2_with fail
        go_ret2
        exact ⟨_, by rw [hr.out]; rfl, by rw [hr.out]; exact OW.from_ C2.size, C4⟩
    · have hr := Lib.hid (HS1.out fun hc => hs hc.1)
      go_wp2_with fail
      refine (l1In_no s 0 ((p.length : Int) - 1) _ (by omega)).mono ?_
      rintro e w' ⟨rfl, rfl⟩
      go_wp2_with fail
      go_ret2
      exact ⟨_, by rw [hr.out]; rfl, by rw [hr.out]; exact OW.from_ C2.size, C4⟩
end Go.Proofs.Ytmgnbkiphdlooab
