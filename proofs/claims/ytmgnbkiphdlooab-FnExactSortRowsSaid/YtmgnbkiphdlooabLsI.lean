/-
  The program's loadedSlots.
-/
import Derived.Test.YtmgnbkiphdlooabGLm
import Derived.Test.YtmgnbkiphdlooabPlI
import Derived.Test.YtmgnbkiphdlooabGBase
import Derived.Test.YtmgnbkiphdlooabGPl
import Derived.Laws.AppendOwnNone
import Derived.Deep.RegionHeld3
namespace Go.Proofs.Ytmgnbkiphdlooab
open Go.RowKit
set_option linter.unusedVariables false

set_option maxRecDepth 10000 in
set_option maxHeartbeats 1000000 in
theorem loadedSlots_any (v : Value) (p : List Int) (w : World) (hp : HoldsI w v p) (hn : p.length ≤ 1048577) :
    Calls Try.prog 54 #[v] w fun e w' => ∃ v', e = .returned v' ∧ OwnI w.heap.size w' v' (fullI p) ∧ Below w.heap.size w w' := by
  obtain ⟨i0, hi, hz0, hz1, hz2⟩ := info_parts infoInt
  have HI := Lib.hid hi
  have HZ0 := Lib.hid hz0
  have HZ1 := Lib.hid hz1
  have HZ2 := Lib.hid hz2
  clear hi hz0 hz1 hz2
  have PK := Lib.hid fun (w' : World) (hs : Below w.heap.size w w') => hp.keep hs
  obtain ⟨pa, pc, rfl⟩ := hp.form
  have HB := Lib.hid (Below.refl w.heap.size w)
  have HO := Lib.hid (OwnI.nil (K := w.heap.size) (w := w))
  have HN := Lib.hid fun k => fulN_next p k
  have HL := Lib.hid fun k => fulN_len p k
  rw [← fulN_end]
  obtain ⟨n, hn'⟩ : ∃ n, n = p.length := ⟨_, rfl⟩
  rw [← hn'] at PK hn ⊢
  clear hp hn'
  go_enter Try.func54, Try.ntmps54
  go_wp2_with fail
  go_loopw [3, 8] (fun va i wr => ∃ k : Nat, k ≤ n ∧ i = .int .i64 k ∧ Hid (OwnI w.heap.size wr va (fulN p k)) ∧ Hid (Below w.heap.size w wr)) (fun _ i _ => n - (intOf i).toNat)
  case atStart => exact ⟨0, by omega, rfl, HO, HB⟩
  case round =>
    clear HO HB
    obtain ⟨k, hkn, rfl, HOW, BR⟩ := hrel
    by_cases hlt : k < n
    · obtain ⟨b, off, rfl, hbl, s0⟩ := (PK.out wr BR.out).at_ hlt
      have ik : (k : Int) < (n : Int) := by omega
      have i0k : (0 : Int) ≤ (k : Int) := by omega
      have e1 : p.getD k 0 = pAt p k := rfl
      rw [e1] at s0
      clear e1
      have hfl := HL.out k
      have HNk := Lib.hid (HN.out k)
      by_cases hz : pAt p k = 0
      · have HN2 := Lib.hid (HNk.out.trans (if_neg (fun hc => hc hz)))
        rw [hz] at s0
        clear HNk hz
        go_wp2_with fail
        go_roundw
        case rel => exact ⟨k + 1, by omega, by go_num, by rw [HN2.out]; exact HOW, BR⟩
        case measure => simp [intOf]; omega
      · have HN2 := Lib.hid (HNk.out.trans (if_pos hz))
        have hdz : (pAt p k != 0) = true := by simpa using hz
        obtain ⟨x, hxx⟩ : ∃ x, x = pAt p k := ⟨_, rfl⟩
        rw [← hxx] at s0 hdz
        clear hxx HNk hz
        go_wp2_with (at_builtin; refine wpList_append_own _ rfl _ _ 26 rfl w.heap.size 3 i0 (.int .i64 0) 1 8 Try.underlying26 HI.out HZ0.out HZ1.out HZ2.out rfl (by decide) _ (fulN p k).length (rowI (fulN p k)) rfl (HOW.out.alloc _) ⟨wr.heap.size, 0, none⟩ 1 1 [.int .i64 (k : Int)] rfl rfl (fun j u hu => cells_new j u hu) (by simp [Value.oneCell']) (by unfold maxLen; omega) (by omega) (by have := BR.out.size; simp; omega) ?_; intro v5 w5 hown5 hgrow _)
        have hb5 : Below w.heap.size wr w5 := ((Below.refl _ _).alloc (by have := BR.out.size; omega) _).trans (own_below hgrow (by have := BR.out.size; simp; omega) (fun k' hk' => (own_lt HOW.out k' hk').1))
        have hO5 : OwnI w.heap.size w5 v5 (fulN p k ++ [(k : Int)]) := own_put hown5
        clear hgrow hown5
        go_wp2_with fail
        go_roundw
        case rel =>
          rw [← HN2.out] at hO5
          exact ⟨k + 1, by omega, by go_num, Lib.hid hO5, Lib.hid (BR.out.trans hb5)⟩
        case measure => simp [intOf]; omega
    · obtain rfl : k = n := by omega
      have C9 := BR.out
      have O9 := HOW.out
      go_wp2_with fail
      go_ret
      exact ⟨_, rfl, O9, C9⟩

set_option maxRecDepth 10000 in
set_option maxHeartbeats 1000000 in
theorem implPlanEmpty_own (h : Hl) (w : World) :
    Calls Try.prog 62 #[.agg #[.int .i64 h.b, .int .i64 h.r, .int .i64 h.t]] w fun e w' => ∃ v, e = .returned v ∧ OwnI w.heap.size w' v (emptyP h) ∧ Below w.heap.size w w' := by
  obtain ⟨i0, hi, hz0, hz1, hz2⟩ := info_parts infoInt
  have hb1 := (Below.refl w.heap.size w).alloc (Nat.le_refl _) (.cells #[.int .i64 h.b, .int .i64 h.r, .int .i64 h.t] 24)
  have hx1 := BoxH.new w h
  obtain ⟨W1, hW1⟩ : ∃ W1, W1 = w.alloc (.cells #[.int .i64 h.b, .int .i64 h.r, .int .i64 h.t] 24) := ⟨_, rfl⟩
  rw [← hW1] at hb1 hx1
  have HW := Lib.hid hW1
  have HB := Lib.hid hb1
  have y0 := hx1.c0
  have y1 := hx1.c1
  have y2 := hx1.c2
  have HX := Lib.hid fun (w' : World) (hs : Below W1.heap.size W1 w') => hx1.keep hs
  clear hW1 hb1 hx1
  have HV := Lib.hid fun w => implHullValid_any h w
  have HM := Lib.hid fun w => implSlotMany_any h w
  cases hk : hlOk h
  · have HE := Lib.hid (show emptyP h = [] by unfold emptyP; rw [hk]; rfl)
    rw [hk] at HV
    clear hk HM
    go_enter Try.func62, Try.ntmps62
    go_wp2_with fail
    rw [← HW.out]
    go_wp2_with fail
    refine (HV.out W1).mono ?_
    rintro e w2 ⟨rfl, b2⟩
    have C2 := HB.out.trans (b2.mono HB.out.size)
    go_wp2_with fail
    go_ret
    exact ⟨_, rfl, by rw [HE.out]; exact OwnI.nil, C2⟩
  · obtain ⟨m1, m2, -⟩ := slMany_bd hk
    obtain ⟨n, hn⟩ : ∃ n : Nat, slMany h = (n : Int) := ⟨(slMany h).toNat, by omega⟩
    have HE := Lib.hid (show emptyP h = List.replicate n 0 by unfold emptyP; rw [if_pos hk, hn]; rfl)
    rw [hk] at HV
    rw [hn] at HM m1 m2
    have hb2 : i0.bytes * n ≤ 281474976710656 := by rw [hz2]; omega
    have hb3 : n ≤ maxLen := by unfold maxLen; omega
    clear hk hn
    go_enter Try.func62, Try.ntmps62
    go_wp2_with fail
    rw [← HW.out]
    go_wp2_with fail
    refine (HV.out W1).mono ?_
    rintro e w2 ⟨rfl, b2⟩
    have C2 := HB.out.trans (b2.mono HB.out.size)
    have x2 := HX.out w2 b2
    have c0 := x2.c0
    have c1 := x2.c1
    have c2 := x2.c2
    clear x2 y0 y1 y2
    go_wp2_with fail
    refine (HM.out w2).mono ?_
    rintro e w3 ⟨rfl, b3⟩
    have C3 := C2.trans (b3.mono C2.size)
    go_wp2_with (at_make; refine wpList_make_full _ rfl _ _ _ rfl w.heap.size 3 i0 (.int .i64 0) 1 Try.underlying26 hi hz0 hz1 .i64 .i64 _ _ n rfl rfl rfl rfl hb2 hb3 C3.size ?_; intro w4 hown hgrow)
    have hbel : Below w.heap.size w3 w4 := (Below.refl _ _).grown hgrow C3.size (fun k hk => by cases hk)
    go_ret
    exact ⟨_, rfl, by rw [HE.out]; exact OwnI.made hown, C3.trans hbel⟩

end Go.Proofs.Ytmgnbkiphdlooab
