/-
  The draw of a yard.
-/
import Derived.Test.YtdmbahpifbidlaaYkM2
import Derived.Deep.AppendLies
import Derived.Deep.OwnRows
import Derived.Deep.RegionLaw
import Derived.Deep.CutRange
import Derived.Deep.CutBlock
namespace Go.Proofs.Ytdmbahpifbidlaa
open Go.RowKit
set_option linter.unusedVariables false

set_option maxRecDepth 10000 in
set_option maxHeartbeats 4000000 in
theorem l20Yard_any (base B p : Nat) (n : Int) (w : World) (h : Rdr base B p w) (hp : p ≤ 100000) (hn0 : 1 ≤ n) (hn1 : n ≤ 1000) :
    Calls Try.prog 49 #[.pointer (some ⟨B, 0, none⟩), .int .i64 n] w (DrewYard base B p w) := by
  obtain ⟨i0, hi, hz0, hz1, hz2⟩ := info_parts infoInt
  have HI := Lib.hid hi
  have HZ0 := Lib.hid hz0
  have HZ1 := Lib.hid hz1
  have HZ2 := Lib.hid hz2
  clear hi hz0 hz1 hz2
  obtain ⟨i1, hi, hz0, hz1, hz2⟩ := info_parts infoRow
  have GI := Lib.hid hi
  have GZ0 := Lib.hid hz0
  have GZ1 := Lib.hid hz1
  have GZ2 := Lib.hid hz2
  clear hi hz0 hz1 hz2
  have hB2 := h.2.1
  go_enter Try.func49, Try.ntmps49
  go_wp2_with fail
  refine (pick_any base B p 4 _ (h.keep ((Below.refl _ _).alloc (Nat.le_refl _) _)) (by omega) (by omega)).mono ?_
  rintro e w1 ⟨x1, x10, x11, rfl, hr1, ho1⟩
  have hm1 : MostB B w w1 := ((MostB.refl B w).alloc _).trans ho1.mostB
  have r1 : BoxY w.heap.size w1 0 (.slice none 0 0) := (BoxY.new w 0 (.slice none 0 0)).at_ (ho1.block _ (by omega))
  have z1 : w1.heap.size = w.heap.size + 1 := by rw [ho1.size]; simp
  clear h ho1
  have st1 : YdSt base B (p + 1) w (w1.alloc (.cells #[.int .i64 (1 + x1), .slice none 0 0] 25)) (1 + x1) (.slice none 0 0) [] [] := by
    have hb := (Below.refl w1.heap.size w1).alloc (Nat.le_refl _) (.cells #[.int .i64 (1 + x1), .slice none 0 0] 25)
    refine ⟨hr1.keepK hb (by omega), hB2, r1.keep hb, ?_, OwnY.start _ _ _, hm1.below_ (hb.mono (by omega))⟩
    have := BoxY.new w1 (1 + x1) (.slice none 0 0)
    rwa [z1] at this
  have ST1 := Lib.hid st1
  clear hr1 hm1 r1 st1
  go_wp2_with fail
  refine (pick_any base B (p + 1) 5 _ ST1.out.rdr (by omega) (by omega)).mono ?_
  rintro e w2 ⟨x2, x20, x21, rfl, hr2, ho2⟩
  have ST2 := Lib.hid (ST1.out.far ho2.mostB hr2)
  clear hr2 ho2 ST1
  go_wp2_with fail
  refine (pick_any base B (p + 1 + 1) 5 _ ST2.out.rdr (by omega) (by omega)).mono ?_
  rintro e w3 ⟨x3, x30, x31, rfl, hr3, ho3⟩
  have ST3 := Lib.hid (ST2.out.far ho3.mostB hr3)
  clear hr3 ho3 ST2 z1
  obtain ⟨hh, hhe⟩ : ∃ hh, hh = 1 + x1 := ⟨_, rfl⟩
  rw [← hhe] at ST3
  obtain ⟨j1, rfl⟩ := Int.eq_ofNat_of_zero_le x30
  have hj5 : j1 ≤ 4 := by omega
  have hh4 : 1 ≤ hh ∧ hh ≤ 4 := by omega
  clear hhe x10 x11 x30 x31
  go_wp2_with fail
  go_loopw [6, 7] (fun i k wr => ∃ (q j : Nat) (d : Int) (u : Value) (us : List Value) (ss : List (List Int)), i = .int .i64 d ∧ 0 ≤ d ∧ d ≤ 10 + 40 * ss.length ∧ k = .int .i64 j ∧ ss.length + j = 1 + j1 ∧ q ≤ p + 3 + 8 * ss.length ∧ ss.flatten.length ≤ 4 * ss.length ∧ Hid (YdSt base B q w wr hh u us ss)) (fun _ k _ => (intOf k).toNat)
  case atStart => exact ⟨p + 1 + 1 + 1, 1 + j1, 1 + x2, _, [], [], rfl, by omega, by simp; omega, by congr 1, by simp, by simp, by simp, ST3⟩
  case round =>
    clear ST3
    obtain ⟨q, j, d, u, us, ss, rfl, hd0, hd1, rfl, hlj, hq, hfl, ST⟩ := hrel
    by_cases hlt : 0 < j
    · have BX := Lib.hid fun o => (ST.out.keep ((Below.refl wr.heap.size wr).alloc (Nat.le_refl _) o))
      have c0 := fun o => (BX.out o).box.c0
      obtain ⟨hN, hNe⟩ : ∃ hN : Nat, (hN : Int) = hh + 1 := ⟨(hh + 1).toNat, by omega⟩
      have hw1 : IntKind.i64.wrap (hh + 1) = hh + 1 := IntWalk.i64_in _ (by omega)
      go_wp2_with fail
      refine (pick_any base B q (hh + 1) _ (BX.out _).rdr (by omega) (by omega)).mono ?_
      rintro e w5 ⟨x5, x50, x51, rfl, hr5, ho5⟩
      have hm5 : MostB B wr w5 := ((MostB.refl B wr).alloc _).trans ho5.mostB
      have own5 : w5.ownsRow wr.heap.size 3 1 (.slice (some ⟨wr.heap.size, 0, none⟩) 0 0) ([] : List Int).length (rowI []) := own_empty (Nat.le_refl _) (by
        have := ST.out.res.lt
        rw [ho5.block _ (by have := ST.out.lt; omega)]
        exact heap_alloc_new _ _)
      obtain ⟨j5, hj5⟩ := Int.eq_ofNat_of_zero_le x50
      subst hj5
      have hj54 : j5 ≤ 4 := by omega
      have HM5 := Lib.hid hm5
      have HR5 := Lib.hid hr5
      obtain ⟨KR, hKR⟩ : ∃ KR, KR = wr.heap.size := ⟨_, rfl⟩
      have HO5 := Lib.hid (show w5.ownsRow KR 3 1 (.slice (some ⟨wr.heap.size, 0, none⟩) 0 0) ([] : List Int).length (rowI []) by rw [hKR]; exact own5)
      have hBK : B < KR := by have := ST.out.lt; have := ST.out.res.lt; omega
      clear c0 hNe hw1 BX hm5 hr5 own5 ho5 x50 x51
      go_wp2_with fail
      go_loopw [6, 8, 9] (fun i s k wx => ∃ (q2 m : Nat) (d2 : Int) (l : List Int) (g cp : Nat), i = .int .i64 d2 ∧ 0 ≤ d2 ∧ d2 ≤ d + 7 * l.length ∧ s = .slice (some ⟨g, 0, none⟩) l.length cp ∧ l.length ≤ cp ∧ cp ≤ maxLen ∧ k = .int .i64 m ∧ l.length + m ≤ 4 ∧ q2 ≤ q + 1 + l.length ∧ Hid (Rdr base B q2 wx) ∧ Hid (wx.ownsRow KR 3 1 (.slice (some ⟨g, 0, none⟩) l.length cp) l.length (rowI l)) ∧ Hid (MostB B wr wx)) (fun _ _ k _ => (intOf k).toNat)
      case atStart => exact ⟨q + 1, j5, d, [], wr.heap.size, 0, rfl, hd0, by simp, rfl, by simp, Nat.zero_le _, rfl, by simp; omega, by simp, HR5, HO5, HM5⟩
      case round =>
        clear HM5 HR5 HO5
        obtain ⟨q2, m, d2, l, g, cp, rfl, hd20, hd21, rfl, hgc, hgm, rfl, hlm, hq2, HR, HOW, HM⟩ := hrel
        have hws : KR ≤ wr.heap.size := by rw [hKR]; exact HM.out.size
        unfold maxLen at hgm
        have hown := HOW.out
        by_cases hm0 : 0 < m
        · go_wp2_with (at_builtin; refine wpList_append_own _ rfl _ _ 28 rfl KR 3 i0 (.int .i64 0) 1 8 Try.underlying28 HI.out HZ0.out HZ1.out HZ2.out rfl (by decide) _ _ _ rfl (hown.alloc _) ⟨wr.heap.size, 0, none⟩ 1 1 [.int .i64 d2] rfl rfl (fun j u hu => cells_new j u hu) (by simp [Value.oneCell']) (by unfold maxLen; omega) (by omega) (by simp; omega) ?_; intro v' w6 hown6 hgrow _)
          have hb6 : Below KR (wr.alloc (.cells #[.int .i64 d2] 3)) w6 := own_below (v := .slice (some ⟨g, 0, none⟩) l.length cp) hgrow (by simp; omega) (fun k hk => (own_lt hown k hk).1)
          have hm6 := (HM.out.alloc (.cells #[.int .i64 d2] 3)).below_ (by rw [← hKR]; exact hb6)
          have hr6 := (HR.out.keep ((Below.refl _ _).alloc (Nat.le_refl _) (.cells #[.int .i64 d2] 3))).keepK hb6 hBK
          have hown7 := own_ints (m := [d2]) hown6 rfl rfl
          obtain ⟨g', cp', rfl, t1, t2⟩ := own_form hown7 (by simp)
          have H7 := Lib.hid hown7
          have T1 := Lib.hid t1
          clear hgrow hb6 hown HOW HR hown6 HM hown7 t1
          go_wp2_with fail
          refine (pick_any base B q2 7 _ hr6 (by omega) (by omega)).mono ?_
          rintro e w7 ⟨z, z0, z1, rfl, hr7, ho7⟩
          have H8 := Lib.hid (own_most H7.out ho7.mostB hBK)
          have hm7 := Lib.hid (hm6.trans ho7.mostB)
          have hr7' := Lib.hid hr7
          clear H7 hr6 hm6 ho7 hr7
          go_wp2_with fail
          go_roundw
          case rel => exact ⟨q2 + 1, m - 1, d2 + 1 + z, l ++ [d2], g', cp', rfl, by omega, by simp; omega, by rw [List.length_append]; rfl, T1.out, t2, by congr 1; omega, by simp; omega, by simp; omega, hr7', Lib.hid (by have h := H8.out; rw [List.length_append] at h ⊢; exact h), hm7⟩
          case measure => simp [intOf]; omega
        · have hm00 : m = 0 := by omega
          clear hm0
          subst hm00
          have STX := Lib.hid (ST.out.far HM.out HR.out)
          obtain ⟨ua, uc, rfl⟩ := STX.out.form
          have b1 := STX.out.box.c1
          have hws2 : w.heap.size + 2 ≤ wr.heap.size := STX.out.box.lt
          have O5 := Lib.hid fun o : Obj => own_stay STX.out.own.out ((Below.refl wr.heap.size wr).alloc (Nat.le_refl _) o)
          have SK := Lib.hid fun o : Obj => STX.out.keep ((Below.refl wr.heap.size wr).alloc (Nat.le_refl _) o)
          have hlen5 : ss.length ≤ 4 := by omega
          have HSZ := Lib.hid (show w.heap.size + 2 ≤ (wr.alloc (.cells #[.slice (some ⟨g, 0, none⟩) l.length cp] 28)).heap.size by simp; omega)
          have HOK := Lib.hid (show wr.ownsRow _ 3 1 (.slice (some ⟨g, 0, none⟩) l.length cp) l.length (rowI l) from hKR ▸ HOW.out)
          clear hown
          go_wp2_with (at_builtin; refine wpList_append_lies _ rfl _ _ 23 rfl (w.heap.size + 2) 28 i1 (.slice none 0 0) 1 24 Try.underlying23 GI.out GZ0.out GZ1.out GZ2.out rfl (by decide) _ ss.length us rfl (O5.out _) ⟨wr.heap.size, 0, none⟩ 1 1 [.slice (some ⟨g, 0, none⟩) l.length cp] rfl rfl (fun j u hu => cells_new j u hu) (by simp [Value.oneCell']) (by decide) (by unfold maxLen; omega) (by omega) (by simp; omega) _ rfl ?_; intro g6 c6 w6 ho6 hg6 hgg6 _; have hb6 := own_below (K := w.heap.size + 2) hg6 HSZ.out (fun k hk => (own_lt STX.out.own.out k hk).1); have n6 : w6.cell? ⟨w.heap.size + 1, 1, none⟩ = some (.slice ua ss.length uc) := ((SK.out _).box.at_ (hb6.block _ (Nat.lt_succ_self _))).c1; have f6 : w6.frozen? ⟨w.heap.size + 1, 1, none⟩ = false := ((SK.out _).box.at_ (hb6.block _ (Nat.lt_succ_self _))).frozen 1; have ST6 := Lib.hid (ST.out.row HM.out HR.out HOK.out ho6 hg6 hgg6); clear hb6 ho6 hg6 hgg6)
          go_roundw
          case rel => exact ⟨q2, j - 1, d2, _, _, ss ++ [l], rfl, hd20, by simp; omega, by congr 1; omega, by simp; omega, by simp; omega, by rw [flat_app, List.length_append]; show _ ≤ 4 * (ss.length + 1); omega, ST6⟩
          case measure => simp [intOf]; omega
    · have hj0 : j = 0 := by omega
      clear hlt
      subst hj0
      obtain ⟨ua, uc, rfl⟩ := ST.out.form
      go_wp2_with fail
      refine (odd_any base B q n _ ST.out.rdr (by omega) hn0 (by omega)).mono ?_
      rintro e w4 ⟨v, rfl, hr4, ho4⟩
      have S4 := Lib.hid (ST.out.far ho4.mostB hr4)
      clear ST hr4 ho4
      cases v
      · have E4 := Lib.hid S4.out.end_
        have c0 := E4.out.box.c0
        have c1 := E4.out.box.c1
        have d0 := E4.out.res.c0
        have d1 := E4.out.res.c1
        have e0 := E4.out.res.frozen 0
        have e1 := E4.out.res.frozen 1
        clear S4
        go_wp2_with fail
        obtain ⟨t1, t2, t3⟩ := E4.out.told
        exact bodyPost_ret (v := .agg #[.int .i64 hh, .slice ua ss.length uc]) (by simp [results, Try.results49, go_sem, d0, d1]) rfl ⟨hh, _, ss, q + 1, by omega, by omega, by omega, rfl, t1, t2, t3⟩
      · go_wp2_with fail
        refine (pick_any base B (q + 1) 4 _ S4.out.rdr (by omega) (by omega)).mono ?_
        rintro e w5 ⟨x5, x50, x51, rfl, hr5, ho5⟩
        have S5 := Lib.hid (S4.out.far ho5.mostB hr5)
        clear S4 hr5 ho5
        rcases (by omega : x5 = 0 ∨ x5 = 1 ∨ x5 = 2 ∨ x5 = 3) with hx | hx | hx | hx
        · subst hx
          have s6 := S5.out.keep ((Below.refl w5.heap.size w5).alloc (Nat.le_refl _) (.cells #[.int .i64 0, .int .i64 6] 3))
          have hl := s6.lt
          go_wp2_with fail
          refine (pick_any base B (q + 1 + 1) 2 _ s6.rdr (by omega) (by omega)).mono ?_
          rintro e w6 ⟨x6, x60, x61, rfl, hr6, ho6⟩
          have S7 := Lib.hid (s6.far ho6.mostB hr6)
          have k0 : w6.heap[w5.heap.size]? = some (.cells #[.int .i64 0, .int .i64 6] 3 (0, 0)) := by
            rw [ho6.block _ (by have := S5.out.box.lt; omega)]
            exact heap_alloc_new _ _
          have m0 : w6.cell? ⟨w5.heap.size, 0, none⟩ = some (.int .i64 0) := by simp [World.cell?, k0]
          have m1 : w6.cell? ⟨w5.heap.size, 1, none⟩ = some (.int .i64 6) := by simp [World.cell?, k0]
          have b0 := S7.out.box.c0
          have f0 := S7.out.box.frozen 0
          clear s6 hr6 ho6 k0 S5
          rcases (by omega : x6 = 0 ∨ x6 = 1) with hx | hx
          · subst hx
            have E6 := Lib.hid (YdEnd.high (h' := 0) S7.out)
            have c0 := E6.out.box.c0
            have c1 := E6.out.box.c1
            have d0 := E6.out.res.c0
            have d1 := E6.out.res.c1
            have e0 := E6.out.res.frozen 0
            have e1 := E6.out.res.frozen 1
            clear S7
            go_wp2_with fail
            obtain ⟨t1, t2, t3⟩ := E6.out.told
            exact bodyPost_ret (v := .agg #[.int .i64 0, .slice ua ss.length uc]) (by simp [results, Try.results49, go_sem, d0, d1]) rfl ⟨0, _, ss, q + 1 + 1 + 1, by omega, by omega, by omega, rfl, t1, t2, t3⟩
          · subst hx
            have E6 := Lib.hid (YdEnd.high (h' := 6) S7.out)
            have c0 := E6.out.box.c0
            have c1 := E6.out.box.c1
            have d0 := E6.out.res.c0
            have d1 := E6.out.res.c1
            have e0 := E6.out.res.frozen 0
            have e1 := E6.out.res.frozen 1
            clear S7
            go_wp2_with fail
            obtain ⟨t1, t2, t3⟩ := E6.out.told
            exact bodyPost_ret (v := .agg #[.int .i64 6, .slice ua ss.length uc]) (by simp [results, Try.results49, go_sem, d0, d1]) rfl ⟨6, _, ss, q + 1 + 1 + 1, by omega, by omega, by omega, rfl, t1, t2, t3⟩
        · subst hx
          have s6 := S5.out.keep ((Below.refl w5.heap.size w5).alloc (Nat.le_refl _) (.cells #[] 28))
          have E6 := Lib.hid (YdEnd.none_ s6 (v' := .slice (some ⟨w5.heap.size, 0, none⟩) 0 0) ⟨some ⟨w5.heap.size, 0, none⟩, 0, rfl, Nat.le_refl _, Nat.zero_le _, (fun e => by cases e), .inl rfl⟩)
          have b1 := s6.box.c1
          have f1 := s6.box.frozen 1
          have c0 := E6.out.box.c0
          have c1 := E6.out.box.c1
          have d0 := E6.out.res.c0
          have d1 := E6.out.res.c1
          have e0 := E6.out.res.frozen 0
          have e1 := E6.out.res.frozen 1
          clear s6 S5
          go_wp2_with fail
          obtain ⟨t1, t2, t3⟩ := E6.out.told
          exact bodyPost_ret (v := .agg #[.int .i64 hh, .slice (some ⟨w5.heap.size, 0, none⟩) 0 0]) (by simp [results, Try.results49, go_sem, d0, d1]) rfl ⟨hh, _, [], q + 1 + 1, by omega, by simp, by simp, rfl, t1, t2, t3⟩
        · subst hx
          have b1 := S5.out.box.c1
          obtain ⟨X, hX⟩ : ∃ X, X = ((w5.alloc (.cells #[.int .i64 500] 3)).alloc (.cells #[.int .i64 500] 3)).alloc (.cells #[.slice (some ⟨w5.heap.size, 0, none⟩) 1 1, .slice (some ⟨w5.heap.size + 1, 0, none⟩) 1 1] 28) := ⟨_, rfl⟩
          have hbX : Below w5.heap.size w5 X := by rw [hX]; exact (((Below.refl _ _).alloc (Nat.le_refl _) _).alloc (by simp) _).alloc (by simp; omega) _
          have SX := Lib.hid (S5.out.keep hbX)
          have O5 := Lib.hid (own_stay S5.out.own.out hbX)
          have HSZ := Lib.hid (show w.heap.size + 2 ≤ X.heap.size from (S5.out.keep hbX).box.lt)
          have CN : ∀ j u, [(Value.slice (some ⟨w5.heap.size, 0, none⟩) 1 1), .slice (some ⟨w5.heap.size + 1, 0, none⟩) 1 1][j]? = some u → X.cell? ((⟨w5.heap.size + 1 + 1, 0, none⟩ : Addr).add j) = some u := by
            rw [hX]
            intro j u hj
            have := cells_new (w := (w5.alloc (.cells #[.int .i64 500] 3)).alloc (.cells #[.int .i64 500] 3)) (T := 28) j u hj
            simpa using this
          have HCN := Lib.hid CN
          have HX := Lib.hid hX
          rw [hX] at SX O5 HSZ HCN
          clear hX hbX CN
          go_wp2_with (at_builtin; refine wpList_append_lies _ rfl _ _ 23 rfl (w.heap.size + 2) 28 i1 (.slice none 0 0) 1 24 Try.underlying23 GI.out GZ0.out GZ1.out GZ2.out rfl (by decide) _ ss.length us rfl O5.out ⟨w5.heap.size + 1 + 1, 0, none⟩ 2 2 [.slice (some ⟨w5.heap.size, 0, none⟩) 1 1, .slice (some ⟨w5.heap.size + 1, 0, none⟩) 1 1] rfl rfl HCN.out (by simp [Value.oneCell']) (by decide) (by unfold maxLen; omega) (by omega) HSZ.out _ rfl ?_; intro g6 c6 w6 ho6 hg6 hgg6 _; have hb6 := own_below (K := w.heap.size + 2) hg6 HSZ.out (fun k hk => (own_lt O5.out k hk).1); have n6 : w6.cell? ⟨w.heap.size + 1, 1, none⟩ = some (.slice ua ss.length uc) := (SX.out.box.at_ (hb6.block _ (Nat.lt_succ_self _))).c1; have f6 : w6.frozen? ⟨w.heap.size + 1, 1, none⟩ = false := (SX.out.box.at_ (hb6.block _ (Nat.lt_succ_self _))).frozen 1; have E6 := Lib.hid (S5.out.two rfl ho6 hg6); have c0 := E6.out.box.c0; have c1 := E6.out.box.c1; have d0 := E6.out.res.c0; have d1 := E6.out.res.c1; have e0 := E6.out.res.frozen 0; have e1 := E6.out.res.frozen 1; clear hb6 ho6 hg6 hgg6)
          obtain ⟨t1, t2, t3⟩ := E6.out.told
          exact bodyPost_ret (v := .agg #[.int .i64 hh, .slice (some ⟨g6, 0, none⟩) (ss.length + 2) c6]) (by simp [results, Try.results49, go_sem, d0, d1]) rfl ⟨hh, _, ss ++ [[500], [500]], q + 1 + 1, by omega, by simp; omega, by rw [List.flatten_append, List.length_append]; show _ + 2 ≤ 100; omega, rfl, t1, t2, t3⟩
        · subst hx
          have b1 := S5.out.box.c1
          obtain ⟨g, rfl, _, hKg, hgl, hcc, hcm, hcell, hfr⟩ := own_cell S5.out.own.out (k := 0) (by omega)
          obtain ⟨u0, hu0, _⟩ := S5.out.own.row 0 (by omega)
          rw [hu0] at hcell
          have hs0 : 0 < ss.length := by omega
          unfold maxLen at hcm
          have e3 : madeCells #[Value.int .i64 0] 3 = #[.int .i64 0, .int .i64 0, .int .i64 0] := by kernel_rfl
          have hmk : ∀ W : World, Sem.run Try.prog (Instr.makeSlice 28 (.int .i64 3) (.int .i64 3)) W = .ok (.slice (some ⟨W.heap.size, 0, none⟩) 3 3) (W.alloc (.cells #[.int .i64 0, .int .i64 0, .int .i64 0] 3)) := fun W => by
            have h := run_make_row (P := Try.prog) 28 3 i0 (.int .i64 0) Try.underlying28 HI.out HZ0.out HZ1.out rfl .i64 .i64 3 (by rw [HZ2.out]; omega) (by omega) W
            rw [e3] at h
            exact h
          clear e3
          have hbo : ∀ o : Obj, Below w5.heap.size w5 (w5.alloc o) := fun o => (Below.refl _ _).alloc (Nat.le_refl _) o
          have b1a : ∀ o : Obj, (w5.alloc o).cell? ⟨w.heap.size + 1, 1, none⟩ = some (.slice (some ⟨g, 0, none⟩) ss.length uc) := fun o => (S5.out.keep (hbo o)).box.c1
          have hca : ∀ o : Obj, (w5.alloc o).cell? ⟨g, 0, none⟩ = some u0 := fun o => ((hbo o).cell (p := ⟨g, 0, none⟩) hgl).trans hcell
          have hfa : ∀ o : Obj, (w5.alloc o).frozen? ⟨g, 0, none⟩ = false := fun o => ((hbo o).frozen (p := ⟨g, 0, none⟩) hgl).trans hfr
          have il : (0 : Int) < (ss.length : Int) := by omega
          clear hbo
          have E6 := Lib.hid (S5.out.zeros hs0 hu0 hgl)
          have c0 := E6.out.box.c0
          have c1 := E6.out.box.c1
          have d0 := E6.out.res.c0
          have d1 := E6.out.res.c1
          have e0 := E6.out.res.frozen 0
          have e1 := E6.out.res.frozen 1
          have hfl6 := flat_set0 ss [0, 0, 0]
          simp only [List.length_cons, List.length_nil] at hfl6
          obtain ⟨W6, hW6⟩ : ∃ W6, W6 = ((w5.setCell ⟨g, 0, none⟩ (.slice (some ⟨w5.heap.size, 0, none⟩) 3 3)).alloc (.cells #[.int .i64 0, .int .i64 0, .int .i64 0] 3)).drew := ⟨_, rfl⟩
          have HW6 := Lib.hid hW6
          rw [← hW6] at E6 c0 c1 d0 d1 e0 e1
          clear hW6
          go_wp2_with fail
          go_region
          rw [← HW6.out]
          go_wp2_with fail
          obtain ⟨t1, t2, t3⟩ := E6.out.told
          exact bodyPost_ret (v := .agg #[.int .i64 hh, .slice (some ⟨g, 0, none⟩) ss.length uc]) (by simp [results, Try.results49, go_sem, d0, d1]) rfl ⟨hh, _, ss.set 0 [0, 0, 0], q + 1 + 1, by omega, by simp; omega, by omega, rfl, t1, t2, t3⟩
end Go.Proofs.Ytdmbahpifbidlaa
