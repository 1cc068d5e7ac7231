/-
  Contracts of DigAll, the model's and the program's.
-/
import Derived.Test.YtlcfldmiibjboabDgD
import Derived.Test.YtlcfldmiibjboabDgE
import Derived.Test.YtlcfldmiibjboabDgO
import Derived.Test.YtlcfldmiibjboabYsR
import Derived.Test.YtlcfldmiibjboabYiR
namespace Go.Proofs.Ytlcfldmiibjboab
open Go.RowKit
set_option linter.unusedVariables false

/-- A yard that a call gave, laid in a block: made behind the call, or ahead of it. -/
theorem layA {w0 w6 : World} {h : Int} {t : List (List Int)} {u : Value} {x : Int} (n6 : NewY w0.heap.size w6 u t) (b6 : Below w0.heap.size w0 w6) :
    ∃ (Bn : Nat) (u' : Value), Value.pointer (some ⟨w6.heap.size, 0, none⟩) = .pointer (some ⟨Bn, 0, none⟩) ∧ Value.int .i64 x = .int .i64 x ∧ Hid (BoxY Bn (w6.alloc (.cells #[.int .i64 h, u] 29)) h u') ∧ Hid (NewY w0.heap.size (w6.alloc (.cells #[.int .i64 h, u] 29)) u' t) ∧ Hid (Below w0.heap.size w0 (w6.alloc (.cells #[.int .i64 h, u] 29))) :=
  ⟨w6.heap.size, u, rfl, rfl, Lib.hid (BoxY.new _ _ _), Lib.hid (n6.keep ((Below.refl _ _).alloc (Nat.le_refl _) _)), Lib.hid (b6.alloc b6.size _)⟩
theorem layB {w0 w6 : World} {Bn K : Nat} {h h0 : Int} {t : List (List Int)} {u v0 : Value} {x : Int} (n6 : NewY K w6 u t) (g6 : BoxY Bn w6 h0 v0) (hB : Bn < K) (hw : w0.heap.size ≤ Bn) (b6 : Below w0.heap.size w0 w6) :
    ∃ (B : Nat) (u' : Value), Value.pointer (some ⟨Bn, 0, none⟩) = .pointer (some ⟨B, 0, none⟩) ∧ Value.int .i64 x = .int .i64 x ∧ Hid (BoxY B ((w6.setCell ⟨Bn, 0, none⟩ (.int .i64 h)).setCell ⟨Bn, 1, none⟩ u) h u') ∧ Hid (NewY w0.heap.size ((w6.setCell ⟨Bn, 0, none⟩ (.int .i64 h)).setCell ⟨Bn, 1, none⟩ u) u' t) ∧ Hid (Below w0.heap.size w0 ((w6.setCell ⟨Bn, 0, none⟩ (.int .i64 h)).setCell ⟨Bn, 1, none⟩ u)) :=
  ⟨Bn, u, rfl, rfl, Lib.hid ((g6.set0 h).set1 u), Lib.hid (((n6.setLow hB 0 _).setLow hB 1 _).from_ (by omega)), Lib.hid ((b6.setCell (p := ⟨Bn, 0, none⟩) hw _).setCell (p := ⟨Bn, 1, none⟩) hw _)⟩
theorem digM_false {h : Int} {tt : List (List Int)} {x : Int} {l : List (Int × Int)} (e : digM h tt x = (l, false)) : digM h tt x = ([], false) := by
  rcases digM_cases h tt x with q | ⟨_, _, _, _, _, _, _, _, _, _, _, q, _⟩
  · exact q
  · rw [e] at q; simp at q
/-- The box of the yard, and the yard that lies apart from it. -/
theorem stay_set {Y : Nat} {w : World} {h h' : Int} {v v' : Value} {ss : List (List Int)} (hb : BoxY Y w h v) (hs : StayO Y none w v' ss) :
    BoxY Y ((w.setCell ⟨Y, 0, none⟩ (.int .i64 h')).setCell ⟨Y, 1, none⟩ v') h' v' ∧ StayO Y none ((w.setCell ⟨Y, 0, none⟩ (.int .i64 h')).setCell ⟨Y, 1, none⟩ v') v' ss := by
  refine ⟨(hb.set0 _).set1 _, hs.go (by simp [World.setCell]) fun k _ hk _ => ?_⟩
  rw [Below.heap_setCell _ _ _ _ hk, Below.heap_setCell _ _ _ _ hk]

set_option maxRecDepth 10000 in
set_option maxHeartbeats 8000000 in
theorem specDigAll_any (h : Int) (v u : Value) (ss : List (List Int)) (os : List Int) (w : World) (hh : HoldsY w v ss) (ho : HoldsI w u os) (hbd : ss.flatten.length ≤ 1048577) :
    Calls Try.prog 5 #[.agg #[.int .i64 h, v], u] w fun e w' => e = .returned (.tuple #[.int .i64 (digA h ss os).1, .bool (digA h ss os).2]) ∧ Below w.heap.size w w' := by
  have hb1 := (Below.refl w.heap.size w).alloc (Nat.le_refl _) (.cells #[.int .i64 h, v] 29)
  have hH := hh.keep hb1
  have hO := ho.keep hb1
  have hY0 := BoxY.new w h v
  have HOW := Lib.hid fun w' (hb : Below w.heap.size w w') => ho.keep hb
  obtain ⟨w1, hw1⟩ : ∃ w1, w1 = w.alloc (.cells #[.int .i64 h, v] 29) := ⟨_, rfl⟩
  rw [← hw1] at hH hO hY0 hb1
  have HST := Lib.hid fun w' (hb : Below w.heap.size w w') => StayO.of_old (Y := w.heap.size) (o := none) hh hb (Nat.le_refl _) (fun k hk => by cases hk)
  have HOR := Lib.hid (specOrderOk_any h v u ss os w1 hH hO hbd)
  obtain ⟨a, cap, rfl, -, -, -, -⟩ := hh
  obtain ⟨a2, c2, rfl, hc2, hc3, -⟩ := ho
  unfold maxLen at hc3
  have HY := Lib.hid hY0
  have W1 := Lib.hid hw1
  have HB1 := Lib.hid hb1
  cases hok : ordOk h ss os
  · have hr := Lib.hid (show digA h ss os = (-1, false) by unfold digA; rw [hok]; rfl)
    rw [hok] at HOR
    clear hok hY0 hw1 hb1 hH hO
    go_enter Try.func5, Try.ntmps5
    go_wp2_with fail
    rw [← W1.out]
    refine HOR.out.mono ?_
    rintro e w2 ⟨rfl, b2⟩
    go_wp2_with fail
    exact bodyPost_ret (v := .tuple #[.int .i64 (-1), .bool false]) (by simp [results, Try.results5, go_sem]) rfl ⟨by rw [hr.out], HB1.out.trans (b2.mono HB1.out.size)⟩
  · have HOK := Lib.hid hok
    have HL25 := ord_len hok
    have hyd := (ordOk_iff.1 hok).1
    have HLAST := Lib.hid fun n tt (s : AllSt h ss os os.length n tt) => s.last hok
    have HSTK := Lib.hid fun k n tt (s : AllSt h ss os k n tt) hk hd => s.stuck hok hk hd
    have HNXT := Lib.hid fun k n tt (s : AllSt h ss os k n tt) hk l hd => s.next hk (l := l) hd
    have HAS := Lib.hid (AllSt.start (os := os) hyd)
    rw [hok] at HOR
    obtain ⟨q, hqq⟩ : ∃ q, q = os.length := ⟨_, rfl⟩
    rw [← hqq] at HLAST HSTK HNXT HL25 HOW HOR hc2 ⊢
    clear hok hyd hY0 hw1 hb1 hH hO hqq
    go_enter Try.func5, Try.ntmps5
    go_wp2_with fail
    rw [← W1.out]
    refine HOR.out.mono ?_
    rintro e w2 ⟨rfl, b2⟩
    have Y2 := Lib.hid (HY.out.keep b2)
    have B2 := Lib.hid (HB1.out.trans (b2.mono HB1.out.size))
    clear b2 HOR HY W1 HB1
    go_wp2_with fail
    go_loopw [6, 7] (fun x i wr => ∃ (k n : Nat) (xv : Value) (tt : List (List Int)), k ≤ q ∧ i = .int .i64 k ∧ x = .int .i64 n ∧ Hid (AllSt h ss os k n tt) ∧ Hid (BoxY w.heap.size wr h xv) ∧ Hid (StayO w.heap.size none wr xv tt) ∧ Hid (Below w.heap.size w wr)) (fun _ i _ => q - (intOf i).toNat)
    case atStart => exact ⟨0, 0, _, ss, by omega, rfl, rfl, HAS, Y2, Lib.hid (HST.out _ B2.out), B2⟩
    case round =>
      obtain ⟨k, n, xv, tt, hk, rfl, rfl, AS, BX, SO, BR⟩ := hrel
      obtain ⟨xa, xc, rfl⟩ : ∃ a c, xv = .slice a tt.length c := by obtain ⟨a, c, e, _⟩ := SO.out.holds; exact ⟨a, c, e⟩
      by_cases hlt : k < q
      · obtain ⟨b, off, rfl, hbl, s0⟩ := (HOW.out wr BR.out).at_ hlt
        have ik : (k : Int) < (q : Int) := by omega
        have i0k : (0 : Int) ≤ (k : Int) := by omega
        have hfew := AS.out.few
        have HYT := Lib.hid AS.out.ok
        have HSTk := Lib.hid fun hd => HSTK.out _ _ _ AS.out hlt hd
        have HNXk := Lib.hid fun l hd => HNXT.out _ _ _ AS.out hlt l hd
        generalize hx : os.getD k 0 = x at s0 HSTk HNXk
        have HX := Lib.hid hx
        clear hx
        have HDM := Lib.hid fun (w' : World) (hs : Since wr w') => specDigMoves_any h (.slice xa tt.length xc) tt x w' (SO.out.holds.keep hs) (by have := ydOk_size HYT.out; omega)
        unfold DigGives at HDM
        generalize hdm0 : digM h tt x = dm at HDM
        obtain ⟨l, ok⟩ := dm
        have hdm := Lib.hid hdm0
        clear hdm0
        have HK := Lib.hid fun (w' : World) (hs : Since wr w') => (show w'.cell? ⟨w.heap.size, 0, none⟩ = some (.int .i64 h) ∧ w'.cell? ⟨w.heap.size, 1, none⟩ = some (.slice xa tt.length xc) ∧ w'.cell? ⟨b, off + k, none⟩ = some (.int .i64 x) ∧ Since wr w' from
          ⟨(BX.out.keep hs).c0, (BX.out.keep hs).c1, (Below.cell (p := ⟨b, off + k, none⟩) hs hbl).trans s0, hs⟩)
        have hstart := HK.out _ (show Since wr wr.drew from (Below.refl _ _).drew)
        clear s0
        go_wp2_with fail
        go_region_held3 (fun w' => w'.cell? ⟨w.heap.size, 0, none⟩ = some (.int .i64 h) ∧ w'.cell? ⟨w.heap.size, 1, none⟩ = some (.slice xa tt.length xc) ∧ w'.cell? ⟨b, off + k, none⟩ = some (.int .i64 x) ∧ Since wr w')
          (first | exact hstart | exact HK.out _ (Since.call (by exact (‹_ ∧ _› : _ ∧ _ ∧ _ ∧ Since wr _).2.2.2) ‹_›))
          (first
            | (go_at_call 13; ((with_reducible refine (HDM.out _ (by exact (‹_ ∧ _› : _ ∧ _ ∧ _ ∧ Since wr _).2.2.2)).mono ?_); rintro e w3 ⟨v3, rfl, n3, b3⟩; obtain ⟨la, lc, rfl⟩ := FreeM.form n3))
            | fail)
        rename_i hheld
        have b3w : Below wr.heap.size wr w3 := hheld.2.2.2
        have Y3 := Lib.hid (BX.out.keep b3w)
        have SO3 := Lib.hid (SO.out.keep b3w)
        have BR3 := Lib.hid (BR.out.trans (b3w.mono BR.out.size))
        have LM3 := Lib.hid n3
        clear hheld hstart HK HDM b3 n3 b3w AS BX SO BR
        have y30 := Y3.out.c0
        have y31 := Y3.out.c1
        cases ok
        · have hr := Lib.hid (HSTk.out (digM_false hdm.out))
          have B9 := BR3.out
          clear Y3 SO3 BR3 LM3
          go_wp2_with fail
          exact bodyPost_ret (v := .tuple #[.int .i64 (-1), .bool false]) (by simp [results, Try.results5, go_sem]) rfl ⟨by rw [hr.out], B9⟩
        · obtain ⟨f, vv, uu, hrun, hvk, hfi, htk, hl4, hall⟩ := HNXk.out l hdm.out
          have HAL := Lib.hid hall
          have HR := Lib.hid (specYardRun_any h (.slice xa tt.length xc) (.slice la l.length lc) tt l w3 SO3.out.holds LM3.out.holds (by have := ydOk_size HYT.out; omega))
          unfold RunYGives at HR
          rw [hrun] at HR
          clear hrun hall
          go_wp2_with fail
          refine HR.out.mono ?_
          rintro e w4 ⟨u4, rfl, n4, b4⟩
          have n4' : NewY w3.heap.size w4 u4 vv := n4
          obtain ⟨a4, c4, rfl⟩ := n4'.form
          have b5 : Below w4.heap.size w4 (w4.alloc (.cells #[.int .i64 h, .slice a4 vv.length c4] 29)) := (Below.refl _ _).alloc (Nat.le_refl _) _
          have b35 := b4.trans (b5.mono b4.size)
          have X5 := Lib.hid (BoxY.new w4 h (.slice a4 vv.length c4))
          have Y5 := Lib.hid (Y3.out.keep b35)
          have BR5 := Lib.hid (BR3.out.trans (b35.mono BR3.out.size))
          have HH5 := Lib.hid ((n4'.keep b5).holds)
          have s5 := (HOW.out _ BR5.out).at_ hlt
          have hYl : w.heap.size < w4.heap.size := Nat.lt_of_lt_of_le Y3.out.lt b4.size
          clear n4 n4' b4 b5 b35 Y3 SO3 BR3 LM3 HR y30 y31
          go_upto_region 11 with fail
          generalize hW5 : w4.alloc (.cells #[.int .i64 h, .slice a4 vv.length c4] 29) = W5 at X5 Y5 BR5 HH5 s5 ⊢
          have hX5 : w4.heap.size + 1 = W5.heap.size := by rw [← hW5]; simp
          generalize w4.heap.size = X at X5 hX5 ⊢
          clear hW5
          obtain ⟨b', off', e', hbl5, s5⟩ := s5
          simp only [Option.some.injEq, Addr.mk.injEq, and_true] at e'
          obtain ⟨rfl, rfl⟩ := e'
          rw [HX.out] at s5
          go_cut [12, 13] from 18 to 56 (fun pv iv wx => ∃ (Bn : Nat) (u' : Value), pv = .pointer (some ⟨Bn, 0, none⟩) ∧ iv = .int .i64 x ∧ Hid (BoxY Bn wx h u') ∧ Hid (NewY W5.heap.size wx u' uu) ∧ Hid (Below W5.heap.size W5 wx))
          case first =>
            have HFd := Lib.hid (specYardFind_any h (.slice a4 vv.length c4) vv x W5.drew (HH5.out.keep ((Below.refl _ _).drew)) (by have := ydOk_size hvk; omega))
            have HFa := Lib.hid (specYardFind_any h (.slice a4 vv.length c4) vv x (W5.alloc (.cells #[.int .i64 0, .slice none 0 0] 29)).drew (HH5.out.keep (((Below.refl _ _).alloc (Nat.le_refl _) _).drew)) (by have := ydOk_size hvk; omega))
            have HT := Lib.hid fun w' (hh : HoldsY w' (.slice a4 vv.length c4) vv) => specYardTake_any h (.slice a4 vv.length c4) vv f w' hh (by have := ydOk_size hvk; omega)
            unfold TakeYGives at HT
            rw [hfi] at HFd HFa
            rw [htk] at HT
            have H0 := Lib.hid fun (w' : World) (hs : Since W5 w') => HH5.out.keep hs
            have CELL := Lib.hid fun (w' : World) (hs : Since W5 w') => (show w'.cell? ⟨X, 0, none⟩ = some (.int .i64 h) ∧ w'.cell? ⟨X, 1, none⟩ = some (.slice a4 vv.length c4) ∧ w'.cell? ⟨b, off + k, none⟩ = some (.int .i64 x) ∧ Since W5 w' from ⟨(X5.out.keep hs).c0, (X5.out.keep hs).c1, (Below.cell (p := ⟨b, off + k, none⟩) hs hbl5).trans s5, hs⟩)
            have hstart := CELL.out _ (show Since W5 W5.drew from (Below.refl _ _).drew)
            have HST2 := Lib.hid fun o : Obj => CELL.out _ (show Since W5 (W5.alloc o).drew from ((Below.refl _ _).alloc (Nat.le_refl _) o).drew)
            clear s5 hfi htk
            go_region_held3 (fun w' => w'.cell? ⟨X, 0, none⟩ = some (.int .i64 h) ∧ w'.cell? ⟨X, 1, none⟩ = some (.slice a4 vv.length c4) ∧ w'.cell? ⟨b, off + k, none⟩ = some (.int .i64 x) ∧ Since W5 w')
              (first | exact hstart | exact HST2.out _ | exact CELL.out _ (Since.on (by exact (‹_ ∧ _› : _ ∧ _ ∧ _ ∧ Since W5 _).2.2.2) ‹Below W5.heap.size _ _›) | exact CELL.out _ (Since.call (by exact (‹_ ∧ _› : _ ∧ _ ∧ _ ∧ Since W5 _).2.2.2) ‹_›) | exact CELL.out _ (Since.alloc S11.out _) | exact CELL.out _ (Since.alloc (by exact (‹_ ∧ _› : _ ∧ _ ∧ _ ∧ Since W5 _).2.2.2) _) | exact CELL.out _ (Below.setCell (Below.setCell S11.out HB11.out.2 _) HB11.out.2 _) | fail)
              (first
                | (go_at_call 16; ((with_reducible refine HFd.out.mono ?_); rintro e w10 ⟨rfl, b10⟩; have S10 := Lib.hid (show Since W5 w10 from Below.trans ((Below.refl _ _).drew) b10); have L10 := Below.size S10.out))
                | (go_at_call 16; ((with_reducible refine HFa.out.mono ?_); rintro e w10 ⟨rfl, b10⟩; have BX10 := Lib.hid (((BoxY.new W5 0 (.slice none 0 0)).keep ((Below.refl _ _).drew)).keep b10); have LBN := Lib.hid (Nat.le_refl W5.heap.size); have S10 := Lib.hid (show Since W5 w10 from Below.trans (((Below.refl _ _).alloc (Nat.le_refl _) _).drew) (b10.mono (by simp))); have L10 := Below.size S10.out))
                | (go_at_call 15; ((with_reducible refine (HT.out w10 (H0.out _ S10.out)).mono ?_); rintro e w11 ⟨v11, rfl, n11, b11⟩; obtain ⟨p11, k11, rfl⟩ := NewY.form n11; have S11 := Lib.hid (show Since W5 w11 from Since.call (by exact (‹_ ∧ _› : _ ∧ _ ∧ _ ∧ Since W5 _).2.2.2) b11); have BX11 := Lib.hid (BX10.out.keep b11); have HB11 := Lib.hid (And.intro BX10.out.lt LBN.out); have d0 := BX11.out.c0; have d1 := BX11.out.c1; have e0 := BX11.out.frozen 0; have e1 := BX11.out.frozen 1; have B11 := b11.size; have N11 := Lib.hid n11; clear n11))
                | (go_at_call 15; ((with_reducible refine (HT.out w10 (H0.out _ S10.out)).mono ?_); rintro e w11 ⟨v11, rfl, n11, b11⟩; obtain ⟨p11, k11, rfl⟩ := NewY.form n11; have S11 := Lib.hid (show Since W5 w11 from Since.call (by exact (‹_ ∧ _› : _ ∧ _ ∧ _ ∧ Since W5 _).2.2.2) b11); have B11 := b11.size; have N11 := Lib.hid n11; clear n11))
                | (go_at_call 15; ((with_reducible refine (HT.out (w10.alloc (.cells #[.int .i64 0, .slice none 0 0] 29)) (H0.out _ (Since.alloc S10.out _))).mono ?_); rintro e w11 ⟨v11, rfl, n11, b11⟩; obtain ⟨p11, k11, rfl⟩ := NewY.form n11; have S11 := Lib.hid (show Since W5 w11 from Since.call (by exact (‹_ ∧ _› : _ ∧ _ ∧ _ ∧ Since W5 _).2.2.2) b11); have BX11 := Lib.hid ((BoxY.new w10 0 (.slice none 0 0)).keep b11); have HB11 := Lib.hid (And.intro (show w10.heap.size < (w10.alloc (.cells #[.int .i64 0, .slice none 0 0] 29)).heap.size by simp) L10); have d0 := BX11.out.c0; have d1 := BX11.out.c1; have e0 := BX11.out.frozen 0; have e1 := BX11.out.frozen 1; have B11 := b11.size; have N11 := Lib.hid n11; clear n11))
                | fail)
            all_goals
              go_wp2_with fail
              go_meet
              first
                | exact layA (N11.out.from_ L10) S11.out
                | exact layB N11.out BX11.out HB11.out.1 HB11.out.2 S11.out
          case rest =>
            obtain ⟨Z, u6, rfl, rfl, HB, HN, HL⟩ := hcut
            rename World => W7
            obtain ⟨a6, c6, rfl⟩ := HN.out.form
            have hYW := Y5.out.lt
            have y7 := Y5.out.keep HL.out
            have z7 := HB.out
            have hst := Lib.hid (stay_set (h' := h) y7 (StayO.of_new HN.out hYW (fun k hk => by cases hk)))
            have BR8 := Lib.hid (((BR5.out.trans (HL.out.mono BR5.out.size)).setCell (p := ⟨w.heap.size, 0, none⟩) (Nat.le_refl _) (.int .i64 h)).setCell (p := ⟨w.heap.size, 1, none⟩) (Nat.le_refl _) (.slice a6 uu.length c6))
            have za := z7.c0
            have zb := z7.c1
            have ya := y7.c0
            have yb := y7.c1
            have ea := y7.frozen 0
            have eb := y7.frozen 1
            clear y7 z7 HB HN HL s5 hfi htk
            have hnl : ((n : Int) + (l.length : Int)) = ((n + l.length : Nat) : Int) := by omega
            have HNL := Lib.hid hnl
            clear hnl
            go_wp2_with fail
            go_roundw
            case rel => exact ⟨k + 1, n + l.length, _, uu, by omega, by go_num, by go_num, HAL, Lib.hid hst.out.1, Lib.hid hst.out.2, BR8⟩
            case measure => simp [intOf]; omega
      · have hkq : k = q := by omega
        subst hkq
        have hr := Lib.hid (HLAST.out _ _ AS.out)
        have B9 := BR.out
        clear AS BX SO
        go_wp2_with fail
        exact bodyPost_ret (v := .tuple #[.int .i64 n, .bool true]) (by simp [results, Try.results5, go_sem]) rfl ⟨by rw [hr.out], B9⟩
set_option maxRecDepth 10000 in
set_option maxHeartbeats 8000000 in
theorem implDigAll_any (h : Int) (v u : Value) (ss : List (List Int)) (os : List Int) (w : World) (hh : HoldsY w v ss) (ho : HoldsI w u os) :
    Calls Try.prog 8 #[.agg #[.int .i64 h, v], u] w fun e w' => e = .returned (.tuple #[.int .i64 (digA h ss os).1, .bool (digA h ss os).2]) ∧ Below w.heap.size w w' := by
  have hb1 := (Below.refl w.heap.size w).alloc (Nat.le_refl _) (.cells #[.int .i64 h, v] 29)
  have hH := hh.keep hb1
  have hO := ho.keep hb1
  have hY0 := BoxY.new w h v
  have HOW := Lib.hid fun w' (hb : Below w.heap.size w w') => ho.keep hb
  obtain ⟨w1, hw1⟩ : ∃ w1, w1 = w.alloc (.cells #[.int .i64 h, v] 29) := ⟨_, rfl⟩
  rw [← hw1] at hH hO hY0 hb1
  have HST := Lib.hid fun w' (hb : Below w.heap.size w w') => StayO.of_old (Y := w.heap.size) (o := none) hh hb (Nat.le_refl _) (fun k hk => by cases hk)
  have HOR := Lib.hid (implOrderOk_any h v u ss os w1 hH hO)
  obtain ⟨a, cap, rfl, -, -, -, -⟩ := hh
  obtain ⟨a2, c2, rfl, hc2, hc3, -⟩ := ho
  unfold maxLen at hc3
  have HY := Lib.hid hY0
  have W1 := Lib.hid hw1
  have HB1 := Lib.hid hb1
  cases hok : ordOk h ss os
  · have hr := Lib.hid (show digA h ss os = (-1, false) by unfold digA; rw [hok]; rfl)
    rw [hok] at HOR
    clear hok hY0 hw1 hb1 hH hO
    go_enter Try.func8, Try.ntmps8
    go_wp2_with fail
    rw [← W1.out]
    refine HOR.out.mono ?_
    rintro e w2 ⟨rfl, b2⟩
    go_wp2_with fail
    exact bodyPost_ret (v := .tuple #[.int .i64 (-1), .bool false]) (by simp [results, Try.results8, go_sem]) rfl ⟨by rw [hr.out], HB1.out.trans (b2.mono HB1.out.size)⟩
  · have HOK := Lib.hid hok
    have HL25 := ord_len hok
    have hyd := (ordOk_iff.1 hok).1
    have HLAST := Lib.hid fun n tt (s : AllSt h ss os os.length n tt) => s.last hok
    have HSTK := Lib.hid fun k n tt (s : AllSt h ss os k n tt) hk hd => s.stuck hok hk hd
    have HNXT := Lib.hid fun k n tt (s : AllSt h ss os k n tt) hk l hd => s.next hk (l := l) hd
    have HAS := Lib.hid (AllSt.start (os := os) hyd)
    rw [hok] at HOR
    obtain ⟨q, hqq⟩ : ∃ q, q = os.length := ⟨_, rfl⟩
    rw [← hqq] at HLAST HSTK HNXT HL25 HOW HOR hc2 ⊢
    clear hok hyd hY0 hw1 hb1 hH hO hqq
    go_enter Try.func8, Try.ntmps8
    go_wp2_with fail
    rw [← W1.out]
    refine HOR.out.mono ?_
    rintro e w2 ⟨rfl, b2⟩
    have Y2 := Lib.hid (HY.out.keep b2)
    have B2 := Lib.hid (HB1.out.trans (b2.mono HB1.out.size))
    clear b2 HOR HY W1 HB1
    go_wp2_with fail
    go_loopw [6, 19] (fun x i wr => ∃ (k n : Nat) (xv : Value) (tt : List (List Int)), k ≤ q ∧ i = .int .i64 k ∧ x = .int .i64 n ∧ Hid (AllSt h ss os k n tt) ∧ Hid (BoxY w.heap.size wr h xv) ∧ Hid (StayO w.heap.size none wr xv tt) ∧ Hid (Below w.heap.size w wr)) (fun _ i _ => q - (intOf i).toNat)
    case atStart => exact ⟨0, 0, _, ss, by omega, rfl, rfl, HAS, Y2, Lib.hid (HST.out _ B2.out), B2⟩
    case round =>
      obtain ⟨k, n, xv, tt, hk, rfl, rfl, AS, BX, SO, BR⟩ := hrel
      obtain ⟨xa, xc, rfl⟩ : ∃ a c, xv = .slice a tt.length c := by obtain ⟨a, c, e, _⟩ := SO.out.holds; exact ⟨a, c, e⟩
      by_cases hlt : k < q
      · obtain ⟨b, off, rfl, hbl, s0⟩ := (HOW.out wr BR.out).at_ hlt
        have ik : (k : Int) < (q : Int) := by omega
        have i0k : (0 : Int) ≤ (k : Int) := by omega
        have hfew := AS.out.few
        have HYT := Lib.hid AS.out.ok
        have HSTk := Lib.hid fun hd => HSTK.out _ _ _ AS.out hlt hd
        have HNXk := Lib.hid fun l hd => HNXT.out _ _ _ AS.out hlt l hd
        generalize hx : os.getD k 0 = x at s0 HSTk HNXk
        have HX := Lib.hid hx
        clear hx
        have HDM := Lib.hid (implDigMoves_any h (.slice xa tt.length xc) tt x wr SO.out.holds)
        unfold DigGives at HDM
        generalize hdm0 : digM h tt x = dm at HDM
        obtain ⟨l, ok⟩ := dm
        have hdm := Lib.hid hdm0
        have y0 := BX.out.c0
        have y1 := BX.out.c1
        clear hdm0
        go_wp2_with fail
        refine HDM.out.mono ?_
        rintro e w3 ⟨v3, rfl, n3, b3w⟩
        obtain ⟨la, lc, rfl⟩ := FreeM.form n3
        have Y3 := Lib.hid (BX.out.keep b3w)
        have SO3 := Lib.hid (SO.out.keep b3w)
        have BR3 := Lib.hid (BR.out.trans (b3w.mono BR.out.size))
        have LM3 := Lib.hid n3
        clear s0 HDM n3 b3w AS BX SO BR y0 y1
        have y30 := Y3.out.c0
        have y31 := Y3.out.c1
        cases ok
        · have hr := Lib.hid (HSTk.out (digM_false hdm.out))
          have B9 := BR3.out
          clear Y3 SO3 BR3 LM3
          go_wp2_with fail
          exact bodyPost_ret (v := .tuple #[.int .i64 (-1), .bool false]) (by simp [results, Try.results8, go_sem]) rfl ⟨by rw [hr.out], B9⟩
        · obtain ⟨f, vv, uu, hrun, hvk, hfi, htk, hl4, hall⟩ := HNXk.out l hdm.out
          have HAL := Lib.hid hall
          have HR := Lib.hid (implYardRun_any h (.slice xa tt.length xc) (.slice la l.length lc) tt l w3 SO3.out.holds LM3.out.holds)
          unfold RunYGivesF at HR
          rw [hrun] at HR
          clear hrun hall
          go_wp2_with fail
          refine HR.out.mono ?_
          rintro e w4 ⟨u4, rfl, n4, b4⟩
          have n4' : NewY w3.heap.size w4 u4 vv := FreeY.newY n4
          obtain ⟨a4, c4, rfl⟩ := n4'.form
          have b5 : Below w4.heap.size w4 (w4.alloc (.cells #[.int .i64 h, .slice a4 vv.length c4] 29)) := (Below.refl _ _).alloc (Nat.le_refl _) _
          have b35 := b4.trans (b5.mono b4.size)
          have X5 := Lib.hid (BoxY.new w4 h (.slice a4 vv.length c4))
          have Y5 := Lib.hid (Y3.out.keep b35)
          have BR5 := Lib.hid (BR3.out.trans (b35.mono BR3.out.size))
          have HH5 := Lib.hid ((n4'.keep b5).holds)
          have s5 := (HOW.out _ BR5.out).at_ hlt
          have hYl : w.heap.size < w4.heap.size := Nat.lt_of_lt_of_le Y3.out.lt b4.size
          clear n4 n4' b4 b5 b35 Y3 SO3 BR3 LM3 HR y30 y31
          have hnl : ((n : Int) + (l.length : Int)) = ((n + l.length : Nat) : Int) := by omega
          clear s5 hnl
          go_upto_region 12 with fail
          generalize hW5 : w4.alloc (.cells #[.int .i64 h, .slice a4 vv.length c4] 29) = W5 at X5 Y5 BR5 HH5 ⊢
          have hX5 : w4.heap.size + 1 = W5.heap.size := by rw [← hW5]; simp
          generalize w4.heap.size = X at X5 hX5 hYl ⊢
          clear hW5
          have HFd := Lib.hid (implYardFind_any h (.slice a4 vv.length c4) vv x W5.drew (HH5.out.keep ((Below.refl _ _).drew)))
          have HT := Lib.hid fun w' (hs : Since W5 w') => implYardTake_any h (.slice a4 vv.length c4) vv f w' (HH5.out.keep hs)
          unfold TakeYGivesF at HT
          rw [hfi] at HFd
          rw [htk] at HT
          have CELL := Lib.hid fun (w' : World) (hs : Since W5 w') => (show w'.cell? ⟨X, 0, none⟩ = some (.int .i64 h) ∧ w'.cell? ⟨X, 1, none⟩ = some (.slice a4 vv.length c4) from ⟨(X5.out.keep hs).c0, (X5.out.keep hs).c1⟩)
          have CEL2 := Lib.hid fun (w' : World) (y : Value) (hs : Since W5 w') => (show ((w'.setCell ⟨w.heap.size, 0, none⟩ (.int .i64 h)).setCell ⟨w.heap.size, 1, none⟩ y).cell? ⟨X, 0, none⟩ = some (.int .i64 h) ∧ ((w'.setCell ⟨w.heap.size, 0, none⟩ (.int .i64 h)).setCell ⟨w.heap.size, 1, none⟩ y).cell? ⟨X, 1, none⟩ = some (.slice a4 vv.length c4) from
            ⟨(((X5.out.keep hs).other (by omega) 0 _).other (by omega) 1 _).c0, (((X5.out.keep hs).other (by omega) 0 _).other (by omega) 1 _).c1⟩)
          have hstart := CELL.out _ (show Since W5 W5.drew from (Below.refl _ _).drew)
          clear hfi htk
          go_region_held3 (fun w' => w'.cell? ⟨X, 0, none⟩ = some (.int .i64 h) ∧ w'.cell? ⟨X, 1, none⟩ = some (.slice a4 vv.length c4))
            (first | exact hstart | exact CELL.out _ S10.out | exact CELL.out _ S11.out | exact CEL2.out _ _ S11.out | fail)
            (first
              | (go_at_call 22; ((with_reducible refine HFd.out.mono ?_); rintro e w10 ⟨rfl, b10⟩; have S10 := Lib.hid (show Since W5 w10 from Below.trans ((Below.refl _ _).drew) b10)))
              | (go_at_call 21; ((with_reducible refine (HT.out w10 S10.out).mono ?_); rintro e w11 ⟨v11, rfl, n11, b11⟩; obtain ⟨p11, k11, rfl⟩ := FreeY.form n11; have S11 := Lib.hid (show Since W5 w11 from Since.call S10.out b11); have N11 := Lib.hid (FreeY.newY n11); have y11 := Y5.out.keep S11.out; have d0 := y11.c0; have d1 := y11.c1; have e0 := y11.frozen 0; have e1 := y11.frozen 1; clear n11 y11))
              | fail)
          have hst := Lib.hid (stay_set (h' := h) (Y5.out.keep S11.out) (StayO.of_new N11.out (by have := Below.size S10.out; omega) (fun k hk => by cases hk)))
          have BR8 := Lib.hid (((BR5.out.trans (Below.mono S11.out BR5.out.size)).setCell (p := ⟨w.heap.size, 0, none⟩) (Nat.le_refl _) (.int .i64 h)).setCell (p := ⟨w.heap.size, 1, none⟩) (Nat.le_refl _) (.slice p11 uu.length k11))
          clear S10 S11 N11 Y5 X5 BR5 HH5 CELL CEL2 hstart HT HFd d0 d1 e0 e1
          go_wp2_with fail
          go_roundw
          case rel => exact ⟨k + 1, n + l.length, _, uu, by omega, by go_num, by go_num, HAL, Lib.hid hst.out.1, Lib.hid hst.out.2, BR8⟩
          case measure => simp [intOf]; omega
      · have hkq : k = q := by omega
        subst hkq
        have hr := Lib.hid (HLAST.out _ _ AS.out)
        have B9 := BR.out
        clear AS BX SO
        go_wp2_with fail
        exact bodyPost_ret (v := .tuple #[.int .i64 n, .bool true]) (by simp [results, Try.results8, go_sem]) rfl ⟨by rw [hr.out], B9⟩
end Go.Proofs.Ytlcfldmiibjboab
