/-
  The law's replay of moves by which boxes leave: leaves.
-/
import Derived.Test.YtlcfldmiibjboaaDgA
import Derived.Test.YtlcfldmiibjboaaYiM
import Derived.Test.YtlcfldmiibjboaaYiT
import Derived.Deep.CutRange
namespace Go.Proofs.Ytlcfldmiibjboaa
open Go.RowKit
set_option linter.unusedVariables false

/-- A list of moves so far: the yard behind it, k of the order have left, N boxes were moved. -/
structure BlkSt (h : Int) (ss : List (List Int)) (os : List Int) (k N : Nat) (tt : List (List Int)) (l : List (Int × Int)) : Prop where
  ok : ydOk h tt = true
  all : ∀ r, lv h (l ++ r) ss os = ((lv h r tt (os.drop k)).1 + N, (lv h r tt (os.drop k)).2)
theorem BlkSt.start {h : Int} {ss tt : List (List Int)} {l : List (Int × Int)} (os : List Int) (hk : ydOk h ss = true) (hd : Done h ss l tt) : BlkSt h ss os 0 l.length tt l :=
  ⟨(hd.ok hk).1, fun r => by rw [List.drop_zero]; exact lv_done r os hd⟩
theorem mem_pos {h : Int} {ss : List (List Int)} {x : Int} (hk : ydOk h ss = true) (hm : x ∈ ss.flatten) : 0 ≤ x := by
  obtain ⟨s, hs, hx⟩ := List.mem_flatten.1 hm
  obtain ⟨k, hkl, rfl⟩ := List.mem_iff_getElem.1 hx
  have := ((stOk_iff.1 ((ydOk_iff.1 hk).1 s hs)).1 k hkl).1
  omega
theorem BlkSt.next {h : Int} {ss tt : List (List Int)} {os : List Int} {k N : Nat} {l : List (Int × Int)} (s : BlkSt h ss os k N tt l) (hk : k < os.length) {d : List (Int × Int)} (hd : digM h tt (os.getD k 0) = (d, true)) :
    ∃ (f : Nat) (vv uu : List (List Int)), runY h tt d = ((h, vv), (d.length : Int)) ∧ ydOk h vv = true ∧ findY h vv (os.getD k 0) = (f : Int) ∧ takeY h vv (f : Int) = ((h, uu), os.getD k 0) ∧ d.length ≤ 4 ∧ BlkSt h ss os (k + 1) (N + d.length) uu ((l ++ d) ++ [((f : Int), -1)]) := by
  rcases digM_cases h tt (os.getD k 0) with e | ⟨hok, hm, f, lo, up, l', vv, h1, h2, h3, h4, e, h5, h6, h7, h8, h9, h10, h11, h12, h13, h14, h15, h16⟩
  · rw [e] at hd; cases hd
  · rw [e] at hd
    cases hd
    refine ⟨f, vv, _, h9, h10, h14, h15, h6, h16, fun r => ?_⟩
    have hx := mem_pos hok hm
    rw [getD_i hk] at h15 hx
    rw [List.append_assoc, List.append_assoc, s.all, lv_done _ _ h7, List.drop_eq_getElem_cons hk, List.singleton_append, lv_take r _ h15 hx]
    simp only [Nat.add_assoc, Nat.add_comm N]
theorem BlkSt.last {h : Int} {ss tt : List (List Int)} {os : List Int} {N : Nat} {l : List (Int × Int)} (s : BlkSt h ss os os.length N tt l) : lv h l ss os = (N, true) := by
  have := s.all []
  rw [List.append_nil, List.drop_length] at this
  simpa [lv] using this
theorem blk_law {h : Int} {ss : List (List Int)} {os : List Int} {l : List (Int × Int)} {N : Nat} (ho : ordOk h ss os = true) (he : lv h l ss os = (N, true)) : blocking h ss os ≤ (N : Int) := by
  have := lv_ge l ss os (ordOk_iff.1 ho).1 (by rw [he])
  rw [he] at this
  unfold blocking
  rw [if_pos ho]
  exact Int.ofNat_le.2 this
theorem blk_no {h : Int} {ss : List (List Int)} {os : List Int} (ho : ordOk h ss os = false) : blocking h ss os = -1 := by
  unfold blocking
  rw [ho]
  rfl
theorem blk_ge0 {h : Int} {ss : List (List Int)} {os : List Int} (ho : ordOk h ss os = true) : 0 ≤ blocking h ss os := by
  unfold blocking
  rw [if_pos ho]
  omega
/-- A yard that a call gave, laid in a block, beside a value: made behind the call, or ahead of it. -/
theorem layV {w0 w6 : World} {h : Int} {t : List (List Int)} {u z : Value} (n6 : NewY w0.heap.size w6 u t) (b6 : Below w0.heap.size w0 w6) :
    ∃ (Bn : Nat) (u' : Value), Value.pointer (some ⟨w6.heap.size, 0, none⟩) = .pointer (some ⟨Bn, 0, none⟩) ∧ z = z ∧ Hid (BoxY Bn (w6.alloc (.cells #[.int .i64 h, u] 25)) h u') ∧ Hid (NewY w0.heap.size (w6.alloc (.cells #[.int .i64 h, u] 25)) u' t) ∧ Hid (Below w0.heap.size w0 (w6.alloc (.cells #[.int .i64 h, u] 25))) := by
  obtain ⟨Bn, u', e, -, h1, h2, h3⟩ := layA (x := 0) (h := h) n6 b6
  exact ⟨Bn, u', e, rfl, h1, h2, h3⟩
theorem layW {w0 w6 : World} {Bn K : Nat} {h h0 : Int} {t : List (List Int)} {u v0 z : Value} (n6 : NewY K w6 u t) (g6 : BoxY Bn w6 h0 v0) (hB : Bn < K) (hw : w0.heap.size ≤ Bn) (b6 : Below w0.heap.size w0 w6) :
    ∃ (B : Nat) (u' : Value), Value.pointer (some ⟨Bn, 0, none⟩) = .pointer (some ⟨B, 0, none⟩) ∧ z = z ∧ Hid (BoxY B ((w6.setCell ⟨Bn, 0, none⟩ (.int .i64 h)).setCell ⟨Bn, 1, none⟩ u) h u') ∧ Hid (NewY w0.heap.size ((w6.setCell ⟨Bn, 0, none⟩ (.int .i64 h)).setCell ⟨Bn, 1, none⟩ u) u' t) ∧ Hid (Below w0.heap.size w0 ((w6.setCell ⟨Bn, 0, none⟩ (.int .i64 h)).setCell ⟨Bn, 1, none⟩ u)) := by
  obtain ⟨B, u', e, -, h1, h2, h3⟩ := layB (x := 0) (h := h) n6 g6 hB hw b6
  exact ⟨B, u', e, rfl, h1, h2, h3⟩

set_option maxRecDepth 10000 in
set_option maxHeartbeats 8000000 in
theorem leaves_any (h : Int) (v u o : Value) (ss : List (List Int)) (l : List (Int × Int)) (os : List Int) (w : World) (hh : HoldsY w v ss) (hl : HoldsM w u l) (ho : HoldsI w o os) (hl1 : l.length ≤ 1000) :
    Calls Try.prog 48 #[.agg #[.int .i64 h, v], u, o] w fun e w' => e = .returned (.tuple #[.int .i64 (lv h l ss os).1, .bool (lv h l ss os).2]) ∧ Below w.heap.size w w' := by
  have hb1 := (Below.refl w.heap.size w).alloc (Nat.le_refl _) (.cells #[.int .i64 h, v] 25)
  have hY0 := BoxY.new w h v
  have HST := Lib.hid fun w' (hb : Below w.heap.size w w') => StayO.of_old (Y := w.heap.size) (o := none) hh hb (Nat.le_refl _) (fun k hk => by cases hk)
  have HOW := Lib.hid fun w' (hb : Below w.heap.size w w') => ho.keep hb
  have HLW := Lib.hid fun w' (hb : Below w.heap.size w w') => hl.keep hb
  obtain ⟨oa, oc, rfl⟩ := ho.form
  obtain ⟨la, lc, rfl⟩ : ∃ a c, u = .slice a l.length c := by obtain ⟨a, c, e, _⟩ := hl; exact ⟨a, c, e⟩
  have ho1 : os.length ≤ 9223372036854775807 := by
    obtain ⟨a', c', e, q1, q2, _⟩ := ho
    unfold maxLen at q2
    omega
  have AS0 := Lib.hid (show lv h l ss os = ((lv h (l.drop 0) ss (os.drop 0)).1 + 0, (lv h (l.drop 0) ss (os.drop 0)).2) by rw [List.drop_zero, List.drop_zero]; rfl)
  obtain ⟨res, hres⟩ : ∃ res, res = lv h l ss os := ⟨_, rfl⟩
  rw [← hres] at AS0 ⊢
  obtain ⟨q, hqq⟩ : ∃ q, q = l.length := ⟨_, rfl⟩
  obtain ⟨p, hpp⟩ : ∃ p, p = os.length := ⟨_, rfl⟩
  have HLM := Lib.hid fun k (hk : k < l.length) a tt => (show lv h (l.drop k) tt (os.drop a) = lv h (l[k] :: l.drop (k + 1)) tt (os.drop a) by rw [List.drop_eq_getElem_cons hk])
  have HLE := Lib.hid fun a tt (ha : a ≤ os.length) => (show lv h (l.drop l.length) tt (os.drop a) = (0, ((a : Int) == (os.length : Int))) by
    rw [List.drop_length, lv]
    congr 1
    by_cases e : a = os.length
    · subst e; rw [List.drop_length]; simp
    · have hl : 0 < (os.drop a).length := by rw [List.length_drop]; omega
      have hne : ¬ ((a : Int) = (os.length : Int)) := by omega
      cases hd : os.drop a with
      | nil => rw [hd] at hl; exact absurd hl (Nat.lt_irrefl 0)
      | cons x t => simp [hne])
  have HOE := Lib.hid (show os.drop os.length = [] from List.drop_length)
  have HON := Lib.hid fun a (ha : a < os.length) => (show os.drop a = os.getD a 0 :: os.drop (a + 1) by rw [getD_i ha]; exact List.drop_eq_getElem_cons ha)
  rw [← hqq] at HLE HLW hl1
  rw [← hpp] at HLE HOE HON HOW ho1
  have HY := Lib.hid hY0
  have HB1 := Lib.hid hb1
  have HQ := Lib.hid hqq
  rw [← hqq, ← hpp]
  clear hY0 hb1 hh hl ho hres hpp hqq
  go_enter Try.func48, Try.ntmps48
  go_wp2_with fail
  go_loopw [8, 9, 10] (fun n a i wr => ∃ (k j N : Nat) (xv : Value) (tt : List (List Int)), k ≤ q ∧ j ≤ p ∧ N ≤ k ∧ i = .int .i64 k ∧ a = .int .i64 j ∧ n = .int .i64 N ∧ Hid (res = ((lv h (l.drop k) tt (os.drop j)).1 + N, (lv h (l.drop k) tt (os.drop j)).2)) ∧ Hid (BoxY w.heap.size wr h xv) ∧ Hid (StayO w.heap.size none wr xv tt) ∧ Hid (Below w.heap.size w wr)) (fun _ _ i _ => q - (intOf i).toNat)
  case atStart => exact ⟨0, 0, 0, _, ss, by omega, by omega, by omega, rfl, rfl, rfl, AS0, HY, Lib.hid (HST.out _ HB1.out), HB1⟩
  case round =>
    obtain ⟨k, j, N, xv, tt, hk, hj, hN, rfl, rfl, rfl, AS, BX, SO, BR⟩ := hrel
    obtain ⟨xa, xc, rfl⟩ : ∃ a c, xv = .slice a tt.length c := by obtain ⟨a, c, e, _⟩ := SO.out.holds; exact ⟨a, c, e⟩
    clear HST HY HB1 AS0
    by_cases hlt : k < q
    · obtain ⟨b, off, hkl, rfl, hbl, m0, m1⟩ := (HLW.out wr BR.out).at_ hlt
      have ik : (k : Int) < (q : Int) := by omega
      have i0k : (0 : Int) ≤ (k : Int) := by omega
      have AS2 := AS.out
      rw [HLM.out k hkl] at AS2
      obtain ⟨mv, hmv⟩ : ∃ mv, mv = l[k] := ⟨_, rfl⟩
      rw [← hmv] at AS2 m0 m1
      obtain ⟨f, t⟩ := mv
      have m0 : wr.cell? ⟨b, off + k * 2, none⟩ = some (.int .i64 f) := m0
      have m1 : wr.cell? ⟨b, off + k * 2 + 1, none⟩ = some (.int .i64 t) := m1
      have HM := Lib.hid fun (w' : World) (hs : Since wr w') => implYardMove_any h (.slice xa tt.length xc) tt f t w' (SO.out.holds.keep hs)
      have HT := Lib.hid fun (w' : World) (hs : Since wr w') => implYardTake_any h (.slice xa tt.length xc) tt f w' (SO.out.holds.keep hs)
      unfold MoveYGivesF at HM
      unfold TakeYGivesF at HT
      by_cases ht0 : 0 ≤ t
      · have AS3 := AS2
        unfold lv at AS3
        simp only [ht0, if_true] at AS3
        clear AS2 HT
        obtain ⟨mm, hmm⟩ : ∃ mm, mm = moveY h tt f t := ⟨_, rfl⟩
        rw [← hmm] at HM AS3
        obtain ⟨⟨h', uu⟩, ok⟩ := mm
        have HMM := Lib.hid hmm.symm
        have AS4 := Lib.hid AS3
        have HM' : Hid (∀ w', Since wr w' → Calls Try.prog 27 #[.agg #[.int .i64 h, .slice xa tt.length xc], .agg #[.int .i64 f, .int .i64 t]] w' fun e w'' => ∃ u, e = .returned (.tuple #[.agg #[.int .i64 h', u], .bool ok]) ∧ FreeY w'.heap.size w''.heap.size w'' u uu.length (rowAt uu) ∧ Below w'.heap.size w' w'') := HM
        clear HM hmm AS3 hmv
        go_upto_region 7 with fail
        go_cut [11, 12] from 15 to 71 (fun pv iv wx => ∃ (Bn : Nat) (u' : Value), pv = .pointer (some ⟨Bn, 0, none⟩) ∧ iv = .bool ok ∧ Hid (BoxY Bn wx h' u') ∧ Hid (NewY wr.heap.size wx u' uu) ∧ Hid (Below wr.heap.size wr wx))
        case first =>
          have CELL := Lib.hid fun (w' : World) (hs : Since wr w') => (show w'.cell? ⟨w.heap.size, 0, none⟩ = some (.int .i64 h) ∧ w'.cell? ⟨w.heap.size, 1, none⟩ = some (.slice xa tt.length xc) ∧ w'.cell? ⟨b, off + k * 2, none⟩ = some (.int .i64 f) ∧ w'.cell? ⟨b, off + k * 2 + 1, none⟩ = some (.int .i64 t) ∧ Since wr w' from ⟨(BX.out.keep hs).c0, (BX.out.keep hs).c1, (Below.cell hs (p := ⟨b, off + k * 2, none⟩) hbl).trans m0, (Below.cell hs (p := ⟨b, off + k * 2 + 1, none⟩) hbl).trans m1, hs⟩)
          have SD := Lib.hid (show Since wr wr.drew from (Below.refl _ _).drew)
          have SA := Lib.hid (show Since wr ((wr.alloc (.cells #[.int .i64 0, .slice none 0 0] 25)).drew) from ((Below.refl _ _).alloc (Nat.le_refl _) _).drew)
          have hstart := CELL.out _ SD.out
          have HST2 := Lib.hid fun o : Obj => CELL.out _ (show Since wr (wr.alloc o).drew from ((Below.refl _ _).alloc (Nat.le_refl _) o).drew)
          go_region_held3 (fun w' => w'.cell? ⟨w.heap.size, 0, none⟩ = some (.int .i64 h) ∧ w'.cell? ⟨w.heap.size, 1, none⟩ = some (.slice xa tt.length xc) ∧ w'.cell? ⟨b, off + k * 2, none⟩ = some (.int .i64 f) ∧ w'.cell? ⟨b, off + k * 2 + 1, none⟩ = some (.int .i64 t) ∧ Since wr w')
            (first | exact hstart | exact HST2.out _ | exact CELL.out _ S11.out | exact CELL.out _ (Since.alloc S11.out _) | exact CELL.out _ (Since.alloc (by exact (‹_ ∧ _› : _ ∧ _ ∧ _ ∧ _ ∧ Since wr _).2.2.2.2) _) | exact CELL.out _ (Below.setCell (Below.setCell S11.out HB11.out.2 _) HB11.out.2 _) | fail)
            (first
              | (go_at_call 27; ((with_reducible refine (HM'.out ((wr.alloc (.cells #[.int .i64 0, .slice none 0 0] 25)).drew) SA.out).mono ?_); rintro e w11 ⟨v11, rfl, n11', b11⟩; have n11 := FreeY.newY n11'; obtain ⟨p11, k11, rfl⟩ := NewY.form n11; have S11 := Lib.hid (show Since wr w11 from Below.trans (((Below.refl _ _).alloc (Nat.le_refl _) _).drew) (b11.mono (by simp))); have BX11 := Lib.hid (((BoxY.new wr 0 (.slice none 0 0)).keep ((Below.refl _ _).drew)).keep b11); have HB11 := Lib.hid (And.intro (show wr.heap.size < ((wr.alloc (.cells #[.int .i64 0, .slice none 0 0] 25)).drew).heap.size by simp) (Nat.le_refl wr.heap.size)); have d0 := BX11.out.c0; have d1 := BX11.out.c1; have e0 := BX11.out.frozen 0; have e1 := BX11.out.frozen 1; have B11 := b11.size; have N11 := Lib.hid n11; clear n11 n11'))
              | (go_at_call 27; ((with_reducible refine (HM'.out wr.drew SD.out).mono ?_); rintro e w11 ⟨v11, rfl, n11', b11⟩; have n11 := FreeY.newY n11'; obtain ⟨p11, k11, rfl⟩ := NewY.form n11; have S11 := Lib.hid (show Since wr w11 from Below.trans ((Below.refl _ _).drew) b11); have B11 := b11.size; have N11 := Lib.hid n11; clear n11 n11'))
              | fail)
          all_goals
            go_wp2_with fail
            go_meet
            first
              | exact layV N11.out S11.out
              | exact layW N11.out BX11.out HB11.out.1 HB11.out.2 S11.out

        case rest =>
          obtain ⟨Z, u6, rfl, rfl, HB, HN, HL⟩ := hcut
          rename World => W7
          obtain ⟨a6, c6, rfl⟩ := HN.out.form
          have BR7 := Lib.hid (BR.out.trans (HL.out.mono BR.out.size))
          clear m0 m1 HM'
          cases ok
          · have hr := AS4.out
            simp only [Bool.false_eq_true, if_false] at hr
            clear HB HN HL BX SO BR
            go_wp2_with fail
            exact bodyPost_ret (v := .tuple #[.int .i64 N, .bool false]) (by simp [results, Try.results48, go_sem]) rfl ⟨by first | rfl | rw [hr] | (rw [hr]; simp), BR7.out⟩
          · obtain ⟨hokt, e1, -⟩ := moveY_form HMM.out
            have e2 : h = h' := e1.symm
            subst e2
            have hr := AS4.out
            simp only [if_true] at hr
            have HAL := Lib.hid (hr.trans (by rw [Nat.add_assoc, Nat.add_comm 1 N]))
            have hst := Lib.hid (stay_set (h' := h) (BX.out.keep HL.out) (StayO.of_new HN.out BX.out.lt (fun k hk => by cases hk)))
            have BR8 := Lib.hid (((BR.out.trans (HL.out.mono BR.out.size)).setCell (p := ⟨w.heap.size, 0, none⟩) (Nat.le_refl _) (.int .i64 h)).setCell (p := ⟨w.heap.size, 1, none⟩) (Nat.le_refl _) (.slice a6 uu.length c6))
            have za := HB.out.c0
            have zb := HB.out.c1
            have y7 := BX.out.keep HL.out
            have ya := y7.c0
            have yb := y7.c1
            have ea := y7.frozen 0
            have eb := y7.frozen 1
            clear y7 HB HN HL BX SO BR
            
            go_wp2_with fail
            go_roundw
            case rel => exact ⟨k + 1, j, N + 1, _, uu, by omega, by omega, by omega, by go_num, rfl, by go_num, HAL, Lib.hid hst.out.1, Lib.hid hst.out.2, BR8⟩
            case measure => simp [intOf]; omega
      · have AS3 := AS2
        unfold lv at AS3
        simp only [ht0, if_false] at AS3
        clear AS2 HM
        have h'0 : 0 ≤ (takeY h tt f).2 → (takeY h tt f).1.1 = h := by
          intro hx
          rcases takeY_cases h tt f with ⟨_, e⟩ | ⟨_, _, e⟩ | ⟨_, _, _, m, x, _, _, _, e⟩
          · rw [e] at hx; exact absurd hx (by simp)
          · rw [e]
          · rw [e]
        obtain ⟨mm, hmm⟩ : ∃ mm, mm = takeY h tt f := ⟨_, rfl⟩
        rw [← hmm] at HT AS3 h'0
        obtain ⟨⟨h', uu⟩, id⟩ := mm
        have AS4 := Lib.hid AS3
        have H'0 : Hid (0 ≤ id → h' = h) := h'0
        have HT' : Hid (∀ w', Since wr w' → Calls Try.prog 20 #[.agg #[.int .i64 h, .slice xa tt.length xc], .int .i64 f] w' fun e w'' => ∃ u, e = .returned (.tuple #[.agg #[.int .i64 h', u], .int .i64 id]) ∧ FreeY w'.heap.size w''.heap.size w'' u uu.length (rowAt uu) ∧ Below w'.heap.size w' w'') := HT
        clear HT hmm AS3 hmv h'0
        go_upto_region 12 with fail
        go_cut [13, 14] from 15 to 71 (fun pv iv wx => ∃ (Bn : Nat) (u' : Value), pv = .pointer (some ⟨Bn, 0, none⟩) ∧ iv = .int .i64 id ∧ Hid (BoxY Bn wx h' u') ∧ Hid (NewY wr.heap.size wx u' uu) ∧ Hid (Below wr.heap.size wr wx))
        case first =>
          have CELL := Lib.hid fun (w' : World) (hs : Since wr w') => (show w'.cell? ⟨w.heap.size, 0, none⟩ = some (.int .i64 h) ∧ w'.cell? ⟨w.heap.size, 1, none⟩ = some (.slice xa tt.length xc) ∧ w'.cell? ⟨b, off + k * 2, none⟩ = some (.int .i64 f) ∧ Since wr w' from ⟨(BX.out.keep hs).c0, (BX.out.keep hs).c1, (Below.cell hs (p := ⟨b, off + k * 2, none⟩) hbl).trans m0, hs⟩)
          have SD := Lib.hid (show Since wr wr.drew from (Below.refl _ _).drew)
          have SA := Lib.hid (show Since wr ((wr.alloc (.cells #[.int .i64 0, .slice none 0 0] 25)).drew) from ((Below.refl _ _).alloc (Nat.le_refl _) _).drew)
          have hstart := CELL.out _ SD.out
          have HST2 := Lib.hid fun o : Obj => CELL.out _ (show Since wr (wr.alloc o).drew from ((Below.refl _ _).alloc (Nat.le_refl _) o).drew)
          go_region_held3 (fun w' => w'.cell? ⟨w.heap.size, 0, none⟩ = some (.int .i64 h) ∧ w'.cell? ⟨w.heap.size, 1, none⟩ = some (.slice xa tt.length xc) ∧ w'.cell? ⟨b, off + k * 2, none⟩ = some (.int .i64 f) ∧ Since wr w')
            (first | exact hstart | exact HST2.out _ | exact CELL.out _ S11.out | exact CELL.out _ (Since.alloc S11.out _) | exact CELL.out _ (Since.alloc (by exact (‹_ ∧ _› : _ ∧ _ ∧ _ ∧ Since wr _).2.2.2) _) | exact CELL.out _ (Below.setCell (Below.setCell S11.out HB11.out.2 _) HB11.out.2 _) | fail)
            (first
              | (go_at_call 20; ((with_reducible refine (HT'.out ((wr.alloc (.cells #[.int .i64 0, .slice none 0 0] 25)).drew) SA.out).mono ?_); rintro e w11 ⟨v11, rfl, n11', b11⟩; have n11 := FreeY.newY n11'; obtain ⟨p11, k11, rfl⟩ := NewY.form n11; have S11 := Lib.hid (show Since wr w11 from Below.trans (((Below.refl _ _).alloc (Nat.le_refl _) _).drew) (b11.mono (by simp))); have BX11 := Lib.hid (((BoxY.new wr 0 (.slice none 0 0)).keep ((Below.refl _ _).drew)).keep b11); have HB11 := Lib.hid (And.intro (show wr.heap.size < ((wr.alloc (.cells #[.int .i64 0, .slice none 0 0] 25)).drew).heap.size by simp) (Nat.le_refl wr.heap.size)); have d0 := BX11.out.c0; have d1 := BX11.out.c1; have e0 := BX11.out.frozen 0; have e1 := BX11.out.frozen 1; have B11 := b11.size; have N11 := Lib.hid n11; clear n11 n11'))
              | (go_at_call 20; ((with_reducible refine (HT'.out wr.drew SD.out).mono ?_); rintro e w11 ⟨v11, rfl, n11', b11⟩; have n11 := FreeY.newY n11'; obtain ⟨p11, k11, rfl⟩ := NewY.form n11; have S11 := Lib.hid (show Since wr w11 from Below.trans ((Below.refl _ _).drew) b11); have B11 := b11.size; have N11 := Lib.hid n11; clear n11 n11'))
              | fail)
          all_goals
            go_wp2_with fail
            go_meet
            first
              | exact layV N11.out S11.out
              | exact layW N11.out BX11.out HB11.out.1 HB11.out.2 S11.out

        case rest =>
          obtain ⟨Z, u6, rfl, rfl, HB, HN, HL⟩ := hcut
          rename World => W7
          obtain ⟨a6, c6, rfl⟩ := HN.out.form
          have BR7 := Lib.hid (BR.out.trans (HL.out.mono BR.out.size))
          clear m0 m1 HT'
          by_cases hid : id < 0
          · have hr : res = (N, false) := by
              have := AS4.out
              have hn : ¬ (0 ≤ id) := by omega
              rw [this]
              cases os.drop j with
              | nil => simp
              | cons x y => simp [hn]
            clear HB HN HL BX SO BR
            go_wp2_with fail
            exact bodyPost_ret (v := .tuple #[.int .i64 N, .bool false]) (by simp [results, Try.results48, go_sem]) rfl ⟨by first | rfl | rw [hr], BR7.out⟩
          · have hid0 : 0 ≤ id := by omega
            have e2 : h = h' := (H'0.out hid0).symm
            subst e2
            by_cases hjp : j < p
            · obtain ⟨b2, off2, rfl, hbl2, s0⟩ := (HOW.out W7 BR7.out).at_ hjp
              have ij : (j : Int) < (p : Int) := by omega
              have i0j : (0 : Int) ≤ (j : Int) := by omega
              have hr0 := AS4.out
              rw [HON.out j hjp] at hr0
              generalize os.getD j 0 = y at s0 hr0
              by_cases hy : y = id
              · subst hy
                have hr : res = ((lv h (l.drop (k + 1)) uu (os.drop (j + 1))).1 + N, (lv h (l.drop (k + 1)) uu (os.drop (j + 1))).2) := by
                  rw [hr0]
                  simp only [hid0, and_self, if_true]
                have HAL := Lib.hid hr
                have hyy : (y != y) = false := by simp
                have hst := Lib.hid (stay_set (h' := h) (BX.out.keep HL.out) (StayO.of_new HN.out BX.out.lt (fun k hk => by cases hk)))
                have BR8 := Lib.hid (((BR.out.trans (HL.out.mono BR.out.size)).setCell (p := ⟨w.heap.size, 0, none⟩) (Nat.le_refl _) (.int .i64 h)).setCell (p := ⟨w.heap.size, 1, none⟩) (Nat.le_refl _) (.slice a6 uu.length c6))
                have za := HB.out.c0
                have zb := HB.out.c1
                have y7 := BX.out.keep HL.out
                have ya := y7.c0
                have yb := y7.c1
                have ea := y7.frozen 0
                have eb := y7.frozen 1
                clear y7 HB HN HL BX SO BR
                
                clear hr0 hr
                go_wp2_with fail
                go_roundw
                case rel => exact ⟨k + 1, j + 1, N, _, uu, by omega, by omega, by omega, by go_num, by go_num, rfl, HAL, Lib.hid hst.out.1, Lib.hid hst.out.2, BR8⟩
                case measure => simp [intOf]; omega
              · have hr : res = (N, false) := by
                  rw [hr0]
                  have : ¬ (id = y) := fun e => hy e.symm
                  simp [this]
                have hyy : (y != id) = true := by simpa using hy
                clear HB HN HL BX SO BR hr0
                go_wp2_with fail
                exact bodyPost_ret (v := .tuple #[.int .i64 N, .bool false]) (by simp [results, Try.results48, go_sem]) rfl ⟨by first | rfl | rw [hr], BR7.out⟩
            · obtain rfl : j = p := by omega
              have hr : res = (N, false) := by
                rw [AS4.out, HOE.out]
                simp
              clear HB HN HL BX SO BR
              go_wp2_with fail
              exact bodyPost_ret (v := .tuple #[.int .i64 N, .bool false]) (by simp [results, Try.results48, go_sem]) rfl ⟨by first | rfl | rw [hr], BR7.out⟩
    · obtain rfl : k = q := by omega
      have hr : res = (N, ((j : Int) == (p : Int))) := by
        have := AS.out
        rw [HLE.out j tt hj] at this
        rw [this]
        simp
      have B9 := BR.out
      clear AS BX SO
      go_wp2_with fail
      exact bodyPost_ret (v := .tuple #[.int .i64 N, .bool ((j : Int) == (p : Int))]) (by simp [results, Try.results48, go_sem]) rfl ⟨by first | rfl | rw [hr], B9⟩
end Go.Proofs.Ytlcfldmiibjboaa
