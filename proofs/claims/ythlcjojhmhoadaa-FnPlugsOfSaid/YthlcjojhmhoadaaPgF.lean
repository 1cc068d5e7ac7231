/-
  The draws of chapter 12: uses and plugs.
-/
import Derived.Test.YthlcjojhmhoadaaPgE
import Derived.Test.YthlcjojhmhoadaaGBase
import Derived.Laws.AppendOwnNone
namespace Go.Proofs.Ythlcjojhmhoadaa
open Go.RowKit
set_option linter.unusedVariables false

theorem NewY.at_ {K : Nat} {w : World} {a : Option Addr} {n cap : Nat} {ss : List (List Int)} (h : NewY K w (.slice a n cap) ss) {k : Nat} (hk : k < ss.length) :
    ∃ b off x c, a = some ⟨b, off, none⟩ ∧ K ≤ b ∧ b < w.heap.size ∧ w.cell? ⟨b, off + k, none⟩ = some (.slice x (rowAt ss k).length c) ∧ NewI K w (.slice x (rowAt ss k).length c) (rowAt ss k) := by
  obtain ⟨a', cap', e, _, _, _, h4⟩ := h
  simp only [Value.slice.injEq] at e
  obtain ⟨rfl, rfl, rfl⟩ := e
  rcases h4 with h4 | ⟨b, off, h5, h6, h7, h8⟩
  · omega
  · obtain ⟨u, q1, q2, q3⟩ := h8 k hk
    obtain ⟨x, c, e, _⟩ := q2
    subst e
    exact ⟨b, off, x, c, h5, h6, h7, q1, ⟨x, c, rfl, ‹_›⟩⟩
theorem NewI.get_ {K : Nat} {w : World} {x : Option Addr} {n c : Nat} {l : List Int} (h : NewI K w (.slice x n c) l) (hn : 0 < l.length) :
    ∃ b off, x = some ⟨b, off, none⟩ ∧ K ≤ b ∧ b < w.heap.size ∧ ∀ k, k < l.length → w.cell? ⟨b, off + k, none⟩ = some (.int .i64 (l.getD k 0)) := by
  obtain ⟨a', cap', e, _, _, h4⟩ := h
  simp only [Value.slice.injEq] at e
  obtain ⟨rfl, rfl, rfl⟩ := e
  rcases h4 with h4 | ⟨b, off, h5, h6, h7, h8⟩
  · omega
  · exact ⟨b, off, h5, h6, h7, fun k hk => by rw [h8 k hk, List.getD_eq_getElem?_getD, List.getElem?_eq_getElem hk, Option.getD_some]⟩
set_option maxRecDepth 10000 in
set_option maxHeartbeats 4000000 in
theorem drawPlugsValid_any (a : Option Addr) (len cap : Nat) (w : World) (h : IsRow8 w a len cap) :
    Calls Try.prog 17 #[.slice a len cap] w (DrewUI w) := by
  obtain ⟨i0, hi, hz0, hz1, hz2⟩ := info_parts infoInt
  have HI := Lib.hid hi
  have HZ0 := Lib.hid hz0
  have HZ1 := Lib.hid hz1
  have HZ2 := Lib.hid hz2
  clear hi hz0 hz1 hz2
  go_enter Try.func17, Try.ntmps17
  go_wp2_with fail
  refine (open_any a len cap w h).mono ?_
  rintro e w1 ⟨rfl, hr, hb, hz1⟩
  clear h
  go_wp2_with fail
  refine (l20Uses_any _ _ 0 9 w1 hr (by omega) (by omega) (by omega)).mono ?_
  rintro e w2 ⟨u, ss, q, hq, hl, ha, rfl, hn, hr2, hm⟩
  have HN := Lib.hid hn
  have HA := Lib.hid ha
  have HB := Lib.hid (hb.trans (hm.under (Nat.le_refl _) (by omega)))
  have HR := Lib.hid hr2
  have hz2 := hm.size
  clear hr hb hn ha hm hr2
  obtain ⟨ua, uc, rfl⟩ := HN.out.form
  obtain ⟨KO, hKO⟩ : ∃ KO, KO = w2.heap.size := ⟨_, rfl⟩
  have HO5 := Lib.hid (show (w2.alloc (.cells #[] 3)).ownsRow KO 3 1 (.slice (some ⟨w2.heap.size, 0, none⟩) ([] : List Int).length 0) ([] : List Int).length (rowI []) by rw [hKO]; exact own_empty (Nat.le_refl _) (heap_alloc_new _ _))
  have HM5 := Lib.hid ((MostB.refl w.heap.size w2).alloc (.cells #[] 3))
  have HR5 := Lib.hid (HR.out.keep ((Below.refl _ _).alloc (Nat.le_refl _) (.cells #[] 3)))
  have hBK : w.heap.size < KO := by omega
  clear HR
  go_wp2_with fail
  go_loopw [6, 7] (fun va i wr => ∃ (k q2 : Nat) (l : List Int) (g2 cp : Nat), va = .slice (some ⟨g2, 0, none⟩) l.length cp ∧ i = .int .i64 k ∧ k ≤ ss.length ∧ l.length ≤ k ∧ q2 ≤ q + 3 * k ∧ Hid (Rdr w.heap.size w.heap.size q2 wr) ∧ Hid (wr.ownsRow KO 3 1 (.slice (some ⟨g2, 0, none⟩) l.length cp) l.length (rowI l)) ∧ Hid (MostB w.heap.size w2 wr)) (fun _ i _ => ss.length - (intOf i).toNat)
  case atStart => exact ⟨0, q, [], w2.heap.size, 0, rfl, rfl, by omega, by simp, by omega, HR5, HO5, HM5⟩
  case round =>
    clear HO5 HM5 HR5
    obtain ⟨k, q2, l, g2, cp, rfl, rfl, hkn, hlk, hq2, HR, HOW, HM⟩ := hrel
    have hwr : KO ≤ wr.heap.size := by rw [hKO]; exact HM.out.size
    by_cases hlt : k < ss.length
    · have ik : (k : Int) < (ss.length : Int) := by omega
      have i0k : (0 : Int) ≤ (k : Int) := by omega
      have HNr := HN.out.most HM.out (by omega)
      obtain ⟨ub, uo, x, xc, rfl, hKu, hubl, s0, hx⟩ := HNr.at_ hlt
      have hm6 : (rowAt ss k).length ≤ 6 := HA.out _ (by rw [rowAt_get hlt]; exact List.getElem_mem hlt)
      obtain ⟨R, hR⟩ : ∃ R, R = rowAt ss k := ⟨_, rfl⟩
      rw [← hR] at s0 hx hm6
      obtain ⟨m, hm⟩ : ∃ m, m = R.length := ⟨_, rfl⟩
      rw [← hm] at s0 hx hm6
      have HME := Lib.hid hm
      clear HNr hR hm
      rcases Nat.eq_zero_or_pos m with hm0 | hm0
      · have im0 : ¬ (0 : Int) < (m : Int) := by omega
        obtain ⟨w6, hw6⟩ : ∃ w6, w6 = wr := ⟨_, rfl⟩
        obtain ⟨q3, hq3⟩ : ∃ q', q' = q2 := ⟨_, rfl⟩
        have hq3' : q3 ≤ q2 + 2 := by omega
        subst hw6 hq3
        clear hx
        have HAS := Lib.hid (l1Has_any (.slice (some ⟨g2, 0, none⟩) l.length cp) l (-1) w6 (NewI.of_own HOW.out).holds)
        generalize hasI l (-1) = hb at HAS
        cases hb
        · go_wp2_with fail
          refine HAS.out.mono ?_
          rintro e w' ⟨rfl, rfl⟩
          clear HAS
          have hown := HOW.out
          go_wp2_with (at_builtin; refine wpList_append_own _ rfl _ _ 27 rfl KO 3 i0 (.int .i64 0) 1 8 Try.underlying27 HI.out HZ0.out HZ1.out HZ2.out rfl (by decide) _ _ _ rfl (hown.alloc _) ⟨w6.heap.size, 0, none⟩ 1 1 [.int .i64 (-1)] rfl rfl (fun j u hu => cells_new j u hu) (by simp [Value.oneCell']) (by unfold maxLen; omega) (by omega) (by simp; omega) ?_; intro v' w7 hown7 hgrow _)
          have hb7 : Below KO (w6.alloc (.cells #[.int .i64 (-1)] 3)) w7 := own_below (v := .slice (some ⟨g2, 0, none⟩) l.length cp) hgrow (by simp; omega) (fun k hk => (own_lt hown k hk).1)
          have HM7 := Lib.hid ((HM.out.alloc (.cells #[.int .i64 (-1)] 3)).below_ (by rw [← hKO]; exact hb7))
          have HR7 := Lib.hid ((HR.out.keep ((Below.refl _ _).alloc (Nat.le_refl _) (.cells #[.int .i64 (-1)] 3))).keepK hb7 hBK)
          have hown8 := own_ints (m := [((-1) : Int)]) hown7 rfl rfl
          obtain ⟨g', cp', rfl, t1, t2⟩ := own_form hown8 (by simp)
          have H8 := Lib.hid hown8
          clear hgrow hb7 hown hown7 hown8 t1 t2 HOW HM HR
          go_wp2_with fail
          go_roundw
          case rel => exact ⟨k + 1, q3, l ++ [((-1) : Int)], g', cp', rfl, by go_num, by omega, by simp; omega, by omega, HR7, H8, HM7⟩
          case measure => simp [intOf]; omega
        · go_wp2_with fail
          refine HAS.out.mono ?_
          rintro e w' ⟨rfl, rfl⟩
          clear HAS
          go_wp2_with fail
          refine (pick_any _ _ q3 9 _ HR.out (by omega) (by omega)).mono ?_
          rintro e w8 ⟨x9, x90, x91, rfl, hr8, ho8⟩
          have HOW := Lib.hid (own_most HOW.out ho8.mostB hBK)
          have HM := Lib.hid (HM.out.trans ho8.mostB)
          obtain ⟨q4, hq4, HR⟩ : ∃ q', q' ≤ q3 + 1 ∧ Hid (Rdr w.heap.size w.heap.size q' w8) := ⟨_, Nat.le_refl _, Lib.hid hr8⟩
          have hww8 : KO ≤ w8.heap.size := by rw [hKO]; exact HM.out.size
          clear hr8 ho8
          by_cases h9 : 0 < x9
          · have hown := HOW.out
            go_wp2_with (at_builtin; refine wpList_append_own _ rfl _ _ 27 rfl KO 3 i0 (.int .i64 0) 1 8 Try.underlying27 HI.out HZ0.out HZ1.out HZ2.out rfl (by decide) _ _ _ rfl (hown.alloc _) ⟨w8.heap.size, 0, none⟩ 1 1 [.int .i64 (-1)] rfl rfl (fun j u hu => cells_new j u hu) (by simp [Value.oneCell']) (by unfold maxLen; omega) (by omega) (by simp; omega) ?_; intro v' w7 hown7 hgrow _)
            have hb7 : Below KO (w8.alloc (.cells #[.int .i64 (-1)] 3)) w7 := own_below (v := .slice (some ⟨g2, 0, none⟩) l.length cp) hgrow (by simp; omega) (fun k hk => (own_lt hown k hk).1)
            have HM7 := Lib.hid ((HM.out.alloc (.cells #[.int .i64 (-1)] 3)).below_ (by rw [← hKO]; exact hb7))
            have HR7 := Lib.hid ((HR.out.keep ((Below.refl _ _).alloc (Nat.le_refl _) (.cells #[.int .i64 (-1)] 3))).keepK hb7 hBK)
            have hown8 := own_ints (m := [((-1) : Int)]) hown7 rfl rfl
            obtain ⟨g', cp', rfl, t1, t2⟩ := own_form hown8 (by simp)
            have H8 := Lib.hid hown8
            clear hgrow hb7 hown hown7 hown8 t1 t2 HOW HM HR
            go_wp2_with fail
            go_roundw
            case rel => exact ⟨k + 1, q4, l ++ [((-1) : Int)], g', cp', rfl, by go_num, by omega, by simp; omega, by omega, HR7, H8, HM7⟩
            case measure => simp [intOf]; omega
          · have hown := HOW.out
            go_wp2_with (at_builtin; refine wpList_append_own _ rfl _ _ 27 rfl KO 3 i0 (.int .i64 0) 1 8 Try.underlying27 HI.out HZ0.out HZ1.out HZ2.out rfl (by decide) _ _ _ rfl (hown.alloc _) ⟨w8.heap.size, 0, none⟩ 1 1 [.int .i64 (-1)] rfl rfl (fun j u hu => cells_new j u hu) (by simp [Value.oneCell']) (by unfold maxLen; omega) (by omega) (by simp; omega) ?_; intro v' w7 hown7 hgrow _)
            have hb7 : Below KO (w8.alloc (.cells #[.int .i64 (-1)] 3)) w7 := own_below (v := .slice (some ⟨g2, 0, none⟩) l.length cp) hgrow (by simp; omega) (fun k hk => (own_lt hown k hk).1)
            have HM7 := Lib.hid ((HM.out.alloc (.cells #[.int .i64 (-1)] 3)).below_ (by rw [← hKO]; exact hb7))
            have HR7 := Lib.hid ((HR.out.keep ((Below.refl _ _).alloc (Nat.le_refl _) (.cells #[.int .i64 (-1)] 3))).keepK hb7 hBK)
            have hown8 := own_ints (m := [((-1) : Int)]) hown7 rfl rfl
            obtain ⟨g', cp', rfl, t1, t2⟩ := own_form hown8 (by simp)
            have H8 := Lib.hid hown8
            clear hgrow hb7 hown hown7 hown8 t1 t2 HOW HM HR
            go_wp2_with fail
            go_roundw
            case rel => exact ⟨k + 1, q4, l ++ [((-1) : Int)], g', cp', rfl, by go_num, by omega, by simp; omega, by omega, HR7, H8, HM7⟩
            case measure => simp [intOf]; omega
      · have im0 : (0 : Int) < (m : Int) := by omega
        go_wp2_with fail
        refine (pick_any _ _ q2 4 _ HR.out (by omega) (by omega)).mono ?_
        rintro e w5 ⟨x4, x40, x41, rfl, hr5, ho5⟩
        have s5 : w5.cell? ⟨ub, uo + k, none⟩ = some (.slice x m xc) := (World.cell?_of_block (w := wr) (ho5.mostB.block ub (by omega) hubl)).trans s0
        have hx5 := hx.most ho5.mostB (by omega)
        have hub5 : ub < w5.heap.size := Nat.lt_of_lt_of_le hubl ho5.mostB.size
        clear s0 hx hubl
        have HOW := Lib.hid (own_most HOW.out ho5.mostB hBK)
        have HM := Lib.hid (HM.out.trans ho5.mostB)
        obtain ⟨q5, hq5, HR⟩ : ∃ q', q' ≤ q2 + 1 ∧ Hid (Rdr w.heap.size w.heap.size q' w5) := ⟨_, Nat.le_refl _, Lib.hid hr5⟩
        have hww5 : KO ≤ w5.heap.size := by rw [hKO]; exact HM.out.size
        clear hr5 ho5
        by_cases h4 : 0 < x4
        · obtain ⟨rb, ro, rfl, hKr, hrbl, hrow⟩ := hx5.get_ (by have := HME.out; omega)
          have ROW := Lib.hid fun (w' : World) (hs : MostB w.heap.size w5 w') (i : Nat) (hi : i < m) => (show w'.cell? ⟨rb, ro + i, none⟩ = some (.int .i64 (R.getD i 0)) from (World.cell?_of_block (w := w5) (hs.block rb (by omega) hrbl)).trans (hrow i (by have := HME.out; omega)))
          have CELL := Lib.hid fun (w' : World) (hs : MostB w.heap.size w5 w') => (show w'.cell? ⟨ub, uo + k, none⟩ = some (.slice (some ⟨rb, ro, none⟩) m xc) ∧ (∀ i, i < m → w'.cell? ⟨rb, ro + i, none⟩ = some (.int .i64 (R[i]?.getD 0))) ∧ MostB w.heap.size w5 w' from ⟨(World.cell?_of_block (w := w5) (hs.block ub (by omega) hub5)).trans s5, fun i hi => (ROW.out w' hs i hi).trans (by rw [List.getD_eq_getElem?_getD]), hs⟩)
          have hstart := CELL.out w5.drew ((MostB.refl _ _).below_ ((Below.refl _ _).drew))
          have HP9 := Lib.hid (pick_any w.heap.size w.heap.size q5 (m : Int) w5.drew (HR.out.keep ((Below.refl _ _).drew)) (by omega) (by omega))
          have hh5 := hstart.1
          clear HR hrow hx5
          go_wp2_with fail
          go_region_held3 (fun w' => w'.cell? ⟨ub, uo + k, none⟩ = some (.slice (some ⟨rb, ro, none⟩) m xc) ∧ (∀ i, i < m → w'.cell? ⟨rb, ro + i, none⟩ = some (.int .i64 (R[i]?.getD 0))) ∧ MostB w.heap.size w5 w')
            (first | exact hstart | exact CELL.out _ S3.out | fail)
            (first
              | (go_at_call 45; ((with_reducible refine HP9.out.mono ?_); rintro e w6 ⟨x3, x30, x31, rfl, hr3, ho3⟩; have S3 := Lib.hid (show MostB w.heap.size w5 w6 from MostB.trans (by exact (‹_ ∧ _› : _ ∧ _ ∧ MostB w.heap.size w5 _).2.2) ho3.mostB); have HR := Lib.hid hr3; obtain ⟨i3, rfl⟩ := Int.eq_ofNat_of_zero_le x30; have i3m : (i3 : Int) < (m : Int) := x31; have hi3 : i3 < m := (by omega); clear ho3 hr3))
              | fail)
          all_goals
            have HOW := Lib.hid (own_most HOW.out S3.out hBK)
            have HM := Lib.hid (HM.out.trans S3.out)
            have hww6 : KO ≤ w6.heap.size := by rw [hKO]; exact HM.out.size
            obtain ⟨q3, hq3, HR⟩ : ∃ q', q' ≤ q2 + 2 ∧ Hid (Rdr w.heap.size w.heap.size q' w6) := ⟨_, by omega, HR⟩
            clear hstart CELL ROW HP9 hh5 S3 i3m
            go_wp2_with fail
            generalize R[i3]?.getD 0 = y
            have HAS := Lib.hid (l1Has_any (.slice (some ⟨g2, 0, none⟩) l.length cp) l y w6 (NewI.of_own HOW.out).holds)
            generalize hasI l y = hb at HAS
            cases hb
            · go_wp2_with fail
              refine HAS.out.mono ?_
              rintro e w' ⟨rfl, rfl⟩
              clear HAS
              have hown := HOW.out
              go_wp2_with (at_builtin; refine wpList_append_own _ rfl _ _ 27 rfl KO 3 i0 (.int .i64 0) 1 8 Try.underlying27 HI.out HZ0.out HZ1.out HZ2.out rfl (by decide) _ _ _ rfl (hown.alloc _) ⟨w6.heap.size, 0, none⟩ 1 1 [.int .i64 y] rfl rfl (fun j u hu => cells_new j u hu) (by simp [Value.oneCell']) (by unfold maxLen; omega) (by omega) (by simp; omega) ?_; intro v' w7 hown7 hgrow _)
              have hb7 : Below KO (w6.alloc (.cells #[.int .i64 y] 3)) w7 := own_below (v := .slice (some ⟨g2, 0, none⟩) l.length cp) hgrow (by simp; omega) (fun k hk => (own_lt hown k hk).1)
              have HM7 := Lib.hid ((HM.out.alloc (.cells #[.int .i64 y] 3)).below_ (by rw [← hKO]; exact hb7))
              have HR7 := Lib.hid ((HR.out.keep ((Below.refl _ _).alloc (Nat.le_refl _) (.cells #[.int .i64 y] 3))).keepK hb7 hBK)
              have hown8 := own_ints (m := [(y : Int)]) hown7 rfl rfl
              obtain ⟨g', cp', rfl, t1, t2⟩ := own_form hown8 (by simp)
              have H8 := Lib.hid hown8
              clear hgrow hb7 hown hown7 hown8 t1 t2 HOW HM HR
              go_wp2_with fail
              go_roundw
              case rel => exact ⟨k + 1, q3, l ++ [(y : Int)], g', cp', rfl, by go_num, by omega, by simp; omega, by omega, HR7, H8, HM7⟩
              case measure => simp [intOf]; omega
            · go_wp2_with fail
              refine HAS.out.mono ?_
              rintro e w' ⟨rfl, rfl⟩
              clear HAS
              go_wp2_with fail
              refine (pick_any _ _ q3 9 _ HR.out (by omega) (by omega)).mono ?_
              rintro e w8 ⟨x9, x90, x91, rfl, hr8, ho8⟩
              have HOW := Lib.hid (own_most HOW.out ho8.mostB hBK)
              have HM := Lib.hid (HM.out.trans ho8.mostB)
              obtain ⟨q4, hq4, HR⟩ : ∃ q', q' ≤ q3 + 1 ∧ Hid (Rdr w.heap.size w.heap.size q' w8) := ⟨_, Nat.le_refl _, Lib.hid hr8⟩
              have hww8 : KO ≤ w8.heap.size := by rw [hKO]; exact HM.out.size
              clear hr8 ho8
              by_cases h9 : 0 < x9
              · have hown := HOW.out
                go_wp2_with (at_builtin; refine wpList_append_own _ rfl _ _ 27 rfl KO 3 i0 (.int .i64 0) 1 8 Try.underlying27 HI.out HZ0.out HZ1.out HZ2.out rfl (by decide) _ _ _ rfl (hown.alloc _) ⟨w8.heap.size, 0, none⟩ 1 1 [.int .i64 (-1)] rfl rfl (fun j u hu => cells_new j u hu) (by simp [Value.oneCell']) (by unfold maxLen; omega) (by omega) (by simp; omega) ?_; intro v' w7 hown7 hgrow _)
                have hb7 : Below KO (w8.alloc (.cells #[.int .i64 (-1)] 3)) w7 := own_below (v := .slice (some ⟨g2, 0, none⟩) l.length cp) hgrow (by simp; omega) (fun k hk => (own_lt hown k hk).1)
                have HM7 := Lib.hid ((HM.out.alloc (.cells #[.int .i64 (-1)] 3)).below_ (by rw [← hKO]; exact hb7))
                have HR7 := Lib.hid ((HR.out.keep ((Below.refl _ _).alloc (Nat.le_refl _) (.cells #[.int .i64 (-1)] 3))).keepK hb7 hBK)
                have hown8 := own_ints (m := [((-1) : Int)]) hown7 rfl rfl
                obtain ⟨g', cp', rfl, t1, t2⟩ := own_form hown8 (by simp)
                have H8 := Lib.hid hown8
                clear hgrow hb7 hown hown7 hown8 t1 t2 HOW HM HR
                go_wp2_with fail
                go_roundw
                case rel => exact ⟨k + 1, q4, l ++ [((-1) : Int)], g', cp', rfl, by go_num, by omega, by simp; omega, by omega, HR7, H8, HM7⟩
                case measure => simp [intOf]; omega
              · have hown := HOW.out
                go_wp2_with (at_builtin; refine wpList_append_own _ rfl _ _ 27 rfl KO 3 i0 (.int .i64 0) 1 8 Try.underlying27 HI.out HZ0.out HZ1.out HZ2.out rfl (by decide) _ _ _ rfl (hown.alloc _) ⟨w8.heap.size, 0, none⟩ 1 1 [.int .i64 y] rfl rfl (fun j u hu => cells_new j u hu) (by simp [Value.oneCell']) (by unfold maxLen; omega) (by omega) (by simp; omega) ?_; intro v' w7 hown7 hgrow _)
                have hb7 : Below KO (w8.alloc (.cells #[.int .i64 y] 3)) w7 := own_below (v := .slice (some ⟨g2, 0, none⟩) l.length cp) hgrow (by simp; omega) (fun k hk => (own_lt hown k hk).1)
                have HM7 := Lib.hid ((HM.out.alloc (.cells #[.int .i64 y] 3)).below_ (by rw [← hKO]; exact hb7))
                have HR7 := Lib.hid ((HR.out.keep ((Below.refl _ _).alloc (Nat.le_refl _) (.cells #[.int .i64 y] 3))).keepK hb7 hBK)
                have hown8 := own_ints (m := [(y : Int)]) hown7 rfl rfl
                obtain ⟨g', cp', rfl, t1, t2⟩ := own_form hown8 (by simp)
                have H8 := Lib.hid hown8
                clear hgrow hb7 hown hown7 hown8 t1 t2 HOW HM HR
                go_wp2_with fail
                go_roundw
                case rel => exact ⟨k + 1, q4, l ++ [(y : Int)], g', cp', rfl, by go_num, by omega, by simp; omega, by omega, HR7, H8, HM7⟩
                case measure => simp [intOf]; omega
        · obtain ⟨w6, hw6⟩ : ∃ w6, w6 = w5 := ⟨_, rfl⟩
          obtain ⟨q3, hq3⟩ : ∃ q', q' = q5 := ⟨_, rfl⟩
          subst hw6 hq3
          clear hx5 s5
          have HAS := Lib.hid (l1Has_any (.slice (some ⟨g2, 0, none⟩) l.length cp) l (-1) w6 (NewI.of_own HOW.out).holds)
          generalize hasI l (-1) = hb at HAS
          cases hb
          · go_wp2_with fail
            refine HAS.out.mono ?_
            rintro e w' ⟨rfl, rfl⟩
            clear HAS
            have hown := HOW.out
            go_wp2_with (at_builtin; refine wpList_append_own _ rfl _ _ 27 rfl KO 3 i0 (.int .i64 0) 1 8 Try.underlying27 HI.out HZ0.out HZ1.out HZ2.out rfl (by decide) _ _ _ rfl (hown.alloc _) ⟨w6.heap.size, 0, none⟩ 1 1 [.int .i64 (-1)] rfl rfl (fun j u hu => cells_new j u hu) (by simp [Value.oneCell']) (by unfold maxLen; omega) (by omega) (by simp; omega) ?_; intro v' w7 hown7 hgrow _)
            have hb7 : Below KO (w6.alloc (.cells #[.int .i64 (-1)] 3)) w7 := own_below (v := .slice (some ⟨g2, 0, none⟩) l.length cp) hgrow (by simp; omega) (fun k hk => (own_lt hown k hk).1)
            have HM7 := Lib.hid ((HM.out.alloc (.cells #[.int .i64 (-1)] 3)).below_ (by rw [← hKO]; exact hb7))
            have HR7 := Lib.hid ((HR.out.keep ((Below.refl _ _).alloc (Nat.le_refl _) (.cells #[.int .i64 (-1)] 3))).keepK hb7 hBK)
            have hown8 := own_ints (m := [((-1) : Int)]) hown7 rfl rfl
            obtain ⟨g', cp', rfl, t1, t2⟩ := own_form hown8 (by simp)
            have H8 := Lib.hid hown8
            clear hgrow hb7 hown hown7 hown8 t1 t2 HOW HM HR
            go_wp2_with fail
            go_roundw
            case rel => exact ⟨k + 1, q3, l ++ [((-1) : Int)], g', cp', rfl, by go_num, by omega, by simp; omega, by omega, HR7, H8, HM7⟩
            case measure => simp [intOf]; omega
          · go_wp2_with fail
            refine HAS.out.mono ?_
            rintro e w' ⟨rfl, rfl⟩
            clear HAS
            go_wp2_with fail
            refine (pick_any _ _ q3 9 _ HR.out (by omega) (by omega)).mono ?_
            rintro e w8 ⟨x9, x90, x91, rfl, hr8, ho8⟩
            have HOW := Lib.hid (own_most HOW.out ho8.mostB hBK)
            have HM := Lib.hid (HM.out.trans ho8.mostB)
            obtain ⟨q4, hq4, HR⟩ : ∃ q', q' ≤ q3 + 1 ∧ Hid (Rdr w.heap.size w.heap.size q' w8) := ⟨_, Nat.le_refl _, Lib.hid hr8⟩
            have hww8 : KO ≤ w8.heap.size := by rw [hKO]; exact HM.out.size
            clear hr8 ho8
            by_cases h9 : 0 < x9
            · have hown := HOW.out
              go_wp2_with (at_builtin; refine wpList_append_own _ rfl _ _ 27 rfl KO 3 i0 (.int .i64 0) 1 8 Try.underlying27 HI.out HZ0.out HZ1.out HZ2.out rfl (by decide) _ _ _ rfl (hown.alloc _) ⟨w8.heap.size, 0, none⟩ 1 1 [.int .i64 (-1)] rfl rfl (fun j u hu => cells_new j u hu) (by simp [Value.oneCell']) (by unfold maxLen; omega) (by omega) (by simp; omega) ?_; intro v' w7 hown7 hgrow _)
              have hb7 : Below KO (w8.alloc (.cells #[.int .i64 (-1)] 3)) w7 := own_below (v := .slice (some ⟨g2, 0, none⟩) l.length cp) hgrow (by simp; omega) (fun k hk => (own_lt hown k hk).1)
              have HM7 := Lib.hid ((HM.out.alloc (.cells #[.int .i64 (-1)] 3)).below_ (by rw [← hKO]; exact hb7))
              have HR7 := Lib.hid ((HR.out.keep ((Below.refl _ _).alloc (Nat.le_refl _) (.cells #[.int .i64 (-1)] 3))).keepK hb7 hBK)
              have hown8 := own_ints (m := [((-1) : Int)]) hown7 rfl rfl
              obtain ⟨g', cp', rfl, t1, t2⟩ := own_form hown8 (by simp)
              have H8 := Lib.hid hown8
              clear hgrow hb7 hown hown7 hown8 t1 t2 HOW HM HR
              go_wp2_with fail
              go_roundw
              case rel => exact ⟨k + 1, q4, l ++ [((-1) : Int)], g', cp', rfl, by go_num, by omega, by simp; omega, by omega, HR7, H8, HM7⟩
              case measure => simp [intOf]; omega
            · have hown := HOW.out
              go_wp2_with (at_builtin; refine wpList_append_own _ rfl _ _ 27 rfl KO 3 i0 (.int .i64 0) 1 8 Try.underlying27 HI.out HZ0.out HZ1.out HZ2.out rfl (by decide) _ _ _ rfl (hown.alloc _) ⟨w8.heap.size, 0, none⟩ 1 1 [.int .i64 (-1)] rfl rfl (fun j u hu => cells_new j u hu) (by simp [Value.oneCell']) (by unfold maxLen; omega) (by omega) (by simp; omega) ?_; intro v' w7 hown7 hgrow _)
              have hb7 : Below KO (w8.alloc (.cells #[.int .i64 (-1)] 3)) w7 := own_below (v := .slice (some ⟨g2, 0, none⟩) l.length cp) hgrow (by simp; omega) (fun k hk => (own_lt hown k hk).1)
              have HM7 := Lib.hid ((HM.out.alloc (.cells #[.int .i64 (-1)] 3)).below_ (by rw [← hKO]; exact hb7))
              have HR7 := Lib.hid ((HR.out.keep ((Below.refl _ _).alloc (Nat.le_refl _) (.cells #[.int .i64 (-1)] 3))).keepK hb7 hBK)
              have hown8 := own_ints (m := [((-1) : Int)]) hown7 rfl rfl
              obtain ⟨g', cp', rfl, t1, t2⟩ := own_form hown8 (by simp)
              have H8 := Lib.hid hown8
              clear hgrow hb7 hown hown7 hown8 t1 t2 HOW HM HR
              go_wp2_with fail
              go_roundw
              case rel => exact ⟨k + 1, q4, l ++ [((-1) : Int)], g', cp', rfl, by go_num, by omega, by simp; omega, by omega, HR7, H8, HM7⟩
              case measure => simp [intOf]; omega
    · obtain rfl : k = ss.length := by omega
      go_wp2_with fail
      refine (odd_any _ _ q2 12 _ HR.out (by omega) (by omega) (by omega)).mono ?_
      rintro e w6 ⟨v, rfl, hr6, ho6⟩
      have HOW := Lib.hid (own_most HOW.out ho6.mostB hBK)
      have HM := Lib.hid (HM.out.trans ho6.mostB)
      obtain ⟨q3, hq3, HR⟩ : ∃ q', q' ≤ q2 + 1 ∧ Hid (Rdr w.heap.size w.heap.size q' w6) := ⟨_, Nat.le_refl _, Lib.hid hr6⟩
      have hww6 : KO ≤ w6.heap.size := by rw [hKO]; exact HM.out.size
      clear hr6 ho6
      cases v
      · go_wp2_with fail
        go_ret2
        exact ⟨_, ss, _, l, hl, HA.out, by (try simp); omega, rfl, (HN.out.most HM.out (by omega)).from_ (by omega), OwnI.from_ HOW.out (by omega), HB.out.trans (HM.out.under (Nat.le_refl _) (by omega))⟩
      · go_wp2_with fail
        refine (pick_any _ _ q3 7 _ HR.out (by omega) (by omega)).mono ?_
        rintro e w8 ⟨x7, x70, x71, rfl, hr8, ho8⟩
        have HOW := Lib.hid (own_most HOW.out ho8.mostB hBK)
        have HM := Lib.hid (HM.out.trans ho8.mostB)
        obtain ⟨q4, hq4, HR⟩ : ∃ q', q' ≤ q3 + 1 ∧ Hid (Rdr w.heap.size w.heap.size q' w8) := ⟨_, Nat.le_refl _, Lib.hid hr8⟩
        have hww8 : KO ≤ w8.heap.size := by rw [hKO]; exact HM.out.size
        clear hr8 ho8
        have z7 : IntKind.i64.wrap (x7 - 1) = x7 - 1 := IntWalk.i64_in _ (by omega)
        have hown := HOW.out
        go_wp2_with (at_builtin; refine wpList_append_own _ rfl _ _ 27 rfl KO 3 i0 (.int .i64 0) 1 8 Try.underlying27 HI.out HZ0.out HZ1.out HZ2.out rfl (by decide) _ _ _ rfl (hown.alloc _) ⟨w8.heap.size, 0, none⟩ 1 1 [.int .i64 (x7 - 1)] rfl rfl (fun j u hu => cells_new j u hu) (by simp [Value.oneCell']) (by unfold maxLen; omega) (by omega) (by simp; omega) ?_; intro v' w7 hown7 hgrow _)
        have hb7 : Below KO (w8.alloc (.cells #[.int .i64 (x7 - 1)] 3)) w7 := own_below (v := .slice (some ⟨g2, 0, none⟩) l.length cp) hgrow (by simp; omega) (fun k hk => (own_lt hown k hk).1)
        have HM7 := Lib.hid ((HM.out.alloc (.cells #[.int .i64 (x7 - 1)] 3)).below_ (by rw [← hKO]; exact hb7))
        have HR7 := Lib.hid ((HR.out.keep ((Below.refl _ _).alloc (Nat.le_refl _) (.cells #[.int .i64 (x7 - 1)] 3))).keepK hb7 hBK)
        have hown8 := own_ints (m := [((x7 - 1) : Int)]) hown7 rfl rfl
        obtain ⟨g', cp', rfl, t1, t2⟩ := own_form hown8 (by simp)
        have H8 := Lib.hid hown8
        clear hgrow hb7 hown hown7 hown8 t1 t2 HOW HM HR
        go_wp2_with fail
        go_ret2
        exact ⟨_, ss, _, (l ++ [x7 - 1]), hl, HA.out, by (try simp); omega, rfl, (HN.out.most HM7.out (by omega)).from_ (by omega), OwnI.from_ H8.out (by omega), HB.out.trans (HM7.out.under (Nat.le_refl _) (by omega))⟩
end Go.Proofs.Ythlcjojhmhoadaa
