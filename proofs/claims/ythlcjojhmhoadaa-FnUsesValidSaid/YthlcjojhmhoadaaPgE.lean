/-
  The draws of chapter 12: uses; uses and indices.
-/
import Derived.Test.YthlcjojhmhoadaaPgD
import Derived.Test.YthlcjojhmhoadaaGPl
import Derived.Laws.AppendOwnNone
namespace Go.Proofs.Ythlcjojhmhoadaa
open Go.RowKit
set_option linter.unusedVariables false

/-- What a draw of uses alone gives. -/
def DrewU (w : World) (e : Ending) (w' : World) : Prop :=
  ∃ (u : Value) (ss : List (List Int)), ss.length ≤ 7 ∧ (∀ l, l ∈ ss → l.length ≤ 6) ∧ e = .returned u ∧ NewY w.heap.size w' u ss ∧ Below w.heap.size w w'
/-- What a draw of uses and numbers gives. -/
def DrewUI (w : World) (e : Ending) (w' : World) : Prop :=
  ∃ (u : Value) (ss : List (List Int)) (v : Value) (l : List Int), ss.length ≤ 7 ∧ (∀ l, l ∈ ss → l.length ≤ 6) ∧ l.length ≤ 8 ∧ e = .returned (.tuple #[u, v]) ∧ NewY w.heap.size w' u ss ∧ OwnI w.heap.size w' v l ∧ Below w.heap.size w w'
set_option maxRecDepth 10000 in
set_option maxHeartbeats 1000000 in
theorem drawUsesValid_any (a : Option Addr) (len cap : Nat) (w : World) (h : IsRow8 w a len cap) :
    Calls Try.prog 13 #[.slice a len cap] w (DrewU w) := by
  go_enter Try.func13, Try.ntmps13
  go_wp2_with fail
  refine (open_any a len cap w h).mono ?_
  rintro e w1 ⟨rfl, hr, hb, hz1⟩
  clear h
  go_wp2_with fail
  refine (l20Uses_any _ _ 0 2 w1 hr (by omega) (by omega) (by omega)).mono ?_
  rintro e w2 ⟨u, ss, q, hq, hl, ha, rfl, hn, hr2, hm⟩
  have HN := Lib.hid hn
  have HA := Lib.hid ha
  have HB := Lib.hid (hb.trans (hm.under (Nat.le_refl _) (by omega)))
  have HR := Lib.hid hr2
  have hz2 := hm.size
  clear hr hb hn ha hm hr2
  clear HR hz2
  go_wp2_with fail
  go_ret
  exact ⟨_, ss, hl, HA.out, rfl, HN.out.from_ (by omega), HB.out⟩
set_option maxRecDepth 10000 in
set_option maxHeartbeats 1000000 in
theorem drawPlugIn_any (a : Option Addr) (len cap : Nat) (w : World) (h : IsRow8 w a len cap) :
    Calls Try.prog 21 #[.slice a len cap] w (DrewU w) := by
  go_enter Try.func21, Try.ntmps21
  go_wp2_with fail
  refine (open_any a len cap w h).mono ?_
  rintro e w1 ⟨rfl, hr, hb, hz1⟩
  clear h
  go_wp2_with fail
  refine (l20Uses_any _ _ 0 9 w1 hr (by omega) (by omega) (by omega)).mono ?_
  rintro e w2 ⟨u, ss, q, hq, hl, ha, rfl, hn, hr2, hm⟩
  have HN := Lib.hid hn
  have HA := Lib.hid ha
  have HB := Lib.hid (hb.trans (hm.under (Nat.le_refl _) (by omega)))
  have HR := Lib.hid hr2
  have hz2 := hm.size
  clear hr hb hn ha hm hr2
  clear HR hz2
  go_wp2_with fail
  go_ret
  exact ⟨_, ss, hl, HA.out, rfl, HN.out.from_ (by omega), HB.out⟩
set_option maxRecDepth 10000 in
set_option maxHeartbeats 1000000 in
theorem drawPlugMany_any (a : Option Addr) (len cap : Nat) (w : World) (h : IsRow8 w a len cap) :
    Calls Try.prog 26 #[.slice a len cap] w (DrewU w) := by
  go_enter Try.func26, Try.ntmps26
  go_wp2_with fail
  refine (open_any a len cap w h).mono ?_
  rintro e w1 ⟨rfl, hr, hb, hz1⟩
  clear h
  go_wp2_with fail
  refine (l20Uses_any _ _ 0 9 w1 hr (by omega) (by omega) (by omega)).mono ?_
  rintro e w2 ⟨u, ss, q, hq, hl, ha, rfl, hn, hr2, hm⟩
  have HN := Lib.hid hn
  have HA := Lib.hid ha
  have HB := Lib.hid (hb.trans (hm.under (Nat.le_refl _) (by omega)))
  have HR := Lib.hid hr2
  have hz2 := hm.size
  clear hr hb hn ha hm hr2
  clear HR hz2
  go_wp2_with fail
  go_ret
  exact ⟨_, ss, hl, HA.out, rfl, HN.out.from_ (by omega), HB.out⟩
set_option maxRecDepth 10000 in
set_option maxHeartbeats 4000000 in
theorem drawPlugsOf_any (a : Option Addr) (len cap : Nat) (w : World) (h : IsRow8 w a len cap) :
    Calls Try.prog 29 #[.slice a len cap] w (DrewUI w) := by
  obtain ⟨i0, hi, hz0, hz1, hz2⟩ := info_parts infoInt
  have HI := Lib.hid hi
  have HZ0 := Lib.hid hz0
  have HZ1 := Lib.hid hz1
  have HZ2 := Lib.hid hz2
  clear hi hz0 hz1 hz2
  go_enter Try.func29, Try.ntmps29
  go_wp2_with fail
  refine (open_any a len cap w h).mono ?_
  rintro e w1 ⟨rfl, hr, hb, hz1⟩
  clear h
  go_wp2_with fail
  refine (l20Uses_any _ _ 0 9 w1 hr (by omega) (by omega) (by omega)).mono ?_
  rintro e w2 ⟨u, ss, q, hq, hl, ha, rfl, hn, hr2, hm⟩
  have HN := Lib.hid hn
  have HA := Lib.hid ha
  have HB := Lib.hid (hb.trans (hm.under (Nat.le_refl _) (by omega)))
  have HR := Lib.hid hr2
  have hz2 := hm.size
  clear hr hb hn ha hm hr2
  obtain ⟨ua, uc, rfl⟩ := HN.out.form
  obtain ⟨KO, hKO⟩ : ∃ KO, KO = w2.heap.size := ⟨_, rfl⟩
  have HO5 := Lib.hid (show (w2.alloc (.cells #[] 3)).ownsRow KO 3 1 (.slice (some ⟨w2.heap.size, 0, none⟩) ([] : List Int).length 0) ([] : List Int).length (rowI []) by rw [hKO]; exact own_empty (Nat.le_refl _) (heap_alloc_new _ _))
  have HM5 := Lib.hid ((MostB.refl w.heap.size w2).alloc (.cells #[] 3))
  have HR5 := Lib.hid (HR.out.keep ((Below.refl _ _).alloc (Nat.le_refl _) (.cells #[] 3)))
  have hBK : w.heap.size < KO := by omega
  clear HR
  go_wp2_with fail
  go_loopw [6, 7] (fun va i wr => ∃ (k q2 : Nat) (l : List Int) (g2 cp : Nat), va = .slice (some ⟨g2, 0, none⟩) l.length cp ∧ i = .int .i64 k ∧ k ≤ ss.length ∧ l.length ≤ k ∧ q2 ≤ q + 1 * k ∧ Hid (Rdr w.heap.size w.heap.size q2 wr) ∧ Hid (wr.ownsRow KO 3 1 (.slice (some ⟨g2, 0, none⟩) l.length cp) l.length (rowI l)) ∧ Hid (MostB w.heap.size w2 wr)) (fun _ i _ => ss.length - (intOf i).toNat)
  case atStart => exact ⟨0, q, [], w2.heap.size, 0, rfl, rfl, by omega, by simp, by omega, HR5, HO5, HM5⟩
  case round =>
    clear HO5 HM5 HR5
    obtain ⟨k, q2, l, g2, cp, rfl, rfl, hkn, hlk, hq2, HR, HOW, HM⟩ := hrel
    have hwr : KO ≤ wr.heap.size := by rw [hKO]; exact HM.out.size
    by_cases hlt : k < ss.length
    · have ik : (k : Int) < (ss.length : Int) := by omega
      go_wp2_with fail
      refine (pick_any _ _ q2 2 _ HR.out (by omega) (by omega)).mono ?_
      rintro e w6 ⟨x5, x50, x51, rfl, hr6, ho6⟩
      have HOW := Lib.hid (own_most HOW.out ho6.mostB hBK)
      have HM := Lib.hid (HM.out.trans ho6.mostB)
      have HR := Lib.hid hr6
      have hwr6 : KO ≤ w6.heap.size := by have := ho6.mostB.size; omega
      clear hr6 ho6
      rcases (by omega : x5 = 0 ∨ x5 = 1) with hx | hx
      · subst hx
        have hown := HOW.out
        go_wp2_with (at_builtin; refine wpList_append_own _ rfl _ _ 27 rfl KO 3 i0 (.int .i64 0) 1 8 Try.underlying27 HI.out HZ0.out HZ1.out HZ2.out rfl (by decide) _ _ _ rfl (hown.alloc _) ⟨w6.heap.size, 0, none⟩ 1 1 [.int .i64 k] rfl rfl (fun j u hu => cells_new j u hu) (by simp [Value.oneCell']) (by unfold maxLen; omega) (by omega) (by simp; omega) ?_; intro v' w7 hown7 hgrow _)
        have hb7 : Below KO (w6.alloc (.cells #[.int .i64 k] 3)) w7 := own_below (v := .slice (some ⟨g2, 0, none⟩) l.length cp) hgrow (by simp; omega) (fun k hk => (own_lt hown k hk).1)
        have HM7 := Lib.hid ((HM.out.alloc (.cells #[.int .i64 k] 3)).below_ (by rw [← hKO]; exact hb7))
        have HR7 := Lib.hid ((HR.out.keep ((Below.refl _ _).alloc (Nat.le_refl _) (.cells #[.int .i64 k] 3))).keepK hb7 hBK)
        have hown8 := own_ints (m := [(k : Int)]) hown7 rfl rfl
        obtain ⟨g', cp', rfl, t1, t2⟩ := own_form hown8 (by simp)
        have H8 := Lib.hid hown8
        clear hgrow hb7 hown hown7 hown8 t1 t2 HOW HM HR
        go_wp2_with fail
        go_roundw
        case rel => exact ⟨k + 1, q2 + 1, l ++ [(k : Int)], g', cp', rfl, by go_num, by omega, by simp; omega, by omega, HR7, H8, HM7⟩
        case measure => simp [intOf]; omega
      · subst hx
        go_wp2_with fail
        go_roundw
        case rel => exact ⟨k + 1, q2 + 1, l, g2, cp, rfl, by go_num, by omega, by omega, by omega, HR, HOW, HM⟩
        case measure => simp [intOf]; omega
    · obtain rfl : k = ss.length := by omega
      go_wp2_with fail
      refine (odd_any _ _ q2 12 _ HR.out (by omega) (by omega) (by omega)).mono ?_
      rintro e w6 ⟨v, rfl, hr6, ho6⟩
      have HOW := Lib.hid (own_most HOW.out ho6.mostB hBK)
      have HM := Lib.hid (HM.out.trans ho6.mostB)
      have HR := Lib.hid hr6
      have hwr6 : KO ≤ w6.heap.size := by have := ho6.mostB.size; omega
      clear hr6 ho6
      cases v
      · go_wp2_with fail
        go_ret2
        exact ⟨_, ss, _, l, hl, HA.out, by (try simp); omega, rfl, (HN.out.most HM.out (by omega)).from_ (by omega), OwnI.from_ HOW.out (by omega), HB.out.trans (HM.out.under (Nat.le_refl _) (by omega))⟩
      · have hown := HOW.out
        go_wp2_with (at_builtin; refine wpList_append_own _ rfl _ _ 27 rfl KO 3 i0 (.int .i64 0) 1 8 Try.underlying27 HI.out HZ0.out HZ1.out HZ2.out rfl (by decide) _ _ _ rfl (hown.alloc _) ⟨w6.heap.size, 0, none⟩ 1 1 [.int .i64 ss.length] rfl rfl (fun j u hu => cells_new j u hu) (by simp [Value.oneCell']) (by unfold maxLen; omega) (by omega) (by simp; omega) ?_; intro v' w7 hown7 hgrow _)
        have hb7 : Below KO (w6.alloc (.cells #[.int .i64 ss.length] 3)) w7 := own_below (v := .slice (some ⟨g2, 0, none⟩) l.length cp) hgrow (by simp; omega) (fun k hk => (own_lt hown k hk).1)
        have HM7 := Lib.hid ((HM.out.alloc (.cells #[.int .i64 ss.length] 3)).below_ (by rw [← hKO]; exact hb7))
        have HR7 := Lib.hid ((HR.out.keep ((Below.refl _ _).alloc (Nat.le_refl _) (.cells #[.int .i64 ss.length] 3))).keepK hb7 hBK)
        have hown8 := own_ints (m := [(ss.length : Int)]) hown7 rfl rfl
        obtain ⟨g', cp', rfl, t1, t2⟩ := own_form hown8 (by simp)
        have H8 := Lib.hid hown8
        clear hgrow hb7 hown hown7 hown8 t1 t2 HOW HM HR
        go_wp2_with fail
        go_ret2
        exact ⟨_, ss, _, (l ++ [(ss.length : Int)]), hl, HA.out, by (try simp); omega, rfl, (HN.out.most HM7.out (by omega)).from_ (by omega), OwnI.from_ H8.out (by omega), HB.out.trans (HM7.out.under (Nat.le_refl _) (by omega))⟩
end Go.Proofs.Ythlcjojhmhoadaa
