/-
  The draw of a list of boxes and some ids: DrawWeightOf.
-/
import Derived.Test.YtjnoekhdkmgagaaGBase
import Derived.Test.YtjnoekhdkmgagaaGDr
namespace Go.Proofs.Ytjnoekhdkmgagaa
open Go.RowKit
set_option linter.unusedVariables false

/-- What a draw of a list and some ids gives. -/
def DrewListIds (w : World) (e : Ending) (w' : World) : Prop :=
  ∃ (l : List Bx) (ids : List Int) (v u : Value), e = .returned (.tuple #[v, u]) ∧ HoldsBx w' v l ∧ HoldsI w' u ids ∧ (∃ g cp, u = .slice (some ⟨g, 0, none⟩) ids.length cp) ∧ l.length ≤ 40 ∧ ids.length ≤ 6 ∧ Below w.heap.size w w'

set_option maxHeartbeats 1000000 in
theorem drawWeightOf_any (a : Option Addr) (len cap : Nat) (w : World) (h : IsRow8 w a len cap) :
    Calls Try.prog 22 #[.slice a len cap] w (DrewListIds w) := by
  obtain ⟨i0, hi, hz0, hz1, hz2⟩ := info_parts infoInt
  have HI := Lib.hid hi
  have HZ0 := Lib.hid hz0
  have HZ1 := Lib.hid hz1
  have HZ2 := Lib.hid hz2
  clear hi hz0 hz1 hz2
  go_enter Try.func22, Try.ntmps22
  go_wp2_with fail
  refine (open_any a len cap _ h).mono ?_
  rintro e w1 ⟨rfl, hr, hb, hz1⟩
  go_wp2_with fail
  refine (l20Boxes_any _ _ 0 10 9 w1 hr (by omega) (by omega) (by omega) (by omega) (by omega)).mono ?_
  rintro e w2 ⟨l, v, q, hq, hl, rfl, hn, hr2, hm⟩
  have hN := Lib.hid hn
  have hB1 := hr.2.1
  have hB2 := hr2.2.1
  have hbb := hb.trans (hm.under (Nat.le_refl _) hb.size)
  obtain ⟨va, vc, rfl, -, hvc, -⟩ := hn
  go_wp2_with fail
  refine (pick_any _ _ q 6 _ (hr2.keep ((Below.refl _ _).alloc (Nat.le_refl _) _)) (by omega) (by omega)).mono ?_
  rintro e w3 ⟨x, x0, x1, rfl, hr3, ho⟩
  have hm3 : MostB w.heap.size w2 w3 := ((MostB.refl _ w2).alloc _).trans ho.mostB
  have own3 : w3.ownsRow w2.heap.size 3 1 (.slice (some ⟨w2.heap.size, 0, none⟩) 0 0) ([] : List Int).length (rowI []) := own_empty (Nat.le_refl _) (by
    rw [ho.block _ (by omega)]
    show (w2.heap.push _)[w2.heap.size]? = _
    simp)
  obtain ⟨j1, hj1⟩ := Int.eq_ofNat_of_zero_le x0
  subst hj1
  generalize hBe : w.heap.size = B at hr hr2 hr3 hm3 hB1 hB2 hbb hb hm ho hN ⊢
  have HBE := Lib.hid hBe
  clear hr hr2 hb hm ho hz1 h hBe
  unfold maxLen at hvc
  go_wp2_with fail
  go_loopw [6, 7] (fun u k wr => ∃ (p j : Nat) (ids : List Int) (g cp : Nat), u = .slice (some ⟨g, 0, none⟩) ids.length cp ∧ ids.length ≤ cp ∧ cp ≤ maxLen ∧ k = .int .i64 j ∧ ids.length + j ≤ 6 ∧ p ≤ 2000 + 2 * ids.length ∧ Rdr B B p wr ∧ wr.ownsRow w2.heap.size 3 1 u ids.length (rowI ids) ∧ MostB B w2 wr) (fun _ k _ => (intOf k).toNat)
  case atStart => exact ⟨q + 1, j1, [], w2.heap.size, 0, rfl, Nat.le_refl _, Nat.zero_le _, rfl, by simp; omega, by simp; omega, hr3, own3, hm3⟩
  case round =>
    clear hr3 own3 hm3
    obtain ⟨p, j, ids, g, cp, rfl, hgc, hgm, rfl, hlj, hp, hr, hown, hmw⟩ := hrel
    have hws := hmw.size
    unfold maxLen at hgm
    by_cases hlt : 0 < j
    · by_cases hl1 : 1 ≤ (l.length : Int)
      · have hl2 : ¬ (l.length : Int) < 1 := by omega
        go_wp2_with fail
        refine (pick_any _ _ p (l.length : Int) wr hr (by omega) (by omega)).mono ?_
        rintro e w4 ⟨y, y0, y1, rfl, hr4, ho4⟩
        have own4 := own_most hown ho4.mostB hB2
        have hm4 := hmw.trans ho4.mostB
        clear hr hown hmw ho4
        go_wp2_with fail
        refine (pick_any _ _ (p + 1) 20 w4 hr4 (by omega) (by omega)).mono ?_
        rintro e w5 ⟨z, z0, z1, rfl, hr5, ho5⟩
        have own5 := own_most own4 ho5.mostB hB2
        have hm5 := hm4.trans ho5.mostB
        have hws5 := hm5.size
        have d0 : 0 ≤ z / 19 := Int.ediv_nonneg z0 (by omega)
        have d1 : z / 19 ≤ 1 := by omega
        clear hr4 own4 hm4 ho5
        go_wp2_with (at_builtin; refine wpList_append_own _ rfl _ _ 35 rfl w2.heap.size 3 i0 (.int .i64 0) 1 8 Try.underlying35 HI.out HZ0.out HZ1.out HZ2.out rfl (by decide) _ _ _ rfl (own5.alloc _) ⟨w5.heap.size, 0, none⟩ 1 1 [.int .i64 (1 + y + z / 19 * 9)] rfl rfl (fun j u hu => cells_new j u hu) (by simp [Value.oneCell']) (by unfold maxLen; omega) (by omega) (by simp; omega) ?_; intro v' w6 hown6 hgrow _)
        have hb6 : Below w2.heap.size (w5.alloc (.cells #[.int .i64 (1 + y + z / 19 * 9)] 3)) w6 := own_below (v := .slice (some ⟨g, 0, none⟩) ids.length cp) hgrow (by simp; omega) (fun k hk => (own_lt own5 k hk).1)
        have hm6 := (hm5.alloc (.cells #[.int .i64 (1 + y + z / 19 * 9)] 3)).below_ hb6
        have hr6 := (hr5.keep ((Below.refl _ _).alloc (Nat.le_refl _) (.cells #[.int .i64 (1 + y + z / 19 * 9)] 3))).keepK hb6 hB2
        have hown7 := own_ints (m := [1 + y + z / 19 * 9]) hown6 rfl rfl
        obtain ⟨g', cp', rfl, t1, t2⟩ := own_form hown7 (by simp)
        have H7 := Lib.hid hown7
        have T1 := Lib.hid t1
        clear hgrow hb6 own5 hr5 hown6 hm5 hown7 t1
        go_wp2_with fail
        go_roundw
        case rel => exact ⟨p + 1 + 1, j - 1, ids ++ [1 + y + z / 19 * 9], g', cp', rfl, T1.out, t2, by congr 1; omega, by simp; omega, by simp; omega, hr6, H7.out, hm6⟩
        case measure => simp [intOf]; omega
      · have hl2 : (l.length : Int) < 1 := by omega
        go_wp2_with fail
        refine (pick_any _ _ p 1 wr hr (by omega) (by omega)).mono ?_
        rintro e w4 ⟨y, y0, y1, rfl, hr4, ho4⟩
        have own4 := own_most hown ho4.mostB hB2
        have hm4 := hmw.trans ho4.mostB
        clear hr hown hmw ho4
        go_wp2_with fail
        refine (pick_any _ _ (p + 1) 20 w4 hr4 (by omega) (by omega)).mono ?_
        rintro e w5 ⟨z, z0, z1, rfl, hr5, ho5⟩
        have own5 := own_most own4 ho5.mostB hB2
        have hm5 := hm4.trans ho5.mostB
        have hws5 := hm5.size
        have d0 : 0 ≤ z / 19 := Int.ediv_nonneg z0 (by omega)
        have d1 : z / 19 ≤ 1 := by omega
        clear hr4 own4 hm4 ho5
        go_wp2_with (at_builtin; refine wpList_append_own _ rfl _ _ 35 rfl w2.heap.size 3 i0 (.int .i64 0) 1 8 Try.underlying35 HI.out HZ0.out HZ1.out HZ2.out rfl (by decide) _ _ _ rfl (own5.alloc _) ⟨w5.heap.size, 0, none⟩ 1 1 [.int .i64 (1 + y + z / 19 * 9)] rfl rfl (fun j u hu => cells_new j u hu) (by simp [Value.oneCell']) (by unfold maxLen; omega) (by omega) (by simp; omega) ?_; intro v' w6 hown6 hgrow _)
        have hb6 : Below w2.heap.size (w5.alloc (.cells #[.int .i64 (1 + y + z / 19 * 9)] 3)) w6 := own_below (v := .slice (some ⟨g, 0, none⟩) ids.length cp) hgrow (by simp; omega) (fun k hk => (own_lt own5 k hk).1)
        have hm6 := (hm5.alloc (.cells #[.int .i64 (1 + y + z / 19 * 9)] 3)).below_ hb6
        have hr6 := (hr5.keep ((Below.refl _ _).alloc (Nat.le_refl _) (.cells #[.int .i64 (1 + y + z / 19 * 9)] 3))).keepK hb6 hB2
        have hown7 := own_ints (m := [1 + y + z / 19 * 9]) hown6 rfl rfl
        obtain ⟨g', cp', rfl, t1, t2⟩ := own_form hown7 (by simp)
        have H7 := Lib.hid hown7
        have T1 := Lib.hid t1
        clear hgrow hb6 own5 hr5 hown6 hm5 hown7 t1
        go_wp2_with fail
        go_roundw
        case rel => exact ⟨p + 1 + 1, j - 1, ids ++ [1 + y + z / 19 * 9], g', cp', rfl, T1.out, t2, by congr 1; omega, by simp; omega, by simp; omega, hr6, H7.out, hm6⟩
        case measure => simp [intOf]; omega
    · have hj0 : j = 0 := by omega
      clear hlt
      subst hj0
      have hh := Lib.hid (NewI.of_own hown).holds
      have hh2 := Lib.hid (hN.out.most hmw hB1).holds
      have hbw := hbb.trans (hmw.under (Nat.le_refl _) (by omega))
      go_wp2_with fail
      go_ret2
      exact ⟨l, ids, _, _, rfl, hh2.out, hh.out, ⟨_, _, rfl⟩, hl, by omega, by rw [HBE.out]; exact hbw⟩
end Go.Proofs.Ytjnoekhdkmgagaa
