/-
  The draws of a stack: l20Stack.
-/
import Derived.Test.YtnjmdfjplmakpaaDrH
import Derived.Test.YtnjmdfjplmakpaaAz
namespace Go.Proofs.Ytnjmdfjplmakpaa
open Go.RowKit
set_option linter.unusedVariables false

/-- What a draw of a stack gives. -/
def DrewStack (base B p : Nat) (w : World) (e : Ending) (w' : World) : Prop :=
  ∃ (l : List Int) (g cp q : Nat), q ≤ p + 20 ∧ l.length ≤ 11 ∧ e = .returned (.slice (some ⟨g, 0, none⟩) l.length cp) ∧ NewI w.heap.size w' (.slice (some ⟨g, 0, none⟩) l.length cp) l ∧ Rdr base B q w' ∧ MostB B w w'

theorem six {w : World} {base : Nat} {e : TypeId} {v : Value} (h : w.ownsRow base e 1 v 6 (madeCells (Value.int .i64 0).cells (6 * 1)).toList) : w.ownsRow base e 1 v 6 [.int .i64 0, .int .i64 0, .int .i64 0, .int .i64 0, .int .i64 0, .int .i64 0] := by
  have e1 : (madeCells (Value.int .i64 0).cells (6 * 1)).toList = [.int .i64 0, .int .i64 0, .int .i64 0, .int .i64 0, .int .i64 0, .int .i64 0] := by kernel_rfl
  rw [e1] at h
  exact h

set_option maxHeartbeats 1000000 in
theorem l20Stack_any (base B p : Nat) (high n : Int) (w : World) (h : Rdr base B p w) (hp : p ≤ 100000) (hh0 : 0 ≤ high) (hh1 : high ≤ 5) (hn0 : 1 ≤ n) (hn1 : n ≤ 1000) :
    Calls Try.prog 32 #[.pointer (some ⟨B, 0, none⟩), .int .i64 high, .int .i64 n] w (DrewStack base B p w) := by
  obtain ⟨i0, hi, hz0, hz1, hz2⟩ := info_parts infoInt
  have HI := Lib.hid hi
  have HZ0 := Lib.hid hz0
  have HZ1 := Lib.hid hz1
  have HZ2 := Lib.hid hz2
  clear hi hz0 hz1 hz2
  have hB2 := h.2.1
  go_enter Try.func32, Try.ntmps32
  go_wp2_with fail
  refine (pick_any base B p 9 _ (h.keep ((Below.refl _ _).alloc (Nat.le_refl _) _)) (by omega) (by omega)).mono ?_
  rintro e w2 ⟨y, y0, y1, rfl, hr2, ho2⟩
  have hm2 : MostB B w w2 := ((MostB.refl B w).alloc _).trans ho2.mostB
  have own2 : w2.ownsRow w.heap.size 3 1 (.slice (some ⟨w.heap.size, 0, none⟩) 0 0) ([] : List Int).length (rowI []) := own_empty (Nat.le_refl _) (by
    rw [ho2.block _ (by omega)]
    show (w.heap.push _)[w.heap.size]? = _
    simp)
  clear h ho2
  go_wp2_with fail
  refine (pick_any base B (p + 1) (high + 1) _ hr2 (by omega) (by omega)).mono ?_
  rintro e w3 ⟨x, x0, x1, rfl, hr3, ho3⟩
  have own3 := own_most own2 ho3.mostB hB2
  have hm3 := hm2.trans ho3.mostB
  obtain ⟨j1, hj1⟩ := Int.eq_ofNat_of_zero_le x0
  subst hj1
  clear hr2 own2 hm2 ho3
  go_wp2_with fail
  go_loopw [7, 8, 9] (fun u i k wr => ∃ (q j : Nat) (d : Int) (l : List Int) (g cp : Nat), u = .slice (some ⟨g, 0, none⟩) l.length cp ∧ l.length ≤ cp ∧ cp ≤ maxLen ∧ i = .int .i64 d ∧ 0 ≤ d ∧ d ≤ 20 + 10 * l.length ∧ k = .int .i64 j ∧ l.length + j ≤ 5 ∧ q ≤ p + 2 + l.length ∧ Rdr base B q wr ∧ wr.ownsRow w.heap.size 3 1 u l.length (rowI l) ∧ MostB B w wr) (fun _ _ k _ => (intOf k).toNat)
  case atStart => exact ⟨p + 1 + 1, j1, 1 + y, [], w.heap.size, 0, rfl, Nat.le_refl _, Nat.zero_le _, rfl, by omega, by simp; omega, rfl, by simp; omega, by simp, hr3, own3, hm3⟩
  case round =>
    clear hr3 own3 hm3
    obtain ⟨q, j, d, l, g, cp, rfl, hgc, hgm, rfl, hd0, hd1, rfl, hlj, hq, hr, hown, hmw⟩ := hrel
    have hws := hmw.size
    unfold maxLen at hgm
    by_cases hlt : 0 < j
    · go_wp2_with (at_builtin; refine wpList_append_own _ rfl _ _ 23 rfl w.heap.size 3 i0 (.int .i64 0) 1 8 Try.underlying23 HI.out HZ0.out HZ1.out HZ2.out rfl (by decide) _ _ _ rfl (hown.alloc _) ⟨wr.heap.size, 0, none⟩ 1 1 [.int .i64 d] rfl rfl (fun j u hu => cells_new j u hu) (by simp [Value.oneCell']) (by unfold maxLen; omega) (by omega) (by simp; omega) ?_; intro v' w6 hown6 hgrow _)
      have hb6 : Below w.heap.size (wr.alloc (.cells #[.int .i64 d] 3)) w6 := own_below (v := .slice (some ⟨g, 0, none⟩) l.length cp) hgrow (by simp; omega) (fun k hk => (own_lt hown k hk).1)
      have hm6 := (hmw.alloc (.cells #[.int .i64 d] 3)).below_ hb6
      have hr6 := (hr.keep ((Below.refl _ _).alloc (Nat.le_refl _) (.cells #[.int .i64 d] 3))).keepK hb6 hB2
      have hown7 := own_ints (m := [d]) hown6 rfl rfl
      obtain ⟨g', cp', rfl, t1, t2⟩ := own_form hown7 (by simp)
      have H7 := Lib.hid hown7
      have T1 := Lib.hid t1
      clear hgrow hb6 hown hr hown6 hmw hown7 t1
      go_wp2_with fail
      refine (pick_any base B q 9 _ hr6 (by omega) (by omega)).mono ?_
      rintro e w7 ⟨z, z0, z1, rfl, hr7, ho7⟩
      have H8 := Lib.hid (own_most H7.out ho7.mostB hB2)
      have hm7 := hm6.trans ho7.mostB
      clear H7 hr6 hm6 ho7
      go_wp2_with fail
      go_roundw
      case rel => exact ⟨q + 1, j - 1, d + 1 + z, l ++ [d], g', cp', by rw [List.length_append]; rfl, T1.out, t2, rfl, by omega, by simp; omega, by congr 1; omega, by simp; omega, by simp; omega, hr7, by have h := H8.out; rw [List.length_append] at h ⊢; exact h, hm7⟩
      case measure => simp [intOf]; omega
    · have hj0 : j = 0 := by omega
      clear hlt
      subst hj0
      go_wp2_with fail
      refine (odd_any base B q n _ hr (by omega) hn0 (by omega)).mono ?_
      rintro e w4 ⟨v, rfl, hr4, ho4⟩
      have own4 := own_most hown ho4.mostB hB2
      have hm4 := hmw.trans ho4.mostB
      clear hr hown hmw ho4
      cases v
      · have hh := Lib.hid (NewI.of_own own4)
        go_wp2_with fail
        go_ret
        exact ⟨l, g, cp, q + 1, by omega, by omega, rfl, hh.out, hr4, hm4⟩
      · go_wp2_with fail
        refine (pick_any base B (q + 1) 3 _ hr4 (by omega) (by omega)).mono ?_
        rintro e w5 ⟨x5, x50, x51, rfl, hr5, ho5⟩
        have own5 := own_most own4 ho5.mostB hB2
        have hm5 := hm4.trans ho5.mostB
        have hws5 := hm5.size
        have hws5' : w.heap.size ≤ w5.heap.size := hm5.size
        clear hr4 own4 hm4 ho5
        rcases (by omega : x5 = 0 ∨ x5 = 1 ∨ x5 = 2) with hx | hx | hx
        · subst hx
          go_wp2_with (at_builtin; refine wpList_append_own _ rfl _ _ 23 rfl w.heap.size 3 i0 (.int .i64 0) 1 8 Try.underlying23 HI.out HZ0.out HZ1.out HZ2.out rfl (by decide) _ _ _ rfl (own5.alloc _) ⟨w5.heap.size, 0, none⟩ 1 1 [.int .i64 0] rfl rfl (fun j u hu => cells_new j u hu) (by simp [Value.oneCell']) (by unfold maxLen; omega) (by omega) (by simp; omega) ?_; intro v' w6 hown6 hgrow _)
          have hb6 : Below w.heap.size (w5.alloc (.cells #[.int .i64 0] 3)) w6 := own_below (v := .slice (some ⟨g, 0, none⟩) l.length cp) hgrow (by simp; omega) (fun k hk => (own_lt own5 k hk).1)
          have hm6 := (hm5.alloc (.cells #[.int .i64 0] 3)).below_ hb6
          have hr6 := (hr5.keep ((Below.refl _ _).alloc (Nat.le_refl _) (.cells #[.int .i64 0] 3))).keepK hb6 hB2
          have hown7 := own_ints (m := [0]) hown6 rfl rfl
          obtain ⟨g', cp', rfl, t1, t2⟩ := own_form hown7 (by simp)
          have H7 := Lib.hid hown7
          have T1 := Lib.hid t1
          clear hgrow hb6 own5 hr5 hown6 hm5 hown7 t1
          have hh := Lib.hid (NewI.of_own H7.out)
          clear H7
          go_wp2_with fail
          go_ret
          exact ⟨l ++ [0], g', cp', q + 1 + 1, by omega, by simp; omega, rfl, hh.out, hr6, hm6⟩
        · subst hx
          go_wp2_with (at_builtin; refine wpList_append_own _ rfl _ _ 23 rfl w.heap.size 3 i0 (.int .i64 0) 1 8 Try.underlying23 HI.out HZ0.out HZ1.out HZ2.out rfl (by decide) _ _ _ rfl (own5.alloc _) ⟨w5.heap.size, 0, none⟩ 2 2 [.int .i64 5, .int .i64 5] rfl rfl (fun j u hu => cells_new j u hu) (by simp [Value.oneCell']) (by unfold maxLen; omega) (by omega) (by simp; omega) ?_; intro v' w6 hown6 hgrow _)
          have hb6 : Below w.heap.size (w5.alloc (.cells #[.int .i64 5, .int .i64 5] 3)) w6 := own_below (v := .slice (some ⟨g, 0, none⟩) l.length cp) hgrow (by simp; omega) (fun k hk => (own_lt own5 k hk).1)
          have hm6 := (hm5.alloc (.cells #[.int .i64 5, .int .i64 5] 3)).below_ hb6
          have hr6 := (hr5.keep ((Below.refl _ _).alloc (Nat.le_refl _) (.cells #[.int .i64 5, .int .i64 5] 3))).keepK hb6 hB2
          have hown7 := own_ints (m := [5, 5]) hown6 rfl rfl
          obtain ⟨g', cp', rfl, t1, t2⟩ := own_form hown7 (by simp)
          have H7 := Lib.hid hown7
          have T1 := Lib.hid t1
          clear hgrow hb6 own5 hr5 hown6 hm5 hown7 t1
          have hh := Lib.hid (NewI.of_own H7.out)
          clear H7
          go_wp2_with fail
          go_ret
          exact ⟨l ++ [5, 5], g', cp', q + 1 + 1, by omega, by simp; omega, rfl, hh.out, hr6, hm6⟩
        · subst hx
          obtain ⟨g6, cp6, w6, hrun, hown6, hgrow⟩ := run_append_own_zeros (P := Try.prog) w5 w.heap.size 23 3 23 3 i0 .i64 .i64 Try.underlying23 (by kernel_rfl) HI.out HZ0.out HZ1.out HZ2.out g l.length cp (rowI l) own5 6 (by omega) (by omega) (by omega) (by omega)
          have hb6 : Below w.heap.size w5 w6 := own_below (v := .slice (some ⟨g, 0, none⟩) l.length cp) hgrow hws5' (fun k hk => (own_lt own5 k hk).1)
          have hm6 := hm5.below_ hb6
          have hr6 := hr5.keepK hb6 hB2
          have hh := Lib.hid (NewI.of_own (own_ints (m := [0, 0, 0, 0, 0, 0]) hown6 rfl rfl))
          clear hgrow hb6 own5 hr5 hown6 hm5
          go_wp2_with (at_builtin; refine Lib.wpList_append_run _ rfl _ _ _ _ rfl _ _ rfl rfl _ _ hrun ?_)
          go_ret
          exact ⟨l ++ [0, 0, 0, 0, 0, 0], g6, cp6, q + 1 + 1, by omega, by simp; omega, by rw [List.length_append]; rfl, by rw [List.length_append]; exact hh.out, hr6, hm6⟩
end Go.Proofs.Ytnjmdfjplmakpaa
