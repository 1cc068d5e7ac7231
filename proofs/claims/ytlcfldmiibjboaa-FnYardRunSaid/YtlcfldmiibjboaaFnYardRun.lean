/-
  For every code of bytes the law on YardRun (the model's answer; the yard is valid and has the same boxes, and the moves that were done lead back) returns true and leaves its argument as it was. Conditions: none beyond the form's own reach.
-/
import Derived.Test.YtlcfldmiibjboaaRows
import Derived.Test.YtlcfldmiibjboaaGBase
import Derived.WalkKit
import Derived.ProofKit
import Derived.OpenShut
import Derived.ShutString
import Derived.ChangeOld
import Derived.Below
import Derived.Test.YtlcfldmiibjboaaGCr
import Derived.Test.YtlcfldmiibjboaaYkR
import Derived.Test.YtlcfldmiibjboaaYlA
import Derived.Test.YtlcfldmiibjboaaGYv
import Derived.Test.YtlcfldmiibjboaaYsR
import Derived.Test.YtlcfldmiibjboaaYiR
import Derived.Test.YtlcfldmiibjboaaYiF
import Derived.Test.YtlcfldmiibjboaaYv
namespace Go.Proofs.Ytlcfldmiibjboaa.fnYardRun
open Go.ChangeShapes Go.WideShapes Go.ChangeAt Go.RowKit
open Go.ChangeMaps (open_string shut_string)
set_option linter.unusedVariables false


/-- What the walk is told of a slice of integers that came in. -/
def IsRow (k : IntKind) (w : World) (a : Option Addr) (len cap : Nat) (zs : List Int) : Prop :=
  (a = none ∧ len = 0 ∧ cap = 0 ∧ zs = []) ∨
  ∃ x, a = some x ∧ len ≤ cap ∧ cap ≤ maxLen ∧ zs.length = cap ∧ (∀ i, i < zs.length → w.cell? (x.add i) = some (.int k (zs.getD i 0))) ∧ ∀ n ∈ zs, (Lit.int k n).wf = true

theorem same_yard (h : Int) (u v : Value) (ss : List (List Int)) (w : World) (hu : HoldsY w u ss) (hv : HoldsY w v ss) :
    Calls Try.prog 18 #[.agg #[.int .i64 h, u], .agg #[.int .i64 h, v]] w fun e w' => e = .returned (.bool true) ∧ Below w.heap.size w w' := by
  have := sameYard_any h h u v ss ss w hu hv
  rwa [decide_eq_true (And.intro rfl rfl : h = h ∧ ss = ss)] at this

theorem ids_hold (h : Int) (v : Value) (ss : List (List Int)) (w : World) (g : HoldsY w v ss) :
    Calls Try.prog 22 #[.agg #[.int .i64 h, v]] w fun e w' => ∃ a c, e = .returned (.slice a (idsY h ss).length c) ∧ HoldsI w' (.slice a (idsY h ss).length c) (idsY h ss) ∧ Below w.heap.size w w' :=
  (implYardIds_any h v ss w g).mono fun e w' ⟨u, he, hf, hb⟩ => by
    have hh := hf.holds
    obtain ⟨a, c, rfl⟩ := hh.form
    exact ⟨a, c, he, hh, hb⟩
theorem same_list (u v : Value) (l : List Int) (w : World) (hu : HoldsI w u l) (hv : HoldsI w v l) :
    Calls Try.prog 29 #[u, v] w fun e w' => e = .returned (.bool true) ∧ Below w.heap.size w w' := by
  have := sameInts_any u v l l w hu hv
  rwa [decide_eq_true (rfl : l = l)] at this
/-- The moves that were done, from one on, backwards and in the other direction. -/
def backM (ms : List (Int × Int)) (n j : Nat) : List (Int × Int) := ((ms.take n).drop j).reverse.map fun m => (m.2, m.1)
theorem backM_start (ms : List (Int × Int)) {n : Nat} (h : n ≤ ms.length) : backM ms n n = [] := by
  unfold backM
  rw [List.drop_eq_nil_of_le (by rw [List.length_take]; omega)]
  rfl
theorem backM_next {ms : List (Int × Int)} {n i : Nat} (h : n ≤ ms.length) (hi : i < n) (hl : i < ms.length) : backM ms n i = backM ms n (i + 1) ++ [(ms[i].2, ms[i].1)] := by
  unfold backM
  rw [List.drop_eq_getElem_cons (i := i) (by rw [List.length_take]; omega), List.reverse_cons, List.map_append, List.getElem_take]
  rfl
theorem run_ways (h : Int) (ss : List (List Int)) (ms : List (Int × Int)) : (ydOk h ss = false ∧ runY h ss ms = ((0, []), 0)) ∨ (ydOk h ss = true ∧ 40 < ms.length ∧ runY h ss ms = ((0, []), 0)) ∨
    (ydOk h ss = true ∧ ms.length ≤ 40 ∧ ∃ (tt : List (List Int)) (n : Nat), n ≤ ms.length ∧ runY h ss ms = ((h, tt), (n : Int)) ∧ ydOk h tt = true ∧ tt.flatten.Perm ss.flatten ∧ runY h tt (backM ms n 0) = ((h, ss), (n : Int))) := by
  cases hk : ydOk h ss
  · exact .inl ⟨rfl, runY_bad (.inl hk)⟩
  · by_cases h40 : ms.length ≤ 40
    · obtain ⟨hn, hd0⟩ := runS_done (h := h) ms ss
      have hd := hd0 hk
      obtain ⟨ht, hp⟩ := hd.ok hk
      have hb := hd.back hk
      have hl : ((ms.take (runS h ss ms).2).reverse.map fun m : Int × Int => (m.2, m.1)).length = (runS h ss ms).2 := by
        rw [List.length_map, List.length_reverse, List.length_take]; omega
      have hr := runY_full ht (by rw [hl]; omega) hb
      rw [hl] at hr
      refine .inr (.inr ⟨rfl, h40, (runS h ss ms).1, (runS h ss ms).2, hn, ?_, ht, hp, hr⟩)
      unfold runY
      rw [if_pos ⟨hk, h40⟩]
    · exact .inr (.inl ⟨rfl, by omega, runY_bad (.inr (by omega))⟩)

set_option maxRecDepth 10000 in
set_option maxHeartbeats 8000000 in
theorem walk (a0 : Option Addr) (len0 cap0 : Nat) (w : World) (w0 : IsRow8 w a0 len0 cap0) :
    Calls Try.prog 6 #[.slice a0 len0 cap0] w fun e w' => e = .returned (.bool true) ∧ Below w.heap.size w w' := by
  have hm := row8_len w0
  unfold maxLen at hm
  by_cases hl : len0 ≤ 1048576
  · obtain ⟨i0, hi, hz0, hz1, hz2⟩ := info_parts infoMv
    have MI := Lib.hid hi
    have MZ0 := Lib.hid hz0
    have MZ1 := Lib.hid hz1
    have MZ2 := Lib.hid hz2
    clear hi hz0 hz1 hz2
    go_enter Try.func6, Try.ntmps6
    go_wp2_with fail
    refine (drawYardRun_any a0 len0 cap0 w w0).mono ?_
    rintro e w1 ⟨h0, u, ss, lv, ms, hl7, hf, hm41, rfl, hh, hlm, hb⟩
    clear w0
    obtain ⟨la, lc, rfl⟩ : ∃ a c, lv = .slice a ms.length c := by obtain ⟨a, c, e, _⟩ := hlm; exact ⟨a, c, e⟩
    have HI := Lib.hid fun v w (g : HoldsY w v ss) (gl : HoldsM w (.slice la ms.length lc) ms) => implYardRun_any h0 v _ ss ms w g gl
    have HS := Lib.hid fun v w (g : HoldsY w v ss) (gl : HoldsM w (.slice la ms.length lc) ms) => specYardRun_any h0 v _ ss ms w g gl (by omega)
    have HV := Lib.hid fun v w (g : HoldsY w v ss) => specYardValid_any h0 v ss w g (by omega)
    unfold RunYGivesF at HI
    unfold RunYGives at HS
    obtain ⟨ua, uc, rfl⟩ : ∃ a c, u = .slice a ss.length c := by obtain ⟨a, c, e, _⟩ := hh; exact ⟨a, c, e⟩
    have b2 : Below w1.heap.size w1 (w1.alloc (.cells #[.int .i64 h0, .slice ua ss.length uc] 25)) := (Below.refl _ _).alloc (Nat.le_refl _) _
    have y2 := BoxY.new w1 h0 (.slice ua ss.length uc)
    have h2 := hh.keep b2
    have l2 := hlm.keep b2
    have C2 := hb.trans (b2.mono hb.size)
    generalize hW2 : w1.alloc (.cells #[.int .i64 h0, .slice ua ss.length uc] 25) = W2 at b2 y2 h2 l2 C2
    have HW2 := Lib.hid hW2
    clear hW2 b2 hb hh hlm
    have ya := y2.c0
    have yb := y2.c1
    rcases run_ways h0 ss ms with ⟨hk, e⟩ | ⟨hk, h40, e⟩ | ⟨hk, h40, tt, n, hnl, e, hok, hp, hbk⟩
    · rw [e] at HI HS
      rw [hk] at HV
      clear hk e
      go_wp2_with fail
      rw [HW2.out]
      generalize w1.heap.size = Y at y2 ya yb
      clear HW2
      go_wp2_with fail
      refine (HI.out _ W2 h2 l2).mono ?_
      rintro e w3 ⟨v3, rfl, f3, b3⟩
      obtain ⟨p3, k3, rfl⟩ := f3.form
      clear ya yb
      have ya := fun T => (y2.keep b3 |>.keep ((Below.refl _ _).alloc (Nat.le_refl _) (.cells #[.int .i64 0, .slice p3 0 k3] T))).c0
      have yb := fun T => (y2.keep b3 |>.keep ((Below.refl _ _).alloc (Nat.le_refl _) (.cells #[.int .i64 0, .slice p3 0 k3] T))).c1
      have x4 := BoxY.new w3 0 (.slice p3 0 k3)
      have b4 : Below w3.heap.size w3 (w3.alloc (.cells #[.int .i64 0, .slice p3 0 k3] 25)) := (Below.refl _ _).alloc (Nat.le_refl _) _
      have C4 := (C2.trans (b3.mono C2.size)).trans (b4.mono (C2.trans (b3.mono C2.size)).size)
      have y4 := (y2.keep b3).keep b4
      have l4 := (l2.keep b3).keep b4
      have h4 := (h2.keep b3).keep b4
      have g4 : HoldsY (w3.alloc (.cells #[.int .i64 0, .slice p3 0 k3] 25)) (.slice p3 0 k3) (([] : List (List Int))) := f3.holdsY.keep b4
      clear y2 l2 h2 C2 b3 b4 f3
      generalize hW4 : w3.alloc (.cells #[.int .i64 0, .slice p3 0 k3] 25) = W4 at x4 C4 y4 l4 h4 g4
      have HW4 := Lib.hid hW4
      clear hW4
      go_wp2_with fail
      rw [HW4.out]
      generalize w3.heap.size = X at x4
      clear HW4 ya yb
      refine (HS.out _ W4 h4 l4).mono ?_
      rintro e w5 ⟨v5, rfl, f5, b5⟩
      obtain ⟨p5, k5, rfl⟩ := NewY.form f5
      have ya := fun T => (x4.keep b5 |>.keep ((Below.refl _ _).alloc (Nat.le_refl _) (.cells #[.int .i64 0, .slice p5 0 k5] T))).c0
      have yb := fun T => (x4.keep b5 |>.keep ((Below.refl _ _).alloc (Nat.le_refl _) (.cells #[.int .i64 0, .slice p5 0 k5] T))).c1
      have z6 := BoxY.new w5 0 (.slice p5 0 k5)
      have b6 : Below w5.heap.size w5 (w5.alloc (.cells #[.int .i64 0, .slice p5 0 k5] 25)) := (Below.refl _ _).alloc (Nat.le_refl _) _
      have C6 := (C4.trans (b5.mono C4.size)).trans (b6.mono (C4.trans (b5.mono C4.size)).size)
      have y6 := (y4.keep b5).keep b6
      have l6 := (l4.keep b5).keep b6
      have x6 := (x4.keep b5).keep b6
      have h6 := (h4.keep b5).keep b6
      have g6 := (g4.keep b5).keep b6
      have n6 : HoldsY (w5.alloc (.cells #[.int .i64 0, .slice p5 0 k5] 25)) (.slice p5 0 k5) (([] : List (List Int))) := f5.holds.keep b6
      clear y4 l4 x4 h4 g4 C4 b5 b6 f5
      generalize hW6 : w5.alloc (.cells #[.int .i64 0, .slice p5 0 k5] 25) = W6 at z6 C6 y6 l6 x6 h6 g6 n6
      have HW6 := Lib.hid hW6
      clear hW6
      go_wp2_with fail
      rw [HW6.out]
      clear HW6 ya yb z6
      refine (same_yard 0 _ _ (([] : List (List Int))) W6 g6 n6).mono ?_
      rintro e w7 ⟨rfl, b7⟩
      have C7 := C6.trans (b7.mono C6.size)
      have y7 := y6.keep b7
      have l7 := l6.keep b7
      have x7 := x6.keep b7
      have h7 := h6.keep b7
      have g7 := g6.keep b7
      clear y6 l6 x6 h6 g6 n6 C6 b7
      have ya := y7.c0
      have yb := y7.c1
      have xa := x7.c0
      have xb := x7.c1
      go_wp2_with fail
      refine (HV.out _ w7 h7).mono ?_
      rintro e w8 ⟨rfl, b8⟩
      have C8 := C7.trans (b8.mono C7.size)
      have x8 := x7.keep b8
      clear y7 l7 x7 h7 g7 b8 ya yb xa xb
      have xb := x8.c1
      go_wp2_with fail
      refine (alive_yes _).mono ?_
      rintro e w9 ⟨rfl, rfl⟩
      go_wp2
      go_ret
      exact ⟨rfl, C8⟩
    · rw [e] at HI HS
      rw [hk] at HV
      have h40i : (40 : Int) < (ms.length : Int) := by omega
      clear hk e h40
      go_wp2_with fail
      rw [HW2.out]
      generalize w1.heap.size = Y at y2 ya yb
      clear HW2
      go_wp2_with fail
      refine (HI.out _ W2 h2 l2).mono ?_
      rintro e w3 ⟨v3, rfl, f3, b3⟩
      obtain ⟨p3, k3, rfl⟩ := f3.form
      clear ya yb
      have ya := fun T => (y2.keep b3 |>.keep ((Below.refl _ _).alloc (Nat.le_refl _) (.cells #[.int .i64 0, .slice p3 0 k3] T))).c0
      have yb := fun T => (y2.keep b3 |>.keep ((Below.refl _ _).alloc (Nat.le_refl _) (.cells #[.int .i64 0, .slice p3 0 k3] T))).c1
      have x4 := BoxY.new w3 0 (.slice p3 0 k3)
      have b4 : Below w3.heap.size w3 (w3.alloc (.cells #[.int .i64 0, .slice p3 0 k3] 25)) := (Below.refl _ _).alloc (Nat.le_refl _) _
      have C4 := (C2.trans (b3.mono C2.size)).trans (b4.mono (C2.trans (b3.mono C2.size)).size)
      have y4 := (y2.keep b3).keep b4
      have l4 := (l2.keep b3).keep b4
      have h4 := (h2.keep b3).keep b4
      have g4 : HoldsY (w3.alloc (.cells #[.int .i64 0, .slice p3 0 k3] 25)) (.slice p3 0 k3) (([] : List (List Int))) := f3.holdsY.keep b4
      clear y2 l2 h2 C2 b3 b4 f3
      generalize hW4 : w3.alloc (.cells #[.int .i64 0, .slice p3 0 k3] 25) = W4 at x4 C4 y4 l4 h4 g4
      have HW4 := Lib.hid hW4
      clear hW4
      go_wp2_with fail
      rw [HW4.out]
      generalize w3.heap.size = X at x4
      clear HW4 ya yb
      refine (HS.out _ W4 h4 l4).mono ?_
      rintro e w5 ⟨v5, rfl, f5, b5⟩
      obtain ⟨p5, k5, rfl⟩ := NewY.form f5
      have ya := fun T => (x4.keep b5 |>.keep ((Below.refl _ _).alloc (Nat.le_refl _) (.cells #[.int .i64 0, .slice p5 0 k5] T))).c0
      have yb := fun T => (x4.keep b5 |>.keep ((Below.refl _ _).alloc (Nat.le_refl _) (.cells #[.int .i64 0, .slice p5 0 k5] T))).c1
      have z6 := BoxY.new w5 0 (.slice p5 0 k5)
      have b6 : Below w5.heap.size w5 (w5.alloc (.cells #[.int .i64 0, .slice p5 0 k5] 25)) := (Below.refl _ _).alloc (Nat.le_refl _) _
      have C6 := (C4.trans (b5.mono C4.size)).trans (b6.mono (C4.trans (b5.mono C4.size)).size)
      have y6 := (y4.keep b5).keep b6
      have l6 := (l4.keep b5).keep b6
      have x6 := (x4.keep b5).keep b6
      have h6 := (h4.keep b5).keep b6
      have g6 := (g4.keep b5).keep b6
      have n6 : HoldsY (w5.alloc (.cells #[.int .i64 0, .slice p5 0 k5] 25)) (.slice p5 0 k5) (([] : List (List Int))) := f5.holds.keep b6
      clear y4 l4 x4 h4 g4 C4 b5 b6 f5
      generalize hW6 : w5.alloc (.cells #[.int .i64 0, .slice p5 0 k5] 25) = W6 at z6 C6 y6 l6 x6 h6 g6 n6
      have HW6 := Lib.hid hW6
      clear hW6
      go_wp2_with fail
      rw [HW6.out]
      clear HW6 ya yb z6
      refine (same_yard 0 _ _ (([] : List (List Int))) W6 g6 n6).mono ?_
      rintro e w7 ⟨rfl, b7⟩
      have C7 := C6.trans (b7.mono C6.size)
      have y7 := y6.keep b7
      have l7 := l6.keep b7
      have x7 := x6.keep b7
      have h7 := h6.keep b7
      have g7 := g6.keep b7
      clear y6 l6 x6 h6 g6 n6 C6 b7
      have ya := y7.c0
      have yb := y7.c1
      have xa := x7.c0
      have xb := x7.c1
      go_wp2_with fail
      refine (HV.out _ w7 h7).mono ?_
      rintro e w8 ⟨rfl, b8⟩
      have C8 := C7.trans (b8.mono C7.size)
      have x8 := x7.keep b8
      clear y7 l7 x7 h7 g7 b8 ya yb xa xb
      have xb := x8.c1
      go_wp2_with fail
      refine (alive_yes _).mono ?_
      rintro e w9 ⟨rfl, rfl⟩
      go_wp2
      go_ret
      exact ⟨rfl, C8⟩
    · have hid : idsY h0 tt = idsY h0 ss := idsY_eq hok hk hp
      rw [e] at HI HS
      rw [hk] at HV
      have HVt := Lib.hid fun v w (g : HoldsY w v tt) => implYardValid_any h0 v tt w g
      rw [hok] at HVt
      have HP := Lib.hid fun v bv w (g : HoldsY w v tt) (gl : HoldsM w bv (backM ms n 0)) => implYardRun_any h0 v bv tt (backM ms n 0) w g gl
      unfold RunYGivesF at HP
      rw [hbk] at HP
      have HJx := Lib.hid fun v w (g : HoldsY w v tt) => ids_hold h0 v tt w g
      have HJy := Lib.hid fun v w (g : HoldsY w v ss) => ids_hold h0 v ss w g
      rw [hid] at HJx
      generalize idsY h0 ss = L at HJx HJy
      have hnn : ((n : Int) != (n : Int)) = false := by simp
      have h40i : ¬ (40 : Int) < (ms.length : Int) := by omega
      have hn40 : n ≤ 40 := by omega
      clear e hok hbk hp hid hk
      go_wp2_with fail
      rw [HW2.out]
      generalize w1.heap.size = Y at y2 ya yb
      clear HW2
      go_wp2_with fail
      refine (HI.out _ W2 h2 l2).mono ?_
      rintro e w3 ⟨v3, rfl, f3, b3⟩
      obtain ⟨p3, k3, rfl⟩ := f3.form
      clear ya yb
      have ya := fun T => (y2.keep b3 |>.keep ((Below.refl _ _).alloc (Nat.le_refl _) (.cells #[.int .i64 h0, .slice p3 tt.length k3] T))).c0
      have yb := fun T => (y2.keep b3 |>.keep ((Below.refl _ _).alloc (Nat.le_refl _) (.cells #[.int .i64 h0, .slice p3 tt.length k3] T))).c1
      have x4 := BoxY.new w3 h0 (.slice p3 tt.length k3)
      have b4 : Below w3.heap.size w3 (w3.alloc (.cells #[.int .i64 h0, .slice p3 tt.length k3] 25)) := (Below.refl _ _).alloc (Nat.le_refl _) _
      have C4 := (C2.trans (b3.mono C2.size)).trans (b4.mono (C2.trans (b3.mono C2.size)).size)
      have y4 := (y2.keep b3).keep b4
      have l4 := (l2.keep b3).keep b4
      have h4 := (h2.keep b3).keep b4
      have g4 : HoldsY (w3.alloc (.cells #[.int .i64 h0, .slice p3 tt.length k3] 25)) (.slice p3 tt.length k3) (tt) := f3.holdsY.keep b4
      clear y2 l2 h2 C2 b3 b4 f3
      generalize hW4 : w3.alloc (.cells #[.int .i64 h0, .slice p3 tt.length k3] 25) = W4 at x4 C4 y4 l4 h4 g4
      have HW4 := Lib.hid hW4
      clear hW4
      go_wp2_with fail
      rw [HW4.out]
      generalize w3.heap.size = X at x4
      clear HW4 ya yb
      refine (HS.out _ W4 h4 l4).mono ?_
      rintro e w5 ⟨v5, rfl, f5, b5⟩
      obtain ⟨p5, k5, rfl⟩ := NewY.form f5
      have ya := fun T => (x4.keep b5 |>.keep ((Below.refl _ _).alloc (Nat.le_refl _) (.cells #[.int .i64 h0, .slice p5 tt.length k5] T))).c0
      have yb := fun T => (x4.keep b5 |>.keep ((Below.refl _ _).alloc (Nat.le_refl _) (.cells #[.int .i64 h0, .slice p5 tt.length k5] T))).c1
      have z6 := BoxY.new w5 h0 (.slice p5 tt.length k5)
      have b6 : Below w5.heap.size w5 (w5.alloc (.cells #[.int .i64 h0, .slice p5 tt.length k5] 25)) := (Below.refl _ _).alloc (Nat.le_refl _) _
      have C6 := (C4.trans (b5.mono C4.size)).trans (b6.mono (C4.trans (b5.mono C4.size)).size)
      have y6 := (y4.keep b5).keep b6
      have l6 := (l4.keep b5).keep b6
      have x6 := (x4.keep b5).keep b6
      have h6 := (h4.keep b5).keep b6
      have g6 := (g4.keep b5).keep b6
      have n6 : HoldsY (w5.alloc (.cells #[.int .i64 h0, .slice p5 tt.length k5] 25)) (.slice p5 tt.length k5) (tt) := f5.holds.keep b6
      clear y4 l4 x4 h4 g4 C4 b5 b6 f5
      generalize hW6 : w5.alloc (.cells #[.int .i64 h0, .slice p5 tt.length k5] 25) = W6 at z6 C6 y6 l6 x6 h6 g6 n6
      have HW6 := Lib.hid hW6
      clear hW6
      go_wp2_with fail
      rw [HW6.out]
      clear HW6 ya yb z6
      refine (same_yard h0 _ _ (tt) W6 g6 n6).mono ?_
      rintro e w7 ⟨rfl, b7⟩
      have C7 := C6.trans (b7.mono C6.size)
      have y7 := y6.keep b7
      have l7 := l6.keep b7
      have x7 := x6.keep b7
      have h7 := h6.keep b7
      have g7 := g6.keep b7
      clear y6 l6 x6 h6 g6 n6 C6 b7
      have ya := y7.c0
      have yb := y7.c1
      have xa := x7.c0
      have xb := x7.c1
      go_wp2_with fail
      refine (HV.out _ w7 h7).mono ?_
      rintro e w8 ⟨rfl, b8⟩
      have C8 := C7.trans (b8.mono C7.size)
      have Y8 := Lib.hid (y7.keep b8)
      have X8 := Lib.hid (x7.keep b8)
      have H8 := Lib.hid (h7.keep b8)
      have G8 := Lib.hid (g7.keep b8)
      have L8 := Lib.hid (l7.keep b8)
      have HC8 := Lib.hid C8
      clear y7 l7 x7 h7 g7 b8 ya yb xa xb C7 C8 HV HI HS
      have b9 : Below w8.heap.size w8 (w8.alloc (.cells #[] 41)) := (Below.refl _ _).alloc (Nat.le_refl _) _
      have o9 : (w8.alloc (.cells #[] 41)).ownsRow w8.heap.size 41 2 (.slice (some ⟨w8.heap.size, 0, none⟩) 0 0) 0 (rowM []) := own_empty (Nat.le_refl _) (heap_alloc_new _ _)
      have HS0 := Lib.hid (backM_start ms hnl).symm
      have B9 := Lib.hid b9
      have O9 := Lib.hid o9
      clear b9 o9
      have HNX := Lib.hid fun i (hi : i < n) (hl : i < ms.length) => backM_next (ms := ms) (n := n) (i := i) (by omega) hi hl
      go_wp2_with fail
      go_loopw [9, 10] (fun bv k wr => ∃ (j : Nat) (kk : Int) (l : List (Int × Int)) (g cap : Nat), bv = .slice (some ⟨g, 0, none⟩) l.length cap ∧ k = .int .i64 kk ∧ kk + 1 ≤ (j : Int) ∧ (j : Int) ≤ kk + 1 ∧ j ≤ n ∧ l.length + j ≤ n ∧ Hid (l = backM ms n j) ∧ Hid (wr.ownsRow w8.heap.size 41 2 (.slice (some ⟨g, 0, none⟩) l.length cap) l.length (rowM l)) ∧ Hid (Below w8.heap.size w8 wr)) (fun _ k _ => (intOf k + 1).toNat)
      case atStart => exact ⟨n, (n : Int) - 1, [], w8.heap.size, 0, rfl, rfl, by omega, by omega, Nat.le_refl _, by simp, HS0, O9, B9⟩
      case round =>
        obtain ⟨j, kk, l, g, cp, rfl, rfl, hj0, hj1, hjn, hlj, HL, HO, HB⟩ := hrel
        by_cases hlt : 0 ≤ kk
        · obtain ⟨i, rfl⟩ : ∃ i, j = i + 1 := ⟨j - 1, by omega⟩
          obtain ⟨b, off, hil, rfl, hbl, c0, c1⟩ := (L8.out.keep HB.out).at_ (k := i) (by omega)
          have HN := Lib.hid (HNX.out i (by omega) hil)
          generalize ms[i].1 = fx at c0 HN
          generalize ms[i].2 = tx at c1 HN
          have ki : kk.toNat = i := by omega
          have k1 : kk < (ms.length : Int) := by omega
          have O5 := Lib.hid fun o : Obj => own_stay HO.out ((Below.refl wr.heap.size wr).alloc (Nat.le_refl _) o)
          have hsz : ∀ o : Obj, w8.heap.size ≤ (wr.alloc o).heap.size := fun o => by have := HB.out.size; simp; omega
          have HSZ := Lib.hid hsz
          clear hsz
          go_wp2_with fail
          (first | go_region_law (refine step_append_y (by rfl) _ _ 46 (by rfl) w8.heap.size 41 i0 (.agg #[.int .i64 0, .int .i64 0]) 2 16 Try.underlying46 MI.out MZ0.out MZ1.out MZ2.out rfl (by decide) _ l.length (rowM l) (by rfl) (O5.out _) ⟨wr.heap.size, 0, none⟩ 1 1 [.int .i64 tx, .int .i64 fx] (by rfl) rfl (fun j u hu => cells_new j u hu) (by simp [Value.oneCell']) (by decide) (by unfold maxLen; omega) (by omega) (HSZ.out _) ?_; intro g2 c2 w6 ho6 hb6 hg6 hk6; have HO6 := Lib.hid ho6; have HB6 := Lib.hid hb6; clear ho6 hb6 hg6 hk6) | fail)
          all_goals
            have B6 := Lib.hid (HB.out.trans ((((Below.refl wr.heap.size wr).alloc (Nat.le_refl _) (.cells #[.int .i64 tx, .int .i64 fx] 41)).drew).mono HB.out.size |>.trans HB6.out))
            have HO7 := Lib.hid (own_moves (m := [(tx, fx)]) HO6.out rfl rfl)
            have HL7 := Lib.hid (show l ++ [(tx, fx)] = backM ms n i by rw [HN.out, HL.out])
            clear HO6 HB6 O5 HSZ HN HL HO HB c0 c1
            go_wp2_with fail
            go_roundw
            case rel => exact ⟨i, kk - 1, l ++ [(tx, fx)], g2, c2, by rw [List.length_append]; rfl, rfl, by omega, by omega, by omega, by rw [List.length_append]; show l.length + 1 + i ≤ n; omega, HL7, Lib.hid (by have h := HO7.out; rw [List.length_append] at h ⊢; exact h), B6⟩
            case measure => simp [intOf]; omega
        · obtain rfl : j = 0 := by omega
          have HLM : HoldsM wr (.slice (some ⟨g, 0, none⟩) l.length cp) (backM ms n 0) := by rw [← HL.out]; exact HoldsM.of_own HO.out
          have C7 := HC8.out.trans (HB.out.mono HC8.out.size)
          have y7 := Y8.out.keep HB.out
          have x7 := X8.out.keep HB.out
          have h7 := H8.out.keep HB.out
          have g7 := G8.out.keep HB.out
          have xa := x7.c0
          have xb := x7.c1
          have LL := Lib.hid HLM
          clear HLM HL HO HB Y8 X8 H8 G8 L8 HC8 HNX HS0 O9 B9
          go_wp2_with fail
          refine (HP.out _ _ wr g7 LL.out).mono ?_
          rintro e w10 ⟨v10, rfl, f10, b10⟩
          obtain ⟨p8, k8, rfl⟩ := f10.form
          clear xa xb
          have z9 := BoxY.new w10 h0 (.slice p8 ss.length k8)
          have b9 : Below w10.heap.size w10 (w10.alloc (.cells #[.int .i64 h0, .slice p8 ss.length k8] 25)) := (Below.refl _ _).alloc (Nat.le_refl _) _
          have C9 := (C7.trans (b10.mono C7.size)).trans (b9.mono (C7.trans (b10.mono C7.size)).size)
          have y9 := (y7.keep b10).keep b9
          have x9 := (x7.keep b10).keep b9
          have h9 := (h7.keep b10).keep b9
          have g9 := (g7.keep b10).keep b9
          have q9 := f10.holdsY.keep b9
          clear y7 x7 h7 g7 C7 b10 b9 f10 LL
          generalize hW9 : w10.alloc (.cells #[.int .i64 h0, .slice p8 ss.length k8] 25) = W9 at z9 C9 y9 x9 h9 g9 q9
          have HW9 := Lib.hid hW9
          clear hW9
          go_wp2_with fail
          rw [HW9.out]
          generalize w10.heap.size = Bk at z9
          clear HW9
          have CELL := Lib.hid fun (w' : World) (hs : Since W9 w') => (show w'.cell? ⟨X, 0, none⟩ = some (.int .i64 h0) ∧ w'.cell? ⟨X, 1, none⟩ = some (.slice p3 tt.length k3) ∧ w'.cell? ⟨Bk, 0, none⟩ = some (.int .i64 h0) ∧ w'.cell? ⟨Bk, 1, none⟩ = some (.slice p8 ss.length k8) ∧ w'.cell? ⟨Y, 0, none⟩ = some (.int .i64 h0) ∧ w'.cell? ⟨Y, 1, none⟩ = some (.slice ua ss.length uc) ∧ Since W9 w' from
            ⟨(x9.keep hs).c0, (x9.keep hs).c1, (z9.keep hs).c0, (z9.keep hs).c1, (y9.keep hs).c0, (y9.keep hs).c1, hs⟩)
          have HV9 := Lib.hid fun (w' : World) (hs : Since W9 w') => HVt.out _ w' (g9.keep hs)
          have HS9 := Lib.hid fun (w' : World) (hs : Since W9 w') => same_yard h0 _ _ ss w' (q9.keep hs) (h9.keep hs)
          have HX9 := Lib.hid fun (w' : World) (hs : Since W9 w') => HJx.out _ w' (g9.keep hs)
          have HY9 := Lib.hid fun (w' : World) (hs : Since W9 w') => HJy.out _ w' (h9.keep hs)
          have hstart := CELL.out _ (show Since W9 W9.drew from (Below.refl _ _).drew)
          have HC9 := Lib.hid C9
          have hne : ((n : Int) == (n : Int)) = true := by simp
          clear y9 x9 z9 h9 g9 q9 C9
          go_region_held3 (fun w' => w'.cell? ⟨X, 0, none⟩ = some (.int .i64 h0) ∧ w'.cell? ⟨X, 1, none⟩ = some (.slice p3 tt.length k3) ∧ w'.cell? ⟨Bk, 0, none⟩ = some (.int .i64 h0) ∧ w'.cell? ⟨Bk, 1, none⟩ = some (.slice p8 ss.length k8) ∧ w'.cell? ⟨Y, 0, none⟩ = some (.int .i64 h0) ∧ w'.cell? ⟨Y, 1, none⟩ = some (.slice ua ss.length uc) ∧ Since W9 w')
            (first | exact hstart | exact CELL.out _ (Since.on (by exact (‹_ ∧ _› : _ ∧ _ ∧ _ ∧ _ ∧ _ ∧ _ ∧ Since W9 _).2.2.2.2.2.2) ‹Below W9.heap.size _ _›) | exact CELL.out _ (Since.call (by exact (‹_ ∧ _› : _ ∧ _ ∧ _ ∧ _ ∧ _ ∧ _ ∧ Since W9 _).2.2.2.2.2.2) ‹_›))
            (first
              | (go_at_call 21; ((with_reducible refine (HV9.out _ (by exact (‹_ ∧ _› : _ ∧ _ ∧ _ ∧ _ ∧ _ ∧ _ ∧ Since W9 _).2.2.2.2.2.2)).mono ?_); rintro e w10 ⟨rfl, b10⟩))
              | (go_at_call 18; ((with_reducible refine (HS9.out _ (by exact (‹_ ∧ _› : _ ∧ _ ∧ _ ∧ _ ∧ _ ∧ _ ∧ Since W9 _).2.2.2.2.2.2)).mono ?_); rintro e w10 ⟨rfl, b10⟩))
              | (go_at_call 22; ((with_reducible refine (HX9.out _ (by exact (‹_ ∧ _› : _ ∧ _ ∧ _ ∧ _ ∧ _ ∧ _ ∧ Since W9 _).2.2.2.2.2.2)).mono ?_); rintro e w11 ⟨p10, k10, rfl, hu, b11⟩; have HU := Lib.hid hu; clear hu))
              | (go_at_call 22; ((with_reducible refine (HY9.out _ (by exact (‹_ ∧ _› : _ ∧ _ ∧ _ ∧ _ ∧ _ ∧ _ ∧ Since W9 _).2.2.2.2.2.2)).mono ?_); rintro e w12 ⟨p11, k11, rfl, hv, b12⟩; have HV := Lib.hid hv; have HU2 := Lib.hid (HoldsI.keep HU.out b12); clear hv))
              | (go_at_call 29; ((with_reducible refine (same_list _ _ L _ HU2.out HV.out).mono ?_); rintro e w13 ⟨rfl, b13⟩)))
          rename_i hheld
          have hx := hheld.2.2.2.2.2.2
          clear hheld
          have C10 := HC9.out.trans (Below.mono hx HC9.out.size)
          clear hstart
          go_wp2_with fail
          go_ret
          exact ⟨rfl, C10⟩
  · go_enter Try.func6, Try.ntmps6
    go_wp2
    go_ret
    exact ⟨rfl, Below.refl _ _⟩

set_option maxRecDepth 100000 in
set_option maxHeartbeats 2000000 in
/-- What the walk gives, for every argument. -/
theorem contract (H : Type) (enc : TypeId × Value → H) (W : World) (base : Nat) (args : Array Value) (ds gs : List (DataW H)) (before : List MemPlace)
    (hval : ∀ (j : Nat) t v, Try.f6.params[j]? = some t → args[j]? = some v → Value.okWide Try.prog W .any base t v)
    (hW : DataW.Whole enc Try.prog Try.f6.params.toList Rows.fnYardRunSpec.vars false W args.toList ds gs before) :
    Calls Try.prog 6 args W fun e W' => ∃ v, e = .returned v ∧ Rows.fnYardRunSpec.post enc Try.prog Try.f6 false true false false W args v W' := by
  have hW' := hW
  obtain ⟨p, q, hA0, hV, rfl, hfz, hnd⟩ := hW
  have hA : DataW.TrodAll enc Try.prog W 0 (fun _ => true) true Try.f6.params.toList args.toList ds p := hA0
  rw [Try.params6] at hA hval
  obtain ⟨v0, vs0, d0, ds0, p0, q0, hargs, rfl, rfl, h0, r0⟩ := trodAll_cons hA
  obtain ⟨rfl, rfl, rfl⟩ := trodAll_nil r0
  obtain rfl : args = #[v0] := by cases args; simp_all
  obtain ⟨rfl, rfl⟩ := trodVars_none hV
  have k0 := h0
  have lt0 : ∀ x ∈ p0, x.block < W.heap.size := by obtain ⟨m, hm⟩ := k0; exact DataW.trod_lt m _ _ _ hm
  obtain ⟨a0, len0, cap0, rfl⟩ := okWide_slice Try.underlying22 (hval 0 22 v0 rfl rfl)
  obtain ⟨z0, x0⟩ : ∃ zs, IsRow .u8 W a0 len0 cap0 zs := by
    obtain ⟨fuel, hf⟩ := h0
    rcases open_ints Try.underlying22 Try.underlying5 (by kernel_rfl) hf with ⟨hcs, _⟩ | ⟨x, l, c, zs, hcs, _, hl, hm, hz, _, hcell, hwz⟩
    · simp [Value.cells] at hcs
      obtain ⟨rfl, rfl, rfl⟩ := hcs
      exact ⟨[], .inl ⟨rfl, rfl, rfl, rfl⟩⟩
    · simp [Value.cells] at hcs
      obtain ⟨rfl, rfl, rfl⟩ := hcs
      exact ⟨zs, .inr ⟨_, rfl, hl, hm, by simpa using hz, hcell, hwz⟩⟩
  clear hA0
  refine (walk a0 len0 cap0 W (row8_of x0)).mono fun e W' ⟨he, bel⟩ => ?_
  subst he
  exact ⟨_, rfl, _, _, _, [], _, [], hW', trodAll_mk1 (shut_bool Try.underlying4 _), (trodAll_cons_mk (Below.trod laidOut (by kernel_rfl) (of_decide_eq_true (by kernel_rfl)) k0 bel lt0) trodAll_mk0), rfl, bel.frame _, fun h => by cases h⟩

set_option maxRecDepth 100000 in
theorem lifted (os : Os) (started : os.Started) (H : Type) (enc : TypeId × Value → H) :
    ReturnsInHanded {} Try.checked os 6 .any (Rows.fnYardRunSpec.pre6 enc Try.prog Try.f6 Rows.fnYardRunRow.domain false) (Rows.fnYardRunSpec.post enc Try.prog Try.f6 false true false false) := by
  refine returnsInHanded_of_change (C := Try.checked) own started (by kernel_rfl) Try.func6
    (ChangeSpec.witness6 (enc := enc) (C := Try.checked) false ⟨#[], #[.slice none 0 0], []⟩ 8 (by kernel_rfl) (by kernel_rfl) (by kernel_rfl) (by kernel_rfl)) ?_
  intro W base args ds gs before hval hW _ _
  exact contract H enc W base args ds gs before hval hW

theorem proved : Rows.FnYardRunSaid :=
  OpenClaim.holds_of_wide 6 Try.f6 rfl rfl rfl rfl rfl rfl rfl ⟨rfl, rfl, rfl, rfl, rfl⟩ rfl rfl rfl rfl rfl (by kernel_rfl) Try.func6 (by kernel_rfl)
    (of_decide_eq_true (by kernel_rfl)) (by unfold Func.isWrapper; first | (rw [if_pos (by decide +kernel)]; kernel_rfl) | (rw [if_neg (by decide +kernel)]; exact ⟨rfl, rfl⟩))
    (fun os started H enc _ => lifted os started H enc)
#print axioms proved
end Go.Proofs.Ytlcfldmiibjboaa.fnYardRun
