/-
  For every code of bytes the law on YardTake (the model's answer; what was taken can be put back) returns true and leaves its argument as it was. Conditions: none beyond the form's own reach.
-/
import Derived.Test.YtlcfldmiibjboaaRows
import Derived.Test.YtlcfldmiibjboaaGBase
import Derived.WalkKit
import Derived.ProofKit
import Derived.OpenShut
import Derived.ShutString
import Derived.ChangeOld
import Derived.Below
import Derived.Test.YtlcfldmiibjboaaGCr
import Derived.Test.YtlcfldmiibjboaaGYv
import Derived.Test.YtlcfldmiibjboaaYlA
import Derived.Test.YtlcfldmiibjboaaYsT
import Derived.Test.YtlcfldmiibjboaaYiT
import Derived.Test.YtlcfldmiibjboaaYiP
import Derived.Test.YtlcfldmiibjboaaYiS
import Derived.Test.YtlcfldmiibjboaaYiF
namespace Go.Proofs.Ytlcfldmiibjboaa.fnYardTake
open Go.ChangeShapes Go.WideShapes Go.ChangeAt Go.RowKit
open Go.ChangeMaps (open_string shut_string)
set_option linter.unusedVariables false


/-- What the walk is told of a slice of integers that came in. -/
def IsRow (k : IntKind) (w : World) (a : Option Addr) (len cap : Nat) (zs : List Int) : Prop :=
  (a = none ∧ len = 0 ∧ cap = 0 ∧ zs = []) ∨
  ∃ x, a = some x ∧ len ≤ cap ∧ cap ≤ maxLen ∧ zs.length = cap ∧ (∀ i, i < zs.length → w.cell? (x.add i) = some (.int k (zs.getD i 0))) ∧ ∀ n ∈ zs, (Lit.int k n).wf = true

theorem same_yard (h : Int) (u v : Value) (ss : List (List Int)) (w : World) (hu : HoldsY w u ss) (hv : HoldsY w v ss) :
    Calls Try.prog 18 #[.agg #[.int .i64 h, u], .agg #[.int .i64 h, v]] w fun e w' => e = .returned (.bool true) ∧ Below w.heap.size w w' := by
  have := sameYard_any h h u v ss ss w hu hv
  rwa [decide_eq_true (And.intro rfl rfl : h = h ∧ ss = ss)] at this

set_option maxRecDepth 10000 in
set_option maxHeartbeats 8000000 in
theorem walk (a0 : Option Addr) (len0 cap0 : Nat) (w : World) (w0 : IsRow8 w a0 len0 cap0) :
    Calls Try.prog 4 #[.slice a0 len0 cap0] w fun e w' => e = .returned (.bool true) ∧ Below w.heap.size w w' := by
  have hm := row8_len w0
  unfold maxLen at hm
  by_cases hl : len0 ≤ 1048576
  · go_enter Try.func4, Try.ntmps4
    go_wp2_with fail
    refine (drawYardTake_any a0 len0 cap0 w w0).mono ?_
    rintro e w1 ⟨h0, u, ss, f, hl7, hf, rfl, hh, hb⟩
    clear w0
    have HI := Lib.hid fun v w (g : HoldsY w v ss) => implYardTake_any h0 v ss f w g
    have HS := Lib.hid fun v w (g : HoldsY w v ss) => specYardTake_any h0 v ss f w g (by omega)
    unfold TakeYGivesF at HI
    unfold TakeYGives at HS
    obtain ⟨ua, uc, rfl⟩ : ∃ a c, u = .slice a ss.length c := by obtain ⟨a, c, e, _⟩ := hh; exact ⟨a, c, e⟩
    have b2 : Below w1.heap.size w1 (w1.alloc (.cells #[.int .i64 h0, .slice ua ss.length uc] 25)) := (Below.refl _ _).alloc (Nat.le_refl _) _
    have y2 := BoxY.new w1 h0 (.slice ua ss.length uc)
    have h2 := hh.keep b2
    have C2 := hb.trans (b2.mono hb.size)
    generalize hW2 : w1.alloc (.cells #[.int .i64 h0, .slice ua ss.length uc] 25) = W2 at b2 y2 h2 C2
    have HW2 := Lib.hid hW2
    clear hW2 b2 hb hh
    have ya := y2.c0
    have yb := y2.c1
    rcases takeY_cases h0 ss f with ⟨hk, e⟩ | ⟨hk, hno, e⟩ | ⟨hk, f0, f1, m, x, hr, hx1, hx9, e⟩
    · rw [e] at HI HS
      clear hk e
      go_wp2_with fail
      rw [HW2.out]
      generalize w1.heap.size = Y at y2 ya yb
      clear HW2
      go_wp2_with fail
      refine (HI.out _ W2 h2).mono ?_
      rintro e w3 ⟨v3, rfl, f3, b3⟩
      obtain ⟨p3, k3, rfl⟩ := f3.form
      clear ya yb
      have ya := fun T => (y2.keep b3 |>.keep ((Below.refl _ _).alloc (Nat.le_refl _) (.cells #[.int .i64 0, .slice p3 0 k3] T))).c0
      have yb := fun T => (y2.keep b3 |>.keep ((Below.refl _ _).alloc (Nat.le_refl _) (.cells #[.int .i64 0, .slice p3 0 k3] T))).c1
      have x4 := BoxY.new w3 0 (.slice p3 0 k3)
      have b4 : Below w3.heap.size w3 (w3.alloc (.cells #[.int .i64 0, .slice p3 0 k3] 25)) := (Below.refl _ _).alloc (Nat.le_refl _) _
      have C4 := (C2.trans (b3.mono C2.size)).trans (b4.mono (C2.trans (b3.mono C2.size)).size)
      have y4 := (y2.keep b3).keep b4
      have h4 := (h2.keep b3).keep b4
      have g4 : HoldsY (w3.alloc (.cells #[.int .i64 0, .slice p3 0 k3] 25)) (.slice p3 0 k3) (([] : List (List Int))) := f3.holdsY.keep b4
      clear y2 h2 C2 b3 b4 f3
      generalize hW4 : w3.alloc (.cells #[.int .i64 0, .slice p3 0 k3] 25) = W4 at x4 C4 y4 h4 g4
      have HW4 := Lib.hid hW4
      clear hW4
      go_wp2_with fail
      rw [HW4.out]
      generalize w3.heap.size = X at x4
      clear HW4 ya yb
      refine (HS.out _ W4 h4).mono ?_
      rintro e w5 ⟨v5, rfl, f5, b5⟩
      obtain ⟨p5, k5, rfl⟩ := NewY.form f5
      have ya := fun T => (x4.keep b5 |>.keep ((Below.refl _ _).alloc (Nat.le_refl _) (.cells #[.int .i64 0, .slice p5 0 k5] T))).c0
      have yb := fun T => (x4.keep b5 |>.keep ((Below.refl _ _).alloc (Nat.le_refl _) (.cells #[.int .i64 0, .slice p5 0 k5] T))).c1
      have z6 := BoxY.new w5 0 (.slice p5 0 k5)
      have b6 : Below w5.heap.size w5 (w5.alloc (.cells #[.int .i64 0, .slice p5 0 k5] 25)) := (Below.refl _ _).alloc (Nat.le_refl _) _
      have C6 := (C4.trans (b5.mono C4.size)).trans (b6.mono (C4.trans (b5.mono C4.size)).size)
      have y6 := (y4.keep b5).keep b6
      have x6 := (x4.keep b5).keep b6
      have h6 := (h4.keep b5).keep b6
      have g6 := (g4.keep b5).keep b6
      have n6 : HoldsY (w5.alloc (.cells #[.int .i64 0, .slice p5 0 k5] 25)) (.slice p5 0 k5) (([] : List (List Int))) := f5.holds.keep b6
      clear y4 x4 h4 g4 C4 b5 b6 f5
      generalize hW6 : w5.alloc (.cells #[.int .i64 0, .slice p5 0 k5] 25) = W6 at z6 C6 y6 x6 h6 g6 n6
      have HW6 := Lib.hid hW6
      clear hW6
      go_wp2_with fail
      rw [HW6.out]
      clear HW6 ya yb z6
      refine (same_yard 0 _ _ (([] : List (List Int))) W6 g6 n6).mono ?_
      rintro e w7 ⟨rfl, b7⟩
      have C7 := C6.trans (b7.mono C6.size)
      have y7 := y6.keep b7
      have x7 := x6.keep b7
      have h7 := h6.keep b7
      have g7 := g6.keep b7
      clear y6 x6 h6 g6 n6 C6 b7
      have ya := y7.c0
      have yb := y7.c1
      have xa := x7.c0
      have xb := x7.c1
      have HSY := Lib.hid (sameYard_any 0 h0 _ _ [] ss w7 g7 h7)
      generalize decide ((0 : Int) = h0 ∧ [] = ss) = bb at HSY
      go_wp2_with fail
      refine HSY.out.mono ?_
      rintro e w8 ⟨rfl, b8⟩
      have C8 := C7.trans (b8.mono C7.size)
      have x8 := x7.keep b8
      clear y7 x7 h7 g7 b8 ya yb xa xb
      have xb := x8.c1
      cases bb
      · go_wp2_with fail
        refine (alive_yes _).mono ?_
        rintro e w9 ⟨rfl, rfl⟩
        go_wp2
        go_ret
        exact ⟨rfl, C8⟩
      · go_wp2_with fail
        refine (alive_yes _).mono ?_
        rintro e w9 ⟨rfl, rfl⟩
        go_wp2
        go_ret
        exact ⟨rfl, C8⟩
    · rw [e] at HI HS
      clear e hno
      go_wp2_with fail
      rw [HW2.out]
      generalize w1.heap.size = Y at y2 ya yb
      clear HW2
      go_wp2_with fail
      refine (HI.out _ W2 h2).mono ?_
      rintro e w3 ⟨v3, rfl, f3, b3⟩
      obtain ⟨p3, k3, rfl⟩ := f3.form
      clear ya yb
      have ya := fun T => (y2.keep b3 |>.keep ((Below.refl _ _).alloc (Nat.le_refl _) (.cells #[.int .i64 h0, .slice p3 ss.length k3] T))).c0
      have yb := fun T => (y2.keep b3 |>.keep ((Below.refl _ _).alloc (Nat.le_refl _) (.cells #[.int .i64 h0, .slice p3 ss.length k3] T))).c1
      have x4 := BoxY.new w3 h0 (.slice p3 ss.length k3)
      have b4 : Below w3.heap.size w3 (w3.alloc (.cells #[.int .i64 h0, .slice p3 ss.length k3] 25)) := (Below.refl _ _).alloc (Nat.le_refl _) _
      have C4 := (C2.trans (b3.mono C2.size)).trans (b4.mono (C2.trans (b3.mono C2.size)).size)
      have y4 := (y2.keep b3).keep b4
      have h4 := (h2.keep b3).keep b4
      have g4 : HoldsY (w3.alloc (.cells #[.int .i64 h0, .slice p3 ss.length k3] 25)) (.slice p3 ss.length k3) (ss) := f3.holdsY.keep b4
      clear y2 h2 C2 b3 b4 f3
      generalize hW4 : w3.alloc (.cells #[.int .i64 h0, .slice p3 ss.length k3] 25) = W4 at x4 C4 y4 h4 g4
      have HW4 := Lib.hid hW4
      clear hW4
      go_wp2_with fail
      rw [HW4.out]
      generalize w3.heap.size = X at x4
      clear HW4 ya yb
      refine (HS.out _ W4 h4).mono ?_
      rintro e w5 ⟨v5, rfl, f5, b5⟩
      obtain ⟨p5, k5, rfl⟩ := NewY.form f5
      have ya := fun T => (x4.keep b5 |>.keep ((Below.refl _ _).alloc (Nat.le_refl _) (.cells #[.int .i64 h0, .slice p5 ss.length k5] T))).c0
      have yb := fun T => (x4.keep b5 |>.keep ((Below.refl _ _).alloc (Nat.le_refl _) (.cells #[.int .i64 h0, .slice p5 ss.length k5] T))).c1
      have z6 := BoxY.new w5 h0 (.slice p5 ss.length k5)
      have b6 : Below w5.heap.size w5 (w5.alloc (.cells #[.int .i64 h0, .slice p5 ss.length k5] 25)) := (Below.refl _ _).alloc (Nat.le_refl _) _
      have C6 := (C4.trans (b5.mono C4.size)).trans (b6.mono (C4.trans (b5.mono C4.size)).size)
      have y6 := (y4.keep b5).keep b6
      have x6 := (x4.keep b5).keep b6
      have h6 := (h4.keep b5).keep b6
      have g6 := (g4.keep b5).keep b6
      have n6 : HoldsY (w5.alloc (.cells #[.int .i64 h0, .slice p5 ss.length k5] 25)) (.slice p5 ss.length k5) (ss) := f5.holds.keep b6
      clear y4 x4 h4 g4 C4 b5 b6 f5
      generalize hW6 : w5.alloc (.cells #[.int .i64 h0, .slice p5 ss.length k5] 25) = W6 at z6 C6 y6 x6 h6 g6 n6
      have HW6 := Lib.hid hW6
      clear hW6
      go_wp2_with fail
      rw [HW6.out]
      clear HW6 ya yb z6
      refine (same_yard h0 _ _ (ss) W6 g6 n6).mono ?_
      rintro e w7 ⟨rfl, b7⟩
      have C7 := C6.trans (b7.mono C6.size)
      have y7 := y6.keep b7
      have x7 := x6.keep b7
      have h7 := h6.keep b7
      have g7 := g6.keep b7
      clear y6 x6 h6 g6 n6 C6 b7
      have ya := y7.c0
      have yb := y7.c1
      have xa := x7.c0
      have xb := x7.c1
      have HSY := Lib.hid (same_yard h0 _ _ ss w7 g7 h7)
      clear y7 x7 h7 g7
      go_wp2_with fail
      refine HSY.out.mono ?_
      rintro e w8 ⟨rfl, b8⟩
      have C8 := C7.trans (b8.mono C7.size)
      go_wp2_with fail
      refine (alive_yes _).mono ?_
      rintro e w9 ⟨rfl, rfl⟩
      go_wp2
      go_ret
      exact ⟨rfl, C8⟩
    · have hpb := put_back hk f0 f1 hr
      have hyt := ydOk_take hk (k := f.toNat) (by omega) hr
      have hfy := findY_flat (h := h0) hyt.2.2.2
      have hok := hyt.1
      have nx : ¬ x < 0 := by omega
      rw [e] at HI HS
      clear hyt e hr hk f0 f1
      generalize ss.set f.toNat m = tt at HI HS hpb hfy hok
      have HP := Lib.hid fun v w (g : HoldsY w v tt) => implYardPut_any h0 v tt f x w g
      unfold PutYGivesF at HP
      rw [hpb] at HP
      have HVt := Lib.hid fun v w (g : HoldsY w v tt) => implYardValid_any h0 v tt w g
      rw [hok] at HVt
      have HFt := Lib.hid fun v w (g : HoldsY w v tt) => implYardFind_any h0 v tt x w g
      rw [hfy] at HFt
      clear hpb hfy hok
      go_wp2_with fail
      rw [HW2.out]
      generalize w1.heap.size = Y at y2 ya yb
      clear HW2
      go_wp2_with fail
      refine (HI.out _ W2 h2).mono ?_
      rintro e w3 ⟨v3, rfl, f3, b3⟩
      obtain ⟨p3, k3, rfl⟩ := f3.form
      clear ya yb
      have ya := fun T => (y2.keep b3 |>.keep ((Below.refl _ _).alloc (Nat.le_refl _) (.cells #[.int .i64 h0, .slice p3 tt.length k3] T))).c0
      have yb := fun T => (y2.keep b3 |>.keep ((Below.refl _ _).alloc (Nat.le_refl _) (.cells #[.int .i64 h0, .slice p3 tt.length k3] T))).c1
      have x4 := BoxY.new w3 h0 (.slice p3 tt.length k3)
      have b4 : Below w3.heap.size w3 (w3.alloc (.cells #[.int .i64 h0, .slice p3 tt.length k3] 25)) := (Below.refl _ _).alloc (Nat.le_refl _) _
      have C4 := (C2.trans (b3.mono C2.size)).trans (b4.mono (C2.trans (b3.mono C2.size)).size)
      have y4 := (y2.keep b3).keep b4
      have h4 := (h2.keep b3).keep b4
      have g4 : HoldsY (w3.alloc (.cells #[.int .i64 h0, .slice p3 tt.length k3] 25)) (.slice p3 tt.length k3) (tt) := f3.holdsY.keep b4
      clear y2 h2 C2 b3 b4 f3
      generalize hW4 : w3.alloc (.cells #[.int .i64 h0, .slice p3 tt.length k3] 25) = W4 at x4 C4 y4 h4 g4
      have HW4 := Lib.hid hW4
      clear hW4
      go_wp2_with fail
      rw [HW4.out]
      generalize w3.heap.size = X at x4
      clear HW4 ya yb
      refine (HS.out _ W4 h4).mono ?_
      rintro e w5 ⟨v5, rfl, f5, b5⟩
      obtain ⟨p5, k5, rfl⟩ := NewY.form f5
      have ya := fun T => (x4.keep b5 |>.keep ((Below.refl _ _).alloc (Nat.le_refl _) (.cells #[.int .i64 h0, .slice p5 tt.length k5] T))).c0
      have yb := fun T => (x4.keep b5 |>.keep ((Below.refl _ _).alloc (Nat.le_refl _) (.cells #[.int .i64 h0, .slice p5 tt.length k5] T))).c1
      have z6 := BoxY.new w5 h0 (.slice p5 tt.length k5)
      have b6 : Below w5.heap.size w5 (w5.alloc (.cells #[.int .i64 h0, .slice p5 tt.length k5] 25)) := (Below.refl _ _).alloc (Nat.le_refl _) _
      have C6 := (C4.trans (b5.mono C4.size)).trans (b6.mono (C4.trans (b5.mono C4.size)).size)
      have y6 := (y4.keep b5).keep b6
      have x6 := (x4.keep b5).keep b6
      have h6 := (h4.keep b5).keep b6
      have g6 := (g4.keep b5).keep b6
      have n6 : HoldsY (w5.alloc (.cells #[.int .i64 h0, .slice p5 tt.length k5] 25)) (.slice p5 tt.length k5) (tt) := f5.holds.keep b6
      clear y4 x4 h4 g4 C4 b5 b6 f5
      generalize hW6 : w5.alloc (.cells #[.int .i64 h0, .slice p5 tt.length k5] 25) = W6 at z6 C6 y6 x6 h6 g6 n6
      have HW6 := Lib.hid hW6
      clear hW6
      go_wp2_with fail
      rw [HW6.out]
      clear HW6 ya yb z6
      refine (same_yard h0 _ _ (tt) W6 g6 n6).mono ?_
      rintro e w7 ⟨rfl, b7⟩
      have C7 := C6.trans (b7.mono C6.size)
      have y7 := y6.keep b7
      have x7 := x6.keep b7
      have h7 := h6.keep b7
      have g7 := g6.keep b7
      clear y6 x6 h6 g6 n6 C6 b7
      have ya := y7.c0
      have yb := y7.c1
      have xa := x7.c0
      have xb := x7.c1
      have hxx : (x != x) = false := by simp
      go_wp2_with fail
      refine (HP.out _ w7 g7).mono ?_
      rintro e w8 ⟨v8, rfl, f8, b8⟩
      obtain ⟨p8, k8, rfl⟩ := f8.form
      clear ya yb xa xb
      have ya := fun T => (x7.keep b8 |>.keep ((Below.refl _ _).alloc (Nat.le_refl _) (.cells #[.int .i64 h0, .slice p8 ss.length k8] T))).c0
      have yb := fun T => (x7.keep b8 |>.keep ((Below.refl _ _).alloc (Nat.le_refl _) (.cells #[.int .i64 h0, .slice p8 ss.length k8] T))).c1
      have z9 := BoxY.new w8 h0 (.slice p8 ss.length k8)
      have b9 : Below w8.heap.size w8 (w8.alloc (.cells #[.int .i64 h0, .slice p8 ss.length k8] 25)) := (Below.refl _ _).alloc (Nat.le_refl _) _
      have C9 := (C7.trans (b8.mono C7.size)).trans (b9.mono (C7.trans (b8.mono C7.size)).size)
      have y9 := (y7.keep b8).keep b9
      have x9 := (x7.keep b8).keep b9
      have h9 := (h7.keep b8).keep b9
      have g9 := (g7.keep b8).keep b9
      have q9 := f8.holdsY.keep b9
      clear y7 x7 h7 g7 C7 b8 b9 f8
      generalize hW9 : w8.alloc (.cells #[.int .i64 h0, .slice p8 ss.length k8] 25) = W9 at z9 C9 y9 x9 h9 g9 q9
      have HW9 := Lib.hid hW9
      clear hW9
      go_wp2_with fail
      rw [HW9.out]
      generalize w8.heap.size = Bk at z9
      clear HW9 ya yb
      refine (HVt.out _ W9 g9).mono ?_
      rintro e w10 ⟨rfl, b10⟩
      have C10 := C9.trans (b10.mono C9.size)
      have y10 := y9.keep b10
      have x10 := x9.keep b10
      have z10 := z9.keep b10
      have h10 := h9.keep b10
      have g10 := g9.keep b10
      have q10 := q9.keep b10
      clear y9 x9 z9 h9 g9 q9 C9 b10
      have ya := y10.c0
      have yb := y10.c1
      have za := z10.c0
      have zb := z10.c1
      go_wp2_with fail
      refine (same_yard h0 _ _ ss w10 q10 h10).mono ?_
      rintro e w11 ⟨rfl, b11⟩
      have C11 := C10.trans (b11.mono C10.size)
      have x11 := x10.keep b11
      have g11 := g10.keep b11
      clear y10 x10 z10 h10 g10 q10 C10 b11 ya yb za zb
      have xa := x11.c0
      have xb := x11.c1
      go_wp2_with fail
      refine (HFt.out _ w11 g11).mono ?_
      rintro e w12 ⟨rfl, b12⟩
      have C12 := C11.trans (b12.mono C11.size)
      clear x11 g11 C11 b12 xa xb
      go_wp2_with fail
      go_ret
      exact ⟨rfl, C12⟩
  · go_enter Try.func4, Try.ntmps4
    go_wp2
    go_ret
    exact ⟨rfl, Below.refl _ _⟩

set_option maxRecDepth 100000 in
set_option maxHeartbeats 2000000 in
/-- What the walk gives, for every argument. -/
theorem contract (H : Type) (enc : TypeId × Value → H) (W : World) (base : Nat) (args : Array Value) (ds gs : List (DataW H)) (before : List MemPlace)
    (hval : ∀ (j : Nat) t v, Try.f4.params[j]? = some t → args[j]? = some v → Value.okWide Try.prog W .any base t v)
    (hW : DataW.Whole enc Try.prog Try.f4.params.toList Rows.fnYardTakeSpec.vars false W args.toList ds gs before) :
    Calls Try.prog 4 args W fun e W' => ∃ v, e = .returned v ∧ Rows.fnYardTakeSpec.post enc Try.prog Try.f4 false true false false W args v W' := by
  have hW' := hW
  obtain ⟨p, q, hA0, hV, rfl, hfz, hnd⟩ := hW
  have hA : DataW.TrodAll enc Try.prog W 0 (fun _ => true) true Try.f4.params.toList args.toList ds p := hA0
  rw [Try.params4] at hA hval
  obtain ⟨v0, vs0, d0, ds0, p0, q0, hargs, rfl, rfl, h0, r0⟩ := trodAll_cons hA
  obtain ⟨rfl, rfl, rfl⟩ := trodAll_nil r0
  obtain rfl : args = #[v0] := by cases args; simp_all
  obtain ⟨rfl, rfl⟩ := trodVars_none hV
  have k0 := h0
  have lt0 : ∀ x ∈ p0, x.block < W.heap.size := by obtain ⟨m, hm⟩ := k0; exact DataW.trod_lt m _ _ _ hm
  obtain ⟨a0, len0, cap0, rfl⟩ := okWide_slice Try.underlying22 (hval 0 22 v0 rfl rfl)
  obtain ⟨z0, x0⟩ : ∃ zs, IsRow .u8 W a0 len0 cap0 zs := by
    obtain ⟨fuel, hf⟩ := h0
    rcases open_ints Try.underlying22 Try.underlying5 (by kernel_rfl) hf with ⟨hcs, _⟩ | ⟨x, l, c, zs, hcs, _, hl, hm, hz, _, hcell, hwz⟩
    · simp [Value.cells] at hcs
      obtain ⟨rfl, rfl, rfl⟩ := hcs
      exact ⟨[], .inl ⟨rfl, rfl, rfl, rfl⟩⟩
    · simp [Value.cells] at hcs
      obtain ⟨rfl, rfl, rfl⟩ := hcs
      exact ⟨zs, .inr ⟨_, rfl, hl, hm, by simpa using hz, hcell, hwz⟩⟩
  clear hA0
  refine (walk a0 len0 cap0 W (row8_of x0)).mono fun e W' ⟨he, bel⟩ => ?_
  subst he
  exact ⟨_, rfl, _, _, _, [], _, [], hW', trodAll_mk1 (shut_bool Try.underlying4 _), (trodAll_cons_mk (Below.trod laidOut (by kernel_rfl) (of_decide_eq_true (by kernel_rfl)) k0 bel lt0) trodAll_mk0), rfl, bel.frame _, fun h => by cases h⟩

set_option maxRecDepth 100000 in
theorem lifted (os : Os) (started : os.Started) (H : Type) (enc : TypeId × Value → H) :
    ReturnsInHanded {} Try.checked os 4 .any (Rows.fnYardTakeSpec.pre6 enc Try.prog Try.f4 Rows.fnYardTakeRow.domain false) (Rows.fnYardTakeSpec.post enc Try.prog Try.f4 false true false false) := by
  refine returnsInHanded_of_change (C := Try.checked) own started (by kernel_rfl) Try.func4
    (ChangeSpec.witness6 (enc := enc) (C := Try.checked) false ⟨#[], #[.slice none 0 0], []⟩ 8 (by kernel_rfl) (by kernel_rfl) (by kernel_rfl) (by kernel_rfl)) ?_
  intro W base args ds gs before hval hW _ _
  exact contract H enc W base args ds gs before hval hW

theorem proved : Rows.FnYardTakeSaid :=
  OpenClaim.holds_of_wide 4 Try.f4 rfl rfl rfl rfl rfl rfl rfl ⟨rfl, rfl, rfl, rfl, rfl⟩ rfl rfl rfl rfl rfl (by kernel_rfl) Try.func4 (by kernel_rfl)
    (of_decide_eq_true (by kernel_rfl)) (by unfold Func.isWrapper; first | (rw [if_pos (by decide +kernel)]; kernel_rfl) | (rw [if_neg (by decide +kernel)]; exact ⟨rfl, rfl⟩))
    (fun os started H enc _ => lifted os started H enc)
#print axioms proved
end Go.Proofs.Ytlcfldmiibjboaa.fnYardTake
