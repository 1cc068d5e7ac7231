/-
  For every yard and every list of moves the law on YardRun's exact answer returns true and leaves its arguments as they were: the program's YardRun and the model's give the same, the program's writes nothing of its arguments, and what it gives is shared with nothing. Conditions: none beyond the form's own reach.
-/
import Derived.Test.YtlcfldmiibjboaaRows
import Derived.Test.YtlcfldmiibjboaaGBase
import Derived.WalkKit
import Derived.ProofKit
import Derived.OpenShut
import Derived.ShutString
import Derived.ChangeOld
import Derived.Below
import Derived.Test.YtlcfldmiibjboaaYbOpen
import Derived.Test.YtlcfldmiibjboaaYlA
import Derived.Test.YtlcfldmiibjboaaGYh
import Derived.Test.YtlcfldmiibjboaaGYl
import Derived.Test.YtlcfldmiibjboaaYsR
import Derived.Test.YtlcfldmiibjboaaYiR
import Derived.Test.YtlcfldmiibjboaaYlM
namespace Go.Proofs.Ytlcfldmiibjboaa.fnExactYardRun
open Go.ChangeShapes Go.WideShapes Go.ChangeAt Go.RowKit
open Go.ChangeMaps (open_string shut_string)
set_option linter.unusedVariables false


theorem small_of {h : Int} {rr : List (List Int)} (hk : rr = [] ∨ ydOk h rr = true) : rr.length ≤ 1048576 ∧ rr.flatten.length ≤ 1048576 := by
  rcases hk with rfl | hk
  · simp
  · obtain ⟨_, _, _, h5, _⟩ := ydOk_iff.1 hk
    have := flat_size (fun k hl => ydOk_row hk hl) h5
    omega
theorem small' (h : Int) (ss : List (List Int)) (ms : List (Int × Int)) : (runY h ss ms).1.2 = [] ∨ ydOk h (runY h ss ms).1.2 = true := by
  by_cases hk : ydOk h ss = true ∧ ms.length ≤ 40
  · right
    unfold runY
    rw [if_pos hk]
    exact ((runS_done ms ss).2 hk.1 |>.ok hk.1).1
  · left
    unfold runY
    rw [if_neg hk]

set_option maxRecDepth 10000 in
set_option maxHeartbeats 8000000 in
theorem walk (h0 : Int) (u0 : Value) (ss : List (List Int)) (lv : Value) (ms : List (Int × Int)) (w : World) (w0 : HoldsY w u0 ss) (w1 : HoldsM w lv ms) :
    Calls Try.prog 10 #[.agg #[.int .i64 h0, u0], lv] w fun e w' => e = .returned (.bool true) ∧ Below w.heap.size w w' := by
  have SZ := Lib.hid fun w' (hb : Below w.heap.size w w') => szYard_any h0 u0 ss 1048576 w' (w0.keep hb) (by omega) (by omega)
  have GG := Lib.hid w0
  have GM := Lib.hid w1
  have hsz : szY 1048576 ss < 0 ∨ 0 ≤ szY 1048576 ss ∧ szY 1048576 ss ≤ 1048576 ∧ ss.length + ss.flatten.length ≤ 1048576 := by unfold szY; split <;> omega
  obtain ⟨a0, c0, rfl⟩ : ∃ a c, u0 = .slice a ss.length c := by obtain ⟨a, c, e, _⟩ := w0; exact ⟨a, c, e⟩
  obtain ⟨la, lc, rfl⟩ : ∃ a c, lv = .slice a ms.length c := by obtain ⟨a, c, e, _⟩ := w1; exact ⟨a, c, e⟩
  have hml : ms.length ≤ 9223372036854775807 := by have := w1.len; omega
  clear w0 w1
  generalize szY 1048576 ss = z at SZ hsz
  have bd : Below w.heap.size w (w.alloc (.cells #[.int .i64 h0, .slice a0 ss.length c0] 50)) := (Below.refl _ _).alloc (Nat.le_refl _) _
  have y0 : ArgY w.heap.size (w.alloc (.cells #[.int .i64 h0, .slice a0 ss.length c0] 50)) h0 (.slice a0 ss.length c0) := ArgY.new w h0 _
  have BD := Lib.hid bd
  have Y0 := Lib.hid y0
  clear bd y0
  rcases hsz with hz | ⟨hz, hz1, gn⟩
  · go_enter Try.func10, Try.ntmps10
    go_wp2_with fail
    refine (SZ.out _ BD.out).mono ?_
    rintro e w1 ⟨rfl, b1⟩
    go_wp2_with fail
    go_ret
    exact ⟨rfl, BD.out.trans (b1.mono BD.out.size)⟩
  have SM := Lib.hid fun w => szMoveS_any la ms.length lc z w hz hz1 hml
  by_cases hlen : z < (ms.length : Int)
  · rw [if_pos hlen] at SM
    clear hml
    go_enter Try.func10, Try.ntmps10
    go_wp2_with fail
    refine (SZ.out _ BD.out).mono ?_
    rintro e w1 ⟨rfl, b1⟩
    go_wp2_with fail
    refine (SM.out _).mono ?_
    rintro e w1 ⟨rfl, rfl⟩
    go_wp2_with fail
    go_ret
    exact ⟨rfl, BD.out.trans (b1.mono BD.out.size)⟩
  · rw [if_neg hlen] at SM
    have gm : ms.length ≤ 1048576 := by omega
    have hzz : 0 ≤ z - (ms.length : Int) := by omega
    have GT := Lib.hid fun w1 (b1 : Below w.heap.size w w1) => toYard_free h0 (.slice a0 ss.length c0) ss w1 (GG.out.keep b1) gn
    have GL := Lib.hid fun w1 (b1 : Below w.heap.size w w1) => toMoveS_any (.slice la ms.length lc) ms w1 (GM.out.keep b1) gm
    have HS := Lib.hid fun v lv w1 (g : HoldsY w1 v ss) (gl : HoldsM w1 lv ms) => specYardRun_any h0 v lv ss ms w1 g gl (by omega)
    have HI := Lib.hid fun v lv w1 (g : HoldsY w1 v ss) (gl : HoldsM w1 lv ms) => implYardRun_any h0 v lv ss ms w1 g gl
    have hsm := small_of (small' h0 ss ms)
    unfold RunYGives at HS
    unfold RunYGivesF at HI
    generalize (runY h0 ss ms).1.1 = hr at HS HI
    generalize (runY h0 ss ms).1.2 = rr at HS HI hsm
    generalize (runY h0 ss ms).2 = ok at HS HI
    have hok : (ok != ok) = false := by simp
    have MY := Lib.hid fun v K B w (hf : FreeY K B w v ss.length (rowAt ss)) (hB : B ≤ w.heap.size) => markYard_free h0 v K B 1 ss w hf hB (by omega) (by omega)
    have MR := Lib.hid fun v K B w (hf : FreeY K B w v rr.length (rowAt rr)) (hB : B ≤ w.heap.size) => markYard_free hr v K B 1 rr w hf hB (by omega) (by omega)
    have HE := Lib.hid fun v w (h : HoldsY w v (marksY 1 rr)) => heldYard_marks hr v 1 rr w h (by omega)
    have ML := Lib.hid fun v K B w (hf : FreeM K B w v ms) => markMoveS_any v K B (1 + ss.flatten.length) ms w hf (by omega)
    unfold MarkedM at ML
    have q1 : (0 : Int) ≤ ((1 + rr.flatten.length : Nat) : Int) := by omega
    clear hsm gn gm hml
    generalize ((1 + ss.flatten.length : Nat) : Int) = Q at MY ML
    generalize ((1 + rr.flatten.length : Nat) : Int) = R at MR HE q1
    have hY : (R != R) = false := by simp
    go_enter Try.func10, Try.ntmps10
    go_wp2_with fail
    refine (SZ.out _ BD.out).mono ?_
    rintro e w0 ⟨rfl, b0⟩
    have C0 := BD.out.trans (b0.mono BD.out.size)
    have y0 := Y0.out.keep b0
    generalize hA : w.heap.size = A at y0
    have HA := Lib.hid hA
    clear hA
    have ya := y0.c0
    have yb := y0.c1
    clear b0
    go_wp2_with fail
    refine (SM.out _).mono ?_
    rintro e w0 ⟨rfl, rfl⟩
    go_wp2_with fail
    refine (GT.out w0 C0).mono ?_
    rintro e w1 ⟨v1, rfl, g1, b1⟩
    obtain ⟨p1, k1, rfl⟩ := g1.form
    have C1 := C0.trans (b1.mono C0.size)
    have y1 := y0.keep b1
    clear y0 ya yb b1
    go_wp2_with fail
    refine (GL.out w1 C1).mono ?_
    rintro e wm ⟨vm, rfl, gm, bm⟩
    obtain ⟨pm, km, rfl⟩ := gm.form
    have Cm := C1.trans (bm.mono C1.size)
    have ym := y1.keep bm
    have gy := g1.holdsY.keep bm
    clear y1 C1 bm g1
    go_wp2_with fail
    refine (HS.out _ _ wm gy gm.holds).mono ?_
    rintro e w2 ⟨v2, rfl, g2, b2⟩
    obtain ⟨p2, k2, rfl⟩ := NewY.form g2
    have s3 := BoxY.new_ w2 w2 hr (.slice p2 rr.length k2)
    have b3 : Below w2.heap.size w2 (w2.alloc (.cells #[.int .i64 hr, .slice p2 rr.length k2] 25)) := (Below.refl _ _).alloc (Nat.le_refl _) _
    have C3 := (Cm.trans (b2.mono Cm.size)).trans (b3.mono (Cm.trans (b2.mono Cm.size)).size)
    have y3 := (ym.keep b2).keep b3
    have g3 := g2.holds.keep b3
    have ya : ∀ T, (w2.alloc (.cells #[.int .i64 hr, .slice p2 rr.length k2] T)).cell? ⟨A, 0, none⟩ = some (.int .i64 h0) := fun T => ((ym.keep b2).keep ((Below.refl _ _).alloc (Nat.le_refl _) _)).c0
    have yb : ∀ T, (w2.alloc (.cells #[.int .i64 hr, .slice p2 rr.length k2] T)).cell? ⟨A, 1, none⟩ = some (.slice a0 ss.length c0) := fun T => ((ym.keep b2).keep ((Below.refl _ _).alloc (Nat.le_refl _) _)).c1
    clear ym Cm b2 b3 gm gy g2
    generalize hW3 : w2.alloc (.cells #[.int .i64 hr, .slice p2 rr.length k2] 25) = W3 at s3 C3 y3 g3
    have HW3 := Lib.hid hW3
    clear hW3
    have H2 := Lib.hid fun w' (hb : Below W3.heap.size W3 w') => g3.keep hb
    have hAK := y3.lt
    have hSK := s3.lt
    have hCK := C3.size
    have sa := s3.c0
    have sb := s3.c1
    clear g3
    go_wp2_with fail
    rw [HW3.out]
    generalize w2.heap.size = S at s3 sa sb hSK
    clear HW3
    go_wp2_with fail
    refine (GT.out W3 C3).mono ?_
    rintro e w4 ⟨v4, rfl, g4, b4⟩
    obtain ⟨p4, k4, rfl⟩ := g4.form
    have x5 := BoxY.new_ w4 w4 h0 (.slice p4 ss.length k4)
    have b5 : Below w4.heap.size w4 (w4.alloc (.cells #[.int .i64 h0, .slice p4 ss.length k4] 25)) := (Below.refl _ _).alloc (Nat.le_refl _) _
    have C5 := (C3.trans (b4.mono C3.size)).trans (b5.mono (C3.trans (b4.mono C3.size)).size)
    have D5 := b4.trans (b5.mono b4.size)
    have y5 := (y3.keep b4).keep b5
    have s5 := (s3.keep b4).keep b5
    have h5 := g4.keep b5
    clear y3 s3 ya yb sa sb C3 b4 b5 g4
    generalize hW5 : w4.alloc (.cells #[.int .i64 h0, .slice p4 ss.length k4] 25) = W5 at x5 C5 y5 s5 h5 D5
    have HW5 := Lib.hid hW5
    clear hW5
    go_wp2_with fail
    rw [HW5.out]
    generalize w4.heap.size = X at x5 h5
    clear HW5
    have hXN := Nat.le_of_lt x5.lt
    have hKN := D5.size
    -- the program's own list of moves
    refine (GL.out W5 C5).mono ?_
    rintro e W6 ⟨v6, rfl, l6, bl⟩
    obtain ⟨pl, kl, rfl⟩ := l6.form
    have hLN := bl.size
    have C6 := C5.trans (bl.mono C5.size)
    have D6 := D5.trans (bl.mono D5.size)
    have y6 := y5.keep bl
    have s6 := s5.keep bl
    have x6 := x5.keep bl
    have h6 := h5.keep bl
    clear y5 s5 x5 h5 C5 D5 bl
    have xa := x6.c0
    have xb := x6.c1
    generalize W5.heap.size = M at l6 hXN hKN hLN
    go_wp2_with fail
    refine (HI.out _ _ W6 h6.holdsY l6.holds).mono ?_
    rintro e w6 ⟨v6, rfl, f6, b6⟩
    obtain ⟨p6, k6, rfl⟩ := f6.form
    have z7 := BoxY.new_ w6 w6 hr (.slice p6 rr.length k6)
    have b7 : Below w6.heap.size w6 (w6.alloc (.cells #[.int .i64 hr, .slice p6 rr.length k6] 25)) := (Below.refl _ _).alloc (Nat.le_refl _) _
    have C7 := (C6.trans (b6.mono C6.size)).trans (b7.mono (C6.trans (b6.mono C6.size)).size)
    have D7 := (D6.trans (b6.mono D6.size)).trans (b7.mono (D6.trans (b6.mono D6.size)).size)
    have y7 := (y6.keep b6).keep b7
    have s7 := (s6.keep b6).keep b7
    have x7 := (x6.keep b6).keep b7
    have h7 := (h6.keep b6).keep b7
    have l7 := (l6.keep b6).keep b7
    have f7 := f6.keep b7
    have hNG := b6.size
    have ya := fun T => (s6.keep b6 |>.keep ((Below.refl _ _).alloc (Nat.le_refl _) (.cells #[.int .i64 hr, .slice p6 rr.length k6] T))).c0
    have yb := fun T => (s6.keep b6 |>.keep ((Below.refl _ _).alloc (Nat.le_refl _) (.cells #[.int .i64 hr, .slice p6 rr.length k6] T))).c1
    clear y6 s6 x6 h6 l6 xa xb C6 D6 b6 b7 f6
    generalize W6.heap.size = N at f7 l7 hLN hNG
    generalize hW7 : w6.alloc (.cells #[.int .i64 hr, .slice p6 rr.length k6] 25) = W7 at z7 C7 D7 y7 s7 x7 h7 l7 f7
    have HW7 := Lib.hid hW7
    clear hW7
    go_wp2_with fail
    rw [HW7.out]
    generalize w6.heap.size = G at z7 f7 hNG
    clear HW7
    go_wp2_with fail
    refine (eqYard_same hr _ _ rr W7 f7.holdsY (H2.out W7 D7)).mono ?_
    rintro e w8 ⟨rfl, b8⟩
    have C8 := C7.trans (b8.mono C7.size)
    have D8 := D7.trans (b8.mono D7.size)
    have y8 := y7.keep b8
    have s8 := s7.keep b8
    have x8 := x7.keep b8
    have z8 := z7.keep b8
    have h8 := h7.keep b8
    have l8 := l7.keep b8
    have f8 := f7.keep b8
    clear C7 D7 y7 s7 x7 z7 h7 l7 f7 b8 ya yb
    go_wp2_with fail
    have CELL := Lib.hid fun (w' : World) (hs : Since w8 w') => two_yards y8 x8 hs
    have GT8 := Lib.hid fun (w' : World) (hs : Since w8 w') => GT.out w' (C8.trans (Below.mono hs C8.size))
    have H8 := Lib.hid fun (w' : World) (hs : Since w8 w') => h8.holdsY.keep hs
    have hstart := CELL.out _ (show Since w8 w8.drew from (Below.refl _ _).drew)
    have KEEP := Lib.hid (And.intro C8 (And.intro D8 (And.intro y8 (And.intro s8 (And.intro x8 (And.intro z8 (And.intro h8 (And.intro f8 l8))))))))
    clear y8 s8 x8 z8 h8 f8 l8 C8 D8
    go_region_held3 (fun w' => w'.cell? ⟨A, 0, none⟩ = some (.int .i64 h0) ∧ w'.cell? ⟨A, 1, none⟩ = some (.slice a0 ss.length c0) ∧ w'.cell? ⟨X, 0, none⟩ = some (.int .i64 h0) ∧ w'.cell? ⟨X, 1, none⟩ = some (.slice p4 ss.length k4) ∧ Since w8 w')
      (first | exact hstart | exact CELL.out _ (Since.on (by exact (‹_ ∧ _› : _ ∧ _ ∧ _ ∧ _ ∧ Since w8 _).2.2.2.2) ‹Below w8.heap.size _ _›) | exact CELL.out _ (Since.call (by exact (‹_ ∧ _› : _ ∧ _ ∧ _ ∧ _ ∧ Since w8 _).2.2.2.2) ‹_›))
      (first
        | (go_at_call 35; ((with_reducible refine (GT8.out _ (by exact (‹_ ∧ _› : _ ∧ _ ∧ _ ∧ _ ∧ Since w8 _).2.2.2.2)).mono ?_); rintro e w9 ⟨v9, rfl, g9, b9⟩; obtain ⟨p9, k9, rfl⟩ := FreeY.form g9; have H9 := Lib.hid (FreeY.holdsY g9); clear g9))
        | (go_at_call 36; ((with_reducible refine (eqYard_same h0 _ _ ss _ (H8.out _ (by exact (‹_ ∧ _› : _ ∧ _ ∧ _ ∧ _ ∧ Since w8 _).2.2.2.2)) H9.out).mono ?_); rintro e w10 ⟨rfl, b10⟩)))
    rename_i w10 hheld
    have hx := hheld.2.2.2.2
    clear hheld
    obtain ⟨C8, D8, y8, s8, x8, z8, h8, f8, l8⟩ := KEEP.out
    have C10 := C8.trans (Below.mono hx C8.size)
    have D10 := D8.trans (Below.mono hx D8.size)
    have y10 := y8.keep hx
    have s10 := s8.keep hx
    have x10 := x8.keep hx
    have z10 := z8.keep hx
    have h10 := h8.keep hx
    have f10 := f8.keep hx
    have l10 := l8.keep hx
    clear y8 s8 x8 z8 h8 f8 l8 C8 D8 hx KEEP CELL GT8 H8 H9 hstart
    -- the list of moves held against the argument's
    go_wp2_with fail
    refine (GL.out w10 C10).mono ?_
    rintro e w21 ⟨v21, rfl, l21, b21⟩
    obtain ⟨p21, k21, rfl⟩ := l21.form
    have C21 := C10.trans (b21.mono C10.size)
    have D21 := D10.trans (b21.mono D10.size)
    have y21 := y10.keep b21
    have s21 := s10.keep b21
    have x21 := x10.keep b21
    have z21 := z10.keep b21
    have h21 := h10.keep b21
    have f21 := f10.keep b21
    have l22 := l10.keep b21
    clear y10 s10 x10 z10 h10 f10 l10 C10 D10 b21
    go_wp2_with fail
    refine (eqMoveS_same _ _ ms w21 l22.holds l21.holds).mono ?_
    rintro e w10 ⟨rfl, b22⟩
    have C10 := C21.trans (b22.mono C21.size)
    have D10 := D21.trans (b22.mono D21.size)
    have y10 := y21.keep b22
    have s10 := s21.keep b22
    have x10 := x21.keep b22
    have z10 := z21.keep b22
    have h10 := h21.keep b22
    have f10 := f21.keep b22
    have l10 := l22.keep b22
    clear y21 s21 x21 z21 h21 f21 l21 l22 C21 D21 b22
    have xa := x10.c0
    have xb := x10.c1
    go_wp2_with fail
    refine (MY.out _ _ _ w10 h10 (Nat.le_of_lt x10.lt)).mono ?_
    rintro e w11 ⟨rfl, -, m11⟩
    have b11 := m11.below D10.size
    have C11 := C10.trans (b11.mono hCK)
    have D11 := D10.trans b11
    have y11 := y10.under b11 hAK
    have s11 := s10.under b11 hSK
    have f11 := f10.mid m11 (Nat.le_trans hXN hLN)
    have l11 := l10.mid m11 hXN
    have z11 := z10.mid m11 (Nat.le_trans hXN (Nat.le_trans hLN hNG))
    clear y10 s10 x10 z10 h10 f10 l10 C10 D10 b11 m11 xa xb
    go_wp2_with fail
    refine (ML.out _ _ _ w11 l11).mono ?_
    rintro e w23 ⟨Q2, hQ2, rfl, m23⟩
    have b23 := m23.below (Nat.le_trans hLN (Nat.le_trans hNG (Nat.le_of_lt z11.lt)))
    have C23 := C11.trans (b23.mono (Nat.le_trans hCK hKN))
    have D23 := D11.trans (b23.mono hKN)
    have y23 := y11.under b23 (Nat.lt_of_lt_of_le hAK hKN)
    have s23 := s11.under b23 (Nat.lt_of_lt_of_le hSK hKN)
    have f23 := f11.mid m23 (Nat.le_refl _)
    have z23 := z11.mid m23 hNG
    clear y11 s11 z11 f11 l11 C11 D11 b23 m23
    have sa := s23.c0
    have sb := s23.c1
    have za := z23.c0
    have zb := z23.c1
    go_wp2_with fail
    refine (eqYard_same hr _ _ rr w23 f23.holdsY (H2.out w23 D23)).mono ?_
    rintro e w12 ⟨rfl, b12⟩
    have C12 := C23.trans (b12.mono C23.size)
    have D12 := D23.trans (b12.mono D23.size)
    have y12 := y23.keep b12
    have s12 := s23.keep b12
    have z12 := z23.keep b12
    have f12 := f23.keep b12
    clear y23 s23 z23 f23 C23 D23 b12 sa sb za zb
    have za := z12.c0
    have zb := z12.c1
    go_wp2_with fail
    refine (MR.out _ _ _ w12 f12 (Nat.le_of_lt z12.lt)).mono ?_
    rintro e w13 ⟨rfl, m13, i13⟩
    have hKN2 := Nat.le_trans hKN hLN
    have b13 := i13.below (Nat.le_trans hNG (Nat.le_of_lt z12.lt))
    have C13 := C12.trans (b13.mono (Nat.le_trans hCK hKN2))
    have D13 := D12.trans (b13.mono hKN2)
    have y13 := y12.under b13 (Nat.lt_of_lt_of_le hAK hKN2)
    have s13 := s12.under b13 (Nat.lt_of_lt_of_le hSK hKN2)
    have z13 := z12.mid i13 (Nat.le_refl _)
    clear y12 s12 z12 f12 C12 D12 b13 i13 za zb
    have za := z13.c0
    have zb := z13.c1
    go_wp2_with fail
    refine (HE.out _ w13 m13).mono ?_
    rintro e w14 ⟨rfl, b14⟩
    have C14 := C13.trans (b14.mono C13.size)
    have D14 := D13.trans (b14.mono D13.size)
    have y14 := y13.keep b14
    have s14 := s13.keep b14
    have z14 := z13.keep b14
    have m14 := m13.keep b14
    clear y13 s13 z13 m13 C13 D13 b14 za zb
    have ya := y14.c0
    have yb := y14.c1
    go_wp2_with fail
    refine (GT.out w14 C14).mono ?_
    rintro e w24 ⟨v24, rfl, g24, b24⟩
    obtain ⟨p24, k24, rfl⟩ := g24.form
    have C24 := C14.trans (b24.mono C14.size)
    have D24 := D14.trans (b24.mono D14.size)
    have s24 := s14.keep b24
    have z24 := z14.keep b24
    have m24 := m14.keep b24
    clear y14 s14 z14 m14 C14 D14 b24 ya yb
    go_wp2_with fail
    refine (GL.out w24 C24).mono ?_
    rintro e w15 ⟨v15, rfl, l15, b15⟩
    obtain ⟨p15, k15, rfl⟩ := l15.form
    have C15 := C24.trans (b15.mono C24.size)
    have D15 := D24.trans (b15.mono D24.size)
    have s15 := s24.keep b15
    have z15 := z24.keep b15
    have m15 := m24.keep b15
    have g15 := g24.holdsY.keep b15
    clear s24 z24 m24 g24 C24 D24 b15
    go_wp2_with fail
    refine (HI.out _ _ w15 g15 l15.holds).mono ?_
    rintro e w16 ⟨v16, rfl, f16, b16⟩
    obtain ⟨p16, k16, rfl⟩ := f16.form
    have t17 := BoxY.new_ w16 w16 hr (.slice p16 rr.length k16)
    have b17 : Below w16.heap.size w16 (w16.alloc (.cells #[.int .i64 hr, .slice p16 rr.length k16] 25)) := (Below.refl _ _).alloc (Nat.le_refl _) _
    have C17 := (C15.trans (b16.mono C15.size)).trans (b17.mono (C15.trans (b16.mono C15.size)).size)
    have D17 := (D15.trans (b16.mono D15.size)).trans (b17.mono (D15.trans (b16.mono D15.size)).size)
    have s17 := (s15.keep b16).keep b17
    have z17 := (z15.keep b16).keep b17
    have m17 := (m15.keep b16).keep b17
    have f17 := f16.holdsY.keep b17
    have ya := fun T => (s15.keep b16 |>.keep ((Below.refl _ _).alloc (Nat.le_refl _) (.cells #[.int .i64 hr, .slice p16 rr.length k16] T))).c0
    have yb := fun T => (s15.keep b16 |>.keep ((Below.refl _ _).alloc (Nat.le_refl _) (.cells #[.int .i64 hr, .slice p16 rr.length k16] T))).c1
    clear s15 z15 m15 C15 D15 b16 b17 f16 g15 l15
    generalize hW17 : w16.alloc (.cells #[.int .i64 hr, .slice p16 rr.length k16] 25) = W17 at t17 C17 D17 s17 z17 m17 f17
    have HW17 := Lib.hid hW17
    clear hW17
    go_wp2_with fail
    rw [HW17.out]
    generalize w16.heap.size = Hb at t17
    clear HW17
    go_wp2_with fail
    refine (eqYard_same hr _ _ rr W17 f17 (H2.out W17 D17)).mono ?_
    rintro e w18 ⟨rfl, b18⟩
    have C18 := C17.trans (b18.mono C17.size)
    have z18 := z17.keep b18
    have m18 := m17.keep b18
    clear s17 z17 m17 t17 f17 C17 D17 b18 ya yb
    have za := z18.c0
    have zb := z18.c1
    go_wp2_with fail
    refine (HE.out _ w18 m18).mono ?_
    rintro e w19 ⟨rfl, b19⟩
    have C19 := C18.trans (b19.mono C18.size)
    clear z18 m18 C18 b19 za zb
    go_wp2_with fail
    go_ret
    exact ⟨rfl, C19⟩

set_option maxRecDepth 100000 in
set_option maxHeartbeats 2000000 in
/-- What the walk gives, for every argument. -/
theorem contract (H : Type) (enc : TypeId × Value → H) (W : World) (base : Nat) (args : Array Value) (ds gs : List (DataW H)) (before : List MemPlace)
    (hval : ∀ (j : Nat) t v, Try.f10.params[j]? = some t → args[j]? = some v → Value.okWide Try.prog W .any base t v)
    (hW : DataW.Whole enc Try.prog Try.f10.params.toList Rows.fnExactYardRunSpec.vars false W args.toList ds gs before) :
    Calls Try.prog 10 args W fun e W' => ∃ v, e = .returned v ∧ Rows.fnExactYardRunSpec.post enc Try.prog Try.f10 false true false false W args v W' := by
  have hW' := hW
  obtain ⟨p, q, hA0, hV, rfl, hfz, hnd⟩ := hW
  have hA : DataW.TrodAll enc Try.prog W 0 (fun _ => true) true Try.f10.params.toList args.toList ds p := hA0
  rw [Try.params10] at hA hval
  obtain ⟨v0, vs0, d0, ds0, p0, q0, hargs, rfl, rfl, h0, r0⟩ := trodAll_cons hA
  obtain ⟨v1, vs1, d1, ds1, p1, q1, rfl, rfl, rfl, h1, r1⟩ := trodAll_cons r0
  obtain ⟨rfl, rfl, rfl⟩ := trodAll_nil r1
  obtain rfl : args = #[v0, v1] := by cases args; simp_all
  obtain ⟨rfl, rfl⟩ := trodVars_none hV
  have k0 := h0
  have lt0 : ∀ x ∈ p0, x.block < W.heap.size := by obtain ⟨m, hm⟩ := k0; exact DataW.trod_lt m _ _ _ hm
  obtain ⟨hy0, u0, y0, rfl, w0⟩ := yard_value Try.underlying50 (by kernel_rfl) (by kernel_rfl) (by simp) (hval 0 50 v0 rfl rfl) h0
  have k1 := h1
  have lt1 : ∀ x ∈ p1, x.block < W.heap.size := by obtain ⟨m, hm⟩ := k1; exact DataW.trod_lt m _ _ _ hm
  obtain ⟨a1, len1, cap1, rfl⟩ := okWide_slice Try.underlying58 (hval 1 58 v1 rfl rfl)
  obtain ⟨l1, w1⟩ : ∃ l, HoldsM W (.slice a1 len1 cap1) l := by
    obtain ⟨fuel, hf⟩ := h1
    exact moves_slice Try.underlying58 Try.underlying55 (by kernel_rfl) (by kernel_rfl) (by simp) (by simpa [Value.cells] using hf)
  clear hA0
  refine (walk hy0 u0 y0 (.slice a1 len1 cap1) l1 W w0 w1).mono fun e W' ⟨he, bel⟩ => ?_
  subst he
  exact ⟨_, rfl, _, _, _, [], _, [], hW', trodAll_mk1 (shut_bool Try.underlying4 _), (trodAll_cons_mk (Below.trod laidOut (by kernel_rfl) (of_decide_eq_true (by kernel_rfl)) k0 bel lt0) (trodAll_cons_mk (Below.trod laidOut (by kernel_rfl) (of_decide_eq_true (by kernel_rfl)) k1 bel lt1) trodAll_mk0)), rfl, bel.frame _, fun h => by cases h⟩

set_option maxRecDepth 100000 in
theorem lifted (os : Os) (started : os.Started) (H : Type) (enc : TypeId × Value → H) :
    ReturnsInHanded {} Try.checked os 10 .any (Rows.fnExactYardRunSpec.pre6 enc Try.prog Try.f10 Rows.fnExactYardRunRow.domain false) (Rows.fnExactYardRunSpec.post enc Try.prog Try.f10 false true false false) := by
  refine returnsInHanded_of_change (C := Try.checked) own started (by kernel_rfl) Try.func10
    (ChangeSpec.witness6 (enc := enc) (C := Try.checked) false ⟨#[], #[.agg #[.int .i64 0, .slice none 0 0], .slice none 0 0], []⟩ 8 (by kernel_rfl) (by kernel_rfl) (by kernel_rfl) (by kernel_rfl)) ?_
  intro W base args ds gs before hval hW _ _
  exact contract H enc W base args ds gs before hval hW

theorem proved : Rows.FnExactYardRunSaid :=
  OpenClaim.holds_of_wide 10 Try.f10 rfl rfl rfl rfl rfl rfl rfl ⟨rfl, rfl, rfl, rfl, rfl⟩ rfl rfl rfl rfl rfl (by kernel_rfl) Try.func10 (by kernel_rfl)
    (of_decide_eq_true (by kernel_rfl)) (by unfold Func.isWrapper; first | (rw [if_pos (by decide +kernel)]; kernel_rfl) | (rw [if_neg (by decide +kernel)]; exact ⟨rfl, rfl⟩))
    (fun os started H enc _ => lifted os started H enc)
#print axioms proved
end Go.Proofs.Ytlcfldmiibjboaa.fnExactYardRun
