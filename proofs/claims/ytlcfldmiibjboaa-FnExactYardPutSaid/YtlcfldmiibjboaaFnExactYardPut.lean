/-
  For every yard and every stack and id the law on YardPut's exact answer returns true and leaves its argument as it was: the program's YardPut and the model's give the same, the program's writes nothing of its argument, and what it gives is shared with nothing. Conditions: none beyond the form's own reach.
-/
import Derived.Test.YtlcfldmiibjboaaRows
import Derived.Test.YtlcfldmiibjboaaGBase
import Derived.WalkKit
import Derived.ProofKit
import Derived.OpenShut
import Derived.ShutString
import Derived.ChangeOld
import Derived.Below
import Derived.Test.YtlcfldmiibjboaaYbOpen
import Derived.Test.YtlcfldmiibjboaaYlA
import Derived.Test.YtlcfldmiibjboaaGYh
import Derived.Test.YtlcfldmiibjboaaGYl
import Derived.Test.YtlcfldmiibjboaaYsP
import Derived.Test.YtlcfldmiibjboaaYiP
namespace Go.Proofs.Ytlcfldmiibjboaa.fnExactYardPut
open Go.ChangeShapes Go.WideShapes Go.ChangeAt Go.RowKit
open Go.ChangeMaps (open_string shut_string)
set_option linter.unusedVariables false


theorem small_of {h : Int} {rr : List (List Int)} (hk : rr = [] ∨ ydOk h rr = true) : rr.length ≤ 1048576 ∧ rr.flatten.length ≤ 1048576 := by
  rcases hk with rfl | hk
  · simp
  · obtain ⟨_, _, _, h5, _⟩ := ydOk_iff.1 hk
    have := flat_size (fun k hl => ydOk_row hk hl) h5
    omega
theorem small' (h : Int) (ss : List (List Int)) (t id : Int) : (putY h ss t id).1.2 = [] ∨ ydOk h (putY h ss t id).1.2 = true := by
  rcases putY_cases h ss t id with ⟨_, e⟩ | ⟨hk, e⟩ | ⟨_, _, _, hk, e⟩ <;> rw [e]
  · exact .inl rfl
  · exact .inr hk
  · exact .inr hk

set_option maxRecDepth 10000 in
set_option maxHeartbeats 8000000 in
theorem walk (h0 : Int) (u0 : Value) (ss : List (List Int)) (a1 a2 : Int) (w : World) (w0 : HoldsY w u0 ss) (w1 : (Lit.int .i64 a1).wf = true) (w2 : (Lit.int .i64 a2).wf = true) :
    Calls Try.prog 7 #[.agg #[.int .i64 h0, u0], .int .i64 a1, .int .i64 a2] w fun e w' => e = .returned (.bool true) ∧ Below w.heap.size w w' := by
  have SZ := Lib.hid fun w' (hb : Below w.heap.size w w') => szYard_any h0 u0 ss 1048576 w' (w0.keep hb) (by omega) (by omega)
  have GG := Lib.hid w0
  have hsz : szY 1048576 ss < 0 ∨ 0 ≤ szY 1048576 ss ∧ ss.length + ss.flatten.length ≤ 1048576 := by unfold szY; split <;> omega
  obtain ⟨a0, c0, rfl⟩ : ∃ a c, u0 = .slice a ss.length c := by obtain ⟨a, c, e, _⟩ := w0; exact ⟨a, c, e⟩
  clear w0 w1 w2
  generalize szY 1048576 ss = z at SZ hsz
  have bd : Below w.heap.size w (w.alloc (.cells #[.int .i64 h0, .slice a0 ss.length c0] 50)) := (Below.refl _ _).alloc (Nat.le_refl _) _
  have y0 : ArgY w.heap.size (w.alloc (.cells #[.int .i64 h0, .slice a0 ss.length c0] 50)) h0 (.slice a0 ss.length c0) := ArgY.new w h0 _
  have BD := Lib.hid bd
  have Y0 := Lib.hid y0
  clear bd y0
  rcases hsz with hz | ⟨hz, gn⟩
  · go_enter Try.func7, Try.ntmps7
    go_wp2_with fail
    refine (SZ.out _ BD.out).mono ?_
    rintro e w1 ⟨rfl, b1⟩
    go_wp2_with fail
    go_ret
    exact ⟨rfl, BD.out.trans (b1.mono BD.out.size)⟩
  · have GT := Lib.hid fun w1 (b1 : Below w.heap.size w w1) => toYard_free h0 (.slice a0 ss.length c0) ss w1 (GG.out.keep b1) gn
    have HS := Lib.hid fun v w1 (g : HoldsY w1 v ss) => specYardPut_any h0 v ss a1 a2 w1 g (by omega)
    have HI := Lib.hid fun v w1 (g : HoldsY w1 v ss) => implYardPut_any h0 v ss a1 a2 w1 g
    have hsm := small_of (small' h0 ss a1 a2)
    unfold PutYGives at HS
    unfold PutYGivesF at HI
    generalize (putY h0 ss a1 a2).1.1 = hr at HS HI
    generalize (putY h0 ss a1 a2).1.2 = rr at HS HI hsm
    generalize (putY h0 ss a1 a2).2 = ok at HS HI
    have hok : (ok != ok) = false := by cases ok <;> rfl
    have MY := Lib.hid fun v K B w (hf : FreeY K B w v ss.length (rowAt ss)) (hB : B ≤ w.heap.size) => markYard_free h0 v K B 1 ss w hf hB (by omega) (by omega)
    have MR := Lib.hid fun v K B w (hf : FreeY K B w v rr.length (rowAt rr)) (hB : B ≤ w.heap.size) => markYard_free hr v K B 1 rr w hf hB (by omega) (by omega)
    have HE := Lib.hid fun v w (h : HoldsY w v (marksY 1 rr)) => heldYard_marks hr v 1 rr w h (by omega)
    have q0 : (0 : Int) ≤ ((1 + ss.flatten.length : Nat) : Int) := by omega
    have q1 : (0 : Int) ≤ ((1 + rr.flatten.length : Nat) : Int) := by omega
    clear hsm gn
    generalize ((1 + ss.flatten.length : Nat) : Int) = Q at MY q0
    generalize ((1 + rr.flatten.length : Nat) : Int) = Y at MR HE q1
    have hY : (Y != Y) = false := by simp
    go_enter Try.func7, Try.ntmps7
    go_wp2_with fail
    refine (SZ.out _ BD.out).mono ?_
    rintro e w0 ⟨rfl, b0⟩
    have C0 := BD.out.trans (b0.mono BD.out.size)
    have y0 := Y0.out.keep b0
    generalize hA : w.heap.size = A at y0
    have HA := Lib.hid hA
    clear hA
    have ya := y0.c0
    have yb := y0.c1
    clear b0
    go_wp2_with fail
    refine (GT.out w0 C0).mono ?_
    rintro e w1 ⟨v1, rfl, g1, b1⟩
    obtain ⟨p1, k1, rfl⟩ := g1.form
    have C1 := C0.trans (b1.mono C0.size)
    have y1 := y0.keep b1
    clear y0 ya yb b1
    have ya := y1.c0
    have yb := y1.c1
    go_wp2_with fail
    refine (HS.out _ w1 g1.holdsY).mono ?_
    rintro e w2 ⟨v2, rfl, g2, b2⟩
    obtain ⟨p2, k2, rfl⟩ := NewY.form g2
    clear ya yb
    have s3 := BoxY.new_ w2 w2 hr (.slice p2 rr.length k2)
    have b3 : Below w2.heap.size w2 (w2.alloc (.cells #[.int .i64 hr, .slice p2 rr.length k2] 25)) := (Below.refl _ _).alloc (Nat.le_refl _) _
    have C3 := (C1.trans (b2.mono C1.size)).trans (b3.mono (C1.trans (b2.mono C1.size)).size)
    have y3 := (y1.keep b2).keep b3
    have g3 := g2.holds.keep b3
    have ya : ∀ T, (w2.alloc (.cells #[.int .i64 hr, .slice p2 rr.length k2] T)).cell? ⟨A, 0, none⟩ = some (.int .i64 h0) := fun T => ((y1.keep b2).keep ((Below.refl _ _).alloc (Nat.le_refl _) _)).c0
    have yb : ∀ T, (w2.alloc (.cells #[.int .i64 hr, .slice p2 rr.length k2] T)).cell? ⟨A, 1, none⟩ = some (.slice a0 ss.length c0) := fun T => ((y1.keep b2).keep ((Below.refl _ _).alloc (Nat.le_refl _) _)).c1
    clear y1 C1 b2 b3 g1 g2
    generalize hW3 : w2.alloc (.cells #[.int .i64 hr, .slice p2 rr.length k2] 25) = W3 at s3 C3 y3 g3
    have HW3 := Lib.hid hW3
    clear hW3
    have H2 := Lib.hid fun w' (hb : Below W3.heap.size W3 w') => g3.keep hb
    have hAK := y3.lt
    have hSK := s3.lt
    have hCK := C3.size
    have sa := s3.c0
    have sb := s3.c1
    clear g3
    go_wp2_with fail
    rw [HW3.out]
    generalize w2.heap.size = S at s3 sa sb hSK
    clear HW3
    go_wp2_with fail
    refine (GT.out W3 C3).mono ?_
    rintro e w4 ⟨v4, rfl, g4, b4⟩
    obtain ⟨p4, k4, rfl⟩ := g4.form
    have x5 := BoxY.new_ w4 w4 h0 (.slice p4 ss.length k4)
    have b5 : Below w4.heap.size w4 (w4.alloc (.cells #[.int .i64 h0, .slice p4 ss.length k4] 25)) := (Below.refl _ _).alloc (Nat.le_refl _) _
    have C5 := (C3.trans (b4.mono C3.size)).trans (b5.mono (C3.trans (b4.mono C3.size)).size)
    have D5 := b4.trans (b5.mono b4.size)
    have y5 := (y3.keep b4).keep b5
    have s5 := (s3.keep b4).keep b5
    have h5 := g4.keep b5
    clear y3 s3 ya yb sa sb C3 b4 b5 g4
    generalize hW5 : w4.alloc (.cells #[.int .i64 h0, .slice p4 ss.length k4] 25) = W5 at x5 C5 y5 s5 h5 D5
    have HW5 := Lib.hid hW5
    clear hW5
    have ya := y5.c0
    have yb := y5.c1
    have sa := s5.c0
    have sb := s5.c1
    have xa := x5.c0
    have xb := x5.c1
    go_wp2_with fail
    rw [HW5.out]
    generalize w4.heap.size = X at x5 xa xb h5
    clear HW5
    have hXN := Nat.le_of_lt x5.lt
    have hKN := D5.size
    go_wp2_with fail
    refine (HI.out _ W5 h5.holdsY).mono ?_
    rintro e w6 ⟨v6, rfl, f6, b6⟩
    obtain ⟨p6, k6, rfl⟩ := f6.form
    clear ya yb
    have z7 := BoxY.new_ w6 w6 hr (.slice p6 rr.length k6)
    have b7 : Below w6.heap.size w6 (w6.alloc (.cells #[.int .i64 hr, .slice p6 rr.length k6] 25)) := (Below.refl _ _).alloc (Nat.le_refl _) _
    have C7 := (C5.trans (b6.mono C5.size)).trans (b7.mono (C5.trans (b6.mono C5.size)).size)
    have D7 := (D5.trans (b6.mono D5.size)).trans (b7.mono (D5.trans (b6.mono D5.size)).size)
    have y7 := (y5.keep b6).keep b7
    have s7 := (s5.keep b6).keep b7
    have x7 := (x5.keep b6).keep b7
    have h7 := (h5.keep b6).keep b7
    have f7 := f6.keep b7
    have hNG := b6.size
    have ya := fun T => (s5.keep b6 |>.keep ((Below.refl _ _).alloc (Nat.le_refl _) (.cells #[.int .i64 hr, .slice p6 rr.length k6] T))).c0
    have yb := fun T => (s5.keep b6 |>.keep ((Below.refl _ _).alloc (Nat.le_refl _) (.cells #[.int .i64 hr, .slice p6 rr.length k6] T))).c1
    clear y5 s5 x5 h5 sa sb xa xb C5 D5 b6 b7 f6
    generalize W5.heap.size = N at f7 hXN hKN hNG
    generalize hW7 : w6.alloc (.cells #[.int .i64 hr, .slice p6 rr.length k6] 25) = W7 at z7 C7 D7 y7 s7 x7 h7 f7
    have HW7 := Lib.hid hW7
    clear hW7
    go_wp2_with fail
    rw [HW7.out]
    generalize w6.heap.size = G at z7 f7 hNG
    clear HW7
    go_wp2_with fail
    refine (eqYard_same hr _ _ rr W7 f7.holdsY (H2.out W7 D7)).mono ?_
    rintro e w8 ⟨rfl, b8⟩
    have C8 := C7.trans (b8.mono C7.size)
    have D8 := D7.trans (b8.mono D7.size)
    have y8 := y7.keep b8
    have s8 := s7.keep b8
    have x8 := x7.keep b8
    have z8 := z7.keep b8
    have h8 := h7.keep b8
    have f8 := f7.keep b8
    clear C7 D7 y7 s7 x7 z7 h7 f7 b8 ya yb
    go_wp2_with fail
    have CELL := Lib.hid fun (w' : World) (hs : Since w8 w') => two_yards y8 x8 hs
    have GT8 := Lib.hid fun (w' : World) (hs : Since w8 w') => GT.out w' (C8.trans (Below.mono hs C8.size))
    have H8 := Lib.hid fun (w' : World) (hs : Since w8 w') => h8.holdsY.keep hs
    have hstart := CELL.out _ (show Since w8 w8.drew from (Below.refl _ _).drew)
    have KEEP := Lib.hid (And.intro C8 (And.intro D8 (And.intro y8 (And.intro s8 (And.intro x8 (And.intro z8 (And.intro h8 f8)))))))
    clear y8 s8 x8 z8 h8 f8 C8 D8
    go_region_held3 (fun w' => w'.cell? ⟨A, 0, none⟩ = some (.int .i64 h0) ∧ w'.cell? ⟨A, 1, none⟩ = some (.slice a0 ss.length c0) ∧ w'.cell? ⟨X, 0, none⟩ = some (.int .i64 h0) ∧ w'.cell? ⟨X, 1, none⟩ = some (.slice p4 ss.length k4) ∧ Since w8 w')
      (first | exact hstart | exact CELL.out _ (Since.on (by exact (‹_ ∧ _› : _ ∧ _ ∧ _ ∧ _ ∧ Since w8 _).2.2.2.2) ‹Below w8.heap.size _ _›) | exact CELL.out _ (Since.call (by exact (‹_ ∧ _› : _ ∧ _ ∧ _ ∧ _ ∧ Since w8 _).2.2.2.2) ‹_›))
      (first
        | (go_at_call 35; ((with_reducible refine (GT8.out _ (by exact (‹_ ∧ _› : _ ∧ _ ∧ _ ∧ _ ∧ Since w8 _).2.2.2.2)).mono ?_); rintro e w9 ⟨v9, rfl, g9, b9⟩; obtain ⟨p9, k9, rfl⟩ := FreeY.form g9; have H9 := Lib.hid (FreeY.holdsY g9); clear g9))
        | (go_at_call 36; ((with_reducible refine (eqYard_same h0 _ _ ss _ (H8.out _ (by exact (‹_ ∧ _› : _ ∧ _ ∧ _ ∧ _ ∧ Since w8 _).2.2.2.2)) H9.out).mono ?_); rintro e w10 ⟨rfl, b10⟩)))
    rename_i w10 hheld
    have hx := hheld.2.2.2.2
    clear hheld
    obtain ⟨C8, D8, y8, s8, x8, z8, h8, f8⟩ := KEEP.out
    have C10 := C8.trans (Below.mono hx C8.size)
    have D10 := D8.trans (Below.mono hx D8.size)
    have y10 := y8.keep hx
    have s10 := s8.keep hx
    have x10 := x8.keep hx
    have z10 := z8.keep hx
    have h10 := h8.keep hx
    have f10 := f8.keep hx
    clear y8 s8 x8 z8 h8 f8 C8 D8 hx KEEP CELL GT8 H8 H9 hstart
    have xa := x10.c0
    have xb := x10.c1
    go_wp2_with fail
    refine (MY.out _ _ _ w10 h10 (Nat.le_of_lt x10.lt)).mono ?_
    rintro e w11 ⟨rfl, -, m11⟩
    have b11 := m11.below D10.size
    have C11 := C10.trans (b11.mono hCK)
    have D11 := D10.trans b11
    have y11 := y10.under b11 hAK
    have s11 := s10.under b11 hSK
    have f11 := f10.mid m11 hXN
    have z11 := z10.mid m11 (Nat.le_trans hXN hNG)
    clear y10 s10 x10 z10 h10 f10 C10 D10 b11 m11 xa xb
    have sa := s11.c0
    have sb := s11.c1
    have za := z11.c0
    have zb := z11.c1
    go_wp2_with fail
    refine (eqYard_same hr _ _ rr w11 f11.holdsY (H2.out w11 D11)).mono ?_
    rintro e w12 ⟨rfl, b12⟩
    have C12 := C11.trans (b12.mono C11.size)
    have D12 := D11.trans (b12.mono D11.size)
    have y12 := y11.keep b12
    have s12 := s11.keep b12
    have z12 := z11.keep b12
    have f12 := f11.keep b12
    clear y11 s11 z11 f11 C11 D11 b12 sa sb za zb
    have za := z12.c0
    have zb := z12.c1
    go_wp2_with fail
    refine (MR.out _ _ _ w12 f12 (Nat.le_of_lt z12.lt)).mono ?_
    rintro e w13 ⟨rfl, m13, i13⟩
    have b13 := i13.below (Nat.le_trans hNG (Nat.le_of_lt z12.lt))
    have C13 := C12.trans (b13.mono (Nat.le_trans hCK hKN))
    have D13 := D12.trans (b13.mono hKN)
    have y13 := y12.under b13 (Nat.lt_of_lt_of_le hAK hKN)
    have s13 := s12.under b13 (Nat.lt_of_lt_of_le hSK hKN)
    have z13 := z12.mid i13 (Nat.le_refl _)
    clear y12 s12 z12 f12 C12 D12 b13 i13 za zb
    have za := z13.c0
    have zb := z13.c1
    go_wp2_with fail
    refine (HE.out _ w13 m13).mono ?_
    rintro e w14 ⟨rfl, b14⟩
    have C14 := C13.trans (b14.mono C13.size)
    have D14 := D13.trans (b14.mono D13.size)
    have y14 := y13.keep b14
    have s14 := s13.keep b14
    have z14 := z13.keep b14
    have m14 := m13.keep b14
    clear y13 s13 z13 m13 C13 D13 b14 za zb
    have ya := y14.c0
    have yb := y14.c1
    go_wp2_with fail
    refine (GT.out w14 C14).mono ?_
    rintro e w15 ⟨v15, rfl, g15, b15⟩
    obtain ⟨p15, k15, rfl⟩ := g15.form
    have C15 := C14.trans (b15.mono C14.size)
    have D15 := D14.trans (b15.mono D14.size)
    have s15 := s14.keep b15
    have z15 := z14.keep b15
    have m15 := m14.keep b15
    clear y14 s14 z14 m14 C14 D14 b15 ya yb
    go_wp2_with fail
    refine (HI.out _ w15 g15.holdsY).mono ?_
    rintro e w16 ⟨v16, rfl, f16, b16⟩
    obtain ⟨p16, k16, rfl⟩ := f16.form
    have t17 := BoxY.new_ w16 w16 hr (.slice p16 rr.length k16)
    have b17 : Below w16.heap.size w16 (w16.alloc (.cells #[.int .i64 hr, .slice p16 rr.length k16] 25)) := (Below.refl _ _).alloc (Nat.le_refl _) _
    have C17 := (C15.trans (b16.mono C15.size)).trans (b17.mono (C15.trans (b16.mono C15.size)).size)
    have D17 := (D15.trans (b16.mono D15.size)).trans (b17.mono (D15.trans (b16.mono D15.size)).size)
    have s17 := (s15.keep b16).keep b17
    have z17 := (z15.keep b16).keep b17
    have m17 := (m15.keep b16).keep b17
    have f17 := f16.holdsY.keep b17
    have ya := fun T => (s15.keep b16 |>.keep ((Below.refl _ _).alloc (Nat.le_refl _) (.cells #[.int .i64 hr, .slice p16 rr.length k16] T))).c0
    have yb := fun T => (s15.keep b16 |>.keep ((Below.refl _ _).alloc (Nat.le_refl _) (.cells #[.int .i64 hr, .slice p16 rr.length k16] T))).c1
    clear s15 z15 m15 C15 D15 b16 b17 f16 g15
    generalize hW17 : w16.alloc (.cells #[.int .i64 hr, .slice p16 rr.length k16] 25) = W17 at t17 C17 D17 s17 z17 m17 f17
    have HW17 := Lib.hid hW17
    clear hW17
    go_wp2_with fail
    rw [HW17.out]
    generalize w16.heap.size = Hb at t17
    clear HW17
    go_wp2_with fail
    refine (eqYard_same hr _ _ rr W17 f17 (H2.out W17 D17)).mono ?_
    rintro e w18 ⟨rfl, b18⟩
    have C18 := C17.trans (b18.mono C17.size)
    have z18 := z17.keep b18
    have m18 := m17.keep b18
    clear s17 z17 m17 t17 f17 C17 D17 b18 ya yb
    have za := z18.c0
    have zb := z18.c1
    go_wp2_with fail
    refine (HE.out _ w18 m18).mono ?_
    rintro e w19 ⟨rfl, b19⟩
    have C19 := C18.trans (b19.mono C18.size)
    clear z18 m18 C18 b19 za zb
    go_wp2_with fail
    go_ret
    exact ⟨rfl, C19⟩

set_option maxRecDepth 100000 in
set_option maxHeartbeats 2000000 in
/-- What the walk gives, for every argument. -/
theorem contract (H : Type) (enc : TypeId × Value → H) (W : World) (base : Nat) (args : Array Value) (ds gs : List (DataW H)) (before : List MemPlace)
    (hval : ∀ (j : Nat) t v, Try.f7.params[j]? = some t → args[j]? = some v → Value.okWide Try.prog W .any base t v)
    (hW : DataW.Whole enc Try.prog Try.f7.params.toList Rows.fnExactYardPutSpec.vars false W args.toList ds gs before) :
    Calls Try.prog 7 args W fun e W' => ∃ v, e = .returned v ∧ Rows.fnExactYardPutSpec.post enc Try.prog Try.f7 false true false false W args v W' := by
  have hW' := hW
  obtain ⟨p, q, hA0, hV, rfl, hfz, hnd⟩ := hW
  have hA : DataW.TrodAll enc Try.prog W 0 (fun _ => true) true Try.f7.params.toList args.toList ds p := hA0
  rw [Try.params7] at hA hval
  obtain ⟨v0, vs0, d0, ds0, p0, q0, hargs, rfl, rfl, h0, r0⟩ := trodAll_cons hA
  obtain ⟨v1, vs1, d1, ds1, p1, q1, rfl, rfl, rfl, h1, r1⟩ := trodAll_cons r0
  obtain ⟨v2, vs2, d2, ds2, p2, q2, rfl, rfl, rfl, h2, r2⟩ := trodAll_cons r1
  obtain ⟨rfl, rfl, rfl⟩ := trodAll_nil r2
  obtain rfl : args = #[v0, v1, v2] := by cases args; simp_all
  obtain ⟨rfl, rfl⟩ := trodVars_none hV
  have k0 := h0
  have lt0 : ∀ x ∈ p0, x.block < W.heap.size := by obtain ⟨m, hm⟩ := k0; exact DataW.trod_lt m _ _ _ hm
  obtain ⟨hy0, u0, y0, rfl, w0⟩ := yard_value Try.underlying50 (by kernel_rfl) (by kernel_rfl) (by simp) (hval 0 50 v0 rfl rfl) h0
  have k1 := h1
  have lt1 : ∀ x ∈ p1, x.block < W.heap.size := by obtain ⟨m, hm⟩ := k1; exact DataW.trod_lt m _ _ _ hm
  obtain ⟨a1, rfl, -, -, w1⟩ := open_int Try.underlying3 (hval 1 3 v1 rfl rfl) h1
  have k2 := h2
  have lt2 : ∀ x ∈ p2, x.block < W.heap.size := by obtain ⟨m, hm⟩ := k2; exact DataW.trod_lt m _ _ _ hm
  obtain ⟨a2, rfl, -, -, w2⟩ := open_int Try.underlying3 (hval 2 3 v2 rfl rfl) h2
  clear hA0
  refine (walk hy0 u0 y0 a1 a2 W w0 w1 w2).mono fun e W' ⟨he, bel⟩ => ?_
  subst he
  exact ⟨_, rfl, _, _, _, [], _, [], hW', trodAll_mk1 (shut_bool Try.underlying4 _), (trodAll_cons_mk (Below.trod laidOut (by kernel_rfl) (of_decide_eq_true (by kernel_rfl)) k0 bel lt0) (trodAll_cons_mk (Below.trod laidOut (by kernel_rfl) (of_decide_eq_true (by kernel_rfl)) k1 bel lt1) (trodAll_cons_mk (Below.trod laidOut (by kernel_rfl) (of_decide_eq_true (by kernel_rfl)) k2 bel lt2) trodAll_mk0))), rfl, bel.frame _, fun h => by cases h⟩

set_option maxRecDepth 100000 in
theorem lifted (os : Os) (started : os.Started) (H : Type) (enc : TypeId × Value → H) :
    ReturnsInHanded {} Try.checked os 7 .any (Rows.fnExactYardPutSpec.pre6 enc Try.prog Try.f7 Rows.fnExactYardPutRow.domain false) (Rows.fnExactYardPutSpec.post enc Try.prog Try.f7 false true false false) := by
  refine returnsInHanded_of_change (C := Try.checked) own started (by kernel_rfl) Try.func7
    (ChangeSpec.witness6 (enc := enc) (C := Try.checked) false ⟨#[], #[.agg #[.int .i64 0, .slice none 0 0], .int .i64 0, .int .i64 0], []⟩ 8 (by kernel_rfl) (by kernel_rfl) (by kernel_rfl) (by kernel_rfl)) ?_
  intro W base args ds gs before hval hW _ _
  exact contract H enc W base args ds gs before hval hW

theorem proved : Rows.FnExactYardPutSaid :=
  OpenClaim.holds_of_wide 7 Try.f7 rfl rfl rfl rfl rfl rfl rfl ⟨rfl, rfl, rfl, rfl, rfl⟩ rfl rfl rfl rfl rfl (by kernel_rfl) Try.func7 (by kernel_rfl)
    (of_decide_eq_true (by kernel_rfl)) (by unfold Func.isWrapper; first | (rw [if_pos (by decide +kernel)]; kernel_rfl) | (rw [if_neg (by decide +kernel)]; exact ⟨rfl, rfl⟩))
    (fun os started H enc _ => lifted os started H enc)
#print axioms proved
end Go.Proofs.Ytlcfldmiibjboaa.fnExactYardPut
