/-
  For every yard and every id the law on DigMoves' exact answer returns true and leaves its argument as it was: the program's DigMoves and the model's give the same moves, the program's writes nothing of its argument, and what it gives is shared with nothing. Conditions: none beyond the form's own reach.
-/
import Derived.Test.YtlcfldmiibjboaaRows
import Derived.Test.YtlcfldmiibjboaaGBase
import Derived.WalkKit
import Derived.ProofKit
import Derived.OpenShut
import Derived.ShutString
import Derived.ChangeOld
import Derived.Below
import Derived.Test.YtlcfldmiibjboaaYbOpen
import Derived.Test.YtlcfldmiibjboaaYlA
import Derived.Test.YtlcfldmiibjboaaGYh
import Derived.Test.YtlcfldmiibjboaaGYl
import Derived.Test.YtlcfldmiibjboaaDgD
import Derived.Test.YtlcfldmiibjboaaDgE
import Derived.Test.YtlcfldmiibjboaaDgH
namespace Go.Proofs.Ytlcfldmiibjboaa.fnExactDigMoves
open Go.ChangeShapes Go.WideShapes Go.ChangeAt Go.RowKit
open Go.ChangeMaps (open_string shut_string)
set_option linter.unusedVariables false


set_option maxRecDepth 10000 in
set_option maxHeartbeats 4000000 in
theorem walk (h0 : Int) (u0 : Value) (ss : List (List Int)) (a1 : Int) (w : World) (w0 : HoldsY w u0 ss) (w1 : (Lit.int .i64 a1).wf = true) :
    Calls Try.prog 14 #[.agg #[.int .i64 h0, u0], .int .i64 a1] w fun e w' => e = .returned (.bool true) ∧ Below w.heap.size w w' := by
  have SZ := Lib.hid fun w' (hb : Below w.heap.size w w') => szYard_any h0 u0 ss 1048576 w' (w0.keep hb) (by omega) (by omega)
  have GG := Lib.hid w0
  have hsz : szY 1048576 ss < 0 ∨ 0 ≤ szY 1048576 ss ∧ ss.length + ss.flatten.length ≤ 1048576 := by unfold szY; split <;> omega
  obtain ⟨a0, c0, rfl⟩ : ∃ a c, u0 = .slice a ss.length c := by obtain ⟨a, c, e, _⟩ := w0; exact ⟨a, c, e⟩
  clear w0 w1
  generalize szY 1048576 ss = z at SZ hsz
  have bd : Below w.heap.size w (w.alloc (.cells #[.int .i64 h0, .slice a0 ss.length c0] 50)) := (Below.refl _ _).alloc (Nat.le_refl _) _
  have y0 : ArgY w.heap.size (w.alloc (.cells #[.int .i64 h0, .slice a0 ss.length c0] 50)) h0 (.slice a0 ss.length c0) := ArgY.new w h0 _
  have BD := Lib.hid bd
  have Y0 := Lib.hid y0
  clear bd y0
  rcases hsz with hz | ⟨hz, gn⟩
  · go_enter Try.func14, Try.ntmps14
    go_wp2_with fail
    refine (SZ.out _ BD.out).mono ?_
    rintro e w1 ⟨rfl, b1⟩
    go_wp2_with fail
    go_ret
    exact ⟨rfl, BD.out.trans (b1.mono BD.out.size)⟩
  · have GT := Lib.hid fun w1 (b1 : Below w.heap.size w w1) => toYard_free h0 (.slice a0 ss.length c0) ss w1 (GG.out.keep b1) gn
    have HS := Lib.hid fun v w1 (g : HoldsY w1 v ss) => specDigMoves_any h0 v ss a1 w1 g (by omega)
    have HI := Lib.hid fun v w1 (g : HoldsY w1 v ss) => implDigMoves_any h0 v ss a1 w1 g
    have hlen : (digM h0 ss a1).1.length ≤ 4 := by
      rcases digM_cases h0 ss a1 with e | ⟨_, _, f, lo, up, l, tt, _, _, _, _, e, _, h4, _⟩
      · rw [e]; exact Nat.zero_le _
      · rw [e]; exact h4
    unfold DigGives at HS HI
    generalize digM h0 ss a1 = dg at HS HI hlen
    obtain ⟨r, ok⟩ := dg
    have hoo : (ok != ok) = false := by cases ok <;> rfl
    have hlen : r.length ≤ 4 := hlen
    have HS' : Hid (∀ v w, HoldsY w v ss → Calls Try.prog 50 #[.agg #[.int .i64 h0, v], .int .i64 a1] w fun e w' => ∃ u, e = .returned (.tuple #[u, .bool ok]) ∧ FreeM w.heap.size w'.heap.size w' u r ∧ Below w.heap.size w w') := HS
    have HI' : Hid (∀ v w, HoldsY w v ss → Calls Try.prog 47 #[.agg #[.int .i64 h0, v], .int .i64 a1] w fun e w' => ∃ u, e = .returned (.tuple #[u, .bool ok]) ∧ FreeM w.heap.size w'.heap.size w' u r ∧ Below w.heap.size w w') := HI
    clear HS HI
    have MY := Lib.hid fun v K B w (hf : FreeY K B w v ss.length (rowAt ss)) (hB : B ≤ w.heap.size) => markYard_free h0 v K B 1 ss w hf hB (by omega) (by omega)
    have ME := Lib.hid fun v K B w (h : FreeM K B w v r) => markMoveS_free v K B 1 r w h (by omega)
    have HE := Lib.hid fun v w (h : HoldsM w v (marksM 1 r.length)) => heldMoveS_marks v 1 r.length w h (by omega)
    unfold MarkedM2 at ME
    have q0 : (0 : Int) ≤ ((1 + ss.flatten.length : Nat) : Int) := by omega
    have q1 : (0 : Int) ≤ ((1 + 2 * r.length : Nat) : Int) := by omega
    clear hlen gn
    generalize ((1 + ss.flatten.length : Nat) : Int) = Q at MY q0
    generalize ((1 + 2 * r.length : Nat) : Int) = Y at ME HE q1
    have hY : (Y != Y) = false := by simp
    go_enter Try.func14, Try.ntmps14
    go_wp2_with fail
    refine (SZ.out _ BD.out).mono ?_
    rintro e w0 ⟨rfl, b0⟩
    have C0 := BD.out.trans (b0.mono BD.out.size)
    have y0 := Y0.out.keep b0
    generalize hA : w.heap.size = A at y0
    have HA := Lib.hid hA
    clear hA
    have ya := y0.c0
    have yb := y0.c1
    clear b0
    go_wp2_with fail
    refine (GT.out w0 C0).mono ?_
    rintro e w1 ⟨v1, rfl, g1, b1⟩
    obtain ⟨p1, q1, rfl⟩ := g1.form
    have C1 := C0.trans (b1.mono C0.size)
    have y1 := y0.keep b1
    clear y0 ya yb b1
    have ya := y1.c0
    have yb := y1.c1
    go_wp2_with fail
    refine (HS'.out _ w1 g1.holdsY).mono ?_
    rintro e w2 ⟨v2, rfl, g2, b2⟩
    have C2 := C1.trans (b2.mono C1.size)
    have y2 := y1.keep b2
    have hCK := C2.size
    have H2 := Lib.hid fun w' (hb : Below w2.heap.size w2 w') => g2.holds.keep hb
    have hA2 := y2.lt
    clear y1 ya yb b2 g1 g2
    have ya := y2.c0
    have yb := y2.c1
    go_wp2_with fail
    refine (GT.out w2 C2).mono ?_
    rintro e w3 ⟨v3, rfl, g3, b3⟩
    obtain ⟨p3, q3, rfl⟩ := g3.form
    have C3 := C2.trans (b3.mono C2.size)
    have y3 := y2.keep b3
    clear y2 ya yb
    have x4 := BoxY.new_ w3 w3 h0 (.slice p3 ss.length q3)
    have b4 : Below w3.heap.size w3 (w3.alloc (.cells #[.int .i64 h0, .slice p3 ss.length q3] 25)) := (Below.refl _ _).alloc (Nat.le_refl _) _
    have C4 := C3.trans (b4.mono C3.size)
    have D4 := b3.trans (b4.mono b3.size)
    have y4 := y3.keep b4
    have h4 := g3.keep b4
    clear y3 C3 g3 b4 b3
    generalize hW4 : w3.alloc (.cells #[.int .i64 h0, .slice p3 ss.length q3] 25) = W4 at x4 C4 y4 h4 D4
    have HW4 := Lib.hid hW4
    have ya := y4.c0
    have yb := y4.c1
    have xa := x4.c0
    have xb := x4.c1
    clear hW4
    go_wp2_with fail
    rw [HW4.out]
    generalize w3.heap.size = X at x4 xa xb h4
    have hX4 := x4.lt
    have D4' := D4
    go_wp2_with fail
    refine (HI'.out _ W4 h4.holdsY).mono ?_
    rintro e w5 ⟨v5, rfl, f5, b5⟩
    obtain ⟨p5, q5, rfl⟩ := f5.form
    have C5 := C4.trans (b5.mono C4.size)
    have D5 := D4.trans (b5.mono D4.size)
    have y5 := y4.keep b5
    have x5 := x4.keep b5
    have h5 := h4.keep b5
    clear y4 x4 h4 ya yb xa xb C4 D4 HW4
    have hXN := hX4
    have hKN := D4'.size
    generalize W4.heap.size = N at f5 hXN hKN
    generalize w5.heap.size = M at f5
    go_wp2_with fail
    refine (eqMoveS_same _ _ r w5 f5.holds (H2.out w5 D5)).mono ?_
    rintro e w6 ⟨rfl, b6⟩
    have C6 := C5.trans (b6.mono C5.size)
    have D6 := D5.trans (b6.mono D5.size)
    have y6 := y5.keep b6
    have x6 := x5.keep b6
    have h6 := h5.keep b6
    have f6 := f5.keep b6
    clear y5 x5 h5 f5 b6 b5 C5 D5
    go_wp2_with fail
    have CELL := Lib.hid fun (w' : World) (hs : Since w6 w') => two_yards y6 x6 hs
    have GT6 := Lib.hid fun (w' : World) (hs : Since w6 w') => GT.out w' (C6.trans (Below.mono hs C6.size))
    have H6 := Lib.hid fun (w' : World) (hs : Since w6 w') => h6.holdsY.keep hs
    have hstart := CELL.out _ (show Since w6 w6.drew from (Below.refl _ _).drew)
    have KEEP := Lib.hid (And.intro C6 (And.intro D6 (And.intro y6 (And.intro x6 (And.intro h6 f6)))))
    clear y6 x6 h6 f6 C6 D6
    go_region_held3 (fun w' => w'.cell? ⟨A, 0, none⟩ = some (.int .i64 h0) ∧ w'.cell? ⟨A, 1, none⟩ = some (.slice a0 ss.length c0) ∧ w'.cell? ⟨X, 0, none⟩ = some (.int .i64 h0) ∧ w'.cell? ⟨X, 1, none⟩ = some (.slice p3 ss.length q3) ∧ Since w6 w')
      (first | exact hstart | exact CELL.out _ (Since.on (by exact (‹_ ∧ _› : _ ∧ _ ∧ _ ∧ _ ∧ Since w6 _).2.2.2.2) ‹Below w6.heap.size _ _›) | exact CELL.out _ (Since.call (by exact (‹_ ∧ _› : _ ∧ _ ∧ _ ∧ _ ∧ Since w6 _).2.2.2.2) ‹_›))
      (first
        | (go_at_call 35; ((with_reducible refine (GT6.out _ (by exact (‹_ ∧ _› : _ ∧ _ ∧ _ ∧ _ ∧ Since w6 _).2.2.2.2)).mono ?_); rintro e w7 ⟨v7, rfl, g7, b7⟩; obtain ⟨p7, q7, rfl⟩ := FreeY.form g7; have H7 := Lib.hid (FreeY.holdsY g7); clear g7))
        | (go_at_call 36; ((with_reducible refine (eqYard_same h0 _ _ ss _ (H6.out _ (by exact (‹_ ∧ _› : _ ∧ _ ∧ _ ∧ _ ∧ Since w6 _).2.2.2.2)) H7.out).mono ?_); rintro e w8 ⟨rfl, b8⟩)))
    rename_i w8 hheld
    have hx := hheld.2.2.2.2
    clear hheld
    obtain ⟨C6, D6, y6, x6, h6, f6⟩ := KEEP.out
    have C8 := C6.trans (Below.mono hx C6.size)
    have D8 := D6.trans (Below.mono hx D6.size)
    have y8 := y6.keep hx
    have x8 := x6.keep hx
    have h8 := h6.keep hx
    have f8 := f6.keep hx
    clear y6 x6 h6 f6 C6 D6 hx KEEP CELL GT6 H6 H7 hstart
    have xa := x8.c0
    have xb := x8.c1
    go_wp2_with fail
    refine (MY.out _ _ _ w8 h8 (Nat.le_of_lt x8.lt)).mono ?_
    rintro e w9 ⟨rfl, -, m9⟩
    have b9 := m9.below D8.size
    have C9 := C8.trans (b9.mono hCK)
    have D9 := D8.trans b9
    have y9 := y8.under b9 hA2
    have f9 := f8.mid m9 (Nat.le_of_lt hXN)
    clear y8 x8 h8 f8 C8 D8 b9 m9 xa xb
    go_wp2_with fail
    refine (eqMoveS_same _ _ r w9 f9.holds (H2.out w9 D9)).mono ?_
    rintro e w10 ⟨rfl, b10⟩
    have C10 := C9.trans (b10.mono C9.size)
    have D10 := D9.trans (b10.mono D9.size)
    have y10 := y9.keep b10
    have f10 := f9.keep b10
    clear y9 f9 C9 D9 b10
    go_wp2_with fail
    refine (ME.out _ _ _ w10 f10).mono ?_
    rintro e w11 ⟨rfl, n11, mm11⟩
    have b11 : Below w2.heap.size w10 w11 := ⟨mm11.os, mm11.tape, mm11.output, mm11.size, fun k hk => mm11.block k (.inl (Nat.lt_of_lt_of_le hk hKN)) (Nat.lt_of_lt_of_le hk D10.size)⟩
    have m11 := n11.holds
    have C11 := C10.trans (b11.mono hCK)
    have D11 := D10.trans b11
    have y11 := y10.under b11 hA2
    clear y10 f10 C10 D10 b11
    go_wp2_with fail
    refine (HE.out _ w11 m11).mono ?_
    rintro e w11' ⟨rfl, rfl⟩
    have ya := y11.c0
    have yb := y11.c1
    go_wp2_with fail
    refine (GT.out w11 C11).mono ?_
    rintro e w12 ⟨v12, rfl, g12, b12⟩
    obtain ⟨p12, q12, rfl⟩ := g12.form
    have C12 := C11.trans (b12.mono C11.size)
    have D12 := D11.trans (b12.mono D11.size)
    have m12 := m11.keep b12
    clear y11 ya yb C11 D11 b12 m11
    go_wp2_with fail
    refine (HI'.out _ w12 g12.holdsY).mono ?_
    rintro e w13 ⟨v13, rfl, f13, b13⟩
    obtain ⟨p13, q13, rfl⟩ := f13.form
    have C13 := C12.trans (b13.mono C12.size)
    have D13 := D12.trans (b13.mono D12.size)
    have m13 := m12.keep b13
    clear C12 D12 b13 m12 g12
    go_wp2_with fail
    refine (eqMoveS_same _ _ r w13 f13.holds (H2.out w13 D13)).mono ?_
    rintro e w14 ⟨rfl, b14⟩
    have C14 := C13.trans (b14.mono C13.size)
    have m14 := m13.keep b14
    clear C13 D13 b14 m13 f13
    go_wp2_with fail
    refine (HE.out _ w14 m14).mono ?_
    rintro e w15 ⟨rfl, rfl⟩
    go_wp2_with fail
    go_ret
    exact ⟨rfl, C14⟩

set_option maxRecDepth 100000 in
set_option maxHeartbeats 2000000 in
/-- What the walk gives, for every argument. -/
theorem contract (H : Type) (enc : TypeId × Value → H) (W : World) (base : Nat) (args : Array Value) (ds gs : List (DataW H)) (before : List MemPlace)
    (hval : ∀ (j : Nat) t v, Try.f14.params[j]? = some t → args[j]? = some v → Value.okWide Try.prog W .any base t v)
    (hW : DataW.Whole enc Try.prog Try.f14.params.toList Rows.fnExactDigMovesSpec.vars false W args.toList ds gs before) :
    Calls Try.prog 14 args W fun e W' => ∃ v, e = .returned v ∧ Rows.fnExactDigMovesSpec.post enc Try.prog Try.f14 false true false false W args v W' := by
  have hW' := hW
  obtain ⟨p, q, hA0, hV, rfl, hfz, hnd⟩ := hW
  have hA : DataW.TrodAll enc Try.prog W 0 (fun _ => true) true Try.f14.params.toList args.toList ds p := hA0
  rw [Try.params14] at hA hval
  obtain ⟨v0, vs0, d0, ds0, p0, q0, hargs, rfl, rfl, h0, r0⟩ := trodAll_cons hA
  obtain ⟨v1, vs1, d1, ds1, p1, q1, rfl, rfl, rfl, h1, r1⟩ := trodAll_cons r0
  obtain ⟨rfl, rfl, rfl⟩ := trodAll_nil r1
  obtain rfl : args = #[v0, v1] := by cases args; simp_all
  obtain ⟨rfl, rfl⟩ := trodVars_none hV
  have k0 := h0
  have lt0 : ∀ x ∈ p0, x.block < W.heap.size := by obtain ⟨m, hm⟩ := k0; exact DataW.trod_lt m _ _ _ hm
  obtain ⟨hy0, u0, y0, rfl, w0⟩ := yard_value Try.underlying50 (by kernel_rfl) (by kernel_rfl) (by simp) (hval 0 50 v0 rfl rfl) h0
  have k1 := h1
  have lt1 : ∀ x ∈ p1, x.block < W.heap.size := by obtain ⟨m, hm⟩ := k1; exact DataW.trod_lt m _ _ _ hm
  obtain ⟨a1, rfl, -, -, w1⟩ := open_int Try.underlying3 (hval 1 3 v1 rfl rfl) h1
  clear hA0
  refine (walk hy0 u0 y0 a1 W w0 w1).mono fun e W' ⟨he, bel⟩ => ?_
  subst he
  exact ⟨_, rfl, _, _, _, [], _, [], hW', trodAll_mk1 (shut_bool Try.underlying4 _), (trodAll_cons_mk (Below.trod laidOut (by kernel_rfl) (of_decide_eq_true (by kernel_rfl)) k0 bel lt0) (trodAll_cons_mk (Below.trod laidOut (by kernel_rfl) (of_decide_eq_true (by kernel_rfl)) k1 bel lt1) trodAll_mk0)), rfl, bel.frame _, fun h => by cases h⟩

set_option maxRecDepth 100000 in
theorem lifted (os : Os) (started : os.Started) (H : Type) (enc : TypeId × Value → H) :
    ReturnsInHanded {} Try.checked os 14 .any (Rows.fnExactDigMovesSpec.pre6 enc Try.prog Try.f14 Rows.fnExactDigMovesRow.domain false) (Rows.fnExactDigMovesSpec.post enc Try.prog Try.f14 false true false false) := by
  refine returnsInHanded_of_change (C := Try.checked) own started (by kernel_rfl) Try.func14
    (ChangeSpec.witness6 (enc := enc) (C := Try.checked) false ⟨#[], #[.agg #[.int .i64 0, .slice none 0 0], .int .i64 0], []⟩ 8 (by kernel_rfl) (by kernel_rfl) (by kernel_rfl) (by kernel_rfl)) ?_
  intro W base args ds gs before hval hW _ _
  exact contract H enc W base args ds gs before hval hW

theorem proved : Rows.FnExactDigMovesSaid :=
  OpenClaim.holds_of_wide 14 Try.f14 rfl rfl rfl rfl rfl rfl rfl ⟨rfl, rfl, rfl, rfl, rfl⟩ rfl rfl rfl rfl rfl (by kernel_rfl) Try.func14 (by kernel_rfl)
    (of_decide_eq_true (by kernel_rfl)) (by unfold Func.isWrapper; first | (rw [if_pos (by decide +kernel)]; kernel_rfl) | (rw [if_neg (by decide +kernel)]; exact ⟨rfl, rfl⟩))
    (fun os started H enc _ => lifted os started H enc)
#print axioms proved
end Go.Proofs.Ytlcfldmiibjboaa.fnExactDigMoves
