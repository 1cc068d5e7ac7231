/-
  For every yard and every list of ids the law on DigAll's exact answer returns true and leaves its arguments as they were: the program's DigAll and the model's give the same, and the program's writes nothing. Conditions: none beyond the form's own reach.
-/
import Derived.Test.YtlcfldmiibjboabRows
import Derived.Test.YtlcfldmiibjboabGBase
import Derived.WalkKit
import Derived.ProofKit
import Derived.OpenShut
import Derived.ShutString
import Derived.ChangeOld
import Derived.Below
import Derived.Test.YtlcfldmiibjboabYbOpen
import Derived.Test.YtlcfldmiibjboabYlA
import Derived.Test.YtlcfldmiibjboabGYh
import Derived.Test.YtlcfldmiibjboabGYl
import Derived.Test.YtlcfldmiibjboabDgA
namespace Go.Proofs.Ytlcfldmiibjboab.fnExactDigAll
open Go.ChangeShapes Go.WideShapes Go.ChangeAt Go.RowKit
open Go.ChangeMaps (open_string shut_string)
set_option linter.unusedVariables false


/-- What the walk is told of a slice of integers that came in. -/
def IsRow (k : IntKind) (w : World) (a : Option Addr) (len cap : Nat) (zs : List Int) : Prop :=
  (a = none ∧ len = 0 ∧ cap = 0 ∧ zs = []) ∨
  ∃ x, a = some x ∧ len ≤ cap ∧ cap ≤ maxLen ∧ zs.length = cap ∧ (∀ i, i < zs.length → w.cell? (x.add i) = some (.int k (zs.getD i 0))) ∧ ∀ n ∈ zs, (Lit.int k n).wf = true

set_option maxRecDepth 10000 in
set_option maxHeartbeats 4000000 in
theorem walk (h0 : Int) (u0 : Value) (ss : List (List Int)) (a1 : Option Addr) (len1 cap1 : Nat) (z1 : List Int) (w : World) (w0 : HoldsY w u0 ss) (w1 : IsRowI w a1 len1 cap1 z1) :
    Calls Try.prog 3 #[.agg #[.int .i64 h0, u0], .slice a1 len1 cap1] w fun e w' => e = .returned (.bool true) ∧ Below w.heap.size w w' := by
  obtain ⟨gg, gl⟩ := HoldsI.of_came w1
  generalize z1.take len1 = l at gg gl
  have gm : len1 ≤ maxLen := by obtain ⟨_, cap, h1, h2, h3, _⟩ := gg; omega
  unfold maxLen at gm
  have GI := Lib.hid gg
  have SZ := Lib.hid fun w' (hb : Below w.heap.size w w') => szYard_any h0 u0 ss 1048576 w' (w0.keep hb) (by omega) (by omega)
  have GG := Lib.hid w0
  have hsz : szY 1048576 ss < 0 ∨ 0 ≤ szY 1048576 ss ∧ ss.length + ss.flatten.length ≤ 1048576 := by unfold szY; split <;> omega
  obtain ⟨a0, c0, rfl⟩ : ∃ a c, u0 = .slice a ss.length c := by obtain ⟨a, c, e, _⟩ := w0; exact ⟨a, c, e⟩
  clear w0 w1 gg
  generalize szY 1048576 ss = z at SZ hsz
  have bd : Below w.heap.size w (w.alloc (.cells #[.int .i64 h0, .slice a0 ss.length c0] 24)) := (Below.refl _ _).alloc (Nat.le_refl _) _
  have y0 : ArgY w.heap.size (w.alloc (.cells #[.int .i64 h0, .slice a0 ss.length c0] 24)) h0 (.slice a0 ss.length c0) := ArgY.new w h0 _
  have BD := Lib.hid bd
  have Y0 := Lib.hid y0
  clear bd y0
  by_cases glen : 1048576 < len1
  · have glen2 : (1048576 : Int) < (len1 : Int) := by omega
    go_enter Try.func3, Try.ntmps3
    go_wp2_with fail
    go_ret
    exact ⟨rfl, BD.out⟩
  have glen2 : ¬ (1048576 : Int) < (len1 : Int) := by omega
  rcases hsz with hz | ⟨hz, gn⟩
  · go_enter Try.func3, Try.ntmps3
    go_wp2_with fail
    refine (SZ.out _ BD.out).mono ?_
    rintro e w1 ⟨rfl, b1⟩
    go_wp2_with fail
    go_ret
    exact ⟨rfl, BD.out.trans (b1.mono BD.out.size)⟩
  · have GT := Lib.hid fun w1 (b1 : Below w.heap.size w w1) => toYard_free h0 (.slice a0 ss.length c0) ss w1 (GG.out.keep b1) gn
    have GL := Lib.hid fun w1 (b1 : Below w.heap.size w w1) => toIntS_any (.slice a1 len1 cap1) l w1 (GI.out.keep b1) (by omega)
    have HS := Lib.hid fun v u w1 (g : HoldsY w1 v ss) (gi : HoldsI w1 u l) => specDigAll_any h0 v u ss l w1 g gi (by omega)
    have HI := Lib.hid fun v u w1 (g : HoldsY w1 v ss) (gi : HoldsI w1 u l) => implDigAll_any h0 v u ss l w1 g gi
    generalize (digA h0 ss l).1 = r at HS HI
    generalize (digA h0 ss l).2 = r2 at HS HI
    have hr : (r != r) = false := by simp
    have hr2 : (r2 != r2) = false := by cases r2 <;> rfl
    clear gn
    go_enter Try.func3, Try.ntmps3
    go_wp2_with fail
    refine (SZ.out _ BD.out).mono ?_
    rintro e w0 ⟨rfl, b0⟩
    have C0 := BD.out.trans (b0.mono BD.out.size)
    have y0 := Y0.out.keep b0
    generalize w.heap.size = A at y0
    have ya := y0.c0
    have yb := y0.c1
    clear b0
    go_wp2_with fail
    refine (GT.out w0 C0).mono ?_
    rintro e w1 ⟨v1, rfl, g1, b1⟩
    obtain ⟨p1, q1, rfl⟩ := g1.form
    have C1 := C0.trans (b1.mono C0.size)
    have y1 := y0.keep b1
    clear y0 ya yb b1
    go_wp2_with fail
    refine (GL.out w1 C1).mono ?_
    rintro e wl ⟨vl, rfl, gl1, cl⟩
    have Cl := C1.trans (cl.mono C1.size)
    have yl := y1.keep cl
    have hy1 := g1.holdsY.keep cl
    clear y1 g1 cl C1
    have ya := yl.c0
    have yb := yl.c1
    go_wp2_with fail
    refine (HS.out _ _ wl hy1 gl1).mono ?_
    rintro e w2 ⟨rfl, b2⟩
    have C2 := Cl.trans (b2.mono Cl.size)
    have y2 := yl.keep b2
    clear yl ya yb b2 hy1 gl1 Cl
    have ya := y2.c0
    have yb := y2.c1
    go_wp2_with fail
    refine (GT.out w2 C2).mono ?_
    rintro e w3 ⟨v3, rfl, g3, b3⟩
    obtain ⟨p3, q3, rfl⟩ := g3.form
    have C3 := C2.trans (b3.mono C2.size)
    have y3 := y2.keep b3
    clear y2 ya yb b3
    have x4 := BoxY.new_ w3 w3 h0 (.slice p3 ss.length q3)
    have b4 : Below w3.heap.size w3 (w3.alloc (.cells #[.int .i64 h0, .slice p3 ss.length q3] 29)) := (Below.refl _ _).alloc (Nat.le_refl _) _
    have C4 := C3.trans (b4.mono C3.size)
    have y4 := y3.keep b4
    have h4 := g3.holdsY.keep b4
    clear y3 C3 g3 b4
    generalize hW4 : w3.alloc (.cells #[.int .i64 h0, .slice p3 ss.length q3] 29) = W4 at x4 C4 y4 h4
    have HW4 := Lib.hid hW4
    have ya := y4.c0
    have yb := y4.c1
    have xa := x4.c0
    have xb := x4.c1
    clear hW4
    go_wp2_with fail
    rw [HW4.out]
    generalize w3.heap.size = X at x4 xa xb
    refine (GL.out W4 C4).mono ?_
    rintro e w6 ⟨v6, rfl, g6, b6⟩
    have C6 := C4.trans (b6.mono C4.size)
    have y6 := y4.keep b6
    have x6 := x4.keep b6
    have h6 := h4.keep b6
    clear y4 x4 h4 ya yb xa xb b6 C4 HW4
    have xa := x6.c0
    have xb := x6.c1
    go_wp2_with fail
    refine (HI.out _ _ w6 h6 g6).mono ?_
    rintro e w5 ⟨rfl, b5⟩
    have C5 := C6.trans (b5.mono C6.size)
    have y5 := y6.keep b5
    have x5 := x6.keep b5
    have h5 := h6.keep b5
    have g5 := g6.keep b5
    clear y6 x6 h6 g6 xa xb b5 C6
    go_wp2_with fail
    have CELL := Lib.hid fun (w' : World) (hs : Since w5 w') => two_yards y5 x5 hs
    have GT5 := Lib.hid fun (w' : World) (hs : Since w5 w') => GT.out w' (C5.trans (Below.mono hs C5.size))
    have H5 := Lib.hid fun (w' : World) (hs : Since w5 w') => h5.keep hs
    have G5 := Lib.hid fun (w' : World) (hs : Since w5 w') => g5.keep hs
    have hstart := CELL.out _ (show Since w5 w5.drew from (Below.refl _ _).drew)
    have HC5 := Lib.hid C5
    clear y5 x5 h5 C5 g5
    go_region_held3 (fun w' => w'.cell? ⟨A, 0, none⟩ = some (.int .i64 h0) ∧ w'.cell? ⟨A, 1, none⟩ = some (.slice a0 ss.length c0) ∧ w'.cell? ⟨X, 0, none⟩ = some (.int .i64 h0) ∧ w'.cell? ⟨X, 1, none⟩ = some (.slice p3 ss.length q3) ∧ Since w5 w')
      (first | exact hstart | exact CELL.out _ (Since.on (by exact (‹_ ∧ _› : _ ∧ _ ∧ _ ∧ _ ∧ Since w5 _).2.2.2.2) ‹Below w5.heap.size _ _›) | exact CELL.out _ (Since.call (by exact (‹_ ∧ _› : _ ∧ _ ∧ _ ∧ _ ∧ Since w5 _).2.2.2.2) ‹_›))
      (first
        | (go_at_call 6; ((with_reducible refine (GT5.out _ (by exact (‹_ ∧ _› : _ ∧ _ ∧ _ ∧ _ ∧ Since w5 _).2.2.2.2)).mono ?_); rintro e w6 ⟨v6, rfl, g6, b6⟩; obtain ⟨p6, q6, rfl⟩ := FreeY.form g6; have H6 := Lib.hid (FreeY.holdsY g6); clear g6))
        | (go_at_call 9; ((with_reducible refine (eqYard_same h0 _ _ ss _ (H5.out _ (by exact (‹_ ∧ _› : _ ∧ _ ∧ _ ∧ _ ∧ Since w5 _).2.2.2.2)) H6.out).mono ?_); rintro e w7 ⟨rfl, b7⟩))
        | fail)
    rename_i hheld
    have hx := hheld.2.2.2.2
    have C7 := HC5.out.trans (Below.mono hx HC5.out.size)
    have g7 := G5.out _ hx
    clear hheld hx CELL GT5 H5 G5 HC5
    go_wp2_with fail
    refine (GL.out _ C7).mono ?_
    rintro e w8 ⟨v8, rfl, g8, b8⟩
    have C8 := C7.trans (b8.mono C7.size)
    go_wp2_with fail
    refine (eqIntS_same _ _ l w8 (g7.keep b8) g8).mono ?_
    rintro e w9 ⟨rfl, b9⟩
    have C9 := C8.trans (b9.mono C8.size)
    go_wp2_with fail
    go_ret
    exact ⟨rfl, C9⟩

set_option maxRecDepth 100000 in
set_option maxHeartbeats 2000000 in
/-- What the walk gives, for every argument. -/
theorem contract (H : Type) (enc : TypeId × Value → H) (W : World) (base : Nat) (args : Array Value) (ds gs : List (DataW H)) (before : List MemPlace)
    (hval : ∀ (j : Nat) t v, Try.f3.params[j]? = some t → args[j]? = some v → Value.okWide Try.prog W .any base t v)
    (hW : DataW.Whole enc Try.prog Try.f3.params.toList Rows.fnExactDigAllSpec.vars false W args.toList ds gs before) :
    Calls Try.prog 3 args W fun e W' => ∃ v, e = .returned v ∧ Rows.fnExactDigAllSpec.post enc Try.prog Try.f3 false true false false W args v W' := by
  have hW' := hW
  obtain ⟨p, q, hA0, hV, rfl, hfz, hnd⟩ := hW
  have hA : DataW.TrodAll enc Try.prog W 0 (fun _ => true) true Try.f3.params.toList args.toList ds p := hA0
  rw [Try.params3] at hA hval
  obtain ⟨v0, vs0, d0, ds0, p0, q0, hargs, rfl, rfl, h0, r0⟩ := trodAll_cons hA
  obtain ⟨v1, vs1, d1, ds1, p1, q1, rfl, rfl, rfl, h1, r1⟩ := trodAll_cons r0
  obtain ⟨rfl, rfl, rfl⟩ := trodAll_nil r1
  obtain rfl : args = #[v0, v1] := by cases args; simp_all
  obtain ⟨rfl, rfl⟩ := trodVars_none hV
  have k0 := h0
  have lt0 : ∀ x ∈ p0, x.block < W.heap.size := by obtain ⟨m, hm⟩ := k0; exact DataW.trod_lt m _ _ _ hm
  obtain ⟨hy0, u0, y0, rfl, w0⟩ := yard_value Try.underlying24 (by kernel_rfl) (by kernel_rfl) (by simp) (hval 0 24 v0 rfl rfl) h0
  have k1 := h1
  have lt1 : ∀ x ∈ p1, x.block < W.heap.size := by obtain ⟨m, hm⟩ := k1; exact DataW.trod_lt m _ _ _ hm
  obtain ⟨a1, len1, cap1, rfl⟩ := okWide_slice Try.underlying25 (hval 1 25 v1 rfl rfl)
  obtain ⟨z1, x1⟩ : ∃ zs, IsRow .i64 W a1 len1 cap1 zs := by
    obtain ⟨fuel, hf⟩ := h1
    rcases open_ints Try.underlying25 Try.underlying3 (by kernel_rfl) hf with ⟨hcs, _⟩ | ⟨x, l, c, zs, hcs, _, hl, hm, hz, _, hcell, hwz⟩
    · simp [Value.cells] at hcs
      obtain ⟨rfl, rfl, rfl⟩ := hcs
      exact ⟨[], .inl ⟨rfl, rfl, rfl, rfl⟩⟩
    · simp [Value.cells] at hcs
      obtain ⟨rfl, rfl, rfl⟩ := hcs
      exact ⟨zs, .inr ⟨_, rfl, hl, hm, by simpa using hz, hcell, hwz⟩⟩
  clear hA0
  refine (walk hy0 u0 y0 a1 len1 cap1 z1 W w0 x1).mono fun e W' ⟨he, bel⟩ => ?_
  subst he
  exact ⟨_, rfl, _, _, _, [], _, [], hW', trodAll_mk1 (shut_bool Try.underlying4 _), (trodAll_cons_mk (Below.trod laidOut (by kernel_rfl) (of_decide_eq_true (by kernel_rfl)) k0 bel lt0) (trodAll_cons_mk (Below.trod laidOut (by kernel_rfl) (of_decide_eq_true (by kernel_rfl)) k1 bel lt1) trodAll_mk0)), rfl, bel.frame _, fun h => by cases h⟩

set_option maxRecDepth 100000 in
theorem lifted (os : Os) (started : os.Started) (H : Type) (enc : TypeId × Value → H) :
    ReturnsInHanded {} Try.checked os 3 .any (Rows.fnExactDigAllSpec.pre6 enc Try.prog Try.f3 Rows.fnExactDigAllRow.domain false) (Rows.fnExactDigAllSpec.post enc Try.prog Try.f3 false true false false) := by
  refine returnsInHanded_of_change (C := Try.checked) own started (by kernel_rfl) Try.func3
    (ChangeSpec.witness6 (enc := enc) (C := Try.checked) false ⟨#[], #[.agg #[.int .i64 0, .slice none 0 0], .slice none 0 0], []⟩ 8 (by kernel_rfl) (by kernel_rfl) (by kernel_rfl) (by kernel_rfl)) ?_
  intro W base args ds gs before hval hW _ _
  exact contract H enc W base args ds gs before hval hW

theorem proved : Rows.FnExactDigAllSaid :=
  OpenClaim.holds_of_wide 3 Try.f3 rfl rfl rfl rfl rfl rfl rfl ⟨rfl, rfl, rfl, rfl, rfl⟩ rfl rfl rfl rfl rfl (by kernel_rfl) Try.func3 (by kernel_rfl)
    (of_decide_eq_true (by kernel_rfl)) (by unfold Func.isWrapper; first | (rw [if_pos (by decide +kernel)]; kernel_rfl) | (rw [if_neg (by decide +kernel)]; exact ⟨rfl, rfl⟩))
    (fun os started H enc _ => lifted os started H enc)
#print axioms proved
end Go.Proofs.Ytlcfldmiibjboab.fnExactDigAll
