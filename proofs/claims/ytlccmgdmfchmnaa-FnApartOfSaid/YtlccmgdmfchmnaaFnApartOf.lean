/-
  For every code of bytes the law on ApartOf (the model's answer; the same for both slots exchanged; a slot is 0 from itself, and from that below it) returns true and leaves its argument as it was. Conditions: none beyond the form's own reach.
-/
import Derived.Test.YtlccmgdmfchmnaaRows
import Derived.Test.YtlccmgdmfchmnaaGBase
import Derived.WalkKit
import Derived.ProofKit
import Derived.OpenShut
import Derived.ShutString
import Derived.ChangeOld
import Derived.Below
import Derived.Test.YtlccmgdmfchmnaaGCr
import Derived.Test.YtlccmgdmfchmnaaDaV
import Derived.Test.YtlccmgdmfchmnaaDaS
import Derived.Test.YtlccmgdmfchmnaaDaI
namespace Go.Proofs.Ytlccmgdmfchmnaa.fnApartOf
open Go.ChangeShapes Go.WideShapes Go.ChangeAt Go.RowKit
open Go.ChangeMaps (open_string shut_string)
set_option linter.unusedVariables false


/-- What the walk is told of a slice of integers that came in. -/
def IsRow (k : IntKind) (w : World) (a : Option Addr) (len cap : Nat) (zs : List Int) : Prop :=
  (a = none ∧ len = 0 ∧ cap = 0 ∧ zs = []) ∨
  ∃ x, a = some x ∧ len ≤ cap ∧ cap ≤ maxLen ∧ zs.length = cap ∧ (∀ i, i < zs.length → w.cell? (x.add i) = some (.int k (zs.getD i 0))) ∧ ∀ n ∈ zs, (Lit.int k n).wf = true

set_option maxRecDepth 10000 in
set_option maxHeartbeats 4000000 in
theorem walk (a0 : Option Addr) (len0 cap0 : Nat) (w : World) (w0 : IsRow8 w a0 len0 cap0) :
    Calls Try.prog 3 #[.slice a0 len0 cap0] w fun e w' => e = .returned (.bool true) ∧ Below w.heap.size w w' := by
  have hm := row8_len w0
  unfold maxLen at hm
  by_cases hl : ¬ len0 ≤ 1048576
  · go_enter Try.func3, Try.ntmps3
    go_wp2
    go_ret
    exact ⟨rfl, Below.refl _ _⟩
  · have hl := Nat.not_lt.1 (fun h => hl (Nat.not_le.2 h))
    go_enter Try.func3, Try.ntmps3
    go_wp2_with fail
    refine (drawApartOf_any a0 len0 cap0 w w0).mono ?_
    rintro e w1 ⟨h, s, t, rfl, hb⟩
    clear w0
    have HI := Lib.hid fun (w' : World) => implApartOf_any h s t w'
    have HS := Lib.hid fun (w' : World) => specApartOf_any h s t w'
    have HB := Lib.hid fun (w' : World) => implSlotBelow_any h s w'
    have H1 := Lib.hid fun (w' : World) => implApartOf_any h t s w'
    have H2 := Lib.hid fun (w' : World) => implApartOf_any h s s w'
    have H3 := Lib.hid fun (w' : World) => implApartOf_any h s (slBelow h s) w'
    have H4 := Lib.hid fun (w' : World) => implApartOf_any h (slBelow h s) t w'
    rw [apartS_comm h t s] at H1
    have hbd := apartS_bd h s t
    have hself : 0 ≤ apartS h s t → apartS h s s = 0 := apartS_self
    have hbel : 0 ≤ apartS h s t → 0 ≤ slBelow h s → apartS h s (slBelow h s) = 0 ∧ apartS h (slBelow h s) t = apartS h s t := apartS_below
    generalize apartS h s s = e2 at H2 hself
    generalize apartS h s (slBelow h s) = e3 at H3 hbel
    generalize apartS h (slBelow h s) t = e4 at H4 hbel
    generalize slBelow h s = v at HB H3 H4 hbel
    generalize apartS h s t = x at HI HS H1 hbd hself hbel
    have hr : (x != x) = false := by simp
    have hr2 : (x == x) = true := by simp
    have h3 : decide (x ≤ 3) = true := decide_eq_true hbd.2
    by_cases hx : x < 0
    · obtain rfl : x = -1 := by omega
      clear hself hbel H2 H3 H4 H1 HB hbd hx h3
      have b2 : Below w1.heap.size w1 (w1.alloc (.cells #[.int .i64 h.b, .int .i64 h.r, .int .i64 h.t] 24)) := (Below.refl _ _).alloc (Nat.le_refl _) _
      have y2 := BoxH.new w1 h
      have C2 := hb.trans (b2.mono hb.size)
      generalize hW2 : w1.alloc (.cells #[.int .i64 h.b, .int .i64 h.r, .int .i64 h.t] 24) = W2 at b2 y2 C2
      have HW2 := Lib.hid hW2
      clear hW2 b2 hb
      have c0 := y2.c0
      have c1 := y2.c1
      have c2 := y2.c2
      go_wp2_with fail
      rw [HW2.out]
      generalize w1.heap.size = Y at y2 c0 c1 c2
      clear HW2
      go_wp2_with fail
      refine (HI.out W2).mono ?_
      rintro e w3 ⟨rfl, b3⟩
      have C3 := C2.trans (b3.mono C2.size)
      have y3 := y2.keep b3
      clear c0 c1 c2 y2 C2 b3
      have c0 := y3.c0
      have c1 := y3.c1
      have c2 := y3.c2
      go_wp2_with fail
      refine (HS.out w3).mono ?_
      rintro e w4 ⟨rfl, b4⟩
      have C4 := C3.trans (b4.mono C3.size)
      have y4 := y3.keep b4
      clear c0 c1 c2 y3 C3 b4
      have c0 := y4.c0
      have c1 := y4.c1
      have c2 := y4.c2
      go_wp2_with fail
      refine (alive_yes _).mono ?_
      rintro e w99 ⟨rfl, rfl⟩
      go_wp2_with fail
      go_ret
      exact ⟨rfl, C4⟩
    · have hxd : decide (x < 0) = false := decide_eq_false hx
      obtain rfl : e2 = 0 := hself (by omega)
      by_cases hv : v < 0
      · have hvd : decide (v < 0) = true := decide_eq_true hv
        clear hself hbel H3 H4 hbd
        have b2 : Below w1.heap.size w1 (w1.alloc (.cells #[.int .i64 h.b, .int .i64 h.r, .int .i64 h.t] 24)) := (Below.refl _ _).alloc (Nat.le_refl _) _
        have y2 := BoxH.new w1 h
        have C2 := hb.trans (b2.mono hb.size)
        generalize hW2 : w1.alloc (.cells #[.int .i64 h.b, .int .i64 h.r, .int .i64 h.t] 24) = W2 at b2 y2 C2
        have HW2 := Lib.hid hW2
        clear hW2 b2 hb
        have c0 := y2.c0
        have c1 := y2.c1
        have c2 := y2.c2
        go_wp2_with fail
        rw [HW2.out]
        generalize w1.heap.size = Y at y2 c0 c1 c2
        clear HW2
        go_wp2_with fail
        refine (HI.out W2).mono ?_
        rintro e w3 ⟨rfl, b3⟩
        have C3 := C2.trans (b3.mono C2.size)
        have y3 := y2.keep b3
        clear c0 c1 c2 y2 C2 b3
        have c0 := y3.c0
        have c1 := y3.c1
        have c2 := y3.c2
        go_wp2_with fail
        refine (HS.out w3).mono ?_
        rintro e w4 ⟨rfl, b4⟩
        have C4 := C3.trans (b4.mono C3.size)
        have y4 := y3.keep b4
        clear c0 c1 c2 y3 C3 b4
        have c0 := y4.c0
        have c1 := y4.c1
        have c2 := y4.c2
        go_wp2_with fail
        refine (HB.out w4).mono ?_
        rintro e w5 ⟨rfl, b5⟩
        have C5 := C4.trans (b5.mono C4.size)
        have y5 := y4.keep b5
        clear c0 c1 c2 y4 C4 b5
        have c0 := y5.c0
        have c1 := y5.c1
        have c2 := y5.c2
        go_wp2_with fail
        refine (H1.out w5).mono ?_
        rintro e w6 ⟨rfl, b6⟩
        have C6 := C5.trans (b6.mono C5.size)
        have y6 := y5.keep b6
        clear c0 c1 c2 y5 C5 b6
        have c0 := y6.c0
        have c1 := y6.c1
        have c2 := y6.c2
        go_wp2_with fail
        refine (H2.out w6).mono ?_
        rintro e w7 ⟨rfl, b7⟩
        have C7 := C6.trans (b7.mono C6.size)
        have y7 := y6.keep b7
        clear c0 c1 c2 y6 C6 b7
        have c0 := y7.c0
        have c1 := y7.c1
        have c2 := y7.c2
        go_wp2_with fail
        go_ret
        exact ⟨rfl, C7⟩
      · have hvd : decide (v < 0) = false := decide_eq_false hv
        obtain ⟨rfl, rfl⟩ := hbel (by omega) (by omega)
        clear hself hbel hbd
        have b2 : Below w1.heap.size w1 (w1.alloc (.cells #[.int .i64 h.b, .int .i64 h.r, .int .i64 h.t] 24)) := (Below.refl _ _).alloc (Nat.le_refl _) _
        have y2 := BoxH.new w1 h
        have C2 := hb.trans (b2.mono hb.size)
        generalize hW2 : w1.alloc (.cells #[.int .i64 h.b, .int .i64 h.r, .int .i64 h.t] 24) = W2 at b2 y2 C2
        have HW2 := Lib.hid hW2
        clear hW2 b2 hb
        have c0 := y2.c0
        have c1 := y2.c1
        have c2 := y2.c2
        go_wp2_with fail
        rw [HW2.out]
        generalize w1.heap.size = Y at y2 c0 c1 c2
        clear HW2
        go_wp2_with fail
        refine (HI.out W2).mono ?_
        rintro e w3 ⟨rfl, b3⟩
        have C3 := C2.trans (b3.mono C2.size)
        have y3 := y2.keep b3
        clear c0 c1 c2 y2 C2 b3
        have c0 := y3.c0
        have c1 := y3.c1
        have c2 := y3.c2
        go_wp2_with fail
        refine (HS.out w3).mono ?_
        rintro e w4 ⟨rfl, b4⟩
        have C4 := C3.trans (b4.mono C3.size)
        have y4 := y3.keep b4
        clear c0 c1 c2 y3 C3 b4
        have c0 := y4.c0
        have c1 := y4.c1
        have c2 := y4.c2
        go_wp2_with fail
        refine (HB.out w4).mono ?_
        rintro e w5 ⟨rfl, b5⟩
        have C5 := C4.trans (b5.mono C4.size)
        have y5 := y4.keep b5
        clear c0 c1 c2 y4 C4 b5
        have c0 := y5.c0
        have c1 := y5.c1
        have c2 := y5.c2
        go_wp2_with fail
        refine (H1.out w5).mono ?_
        rintro e w6 ⟨rfl, b6⟩
        have C6 := C5.trans (b6.mono C5.size)
        have y6 := y5.keep b6
        clear c0 c1 c2 y5 C5 b6
        have c0 := y6.c0
        have c1 := y6.c1
        have c2 := y6.c2
        go_wp2_with fail
        refine (H2.out w6).mono ?_
        rintro e w7 ⟨rfl, b7⟩
        have C7 := C6.trans (b7.mono C6.size)
        have y7 := y6.keep b7
        clear c0 c1 c2 y6 C6 b7
        have c0 := y7.c0
        have c1 := y7.c1
        have c2 := y7.c2
        go_wp2_with fail
        refine (H3.out w7).mono ?_
        rintro e w8 ⟨rfl, b8⟩
        have C8 := C7.trans (b8.mono C7.size)
        have y8 := y7.keep b8
        clear c0 c1 c2 y7 C7 b8
        have c0 := y8.c0
        have c1 := y8.c1
        have c2 := y8.c2
        go_wp2_with fail
        refine (H4.out w8).mono ?_
        rintro e w9 ⟨rfl, b9⟩
        have C9 := C8.trans (b9.mono C8.size)
        have y9 := y8.keep b9
        clear c0 c1 c2 y8 C8 b9
        have c0 := y9.c0
        have c1 := y9.c1
        have c2 := y9.c2
        go_wp2_with fail
        go_ret
        exact ⟨rfl, C9⟩

set_option maxRecDepth 100000 in
set_option maxHeartbeats 2000000 in
/-- What the walk gives, for every argument. -/
theorem contract (H : Type) (enc : TypeId × Value → H) (W : World) (base : Nat) (args : Array Value) (ds gs : List (DataW H)) (before : List MemPlace)
    (hval : ∀ (j : Nat) t v, Try.f3.params[j]? = some t → args[j]? = some v → Value.okWide Try.prog W .any base t v)
    (hW : DataW.Whole enc Try.prog Try.f3.params.toList Rows.fnApartOfSpec.vars false W args.toList ds gs before) :
    Calls Try.prog 3 args W fun e W' => ∃ v, e = .returned v ∧ Rows.fnApartOfSpec.post enc Try.prog Try.f3 false true false false W args v W' := by
  have hW' := hW
  obtain ⟨p, q, hA0, hV, rfl, hfz, hnd⟩ := hW
  have hA : DataW.TrodAll enc Try.prog W 0 (fun _ => true) true Try.f3.params.toList args.toList ds p := hA0
  rw [Try.params3] at hA hval
  obtain ⟨v0, vs0, d0, ds0, p0, q0, hargs, rfl, rfl, h0, r0⟩ := trodAll_cons hA
  obtain ⟨rfl, rfl, rfl⟩ := trodAll_nil r0
  obtain rfl : args = #[v0] := by cases args; simp_all
  obtain ⟨rfl, rfl⟩ := trodVars_none hV
  have k0 := h0
  have lt0 : ∀ x ∈ p0, x.block < W.heap.size := by obtain ⟨m, hm⟩ := k0; exact DataW.trod_lt m _ _ _ hm
  obtain ⟨a0, len0, cap0, rfl⟩ := okWide_slice Try.underlying22 (hval 0 22 v0 rfl rfl)
  obtain ⟨z0, x0⟩ : ∃ zs, IsRow .u8 W a0 len0 cap0 zs := by
    obtain ⟨fuel, hf⟩ := h0
    rcases open_ints Try.underlying22 Try.underlying5 (by kernel_rfl) hf with ⟨hcs, _⟩ | ⟨x, l, c, zs, hcs, _, hl, hm, hz, _, hcell, hwz⟩
    · simp [Value.cells] at hcs
      obtain ⟨rfl, rfl, rfl⟩ := hcs
      exact ⟨[], .inl ⟨rfl, rfl, rfl, rfl⟩⟩
    · simp [Value.cells] at hcs
      obtain ⟨rfl, rfl, rfl⟩ := hcs
      exact ⟨zs, .inr ⟨_, rfl, hl, hm, by simpa using hz, hcell, hwz⟩⟩
  clear hA0
  refine (walk a0 len0 cap0 W (row8_of x0)).mono fun e W' ⟨he, bel⟩ => ?_
  subst he
  exact ⟨_, rfl, _, _, _, [], _, [], hW', trodAll_mk1 (shut_bool Try.underlying4 _), (trodAll_cons_mk (Below.trod laidOut (by kernel_rfl) (of_decide_eq_true (by kernel_rfl)) k0 bel lt0) trodAll_mk0), rfl, bel.frame _, fun h => by cases h⟩

set_option maxRecDepth 100000 in
theorem lifted (os : Os) (started : os.Started) (H : Type) (enc : TypeId × Value → H) :
    ReturnsInHanded {} Try.checked os 3 .any (Rows.fnApartOfSpec.pre6 enc Try.prog Try.f3 Rows.fnApartOfRow.domain false) (Rows.fnApartOfSpec.post enc Try.prog Try.f3 false true false false) := by
  refine returnsInHanded_of_change (C := Try.checked) own started (by kernel_rfl) Try.func3
    (ChangeSpec.witness6 (enc := enc) (C := Try.checked) false ⟨#[], #[.slice none 0 0], []⟩ 8 (by kernel_rfl) (by kernel_rfl) (by kernel_rfl) (by kernel_rfl)) ?_
  intro W base args ds gs before hval hW _ _
  exact contract H enc W base args ds gs before hval hW

theorem proved : Rows.FnApartOfSaid :=
  OpenClaim.holds_of_wide 3 Try.f3 rfl rfl rfl rfl rfl rfl rfl ⟨rfl, rfl, rfl, rfl, rfl⟩ rfl rfl rfl rfl rfl (by kernel_rfl) Try.func3 (by kernel_rfl)
    (of_decide_eq_true (by kernel_rfl)) (by unfold Func.isWrapper; first | (rw [if_pos (by decide +kernel)]; kernel_rfl) | (rw [if_neg (by decide +kernel)]; exact ⟨rfl, rfl⟩))
    (fun os started H enc _ => lifted os started H enc)
#print axioms proved
end Go.Proofs.Ytlccmgdmfchmnaa.fnApartOf
