/-
  For all lists the law on PlugIn's exact answer returns true and leaves its arguments as they were: the program's PlugIn and the model's give the same, the program's writes nothing of its argument, and what it gives is shared with nothing. Conditions: none beyond the form's own reach.
-/
import Derived.Test.YthlcjojhmhoadaaRows
import Derived.Test.YthlcjojhmhoadaaGBase
import Derived.WalkKit
import Derived.ProofKit
import Derived.OpenShut
import Derived.ShutString
import Derived.ChangeOld
import Derived.Below
import Derived.Test.YthlcjojhmhoadaaYbOpen
import Derived.Test.YthlcjojhmhoadaaYlA
import Derived.Test.YthlcjojhmhoadaaGYh
import Derived.Test.YthlcjojhmhoadaaGYl
import Derived.Test.YthlcjojhmhoadaaPgC
import Derived.Test.YthlcjojhmhoadaaPgT
import Derived.Test.YthlcjojhmhoadaaPgS
import Derived.Test.YthlcjojhmhoadaaPgI
namespace Go.Proofs.Ythlcjojhmhoadaa.fnExactPlugIn
open Go.ChangeShapes Go.WideShapes Go.ChangeAt Go.RowKit
open Go.ChangeMaps (open_string shut_string)
set_option linter.unusedVariables false


set_option maxRecDepth 10000 in
set_option maxHeartbeats 4000000 in
theorem walk (u0 : Value) (ss : List (List Int)) (w : World) (w0 : HoldsY w u0 ss) :
    Calls Try.prog 10 #[u0] w fun e w' => e = .returned (.bool true) ∧ Below w.heap.size w w' := by
  have SZ := Lib.hid (szIntSS_any u0 ss 1048576 w w0 (by omega) (by omega))
  have GG := Lib.hid w0
  have hsz : szY 1048576 ss < 0 ∨ 0 ≤ szY 1048576 ss ∧ ss.length + ss.flatten.length ≤ 1048576 := by unfold szY; split <;> omega
  obtain ⟨a0, c0, rfl⟩ : ∃ a c, u0 = .slice a ss.length c := by obtain ⟨a, c, e, _⟩ := w0; exact ⟨a, c, e⟩
  clear w0
  generalize szY 1048576 ss = z at SZ hsz
  rcases hsz with hz | ⟨hz, gn⟩
  · go_enter Try.func10, Try.ntmps10
    go_wp2_with fail
    refine SZ.out.mono ?_
    rintro e w' ⟨rfl, rfl⟩
    go_wp2_with fail
    go_ret
    exact ⟨rfl, Below.refl _ _⟩
  · have GT := Lib.hid fun w1 (b1 : Below w.heap.size w w1) => toIntSS_free (.slice a0 ss.length c0) ss w1 (GG.out.keep b1) gn
    have HS := Lib.hid fun v w1 (g : HoldsY w1 v ss) => specPlugIn_any v ss w1 g
    have HI := Lib.hid fun v w1 (g : HoldsY w1 v ss) => implPlugIn_any v ss w1 g
    have hlen : (plugI ss).length ≤ 1048576 := by have := plugI_len ss; omega
    generalize plugI ss = r at HS HI hlen
    have MY := Lib.hid fun v K B w (hf : FreeY K B w v ss.length (rowAt ss)) => markIntSS_free v K B 1 ss w hf (by omega) (by omega)
    have ME := Lib.hid fun v K w (h : FreeE K w v r) => markIntS_e v K r w h (by omega)
    have HE := Lib.hid fun v w (h : HoldsI w v (marksI 1 r.length)) => heldIntS_1 v r.length w h (by omega)
    have q0 : (0 : Int) ≤ ((1 + ss.flatten.length : Nat) : Int) := by omega
    have q1 : (0 : Int) ≤ ((1 + r.length : Nat) : Int) := by omega
    clear hlen gn
    generalize hQ : ((1 + ss.flatten.length : Nat) : Int) = Q at MY q0
    generalize ((1 + r.length : Nat) : Int) = Y at ME HE q1
    have hY : (Y != Y) = false := by simp
    clear hQ
    go_enter Try.func10, Try.ntmps10
    go_wp2_with fail
    refine SZ.out.mono ?_
    rintro e w' ⟨rfl, rfl⟩
    have C0 := Below.refl w.heap.size w
    go_wp2_with fail
    refine (GT.out w C0).mono ?_
    rintro e X1 ⟨v1, rfl, g1, d1⟩
    obtain ⟨p1, q1_, rfl⟩ := g1.form
    have C1 := C0.trans (d1.mono C0.size)
    have k1 := g1.holdsY
    clear g1 d1 C0
    go_wp2_with fail
    refine (HS.out _ X1 k1).mono ?_
    rintro e X2 ⟨v2, rfl, g2, d2⟩
    have C2 := C1.trans (d2.mono C1.size)
    have hCK := C2.size
    have h2 : HoldsI X2 v2 r := g2
    have H2 := Lib.hid fun w' (hb : Below X2.heap.size X2 w') => h2.keep hb
    obtain ⟨p2, q2_, rfl⟩ := h2.form
    clear g2 h2 d2 k1 C1
    go_wp2_with fail
    refine (GT.out X2 C2).mono ?_
    rintro e X3 ⟨v3, rfl, g3, d3⟩
    obtain ⟨p3, q3, rfl⟩ := g3.form
    have C3 := C2.trans (d3.mono C2.size)
    have D3 := d3
    have hKB := d3.size
    clear d3
    have C4 := C3
    have D4 := D3
    have g4 := g3
    have hBN := Nat.le_refl X3.heap.size
    clear C3 D3 g3
    go_wp2_with fail
    refine (HI.out _ X3 g4.holdsY).mono ?_
    rintro e X5 ⟨v5, rfl, f5, d5⟩
    obtain ⟨p5, q5, rfl⟩ := f5.holds.form
    have C5 := C4.trans (d5.mono C4.size)
    have D5 := D4.trans (d5.mono D4.size)
    have g5 := g4.keep d5
    clear d5 C4 D4 g4
    have hKN := Nat.le_trans hKB hBN
    have hCN := Nat.le_trans hCK hKN
    go_wp2_with fail
    refine (eqIntS_same _ _ r X5 f5.holds (H2.out X5 D5)).mono ?_
    rintro e X6 ⟨rfl, d6⟩
    have C6 := C5.trans (d6.mono C5.size)
    have D6 := D5.trans (d6.mono D5.size)
    have g6 := g5.keep d6
    have f6 := f5.keep d6
    clear d6 C5 D5 g5 f5 
    go_wp2_with fail
    refine (GT.out X6 C6).mono ?_
    rintro e X7 ⟨v7, rfl, u7, d7⟩
    have C7 := C6.trans (d7.mono C6.size)
    have D7 := D6.trans (d7.mono D6.size)
    have g7 := g6.keep d7
    have f7 := f6.keep d7
    have k7 := u7.holdsY
    obtain ⟨p7, q7, rfl⟩ := u7.form
    clear u7 d7 C6 D6 g6 f6
    go_wp2_with fail
    refine (eqIntSS_same _ _ ss X7 g7.holdsY k7).mono ?_
    rintro e X8 ⟨rfl, d8⟩
    have C8 := C7.trans (d8.mono C7.size)
    have D8 := D7.trans (d8.mono D7.size)
    have g8 := g7.keep d8
    have f8 := f7.keep d8
    clear d8 C7 D7 g7 f7 k7
    go_wp2_with fail
    refine (MY.out _ _ _ X8 g8).mono ?_
    rintro e X9 ⟨rfl, -, m⟩
    have b := m.below D8.size
    have C9 := C8.trans (b.mono hCK)
    have D9 := D8.trans b
    have f9 := f8.mid m hBN
    clear b m C8 D8 g8 f8
    go_wp2_with fail
    refine (eqIntS_same _ _ r X9 f9.holds (H2.out X9 D9)).mono ?_
    rintro e X10 ⟨rfl, d10⟩
    have C10 := C9.trans (d10.mono C9.size)
    have D10 := D9.trans (d10.mono D9.size)
    have f10 := f9.keep d10
    clear d10 C9 D9 f9 
    go_wp2_with fail
    refine (ME.out _ _ X10 f10).mono ?_
    rintro e X11 ⟨rfl, m11, b⟩
    have C11 := C10.trans (b.mono hCN)
    have D11 := D10.trans (b.mono hKN)
    clear b C10 D10 f10
    go_wp2_with fail
    refine (HE.out _ X11 m11).mono ?_
    rintro e Xq ⟨rfl, rfl⟩
    go_wp2_with fail
    refine (GT.out X11 C11).mono ?_
    rintro e X12 ⟨v12, rfl, u12, d12⟩
    have C12 := C11.trans (d12.mono C11.size)
    have D12 := D11.trans (d12.mono D11.size)
    have m12 := m11.keep d12
    clear d12 C11 D11 m11 
    obtain ⟨p12, q12, rfl⟩ := u12.form
    have k12 := u12.holdsY
    clear u12
    go_wp2_with fail
    refine (HI.out _ X12 k12).mono ?_
    rintro e X13 ⟨v13, rfl, f13, d13⟩
    have C13 := C12.trans (d13.mono C12.size)
    have D13 := D12.trans (d13.mono D12.size)
    have m13 := m12.keep d13
    clear d13 C12 D12 m12 k12
    obtain ⟨p13, q13, rfl⟩ := f13.holds.form
    go_wp2_with fail
    refine (eqIntS_same _ _ r X13 f13.holds (H2.out X13 D13)).mono ?_
    rintro e X14 ⟨rfl, d14⟩
    have C14 := C13.trans (d14.mono C13.size)
    have D14 := D13.trans (d14.mono D13.size)
    have m14 := m13.keep d14
    clear d14 C13 D13 m13 f13
    go_wp2_with fail
    refine (HE.out _ X14 m14).mono ?_
    rintro e Xr ⟨rfl, rfl⟩
    go_wp2_with fail
    go_ret
    exact ⟨rfl, C14⟩

set_option maxRecDepth 100000 in
set_option maxHeartbeats 2000000 in
/-- What the walk gives, for every argument. -/
theorem contract (H : Type) (enc : TypeId × Value → H) (W : World) (base : Nat) (args : Array Value) (ds gs : List (DataW H)) (before : List MemPlace)
    (hval : ∀ (j : Nat) t v, Try.f10.params[j]? = some t → args[j]? = some v → Value.okWide Try.prog W .any base t v)
    (hW : DataW.Whole enc Try.prog Try.f10.params.toList Rows.fnExactPlugInSpec.vars false W args.toList ds gs before) :
    Calls Try.prog 10 args W fun e W' => ∃ v, e = .returned v ∧ Rows.fnExactPlugInSpec.post enc Try.prog Try.f10 false true false false W args v W' := by
  have hW' := hW
  obtain ⟨p, q, hA0, hV, rfl, hfz, hnd⟩ := hW
  have hA : DataW.TrodAll enc Try.prog W 0 (fun _ => true) true Try.f10.params.toList args.toList ds p := hA0
  rw [Try.params10] at hA hval
  obtain ⟨v0, vs0, d0, ds0, p0, q0, hargs, rfl, rfl, h0, r0⟩ := trodAll_cons hA
  obtain ⟨rfl, rfl, rfl⟩ := trodAll_nil r0
  obtain rfl : args = #[v0] := by cases args; simp_all
  obtain ⟨rfl, rfl⟩ := trodVars_none hV
  have k0 := h0
  have lt0 : ∀ x ∈ p0, x.block < W.heap.size := by obtain ⟨m, hm⟩ := k0; exact DataW.trod_lt m _ _ _ hm
  obtain ⟨a0, len0, cap0, rfl⟩ := okWide_slice Try.underlying23 (hval 0 23 v0 rfl rfl)
  obtain ⟨y0, w0⟩ : ∃ ss, HoldsY W (.slice a0 len0 cap0) ss := by
    obtain ⟨fuel, hf⟩ := h0
    obtain ⟨v9, ss9, e9, hh9⟩ := yard_rows rfl hf
    simp [Value.cells] at e9
    subst e9
    exact ⟨ss9, hh9⟩
  clear hA0
  refine (walk (.slice a0 len0 cap0) y0 W w0).mono fun e W' ⟨he, bel⟩ => ?_
  subst he
  exact ⟨_, rfl, _, _, _, [], _, [], hW', trodAll_mk1 (shut_bool Try.underlying4 _), (trodAll_cons_mk (Below.trod laidOut (by kernel_rfl) (of_decide_eq_true (by kernel_rfl)) k0 bel lt0) trodAll_mk0), rfl, bel.frame _, fun h => by cases h⟩

set_option maxRecDepth 100000 in
theorem lifted (os : Os) (started : os.Started) (H : Type) (enc : TypeId × Value → H) :
    ReturnsInHanded {} Try.checked os 10 .any (Rows.fnExactPlugInSpec.pre6 enc Try.prog Try.f10 Rows.fnExactPlugInRow.domain false) (Rows.fnExactPlugInSpec.post enc Try.prog Try.f10 false true false false) := by
  refine returnsInHanded_of_change (C := Try.checked) own started (by kernel_rfl) Try.func10
    (ChangeSpec.witness6 (enc := enc) (C := Try.checked) false ⟨#[], #[.slice none 0 0], []⟩ 8 (by kernel_rfl) (by kernel_rfl) (by kernel_rfl) (by kernel_rfl)) ?_
  intro W base args ds gs before hval hW _ _
  exact contract H enc W base args ds gs before hval hW

theorem proved : Rows.FnExactPlugInSaid :=
  OpenClaim.holds_of_wide 10 Try.f10 rfl rfl rfl rfl rfl rfl rfl ⟨rfl, rfl, rfl, rfl, rfl⟩ rfl rfl rfl rfl rfl (by kernel_rfl) Try.func10 (by kernel_rfl)
    (of_decide_eq_true (by kernel_rfl)) (by unfold Func.isWrapper; first | (rw [if_pos (by decide +kernel)]; kernel_rfl) | (rw [if_neg (by decide +kernel)]; exact ⟨rfl, rfl⟩))
    (fun os started H enc _ => lifted os started H enc)
#print axioms proved
end Go.Proofs.Ythlcjojhmhoadaa.fnExactPlugIn
