/-
  For every slice of ids and every height the law on StackTake's exact answer returns true and leaves its arguments as they were: the program's StackTake and the model's give the same, the program's writes nothing of its arguments, and what it gives is shared with nothing. Conditions: none beyond the form's own reach.
-/
import Derived.Test.YtnjmdfjplmakpaaRows
import Derived.Test.YtnjmdfjplmakpaaLaidOut
import Derived.WalkKit
import Derived.ProofKit
import Derived.OpenShut
import Derived.ShutString
import Derived.ChangeOld
import Derived.Below
import Derived.Test.YtnjmdfjplmakpaaRowI
import Derived.Test.YtnjmdfjplmakpaaPtI
import Derived.Test.YtnjmdfjplmakpaaMkI
import Derived.Test.YtnjmdfjplmakpaaStP
namespace Go.Proofs.Ytnjmdfjplmakpaa.fnExactStackTake
open Go.ChangeShapes Go.WideShapes Go.ChangeAt Go.RowKit
open Go.ChangeMaps (open_string shut_string)
set_option linter.unusedVariables false


/-- What the walk is told of a slice of integers that came in. -/
def IsRow (k : IntKind) (w : World) (a : Option Addr) (len cap : Nat) (zs : List Int) : Prop :=
  (a = none ∧ len = 0 ∧ cap = 0 ∧ zs = []) ∨
  ∃ x, a = some x ∧ len ≤ cap ∧ cap ≤ maxLen ∧ zs.length = cap ∧ (∀ i, i < zs.length → w.cell? (x.add i) = some (.int k (zs.getD i 0))) ∧ ∀ n ∈ zs, (Lit.int k n).wf = true

set_option maxHeartbeats 4000000 in
theorem walk (a0 : Option Addr) (len0 cap0 : Nat) (z0 : List Int) (a1 : Int) (w : World) (w0 : IsRowI w a0 len0 cap0 z0) (w1 : (Lit.int .i64 a1).wf = true) :
    Calls Try.prog 9 #[.slice a0 len0 cap0, .int .i64 a1] w fun e w' => e = .returned (.bool true) ∧ Below w.heap.size w w' := by
  obtain ⟨gg, gl⟩ := HoldsI.of_came w0
  generalize z0.take len0 = l at gg gl
  have gm : len0 ≤ maxLen := by obtain ⟨_, cap, h1, h2, h3, _⟩ := gg; omega
  unfold maxLen at gm
  have GG := Lib.hid gg
  clear w0 w1 gg
  by_cases gn : len0 ≤ 1048576
  · have GT := Lib.hid fun w1 (b1 : Below w.heap.size w w1) => toIntS_free (.slice a0 len0 cap0) l w1 (GG.out.keep b1) (by omega)
    have HS := Lib.hid fun v w1 (g : HoldsI w1 v l) => specStackTake_any v l a1 w1 g
    have HI := Lib.hid fun v w1 (g : HoldsI w1 v l) => implStackTake_any v l a1 w1 g
    have hlen : (takeS l a1).1.length ≤ 1048577 := by have := takeS_len (l := l) (high := a1); omega
    unfold TakeGives at HS
    unfold TakeGivesF at HI
    generalize (takeS l a1).1 = r at HS HI hlen
    generalize (takeS l a1).2 = ok at HS HI
    have hok : (ok != ok) = false := by simp
    have MA := Lib.hid fun v g w (h : FreeAt g w v l) => markIntS_at v l.length g l w rfl h (by omega)
    have ME := Lib.hid fun v K w (h : FreeE K w v r) => markIntS_e v K r w h (by omega)
    have HE := Lib.hid fun v w (h : HoldsI w v (marksI 1 r.length)) => heldIntS_1 v r.length w h (by omega)
    have x0 : (0 : Int) ≤ ((1 + l.length : Nat) : Int) := by omega
    have y0 : (0 : Int) ≤ ((1 + r.length : Nat) : Int) := by omega
    clear hlen gl
    generalize ((1 + l.length : Nat) : Int) = X at MA x0
    generalize ((1 + r.length : Nat) : Int) = Y at ME HE y0
    have hY : (Y != Y) = false := by simp
    go_enter Try.func9, Try.ntmps9
    go_wp2_with fail
    refine (GT.out w (Below.refl _ _)).mono ?_
    rintro e w1 ⟨v1, rfl, g1, c1⟩
    go_wp2_with fail
    refine (HS.out v1 w1 g1.holds).mono ?_
    rintro e w2 ⟨v2, rfl, g2, b2⟩
    have c2 := c1.trans (b2.mono c1.size)
    go_wp2_with fail
    refine (GT.out w2 c2).mono ?_
    rintro e w3 ⟨v3, rfl, g3, b3⟩
    have c3 := c2.trans (b3.mono c2.size)
    have c2s : w.heap.size ≤ w2.heap.size := c2.size
    have H2 := Lib.hid fun w' (h : Below w2.heap.size w2 w') => g2.holds.keep h
    obtain ⟨G, hG, g3⟩ := g3.at_
    have hGlt := g3.lt
    clear g1 g2
    go_wp2_with fail
    refine (HI.out v3 w3 g3.free.holds).mono ?_
    rintro e w4 ⟨v4, rfl, g4, b4⟩
    have c4 := c3.trans (b4.mono c3.size)
    have d4 := b3.trans (b4.mono b3.size)
    have g3 := g3.keep b4
    go_wp2_with fail
    refine (eqIntS_same v4 v2 r w4 g4.holds (H2.out _ d4)).mono ?_
    rintro e w5 ⟨rfl, b5⟩
    have c5 := c4.trans (b5.mono c4.size)
    have d5 := d4.trans (b5.mono d4.size)
    have g3 := g3.keep b5
    have g4 := g4.keep b5
    go_wp2_with fail
    refine (GT.out w5 c5).mono ?_
    rintro e w6 ⟨v6, rfl, g6, b6⟩
    have c6 := c5.trans (b6.mono c5.size)
    have d6 := d5.trans (b6.mono d5.size)
    have g3 := g3.keep b6
    have g4 := g4.keep b6
    go_wp2_with fail
    refine (eqIntS_same v3 v6 l w6 g3.free.holds g6.holds).mono ?_
    rintro e w7 ⟨rfl, b7⟩
    have c7 := c6.trans (b7.mono c6.size)
    have d7 := d6.trans (b7.mono d6.size)
    have g3 := g3.keep b7
    have g4 := g4.keep b7
    clear g6 b2 b4 b5 b6 b7 c1 c2 c3 c4 c5 c6 d4 d5 d6
    go_wp2_with fail
    refine (MA.out v3 G w7 g3).mono ?_
    rintro e w8 ⟨rfl, g3', m8⟩
    have d8 := d7.trans (m8.under hG d7.size)
    have hwG : w.heap.size ≤ G := Nat.le_trans c2s hG
    have c8 := c7.trans (m8.under hwG c7.size)
    have g4 := g4.most m8 hGlt
    clear g3 g3' m8
    go_wp2_with fail
    refine (eqIntS_same v4 v2 r w8 g4.holds (H2.out _ d8)).mono ?_
    rintro e w9 ⟨rfl, b9⟩
    have c9 := c8.trans (b9.mono c8.size)
    have d9 := d8.trans (b9.mono d8.size)
    have g4 := g4.keep b9
    go_wp2_with fail
    refine (ME.out v4 _ w9 g4).mono ?_
    rintro e w10 ⟨rfl, m4, b10⟩
    have h23 : w2.heap.size ≤ w3.heap.size := b3.size
    have c10 := c9.trans (b10.mono (Nat.le_trans c2s h23))
    have d10 := d9.trans (b10.mono h23)
    clear g4 b9 b10
    go_wp2_with fail
    refine (HE.out v4 w10 m4).mono ?_
    rintro e w11 ⟨rfl, rfl⟩
    go_wp2_with fail
    refine (GT.out w10 c10).mono ?_
    rintro e w12 ⟨v12, rfl, g12, b12⟩
    have c12 := c10.trans (b12.mono c10.size)
    have d12 := d10.trans (b12.mono d10.size)
    have m4 := m4.keep b12
    go_wp2_with fail
    refine (HI.out v12 w12 g12.holds).mono ?_
    rintro e w13 ⟨v13, rfl, g13, b13⟩
    have c13 := c12.trans (b13.mono c12.size)
    have d13 := d12.trans (b13.mono d12.size)
    have m4 := m4.keep b13
    go_wp2_with fail
    refine (eqIntS_same v13 v2 r w13 g13.holds (H2.out _ d13)).mono ?_
    rintro e w14 ⟨rfl, b14⟩
    have c14 := c13.trans (b14.mono c13.size)
    have m4 := m4.keep b14
    clear g12 g13 b12 b13 b14 d12 d13 c12 c13
    go_wp2_with fail
    refine (HE.out v4 w14 m4).mono ?_
    rintro e w15 ⟨rfl, rfl⟩
    go_wp2_with fail
    go_ret
    exact ⟨rfl, c14⟩
  · go_enter Try.func9, Try.ntmps9
    go_wp2
    go_ret
    exact ⟨rfl, Below.refl _ _⟩

/-- What the walk gives, for every argument. -/
theorem contract (H : Type) (enc : TypeId × Value → H) (W : World) (base : Nat) (args : Array Value) (ds gs : List (DataW H)) (before : List MemPlace)
    (hval : ∀ (j : Nat) t v, Try.f9.params[j]? = some t → args[j]? = some v → Value.okWide Try.prog W .any base t v)
    (hW : DataW.Whole enc Try.prog Try.f9.params.toList Rows.fnExactStackTakeSpec.vars false W args.toList ds gs before) :
    Calls Try.prog 9 args W fun e W' => ∃ v, e = .returned v ∧ Rows.fnExactStackTakeSpec.post enc Try.prog Try.f9 false true false false W args v W' := by
  have hW' := hW
  obtain ⟨p, q, hA0, hV, rfl, hfz, hnd⟩ := hW
  have hA : DataW.TrodAll enc Try.prog W 0 (fun _ => true) true Try.f9.params.toList args.toList ds p := hA0
  rw [Try.params9] at hA hval
  obtain ⟨v0, vs0, d0, ds0, p0, q0, hargs, rfl, rfl, h0, r0⟩ := trodAll_cons hA
  obtain ⟨v1, vs1, d1, ds1, p1, q1, rfl, rfl, rfl, h1, r1⟩ := trodAll_cons r0
  obtain ⟨rfl, rfl, rfl⟩ := trodAll_nil r1
  obtain rfl : args = #[v0, v1] := by cases args; simp_all
  obtain ⟨rfl, rfl⟩ := trodVars_none hV
  have k0 := h0
  have lt0 : ∀ x ∈ p0, x.block < W.heap.size := by obtain ⟨m, hm⟩ := k0; exact DataW.trod_lt m _ _ _ hm
  obtain ⟨a0, len0, cap0, rfl⟩ := okWide_slice Try.underlying23 (hval 0 23 v0 rfl rfl)
  obtain ⟨z0, x0⟩ : ∃ zs, IsRow .i64 W a0 len0 cap0 zs := by
    obtain ⟨fuel, hf⟩ := h0
    rcases open_ints Try.underlying23 Try.underlying3 (by kernel_rfl) hf with ⟨hcs, _⟩ | ⟨x, l, c, zs, hcs, _, hl, hm, hz, _, hcell, hwz⟩
    · simp [Value.cells] at hcs
      obtain ⟨rfl, rfl, rfl⟩ := hcs
      exact ⟨[], .inl ⟨rfl, rfl, rfl, rfl⟩⟩
    · simp [Value.cells] at hcs
      obtain ⟨rfl, rfl, rfl⟩ := hcs
      exact ⟨zs, .inr ⟨_, rfl, hl, hm, by simpa using hz, hcell, hwz⟩⟩
  have k1 := h1
  have lt1 : ∀ x ∈ p1, x.block < W.heap.size := by obtain ⟨m, hm⟩ := k1; exact DataW.trod_lt m _ _ _ hm
  obtain ⟨a1, rfl, -, -, w1⟩ := open_int Try.underlying3 (hval 1 3 v1 rfl rfl) h1
  clear hA0
  refine (walk a0 len0 cap0 z0 a1 W x0 w1).mono fun e W' ⟨he, bel⟩ => ?_
  subst he
  exact ⟨_, rfl, _, _, _, [], _, [], hW', trodAll_mk1 (shut_bool Try.underlying4 _), (trodAll_cons_mk (Below.trod laidOut (by kernel_rfl) (of_decide_eq_true (by kernel_rfl)) k0 bel lt0) (trodAll_cons_mk (Below.trod laidOut (by kernel_rfl) (of_decide_eq_true (by kernel_rfl)) k1 bel lt1) trodAll_mk0)), rfl, bel.frame _, fun h => by cases h⟩

set_option maxRecDepth 100000 in
theorem lifted (os : Os) (started : os.Started) (H : Type) (enc : TypeId × Value → H) :
    ReturnsInHanded {} Try.checked os 9 .any (Rows.fnExactStackTakeSpec.pre6 enc Try.prog Try.f9 Rows.fnExactStackTakeRow.domain false) (Rows.fnExactStackTakeSpec.post enc Try.prog Try.f9 false true false false) := by
  refine returnsInHanded_of_change (C := Try.checked) own started (by kernel_rfl) Try.func9
    (ChangeSpec.witness6 (enc := enc) (C := Try.checked) false ⟨#[], #[.slice none 0 0, .int .i64 0], []⟩ 8 (by kernel_rfl) (by kernel_rfl) (by kernel_rfl) (by kernel_rfl)) ?_
  intro W base args ds gs before hval hW _ _
  exact contract H enc W base args ds gs before hval hW

theorem proved : Rows.FnExactStackTakeSaid :=
  OpenClaim.holds_of_wide 9 Try.f9 rfl rfl rfl rfl rfl rfl rfl ⟨rfl, rfl, rfl, rfl, rfl⟩ rfl rfl rfl rfl rfl (by kernel_rfl) Try.func9 (by kernel_rfl)
    (of_decide_eq_true (by kernel_rfl)) (by unfold Func.isWrapper; first | (rw [if_pos (by decide +kernel)]; kernel_rfl) | (rw [if_neg (by decide +kernel)]; exact ⟨rfl, rfl⟩))
    (fun os started H enc _ => lifted os started H enc)
#print axioms proved
end Go.Proofs.Ytnjmdfjplmakpaa.fnExactStackTake
