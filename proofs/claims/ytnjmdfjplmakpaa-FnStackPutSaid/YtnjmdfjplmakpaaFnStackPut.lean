/-
  For every code of bytes the law on StackPut (the model's answer; the box is the highest one, and StackTake leads back) returns true and leaves its argument as it was. Conditions: none beyond the form's own reach.
-/
import Derived.Test.YtnjmdfjplmakpaaRows
import Derived.Test.YtnjmdfjplmakpaaLaidOut
import Derived.WalkKit
import Derived.ProofKit
import Derived.OpenShut
import Derived.ShutString
import Derived.ChangeOld
import Derived.Below
import Derived.Test.YtnjmdfjplmakpaaRd
import Derived.Test.YtnjmdfjplmakpaaCrI
import Derived.Test.YtnjmdfjplmakpaaDrSp
import Derived.Test.YtnjmdfjplmakpaaPuI
import Derived.Test.YtnjmdfjplmakpaaPtI
import Derived.Test.YtnjmdfjplmakpaaPaI
import Derived.Test.YtnjmdfjplmakpaaSkMath
namespace Go.Proofs.Ytnjmdfjplmakpaa.fnStackPut
open Go.ChangeShapes Go.WideShapes Go.ChangeAt Go.RowKit
open Go.ChangeMaps (open_string shut_string)
set_option linter.unusedVariables false


/-- What the walk is told of a slice of integers that came in. -/
def IsRow (k : IntKind) (w : World) (a : Option Addr) (len cap : Nat) (zs : List Int) : Prop :=
  (a = none ∧ len = 0 ∧ cap = 0 ∧ zs = []) ∨
  ∃ x, a = some x ∧ len ≤ cap ∧ cap ≤ maxLen ∧ zs.length = cap ∧ (∀ i, i < zs.length → w.cell? (x.add i) = some (.int k (zs.getD i 0))) ∧ ∀ n ∈ zs, (Lit.int k n).wf = true

set_option maxHeartbeats 4000000 in
theorem walk (a0 : Option Addr) (len0 cap0 : Nat) (w : World) (w0 : IsRow8 w a0 len0 cap0) :
    Calls Try.prog 4 #[.slice a0 len0 cap0] w fun e w' => e = .returned (.bool true) ∧ Below w.heap.size w w' := by
  have hm := row8_len w0
  unfold maxLen at hm
  by_cases hl : len0 ≤ 1048576
  · go_enter Try.func4, Try.ntmps4
    go_wp2_with fail
    refine (drawStackPut_any a0 len0 cap0 w w0).mono ?_
    rintro e w1 ⟨l, g, cp, x, d, hl11, x0, x6, rfl, hh, hb⟩
    clear w0 x0 x6
    have HH := Lib.hid hh
    have HI := Lib.hid fun w (h : HoldsI w (.slice (some ⟨g, 0, none⟩) l.length cp) l) => implStackPut_any _ l x d w h
    have HS := Lib.hid fun w (h : HoldsI w (.slice (some ⟨g, 0, none⟩) l.length cp) l) => specStackPut_any _ l x d w h (by intro n c e; simp at e)
    unfold PutGivesF at HI
    unfold PutGives at HS
    clear hh
    rcases putS_cases l x d with ⟨h1, e1⟩ | ⟨h1, h2, e1⟩ | ⟨h1, h2, e1⟩
    · rw [e1] at HI HS
      clear h1 e1
      go_wp2_with fail
      refine (HI.out _ HH.out).mono ?_
      rintro e w2 ⟨v2, rfl, f2, b2⟩
      have c2 := hb.trans (b2.mono hb.size)
      go_wp2_with fail
      refine (HS.out _ (HH.out.keep b2)).mono ?_
      rintro e w3 ⟨v3, rfl, n3, b3⟩
      have c3 := c2.trans (b3.mono c2.size)
      have h3 := Lib.hid (f2.holds.keep b3)
      obtain ⟨a2, p2, rfl, -⟩ := h3.out
      go_wp2_with fail
      refine (sameInts_yes _ _ [] w3 h3.out n3.holds).mono ?_
      rintro e w4 ⟨rfl, b4⟩
      have c4 := c3.trans (b4.mono c3.size)
      have g4 := Lib.hid ((((HH.out.keep b2).keep b3)).keep b4)
      have h4 := Lib.hid (h3.out.keep b4)
      clear f2 n3 b2 b3 b4 c2 c3 h3 HI HS
      by_cases hs : [] = l
      · subst hs
        go_wp2_with fail
        refine (sameInts_yes _ _ [] w4 h4.out g4.out).mono ?_
        rintro e w5 ⟨rfl, b5⟩
        have c5 := c4.trans (b5.mono c4.size)
        go_wp2_with fail
        refine (alive_yes _).mono ?_
        rintro e w6 ⟨rfl, rfl⟩
        go_wp2
        go_ret
        exact ⟨rfl, c5⟩
      · go_wp2_with fail
        refine (sameInts_no _ _ [] l w4 h4.out g4.out hs).mono ?_
        rintro e w5 ⟨rfl, b5⟩
        have c5 := c4.trans (b5.mono c4.size)
        go_wp2_with fail
        refine (alive_yes _).mono ?_
        rintro e w6 ⟨rfl, rfl⟩
        go_wp2
        go_ret
        exact ⟨rfl, c5⟩
    · rw [e1] at HI HS
      clear h1 h2 e1
      go_wp2_with fail
      refine (HI.out _ HH.out).mono ?_
      rintro e w2 ⟨v2, rfl, f2, b2⟩
      have c2 := hb.trans (b2.mono hb.size)
      go_wp2_with fail
      refine (HS.out _ (HH.out.keep b2)).mono ?_
      rintro e w3 ⟨v3, rfl, n3, b3⟩
      have c3 := c2.trans (b3.mono c2.size)
      have h3 := Lib.hid (f2.holds.keep b3)
      go_wp2_with fail
      refine (sameInts_yes _ _ l w3 h3.out n3.holds).mono ?_
      rintro e w4 ⟨rfl, b4⟩
      have c4 := c3.trans (b4.mono c3.size)
      have g4 := Lib.hid ((((HH.out.keep b2).keep b3)).keep b4)
      have h4 := Lib.hid (h3.out.keep b4)
      clear f2 n3 b2 b3 b4 c2 c3 h3 HI HS
      go_wp2_with fail
      refine (sameInts_yes _ _ l w4 h4.out g4.out).mono ?_
      rintro e w5 ⟨rfl, b5⟩
      have c5 := c4.trans (b5.mono c4.size)
      go_wp2_with fail
      refine (alive_yes _).mono ?_
      rintro e w6 ⟨rfl, rfl⟩
      go_wp2
      go_ret
      exact ⟨rfl, c5⟩
    · have HT := Lib.hid fun v w (h : HoldsI w v (l ++ [d])) => implStackTake_any v (l ++ [d]) x w h
      have HV := Lib.hid fun v w (h : HoldsI w v (l ++ [d])) => implStackValid_any v (l ++ [d]) x w h
      have HA := Lib.hid fun v w (h : HoldsI w v (l ++ [d])) => implStackAbove_any v (l ++ [d]) x d w h
      unfold TakeGivesF at HT
      rw [e1] at HI HS
      rw [takeS_app h2] at HT
      rw [h2] at HV
      rw [aboveS_top h2] at HA
      clear h1 h2 e1
      go_wp2_with fail
      refine (HI.out _ HH.out).mono ?_
      rintro e w2 ⟨v2, rfl, f2, b2⟩
      have c2 := hb.trans (b2.mono hb.size)
      go_wp2_with fail
      refine (HS.out _ (HH.out.keep b2)).mono ?_
      rintro e w3 ⟨v3, rfl, n3, b3⟩
      have c3 := c2.trans (b3.mono c2.size)
      have h3 := Lib.hid (f2.holds.keep b3)
      go_wp2_with fail
      refine (sameInts_yes _ _ (l ++ [d]) w3 h3.out n3.holds).mono ?_
      rintro e w4 ⟨rfl, b4⟩
      have c4 := c3.trans (b4.mono c3.size)
      have g4 := Lib.hid ((((HH.out.keep b2).keep b3)).keep b4)
      have h4 := Lib.hid (h3.out.keep b4)
      clear f2 n3 b2 b3 b4 c2 c3 h3 HI HS HH
      go_wp2_with fail
      refine (HT.out v2 w4 h4.out).mono ?_
      rintro e w5 ⟨v5, rfl, f5, b5⟩
      have c5 := c4.trans (b5.mono c4.size)
      have h5 := Lib.hid (h4.out.keep b5)
      have g5 := Lib.hid (g4.out.keep b5)
      clear h4 g4 b5 c4
      go_wp2_with fail
      refine (HV.out v2 w5 h5.out).mono ?_
      rintro e w6 ⟨rfl, b6⟩
      have c6 := c5.trans (b6.mono c5.size)
      have h6 := Lib.hid (h5.out.keep b6)
      have g6 := Lib.hid (g5.out.keep b6)
      have f6 := Lib.hid (f5.holds.keep b6)
      clear h5 g5 f5 b6 c5
      go_wp2_with fail
      refine (sameInts_yes _ _ l w6 f6.out g6.out).mono ?_
      rintro e w7 ⟨rfl, b7⟩
      have c7 := c6.trans (b7.mono c6.size)
      have h7 := Lib.hid (h6.out.keep b7)
      clear h6 g6 f6 b7 c6
      go_wp2_with fail
      refine (HA.out v2 w7 h7.out).mono ?_
      rintro e w8 ⟨rfl, b8⟩
      have c8 := c7.trans (b8.mono c7.size)
      go_wp2
      go_ret
      exact ⟨rfl, c8⟩
  · go_enter Try.func4, Try.ntmps4
    go_wp2
    go_ret
    exact ⟨rfl, Below.refl _ _⟩

/-- What the walk gives, for every argument. -/
theorem contract (H : Type) (enc : TypeId × Value → H) (W : World) (base : Nat) (args : Array Value) (ds gs : List (DataW H)) (before : List MemPlace)
    (hval : ∀ (j : Nat) t v, Try.f4.params[j]? = some t → args[j]? = some v → Value.okWide Try.prog W .any base t v)
    (hW : DataW.Whole enc Try.prog Try.f4.params.toList Rows.fnStackPutSpec.vars false W args.toList ds gs before) :
    Calls Try.prog 4 args W fun e W' => ∃ v, e = .returned v ∧ Rows.fnStackPutSpec.post enc Try.prog Try.f4 false true false false W args v W' := by
  have hW' := hW
  obtain ⟨p, q, hA0, hV, rfl, hfz, hnd⟩ := hW
  have hA : DataW.TrodAll enc Try.prog W 0 (fun _ => true) true Try.f4.params.toList args.toList ds p := hA0
  rw [Try.params4] at hA hval
  obtain ⟨v0, vs0, d0, ds0, p0, q0, hargs, rfl, rfl, h0, r0⟩ := trodAll_cons hA
  obtain ⟨rfl, rfl, rfl⟩ := trodAll_nil r0
  obtain rfl : args = #[v0] := by cases args; simp_all
  obtain ⟨rfl, rfl⟩ := trodVars_none hV
  have k0 := h0
  have lt0 : ∀ x ∈ p0, x.block < W.heap.size := by obtain ⟨m, hm⟩ := k0; exact DataW.trod_lt m _ _ _ hm
  obtain ⟨a0, len0, cap0, rfl⟩ := okWide_slice Try.underlying22 (hval 0 22 v0 rfl rfl)
  obtain ⟨z0, x0⟩ : ∃ zs, IsRow .u8 W a0 len0 cap0 zs := by
    obtain ⟨fuel, hf⟩ := h0
    rcases open_ints Try.underlying22 Try.underlying5 (by kernel_rfl) hf with ⟨hcs, _⟩ | ⟨x, l, c, zs, hcs, _, hl, hm, hz, _, hcell, hwz⟩
    · simp [Value.cells] at hcs
      obtain ⟨rfl, rfl, rfl⟩ := hcs
      exact ⟨[], .inl ⟨rfl, rfl, rfl, rfl⟩⟩
    · simp [Value.cells] at hcs
      obtain ⟨rfl, rfl, rfl⟩ := hcs
      exact ⟨zs, .inr ⟨_, rfl, hl, hm, by simpa using hz, hcell, hwz⟩⟩
  clear hA0
  refine (walk a0 len0 cap0 W (row8_of x0)).mono fun e W' ⟨he, bel⟩ => ?_
  subst he
  exact ⟨_, rfl, _, _, _, [], _, [], hW', trodAll_mk1 (shut_bool Try.underlying4 _), (trodAll_cons_mk (Below.trod laidOut (by kernel_rfl) (of_decide_eq_true (by kernel_rfl)) k0 bel lt0) trodAll_mk0), rfl, bel.frame _, fun h => by cases h⟩

set_option maxRecDepth 100000 in
theorem lifted (os : Os) (started : os.Started) (H : Type) (enc : TypeId × Value → H) :
    ReturnsInHanded {} Try.checked os 4 .any (Rows.fnStackPutSpec.pre6 enc Try.prog Try.f4 Rows.fnStackPutRow.domain false) (Rows.fnStackPutSpec.post enc Try.prog Try.f4 false true false false) := by
  refine returnsInHanded_of_change (C := Try.checked) own started (by kernel_rfl) Try.func4
    (ChangeSpec.witness6 (enc := enc) (C := Try.checked) false ⟨#[], #[.slice none 0 0], []⟩ 8 (by kernel_rfl) (by kernel_rfl) (by kernel_rfl) (by kernel_rfl)) ?_
  intro W base args ds gs before hval hW _ _
  exact contract H enc W base args ds gs before hval hW

theorem proved : Rows.FnStackPutSaid :=
  OpenClaim.holds_of_wide 4 Try.f4 rfl rfl rfl rfl rfl rfl rfl ⟨rfl, rfl, rfl, rfl, rfl⟩ rfl rfl rfl rfl rfl (by kernel_rfl) Try.func4 (by kernel_rfl)
    (of_decide_eq_true (by kernel_rfl)) (by unfold Func.isWrapper; first | (rw [if_pos (by decide +kernel)]; kernel_rfl) | (rw [if_neg (by decide +kernel)]; exact ⟨rfl, rfl⟩))
    (fun os started H enc _ => lifted os started H enc)
#print axioms proved
end Go.Proofs.Ytnjmdfjplmakpaa.fnStackPut
