/-
  For every code of bytes the law on StackAbove (the model's answer; after so many are taken, the box is the highest one, and before it is not) returns true and leaves its argument as it was. Conditions: none beyond the form's own reach.
-/
import Derived.Test.YtnjmdfjplmakpaaRows
import Derived.Test.YtnjmdfjplmakpaaLaidOut
import Derived.WalkKit
import Derived.ProofKit
import Derived.OpenShut
import Derived.ShutString
import Derived.ChangeOld
import Derived.Below
import Derived.Test.YtnjmdfjplmakpaaRd
import Derived.Test.YtnjmdfjplmakpaaCrI
import Derived.Test.YtnjmdfjplmakpaaDrSa
import Derived.Test.YtnjmdfjplmakpaaPtI
import Derived.Test.YtnjmdfjplmakpaaPaI
import Derived.Test.YtnjmdfjplmakpaaStA
import Derived.Test.YtnjmdfjplmakpaaMkI
import Derived.Test.YtnjmdfjplmakpaaSkMath
namespace Go.Proofs.Ytnjmdfjplmakpaa.fnStackAbove
open Go.ChangeShapes Go.WideShapes Go.ChangeAt Go.RowKit
open Go.ChangeMaps (open_string shut_string)
set_option linter.unusedVariables false


/-- What the walk is told of a slice of integers that came in. -/
def IsRow (k : IntKind) (w : World) (a : Option Addr) (len cap : Nat) (zs : List Int) : Prop :=
  (a = none ∧ len = 0 ∧ cap = 0 ∧ zs = []) ∨
  ∃ x, a = some x ∧ len ≤ cap ∧ cap ≤ maxLen ∧ zs.length = cap ∧ (∀ i, i < zs.length → w.cell? (x.add i) = some (.int k (zs.getD i 0))) ∧ ∀ n ∈ zs, (Lit.int k n).wf = true

set_option maxHeartbeats 4000000 in
theorem walk (a0 : Option Addr) (len0 cap0 : Nat) (w : World) (w0 : IsRow8 w a0 len0 cap0) :
    Calls Try.prog 6 #[.slice a0 len0 cap0] w fun e w' => e = .returned (.bool true) ∧ Below w.heap.size w w' := by
  obtain ⟨i0, hi, hz0, hz1, hz2⟩ := info_parts infoInt
  have HIF := Lib.hid hi
  have HZ0 := Lib.hid hz0
  have HZ1 := Lib.hid hz1
  have HZ2 := Lib.hid hz2
  clear hi hz0 hz1 hz2
  have hm := row8_len w0
  unfold maxLen at hm
  by_cases hl : len0 ≤ 1048576
  · go_enter Try.func6, Try.ntmps6
    go_wp2_with fail
    refine (drawStackAbove_any a0 len0 cap0 w w0).mono ?_
    rintro e w1 ⟨l, g, cp, x, d, hl11, x0, x6, rfl, hh, hb⟩
    clear w0 x0 x6
    have HH := Lib.hid hh
    have HA := Lib.hid fun w (h : HoldsI w (.slice (some ⟨g, 0, none⟩) l.length cp) l) => implStackAbove_any _ l x d w h
    have HS := Lib.hid fun w (h : HoldsI w (.slice (some ⟨g, 0, none⟩) l.length cp) l) => specStackAbove_any _ l x d w h
    have HV := Lib.hid fun w (h : HoldsI w (.slice (some ⟨g, 0, none⟩) l.length cp) l) => implStackValid_any _ l x w h
    have HN := Lib.hid fun w (h : HoldsI w (.slice (some ⟨g, 0, none⟩) l.length cp) l) => hasInt_any _ l d w h
    clear hh
    rcases aboveS_cases l x d with ⟨e1, hcase⟩ | ⟨h1, k0, hk0, e1, hd, hne⟩
    · rw [e1] at HA HS
      clear e1
      go_wp2_with fail
      refine (HA.out _ HH.out).mono ?_
      rintro e w2 ⟨rfl, b2⟩
      have c2 := hb.trans (b2.mono hb.size)
      go_wp2_with fail
      refine (HS.out _ (HH.out.keep b2)).mono ?_
      rintro e w3 ⟨rfl, b3⟩
      have c3 := c2.trans (b3.mono c2.size)
      have g3 := Lib.hid ((HH.out.keep b2).keep b3)
      clear b2 b3 c2 HA HS
      rcases hcase with h1 | ⟨h1, h2⟩
      · rw [h1] at HV
        clear h1
        go_wp2_with fail
        refine (HV.out _ g3.out).mono ?_
        rintro e w4 ⟨rfl, b4⟩
        have c4 := c3.trans (b4.mono c3.size)
        go_wp2_with fail
        refine (alive_yes _).mono ?_
        rintro e w6 ⟨rfl, rfl⟩
        go_wp2
        go_ret
        exact ⟨rfl, c4⟩
      · rw [h1] at HV
        rw [h2] at HN
        clear h1 h2
        go_wp2_with fail
        refine (HV.out _ g3.out).mono ?_
        rintro e w4 ⟨rfl, b4⟩
        have c4 := c3.trans (b4.mono c3.size)
        go_wp2_with fail
        refine (HN.out _ (g3.out.keep b4)).mono ?_
        rintro e w5 ⟨rfl, rfl⟩
        go_wp2_with fail
        refine (alive_yes _).mono ?_
        rintro e w6 ⟨rfl, rfl⟩
        go_wp2
        go_ret
        exact ⟨rfl, c4⟩
    · obtain ⟨N, hN⟩ : ∃ N, N = l.length - 1 - k0 := ⟨_, rfl⟩
      have e2 : (l.length : Int) - 1 - (k0 : Int) = (N : Int) := by omega
      rw [e1, e2] at HA HS
      have HT := Lib.hid fun v k w (hk : k ≤ N) (h : HoldsI w v (l.take (l.length - k))) => implStackTake_any v (l.take (l.length - k)) x w h
      unfold TakeGivesF at HT
      have HTK := Lib.hid fun k (hk : k ≤ N) => takeS_take h1 (m := l.length - k) (by omega) (by omega)
      have HNE := Lib.hid fun k (hk : k < N) => hne (l.length - k - 1) (by omega) (by omega)
      have HD := Lib.hid (show l.getD (l.length - N - 1) 0 = d by rw [show l.length - N - 1 = k0 by omega]; exact hd)
      have hn11 : N ≤ 11 := by omega
      have hnn : ((N : Int) != (N : Int)) = false := by simp
      have hn0 : ¬ (N : Int) < 0 := by omega
      clear e1 h1 hd hne hN e2 hk0
      go_wp2_with fail
      refine (HA.out _ HH.out).mono ?_
      rintro e w2 ⟨rfl, b2⟩
      have c2 := hb.trans (b2.mono hb.size)
      go_wp2_with fail
      refine (HS.out _ (HH.out.keep b2)).mono ?_
      rintro e w3 ⟨rfl, b3⟩
      have c3 := c2.trans (b3.mono c2.size)
      have h3 := (HH.out.keep b2).keep b3
      have HH3 := Lib.hid (h3.keep ((Below.refl _ _).alloc (Nat.le_refl _) (.cells #[] 3)))
      have own3 : (w3.alloc (.cells #[] 3)).ownsRow w3.heap.size 3 1 (.slice (some ⟨w3.heap.size, 0, none⟩) 0 0) 0 [] := own_empty (Nat.le_refl _) (heap_alloc_new _ _)
      clear b2 b3 c2 HA HS HH HV HN h3
      go_wp2_with (at_builtin; refine wpList_append_own _ rfl _ _ 23 rfl w3.heap.size 3 i0 (.int .i64 0) 1 8 Try.underlying23 HIF.out HZ0.out HZ1.out HZ2.out rfl (by decide) _ 0 [] rfl own3 ⟨g, 0, none⟩ l.length cp (rowI l) rfl (by rw [rowI_len, Nat.mul_one]) (fun j u hu => HoldsI.rowA HH3.out j u hu) (rowI_one l) (by unfold maxLen; omega) (by omega) (by simp) ?_; intro v4 w4 hown4 hgrow4 _)
      simp only [Nat.zero_add, List.nil_append] at hown4
      have hb4 : Below w3.heap.size w3 w4 := ((Below.refl w3.heap.size w3).alloc (Nat.le_refl _) (.cells #[] 3)).trans (own_below (v := .slice (some ⟨w3.heap.size, 0, none⟩) 0 0) hgrow4 (by simp) (fun k hk => (own_lt own3 k hk).1))
      have c4 := c3.trans (hb4.mono c3.size)
      have h4 := (NewI.of_own hown4).holds
      clear hown4 hgrow4 own3 hb4 c3 HH3
      go_loopw [7, 8] (fun v i wr => ∃ (k : Nat) (u : Value), k ≤ N ∧ u = v ∧ i = .int .i64 k ∧ Hid (HoldsI wr u (l.take (l.length - k))) ∧ Below w.heap.size w wr) (fun _ i _ => N - (intOf i).toNat)
      case atStart => exact ⟨0, _, by omega, rfl, rfl, Lib.hid (by rw [Nat.sub_zero, List.take_length]; exact h4), c4⟩
      case round =>
        obtain ⟨k, u, hk, rfl, rfl, HK, hbr⟩ := hrel
        by_cases hlt : k < N
        · have HTv := Lib.hid (HT.out u k wr (by omega) HK.out)
          rw [HTK.out k (by omega)] at HTv
          have hne := HNE.out k hlt
          generalize l.getD (l.length - k - 1) 0 = t at hne HTv
          have b1 : (t == d) = false := by rw [beq_eq_false_iff_ne]; exact hne
          clear hne
          go_wp2_with fail
          refine HTv.out.mono ?_
          rintro e w5 ⟨v5, rfl, f5, b5⟩
          have c5 := hbr.trans (b5.mono hbr.size)
          have H5 := Lib.hid f5.holds
          clear f5 b5
          go_wp2_with fail
          go_roundw
          case rel => exact ⟨k + 1, _, by omega, rfl, by go_num, Lib.hid (by rw [show l.length - (k + 1) = l.length - k - 1 by omega]; exact H5.out), c5⟩
          case measure => simp [intOf]; omega
        · obtain rfl : k = N := by omega
          have HTv := Lib.hid (HT.out u k wr (by omega) HK.out)
          rw [HTK.out k (by omega), HD.out] at HTv
          go_wp2_with fail
          refine HTv.out.mono ?_
          rintro e w5 ⟨v5, rfl, f5, b5⟩
          have c5 := hbr.trans (b5.mono hbr.size)
          clear f5 b5
          go_wp2_with fail
          go_ret
          exact ⟨by simp, c5⟩
  · go_enter Try.func6, Try.ntmps6
    go_wp2
    go_ret
    exact ⟨rfl, Below.refl _ _⟩

/-- What the walk gives, for every argument. -/
theorem contract (H : Type) (enc : TypeId × Value → H) (W : World) (base : Nat) (args : Array Value) (ds gs : List (DataW H)) (before : List MemPlace)
    (hval : ∀ (j : Nat) t v, Try.f6.params[j]? = some t → args[j]? = some v → Value.okWide Try.prog W .any base t v)
    (hW : DataW.Whole enc Try.prog Try.f6.params.toList Rows.fnStackAboveSpec.vars false W args.toList ds gs before) :
    Calls Try.prog 6 args W fun e W' => ∃ v, e = .returned v ∧ Rows.fnStackAboveSpec.post enc Try.prog Try.f6 false true false false W args v W' := by
  have hW' := hW
  obtain ⟨p, q, hA0, hV, rfl, hfz, hnd⟩ := hW
  have hA : DataW.TrodAll enc Try.prog W 0 (fun _ => true) true Try.f6.params.toList args.toList ds p := hA0
  rw [Try.params6] at hA hval
  obtain ⟨v0, vs0, d0, ds0, p0, q0, hargs, rfl, rfl, h0, r0⟩ := trodAll_cons hA
  obtain ⟨rfl, rfl, rfl⟩ := trodAll_nil r0
  obtain rfl : args = #[v0] := by cases args; simp_all
  obtain ⟨rfl, rfl⟩ := trodVars_none hV
  have k0 := h0
  have lt0 : ∀ x ∈ p0, x.block < W.heap.size := by obtain ⟨m, hm⟩ := k0; exact DataW.trod_lt m _ _ _ hm
  obtain ⟨a0, len0, cap0, rfl⟩ := okWide_slice Try.underlying22 (hval 0 22 v0 rfl rfl)
  obtain ⟨z0, x0⟩ : ∃ zs, IsRow .u8 W a0 len0 cap0 zs := by
    obtain ⟨fuel, hf⟩ := h0
    rcases open_ints Try.underlying22 Try.underlying5 (by kernel_rfl) hf with ⟨hcs, _⟩ | ⟨x, l, c, zs, hcs, _, hl, hm, hz, _, hcell, hwz⟩
    · simp [Value.cells] at hcs
      obtain ⟨rfl, rfl, rfl⟩ := hcs
      exact ⟨[], .inl ⟨rfl, rfl, rfl, rfl⟩⟩
    · simp [Value.cells] at hcs
      obtain ⟨rfl, rfl, rfl⟩ := hcs
      exact ⟨zs, .inr ⟨_, rfl, hl, hm, by simpa using hz, hcell, hwz⟩⟩
  clear hA0
  refine (walk a0 len0 cap0 W (row8_of x0)).mono fun e W' ⟨he, bel⟩ => ?_
  subst he
  exact ⟨_, rfl, _, _, _, [], _, [], hW', trodAll_mk1 (shut_bool Try.underlying4 _), (trodAll_cons_mk (Below.trod laidOut (by kernel_rfl) (of_decide_eq_true (by kernel_rfl)) k0 bel lt0) trodAll_mk0), rfl, bel.frame _, fun h => by cases h⟩

set_option maxRecDepth 100000 in
theorem lifted (os : Os) (started : os.Started) (H : Type) (enc : TypeId × Value → H) :
    ReturnsInHanded {} Try.checked os 6 .any (Rows.fnStackAboveSpec.pre6 enc Try.prog Try.f6 Rows.fnStackAboveRow.domain false) (Rows.fnStackAboveSpec.post enc Try.prog Try.f6 false true false false) := by
  refine returnsInHanded_of_change (C := Try.checked) own started (by kernel_rfl) Try.func6
    (ChangeSpec.witness6 (enc := enc) (C := Try.checked) false ⟨#[], #[.slice none 0 0], []⟩ 8 (by kernel_rfl) (by kernel_rfl) (by kernel_rfl) (by kernel_rfl)) ?_
  intro W base args ds gs before hval hW _ _
  exact contract H enc W base args ds gs before hval hW

theorem proved : Rows.FnStackAboveSaid :=
  OpenClaim.holds_of_wide 6 Try.f6 rfl rfl rfl rfl rfl rfl rfl ⟨rfl, rfl, rfl, rfl, rfl⟩ rfl rfl rfl rfl rfl (by kernel_rfl) Try.func6 (by kernel_rfl)
    (of_decide_eq_true (by kernel_rfl)) (by unfold Func.isWrapper; first | (rw [if_pos (by decide +kernel)]; kernel_rfl) | (rw [if_neg (by decide +kernel)]; exact ⟨rfl, rfl⟩))
    (fun os started H enc _ => lifted os started H enc)
#print axioms proved
end Go.Proofs.Ytnjmdfjplmakpaa.fnStackAbove
