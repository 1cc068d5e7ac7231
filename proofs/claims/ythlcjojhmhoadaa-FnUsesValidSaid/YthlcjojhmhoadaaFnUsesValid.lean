/-
  For every code of bytes the law on UsesValid (the model's answer; with an empty list in the first one's place uses are valid, with a plug that there is not they are not) returns true and leaves its argument as it was. Conditions: none beyond the form's own reach.
-/
import Derived.Test.YthlcjojhmhoadaaRows
import Derived.Test.YthlcjojhmhoadaaGBase
import Derived.WalkKit
import Derived.ProofKit
import Derived.OpenShut
import Derived.ShutString
import Derived.ChangeOld
import Derived.Below
import Derived.Test.YthlcjojhmhoadaaGCr
import Derived.Test.YthlcjojhmhoadaaPgE
import Derived.Test.YthlcjojhmhoadaaPgF
import Derived.Test.YthlcjojhmhoadaaPgC
import Derived.Test.YthlcjojhmhoadaaPgT
import Derived.Test.YthlcjojhmhoadaaPgS
import Derived.Test.YthlcjojhmhoadaaPgI
import Derived.Test.YthlcjojhmhoadaaPgN
import Derived.Test.YthlcjojhmhoadaaSkMath
namespace Go.Proofs.Ythlcjojhmhoadaa.fnUsesValid
open Go.ChangeShapes Go.WideShapes Go.ChangeAt Go.RowKit
open Go.ChangeMaps (open_string shut_string)
set_option linter.unusedVariables false


/-- What the walk is told of a slice of integers that came in. -/
def IsRow (k : IntKind) (w : World) (a : Option Addr) (len cap : Nat) (zs : List Int) : Prop :=
  (a = none ∧ len = 0 ∧ cap = 0 ∧ zs = []) ∨
  ∃ x, a = some x ∧ len ≤ cap ∧ cap ≤ maxLen ∧ zs.length = cap ∧ (∀ i, i < zs.length → w.cell? (x.add i) = some (.int k (zs.getD i 0))) ∧ ∀ n ∈ zs, (Lit.int k n).wf = true

set_option maxRecDepth 10000 in
set_option maxHeartbeats 4000000 in
theorem walk (a0 : Option Addr) (len0 cap0 : Nat) (w : World) (w0 : IsRow8 w a0 len0 cap0) :
    Calls Try.prog 3 #[.slice a0 len0 cap0] w fun e w' => e = .returned (.bool true) ∧ Below w.heap.size w w' := by
  have hm := row8_len w0
  unfold maxLen at hm
  by_cases hl : ¬ len0 ≤ 1048576
  · go_enter Try.func3, Try.ntmps3
    go_wp2
    go_ret
    exact ⟨rfl, Below.refl _ _⟩
  · have hl := Nat.not_lt.1 (fun h => hl (Nat.not_le.2 h))
    go_enter Try.func3, Try.ntmps3
    go_wp2_with fail
    obtain ⟨i0, hi, hz0, hz1, hz2⟩ := info_parts infoInt
    have HI := Lib.hid hi
    have HZ0 := Lib.hid hz0
    have HZ1 := Lib.hid hz1
    have HZ2 := Lib.hid hz2
    clear hi hz0 hz1 hz2
    obtain ⟨i1, hi, hz0, hz1, hz2⟩ := info_parts infoRow
    have GI := Lib.hid hi
    have GZ0 := Lib.hid hz0
    have GZ1 := Lib.hid hz1
    have GZ2 := Lib.hid hz2
    clear hi hz0 hz1 hz2
    refine (drawUsesValid_any a0 len0 cap0 w w0).mono ?_
    rintro e w1 ⟨u, ss, hl7, ha6, rfl, NY, hb⟩
    have hY := NY.holds
    obtain ⟨ua, uc, rfl⟩ := NY.form
    have hyl := hY.len
    have YK := Lib.hid fun (w' : World) (hs : Below w1.heap.size w1 w') => hY.keep hs
    have CB := Lib.hid hb
    have HIM := Lib.hid fun (w' : World) (hs : Below w1.heap.size w1 w') => implUsesValid_any (.slice ua ss.length uc) ss w' (hY.keep hs)
    have HSP := Lib.hid fun (w' : World) (hs : Below w1.heap.size w1 w') => specUsesValid_any (.slice ua ss.length uc) ss w' (hY.keep hs)
    clear NY hb ha6 w0
    cases hok : usesOk ss
    · rw [hok] at HIM HSP
      clear hok hY hyl YK
      go_wp2_with fail
      refine (HIM.out w1 (Below.refl _ _)).mono ?_
      rintro e w2 ⟨rfl, d2⟩
      have HSP2 := Lib.hid (HSP.out w2 d2)
      have D2 := Lib.hid d2
      clear HSP d2
      go_wp2_with fail
      refine HSP2.out.mono ?_
      rintro e w3 ⟨rfl, d3⟩
      have D3 := Lib.hid (D2.out.trans (d3.mono D2.out.size))
      clear HSP2 d3 D2
      go_wp2_with fail
      refine (implUsesValid_any _ [] w3 HoldsY.none_).mono ?_
      rintro e w4 ⟨rfl, d4⟩
      rw [usesOk_nil]
      have C9 := CB.out.trans ((D3.out.trans (d4.mono D3.out.size)).mono CB.out.size)
      go_wp2_with fail
      refine (alive_yes _).mono ?_
      rintro e w' ⟨rfl, rfl⟩
      go_wp2_with fail
      go_ret
      exact ⟨rfl, C9⟩
    · cases ss with
      | nil =>
        rw [hok] at HIM HSP
        rw [List.length_nil] at HIM HSP ⊢
        clear hok hY hyl YK
        go_wp2_with fail
        refine (HIM.out w1 (Below.refl _ _)).mono ?_
        rintro e w2 ⟨rfl, d2⟩
        have HSP2 := Lib.hid (HSP.out w2 d2)
        have D2 := Lib.hid d2
        clear HSP d2
        go_wp2_with fail
        refine HSP2.out.mono ?_
        rintro e w3 ⟨rfl, d3⟩
        have D3 := Lib.hid (D2.out.trans (d3.mono D2.out.size))
        clear HSP2 d3 D2
        go_wp2_with fail
        refine (implUsesValid_any _ [] w3 HoldsY.none_).mono ?_
        rintro e w4 ⟨rfl, d4⟩
        rw [usesOk_nil]
        have C9 := CB.out.trans ((D3.out.trans (d4.mono D3.out.size)).mono CB.out.size)
        go_wp2_with fail
        refine (alive_yes _).mono ?_
        rintro e w' ⟨rfl, rfl⟩
        go_wp2_with fail
        go_ret
        exact ⟨rfl, C9⟩
      | cons l0 st =>
        rw [hok] at HIM HSP
        obtain ⟨ub, uo, rfl⟩ : ∃ ub uo, ua = some ⟨ub, uo, none⟩ := by
          obtain ⟨b, off, x, c, e, _⟩ := hY.at_ (k := 0) (by simp)
          exact ⟨b, off, e⟩
        have hls := usesOk_less hok
        have hwr := usesOk_wrong st
        rw [List.length_cons] at HIM HSP YK hl7 hyl ⊢
        have hcap : st.length + 1 ≤ uc ∧ uc ≤ 9223372036854775807 := by omega
        have hne : (((st.length + 1 : Nat) : Int) == 0) = false := by simp; omega
        have i1n : (1 : Int) ≤ ((st.length + 1 : Nat) : Int) := by omega
        have hucn : ¬ uc = 0 := by omega
        have e1 : ((st.length + 1 : Nat) : Int) - 1 = ((st.length : Nat) : Int) := by omega
        clear hok hY hyl
        go_wp2_with fail
        refine (HIM.out w1 (Below.refl _ _)).mono ?_
        rintro e w2 ⟨rfl, d2⟩
        have HSP2 := Lib.hid (HSP.out w2 d2)
        have D2 := Lib.hid d2
        clear HSP d2 HIM
        go_wp2_with fail
        refine HSP2.out.mono ?_
        rintro e w3 ⟨rfl, d3⟩
        have D3 := Lib.hid (D2.out.trans (d3.mono D2.out.size))
        clear HSP2 d3 D2
        by_cases h1c : uc = 1
        · subst h1c
          obtain rfl : st = [] := List.eq_nil_of_length_eq_zero (by omega)
          obtain ⟨us, m1, m2, m3, m4, m5, m6⟩ := HoldsY.more_ (m := 0) (l0 := []) (cells := #[]) (YK.out w3 D3.out) rfl rfl (by omega) ⟨ub, uo, none⟩ (.inr rfl)
          have M1 := Lib.hid m1
          have M2 := Lib.hid m2
          have M3 := Lib.hid m3
          have M4 := Lib.hid m4
          have M5 := Lib.hid m5
          have M6 := Lib.hid m6
          have N0 := Lib.hid fun (v6 : Value) (w6 : World) (hq : HoldsY w6 v6 ([] :: []) ∧ Below w3.heap.size w3 w6) => HoldsY.more_ (m := 1) (l0 := [6]) (cells := #[.int .i64 6]) (YK.out w6 (D3.out.trans (hq.2.mono D3.out.size))) rfl rfl (by omega) ⟨ub, uo, none⟩ (.inr rfl)
          have TOK := Lib.hid trivial
          clear m1 m2 m3 m4 m5 m6
          go_wp2_with (first
            | (at_builtin; have _t := TOK; refine wpList_append_own _ rfl _ _ 23 rfl _ 27 i1 (.slice none 0 0) 1 24 Try.underlying23 GI.out GZ0.out GZ1.out GZ2.out rfl (by decide) _ 1 _ rfl M4.out ⟨ub, uo, none⟩ 0 0 us rfl M1.out M2.out M3.out (by unfold maxLen; omega) (by omega) M5.out ?_; intro v6 w6 ho6 hg6 _; have hq := M6.out v6 w6 ho6 hg6; obtain ⟨us7, n1, n2, n3, n4, n5, n6⟩ := N0.out v6 w6 hq; have N1 := Lib.hid n1; have N2 := Lib.hid n2; have N3 := Lib.hid n3; have N4 := Lib.hid n4; have N5 := Lib.hid n5; have N6 := Lib.hid n6; clear TOK _t ho6 hg6 n1 n2 n3 n4 n5 n6 M1 M2 M3 M4 M5 M6 N0)
            | (at_builtin; refine wpList_append_own _ rfl _ _ 23 rfl _ 27 i1 (.slice none 0 0) 1 24 Try.underlying23 GI.out GZ0.out GZ1.out GZ2.out rfl (by decide) _ 1 _ rfl N4.out ⟨ub, uo, none⟩ 0 0 us7 rfl N1.out N2.out N3.out (by unfold maxLen; omega) (by omega) N5.out ?_; intro v7 w7 ho7 hg7 _; have hq7 := N6.out v7 w7 ho7 hg7; clear ho7 hg7 N1 N2 N3 N4 N5 N6))
          have HM := Lib.hid hq7.1
          have HL7 := Lib.hid (hq.1.keep hq7.2)
          have D6 := D3.out.trans (hq.2.mono D3.out.size)
          have D7 := Lib.hid (D6.trans (hq7.2.mono D6.size))
          clear hq hq7 D6
          refine (implUsesValid_any _ _ w7 HL7.out).mono ?_
          rintro e w8 ⟨rfl, d8⟩
          rw [hls]
          have HM8 := Lib.hid (HM.out.keep d8)
          have D8 := Lib.hid (D7.out.trans (d8.mono D7.out.size))
          clear d8 HM HL7 D7
          go_wp2_with fail
          refine (implUsesValid_any _ _ w8 HM8.out).mono ?_
          rintro e w9 ⟨rfl, d9⟩
          rw [hwr]
          have C9 := CB.out.trans ((D8.out.trans (d9.mono D8.out.size)).mono CB.out.size)
          go_wp2_with fail
          go_ret
          exact ⟨rfl, C9⟩
        · obtain ⟨us, m1, m2, m3, m4, m5, m6⟩ := HoldsY.more_ (m := 0) (l0 := []) (cells := #[]) (YK.out w3 D3.out) rfl rfl (by omega) ⟨ub, uo + 1, none⟩ (.inl rfl)
          have M1 := Lib.hid m1
          have M2 := Lib.hid m2
          have M3 := Lib.hid m3
          have M4 := Lib.hid m4
          have M5 := Lib.hid m5
          have M6 := Lib.hid m6
          have N0 := Lib.hid fun (v6 : Value) (w6 : World) (hq : HoldsY w6 v6 ([] :: st) ∧ Below w3.heap.size w3 w6) => HoldsY.more_ (m := 1) (l0 := [6]) (cells := #[.int .i64 6]) (YK.out w6 (D3.out.trans (hq.2.mono D3.out.size))) rfl rfl (by omega) ⟨ub, uo + 1, none⟩ (.inl rfl)
          have TOK := Lib.hid trivial
          clear m1 m2 m3 m4 m5 m6
          go_wp2_with (first
            | (at_builtin; have _t := TOK; refine wpList_append_own _ rfl _ _ 23 rfl _ 27 i1 (.slice none 0 0) 1 24 Try.underlying23 GI.out GZ0.out GZ1.out GZ2.out rfl (by decide) _ 1 _ rfl M4.out ⟨ub, uo + 1, none⟩ st.length (uc - 1) us rfl M1.out M2.out M3.out (by unfold maxLen; omega) (by omega) M5.out ?_; intro v6 w6 ho6 hg6 _; have hq := M6.out v6 w6 ho6 hg6; obtain ⟨us7, n1, n2, n3, n4, n5, n6⟩ := N0.out v6 w6 hq; have N1 := Lib.hid n1; have N2 := Lib.hid n2; have N3 := Lib.hid n3; have N4 := Lib.hid n4; have N5 := Lib.hid n5; have N6 := Lib.hid n6; clear TOK _t ho6 hg6 n1 n2 n3 n4 n5 n6 M1 M2 M3 M4 M5 M6 N0)
            | (at_builtin; refine wpList_append_own _ rfl _ _ 23 rfl _ 27 i1 (.slice none 0 0) 1 24 Try.underlying23 GI.out GZ0.out GZ1.out GZ2.out rfl (by decide) _ 1 _ rfl N4.out ⟨ub, uo + 1, none⟩ st.length (uc - 1) us7 rfl N1.out N2.out N3.out (by unfold maxLen; omega) (by omega) N5.out ?_; intro v7 w7 ho7 hg7 _; have hq7 := N6.out v7 w7 ho7 hg7; clear ho7 hg7 N1 N2 N3 N4 N5 N6))
          have HM := Lib.hid hq7.1
          have HL7 := Lib.hid (hq.1.keep hq7.2)
          have D6 := D3.out.trans (hq.2.mono D3.out.size)
          have D7 := Lib.hid (D6.trans (hq7.2.mono D6.size))
          clear hq hq7 D6
          refine (implUsesValid_any _ _ w7 HL7.out).mono ?_
          rintro e w8 ⟨rfl, d8⟩
          rw [hls]
          have HM8 := Lib.hid (HM.out.keep d8)
          have D8 := Lib.hid (D7.out.trans (d8.mono D7.out.size))
          clear d8 HM HL7 D7
          go_wp2_with fail
          refine (implUsesValid_any _ _ w8 HM8.out).mono ?_
          rintro e w9 ⟨rfl, d9⟩
          rw [hwr]
          have C9 := CB.out.trans ((D8.out.trans (d9.mono D8.out.size)).mono CB.out.size)
          go_wp2_with fail
          go_ret
          exact ⟨rfl, C9⟩

set_option maxRecDepth 100000 in
set_option maxHeartbeats 2000000 in
/-- What the walk gives, for every argument. -/
theorem contract (H : Type) (enc : TypeId × Value → H) (W : World) (base : Nat) (args : Array Value) (ds gs : List (DataW H)) (before : List MemPlace)
    (hval : ∀ (j : Nat) t v, Try.f3.params[j]? = some t → args[j]? = some v → Value.okWide Try.prog W .any base t v)
    (hW : DataW.Whole enc Try.prog Try.f3.params.toList Rows.fnUsesValidSpec.vars false W args.toList ds gs before) :
    Calls Try.prog 3 args W fun e W' => ∃ v, e = .returned v ∧ Rows.fnUsesValidSpec.post enc Try.prog Try.f3 false true false false W args v W' := by
  have hW' := hW
  obtain ⟨p, q, hA0, hV, rfl, hfz, hnd⟩ := hW
  have hA : DataW.TrodAll enc Try.prog W 0 (fun _ => true) true Try.f3.params.toList args.toList ds p := hA0
  rw [Try.params3] at hA hval
  obtain ⟨v0, vs0, d0, ds0, p0, q0, hargs, rfl, rfl, h0, r0⟩ := trodAll_cons hA
  obtain ⟨rfl, rfl, rfl⟩ := trodAll_nil r0
  obtain rfl : args = #[v0] := by cases args; simp_all
  obtain ⟨rfl, rfl⟩ := trodVars_none hV
  have k0 := h0
  have lt0 : ∀ x ∈ p0, x.block < W.heap.size := by obtain ⟨m, hm⟩ := k0; exact DataW.trod_lt m _ _ _ hm
  obtain ⟨a0, len0, cap0, rfl⟩ := okWide_slice Try.underlying22 (hval 0 22 v0 rfl rfl)
  obtain ⟨z0, x0⟩ : ∃ zs, IsRow .u8 W a0 len0 cap0 zs := by
    obtain ⟨fuel, hf⟩ := h0
    rcases open_ints Try.underlying22 Try.underlying5 (by kernel_rfl) hf with ⟨hcs, _⟩ | ⟨x, l, c, zs, hcs, _, hl, hm, hz, _, hcell, hwz⟩
    · simp [Value.cells] at hcs
      obtain ⟨rfl, rfl, rfl⟩ := hcs
      exact ⟨[], .inl ⟨rfl, rfl, rfl, rfl⟩⟩
    · simp [Value.cells] at hcs
      obtain ⟨rfl, rfl, rfl⟩ := hcs
      exact ⟨zs, .inr ⟨_, rfl, hl, hm, by simpa using hz, hcell, hwz⟩⟩
  clear hA0
  refine (walk a0 len0 cap0 W (row8_of x0)).mono fun e W' ⟨he, bel⟩ => ?_
  subst he
  exact ⟨_, rfl, _, _, _, [], _, [], hW', trodAll_mk1 (shut_bool Try.underlying4 _), (trodAll_cons_mk (Below.trod laidOut (by kernel_rfl) (of_decide_eq_true (by kernel_rfl)) k0 bel lt0) trodAll_mk0), rfl, bel.frame _, fun h => by cases h⟩

set_option maxRecDepth 100000 in
theorem lifted (os : Os) (started : os.Started) (H : Type) (enc : TypeId × Value → H) :
    ReturnsInHanded {} Try.checked os 3 .any (Rows.fnUsesValidSpec.pre6 enc Try.prog Try.f3 Rows.fnUsesValidRow.domain false) (Rows.fnUsesValidSpec.post enc Try.prog Try.f3 false true false false) := by
  refine returnsInHanded_of_change (C := Try.checked) own started (by kernel_rfl) Try.func3
    (ChangeSpec.witness6 (enc := enc) (C := Try.checked) false ⟨#[], #[.slice none 0 0], []⟩ 8 (by kernel_rfl) (by kernel_rfl) (by kernel_rfl) (by kernel_rfl)) ?_
  intro W base args ds gs before hval hW _ _
  exact contract H enc W base args ds gs before hval hW

theorem proved : Rows.FnUsesValidSaid :=
  OpenClaim.holds_of_wide 3 Try.f3 rfl rfl rfl rfl rfl rfl rfl ⟨rfl, rfl, rfl, rfl, rfl⟩ rfl rfl rfl rfl rfl (by kernel_rfl) Try.func3 (by kernel_rfl)
    (of_decide_eq_true (by kernel_rfl)) (by unfold Func.isWrapper; first | (rw [if_pos (by decide +kernel)]; kernel_rfl) | (rw [if_neg (by decide +kernel)]; exact ⟨rfl, rfl⟩))
    (fun os started H enc _ => lifted os started H enc)
#print axioms proved
end Go.Proofs.Ythlcjojhmhoadaa.fnUsesValid
