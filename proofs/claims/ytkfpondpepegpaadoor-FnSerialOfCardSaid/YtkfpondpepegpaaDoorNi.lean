/-
  The contract of the program's NumberOf: it gives what the model's gives, in every world that holds the library's table of powers of ten.
-/
import Derived.Test.YtkfpondpepegpaaDoorNv
import Derived.Test.YtkfpondpepegpaaDoorNiMath
import Derived.Test.YtkfpondpepegpaaDoorNo2
import Derived.Lib.AppendIntMem
namespace Go.Proofs.YtkfpondpepegpaaDoor
open Go.RowKit
set_option linter.unusedVariables false

/-- The library's table stands in a world. -/
def Tab (w : World) : Prop := Lib.TabIs Tryd.prog w "internal/strconv.uint64pow10" .u64 Lib.pow10Tab

theorem Tab.drew {w : World} (h : Tab w) : Tab w.drew := h

theorem var?_keep {P : Program} {W W' : World} {n : String} {cs : Array Value} (hb : Below W.heap.size W W') (hv : W.var? P n = some cs) : W'.var? P n = some cs := by
  unfold World.var? at hv ⊢
  cases hg : P.globalNamed n with
  | none => simp [hg] at hv
  | some g =>
    simp only [hg, Option.bind_some] at hv ⊢
    have hlt : g < W.heap.size := by
      rcases Nat.lt_or_ge g W.heap.size with h' | h'
      · exact h'
      · simp [Array.getElem?_eq_none h'] at hv
    rw [hb.block g hlt]
    exact hv
/-- The table stands in every world in which nothing that was there has turned. -/
theorem Tab.keep {w w' : World} (h : Tab w) (hb : Below w.heap.size w w') : Tab w' := var?_keep hb h

theorem serialDigits_any (m : Int) (w : World) (h0 : 0 ≤ m) (h1 : m ≤ 999999) (ht : Tab w) :
    Calls Tryd.prog 28 #[.int .i64 m] w fun e w' => e = .returned (.string (pad6 m.toNat)) ∧ Below w.heap.size w w' := by
  have hI := Tryd.strconv_Itoa (1000000 + m) (by omega) (by omega) w ht
  rw [itoa_pos (by omega), show (1000000 + m).toNat = 1000000 + m.toNat by omega] at hI
  have hc := Lib.hid (million_cut (m := m.toNat) (by omega))
  obtain ⟨hz1, hz2⟩ := million_size (m := m.toNat) (by omega)
  generalize (⟨(Lib.decDigits (1000000 + m.toNat)).toArray⟩ : ByteArray) = T at hI hc hz1 hz2
  go_enter Tryd.func28, Tryd.ntmps28
  go_wp2_with fail
  refine hI.mono ?_
  rintro e w' ⟨rfl, k, os, rfl⟩
  have hb := Lib.below_grow w.heap.size w (Nat.le_refl _) k os
  generalize Sort.grow (w.drewN k) os = w2 at hb
  go_wp2_with fail
  go_ret
  exact ⟨by rw [← hc.out]; rfl, hb⟩

theorem implNumberOf_bad (o : ByteArray) (k m : Int) (w : World) (hm : o.size ≤ maxLen) (h : ¬ (o.size = 3 ∧ 0 ≤ k ∧ k ≤ 2 ∧ 0 ≤ m ∧ m ≤ 999999)) :
    Calls Tryd.prog 14 #[.string o, .int .i64 k, .int .i64 m] w (Numbered o k m w) := by
  unfold maxLen at hm
  have hn : numS o k m = ⟨#[]⟩ := by
    by_cases h3 : o.size = 3
    · exact numS_out (fun e => h ⟨h3, e⟩)
    · exact numS_owner h3
  unfold Numbered
  rw [hn]
  clear hn
  by_cases h3 : o.size = 3
  · have b1 : ((o.size : Int) != 3) = false := by rw [bne_eq_false_iff_eq]; omega
    by_cases h4 : 0 ≤ k
    · by_cases h5 : k ≤ 2
      · by_cases h6 : 0 ≤ m
        · have h7 : 999999 < m := by omega
          clear h h3
          go_enter Tryd.func14, Tryd.ntmps14
          go_wp2
          go_ret
          exact ⟨rfl, Below.refl _ _⟩
        · clear h h3
          go_enter Tryd.func14, Tryd.ntmps14
          go_wp2
          go_ret
          exact ⟨rfl, Below.refl _ _⟩
      · clear h h3
        go_enter Tryd.func14, Tryd.ntmps14
        go_wp2
        go_ret
        exact ⟨rfl, Below.refl _ _⟩
    · clear h h3
      go_enter Tryd.func14, Tryd.ntmps14
      go_wp2
      go_ret
      exact ⟨rfl, Below.refl _ _⟩
  · have b1 : ((o.size : Int) != 3) = true := by rw [bne_iff_ne]; omega
    clear h h3
    go_enter Tryd.func14, Tryd.ntmps14
    go_wp2
    go_ret
    exact ⟨rfl, Below.refl _ _⟩

set_option maxHeartbeats 2000000 in
theorem implNumberOf_good (o : ByteArray) (k m : Int) (w : World) (h3 : o.size = 3) (h4 : 0 ≤ k) (h5 : k ≤ 2) (h6 : 0 ≤ m) (h7 : m ≤ 999999) (ht : Tab w) :
    Calls Tryd.prog 14 #[.string o, .int .i64 k, .int .i64 m] w (Numbered o k m w) := by
  have b1 : ((o.size : Int) != 3) = false := by rw [bne_eq_false_iff_eq]; omega
  have hks : (kindText.extract k.toNat (k + 1).toNat).size ≤ 1 := by rw [ByteArray.size_extract]; have : kindText.size = 3 := rfl; omega
  have hps := pad6_size (m := m.toNat) (by omega)
  have htz := numText_size (o := o) h4 h5 h6 h7
  have a1 : ∀ w, (Op.stringOp .add o ((⟨#[85, 74, 90]⟩ : ByteArray).extract k.toNat (k + 1).toNat)).run Tryd.prog w = .ok (.string (o ++ (⟨#[85, 74, 90]⟩ : ByteArray).extract k.toNat (k + 1).toNat)) w :=
    fun w => run_string_add w o (kindText.extract k.toNat (k + 1).toNat) (by omega) (by omega)
  have a2 : ∀ w, (Op.stringOp .add (o ++ (⟨#[85, 74, 90]⟩ : ByteArray).extract k.toNat (k + 1).toNat) (pad6 m.toNat)).run Tryd.prog w = .ok (.string (numText o k m)) w :=
    fun w => run_string_add w (o ++ kindText.extract k.toNat (k + 1).toNat) (pad6 m.toNat) (by rw [ByteArray.size_append]; omega) (by omega)
  have hyes := Lib.hid (numS_digS (o := o) (k := k) (m := m) ⟨h4, h5, h6, h7⟩)
  have hno := Lib.hid (numS_none (o := o) (k := k) (m := m))
  have hbd := crS_bd (numText o k m)
  have tz : (numText o k m).size ≤ 100 := by omega
  have hC := fun w => implCheckRest_any (numText o k m) w (by unfold maxLen; omega)
  have HS := Lib.hid fun w (ht : Tab w) => serialDigits_any m w h6 h7 ht
  have HT := Lib.hid ht
  have e1 : IntKind.i64.wrap (k + 1) = k + 1 := IntWalk.i64_in _ (by omega)
  clear h3 hks hps htz ht
  generalize crS (numText o k m) = c at hyes hno hbd hC
  generalize numText o k m = t at hyes a2 tz hC
  generalize pad6 m.toNat = pd at a2 HS
  obtain ⟨hb0, hb1⟩ := hbd
  have HC := Lib.hid hC
  clear hC
  go_enter Tryd.func14, Tryd.ntmps14
  go_wp2_with fail
  go_region_with (go_at_call 28; ((with_reducible refine (HS.out w.drew HT.out.drew).mono ?_); rintro e w2 ⟨rfl, hb⟩))
  all_goals
    have hbw : Below w.heap.size w w2 := ⟨hb.os, hb.tape, hb.output, hb.size, hb.block⟩
    clear hb
  all_goals
    by_cases hc : c < 0
    · have hr := Lib.hid (hno.out hc)
      go_wp2_with (go_at_call 24; refine (HC.out _).mono ?_; rintro e w' ⟨rfl, rfl⟩)
      go_ret
      exact ⟨by rw [hr.out]; rfl, hbw⟩
    · have hc0 : 0 ≤ c := by omega
      have hr := Lib.hid (hyes.out hc0)
      have a3 := fun w => run_string_add (P := Tryd.prog) w t (digS (c % 10)) (by omega) (by show ((1 : Nat) : Int) ≤ 8388608; omega)
      have HD := Lib.hid fun w => checkDigit_any c w hc0 hb1
      clear hc
      go_wp2_with (first | (go_at_call 24; refine (HC.out _).mono ?_; rintro e w' ⟨rfl, rfl⟩) | (go_at_call 25; refine (HD.out _).mono ?_; rintro e w' ⟨rfl, rfl⟩))
      go_ret
      exact ⟨by rw [hr.out]; rfl, hbw⟩

theorem implNumberOf_any (o : ByteArray) (k m : Int) (w : World) (hm : o.size ≤ maxLen) (ht : Tab w) :
    Calls Tryd.prog 14 #[.string o, .int .i64 k, .int .i64 m] w (Numbered o k m w) := by
  by_cases h : o.size = 3 ∧ 0 ≤ k ∧ k ≤ 2 ∧ 0 ≤ m ∧ m ≤ 999999
  · exact implNumberOf_good o k m w h.1 h.2.1 h.2.2.1 h.2.2.2.1 h.2.2.2.2 ht
  · exact implNumberOf_bad o k m w hm h
end Go.Proofs.YtkfpondpepegpaaDoor
