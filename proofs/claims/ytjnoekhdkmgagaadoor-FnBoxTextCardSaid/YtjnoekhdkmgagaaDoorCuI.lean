/-
  Contracts of strings.Cut and strings.CutSuffix at a separator of one byte.
-/
import Derived.Test.YtjnoekhdkmgagaaDoorGCr
import Derived.Test.YtjnoekhdkmgagaaDoorCuMath
import Derived.Lib.SlicesS
import Derived.Lib.Hide
import Derived.BigQuiet
import Derived.Deep.QuietTactic
import Derived.IntWalk
import Derived.Below
namespace Go.Proofs.YtjnoekhdkmgagaaDoor
open Go.RowKit
set_option linter.unusedVariables false

set_option maxHeartbeats 1000000 in
theorem index_one (s : ByteArray) (c : UInt8) (w : World) (hs : s.size ≤ maxLen) :
    Calls Tryd.prog 42 #[.string s, .string ⟨#[c]⟩] w fun e w' => e = .returned (.int .i64 (Lib.indexByte s.data.toList c)) ∧ w = w' := by
  unfold maxLen at hs
  by_cases hst : ([c] == s.toList) = true
  · have hx : Lib.indexByte s.data.toList c = 0 := by
      rw [← ByteArray.toList_eq, ← eq_of_beq hst]
      simp [Lib.indexByte]
    rw [hx]
    clear hx
    go_enter Tryd.func42, Tryd.ntmps42
    go_wp2_with fail
    go_ret
    exact ⟨rfl, rfl⟩
  · have hst2 : ([c] == s.toList) = false := by simpa using hst
    clear hst
    have HI := Lib.hid fun (w : World) => stringslite_IndexByte s (c.toNat : Int) w
    have e1 : ((c.toNat : Int)).toNat.toUInt8 = c := by simp
    rw [e1] at HI
    clear e1
    go_enter Tryd.func42, Tryd.ntmps42
    go_wp2_with fail
    refine (HI.out _).mono ?_
    rintro e w' ⟨rfl, rfl⟩
    go_wp2_with fail
    go_ret
    exact ⟨rfl, rfl⟩

/-- What a cut gives. -/
def CutGives (s : ByteArray) (c : UInt8) (w : World) (e : Ending) (w' : World) : Prop :=
  ∃ b a f, e = .returned (.tuple #[.string b, .string a, .bool f]) ∧ CutIs s c b a f ∧ Below w.heap.size w w'

set_option maxHeartbeats 1000000 in
theorem lite_Cut (s : ByteArray) (c : UInt8) (w : World) (hs : s.size ≤ maxLen) :
    Calls Tryd.prog 35 #[.string s, .string ⟨#[c]⟩] w (CutGives s c w) := by
  have HI := Lib.hid fun (w : World) => index_one s c w hs
  unfold maxLen at hs
  have hge := Lib.indexByte_ge s.data.toList c
  by_cases hn : Lib.indexByte s.data.toList c < 0
  · have hx : Lib.indexByte s.data.toList c = -1 := by omega
    have hc := Lib.hid (cut_none hx)
    rw [hx] at HI
    clear hx hge hn
    go_enter Tryd.func35, Tryd.ntmps35
    go_wp2_with fail
    refine (HI.out _).mono ?_
    rintro e w' ⟨rfl, rfl⟩
    go_wp2_with fail
    go_ret3
    exact ⟨_, _, _, rfl, hc.out, Below.refl _ _⟩
  · obtain ⟨o, ho⟩ := Int.eq_ofNat_of_zero_le (show 0 ≤ Lib.indexByte s.data.toList c by omega)
    obtain ⟨h1, h2⟩ := cut_at ho
    have hc := Lib.hid h2
    rw [ho] at HI
    have e0 : (0 : Int) ≤ (o : Int) := by omega
    have e1 : (o : Int) ≤ (s.size : Int) := by omega
    have e2 : IntKind.i64.wrap ((o : Int) + 1) = (o : Int) + 1 := IntWalk.i64_in _ (by omega)
    have e3 : (0 : Int) ≤ (o : Int) + 1 := by omega
    have e4 : (o : Int) + 1 ≤ (s.size : Int) := by omega
    have e5 : ((o : Int) + 1).toNat = o + 1 := by omega
    clear ho hge hn h2
    go_enter Tryd.func35, Tryd.ntmps35
    go_wp2_with fail
    refine (HI.out _).mono ?_
    rintro e w' ⟨rfl, rfl⟩
    go_wp2_with fail
    go_quiet (fail)
    clear e2 e5
    go_wp2_with fail
    go_ret3
    exact ⟨_, _, _, rfl, hc.out, ⟨rfl, rfl, rfl, Nat.le_refl _, fun _ _ => rfl⟩⟩

theorem strings_Cut_one (s : ByteArray) (c : UInt8) (w : World) (hs : s.size ≤ maxLen) :
    Calls Tryd.prog 25 #[.string s, .string ⟨#[c]⟩] w (CutGives s c w) := by
  have HI := Lib.hid fun (w : World) => lite_Cut s c w hs
  clear hs
  go_enter Tryd.func25, Tryd.ntmps25
  go_wp2_with fail
  refine (HI.out _).mono ?_
  rintro e w' ⟨b, a, f, rfl, hc, hb⟩
  have HC := Lib.hid hc
  clear hc
  go_wp2_with fail
  go_ret3
  exact ⟨_, _, _, rfl, HC.out, hb⟩

/-- What cutting off the last byte gives. -/
def TailGives (s : ByteArray) (c : UInt8) (w : World) (e : Ending) (w' : World) : Prop :=
  ∃ b f, e = .returned (.tuple #[.string b, .bool f]) ∧ TailIs s c b f ∧ w = w'

set_option maxHeartbeats 1000000 in
theorem lite_CutSuffix (s : ByteArray) (c : UInt8) (w : World) (hs : s.size ≤ maxLen) :
    Calls Tryd.prog 36 #[.string s, .string ⟨#[c]⟩] w (TailGives s c w) := by
  unfold maxLen at hs
  by_cases h0 : s.size = 0
  · have hc := Lib.hid (tail_short (c := c) h0)
    have h1 : (1 : Int) ≤ (s.size : Int) ↔ False := by simp; omega
    have h2 : s.size < 1 := by omega
    clear h0
    go_enter Tryd.func36, Tryd.ntmps36
    go_wp2
    go_ret2
    exact ⟨_, _, rfl, hc.out, rfl⟩
  · have h1 : 1 ≤ s.size := by omega
    by_cases he : s.extract (s.size - 1) s.size = ⟨#[c]⟩
    · have hc := Lib.hid (tail_at h1 he)
      have hb : ((s.extract (s.size - 1) s.size).toList == [c]) = true := by rw [he, ByteArray.toList_eq]; simp
      clear he h0
      go_enter Tryd.func36, Tryd.ntmps36
      go_wp2
      go_ret2
      exact ⟨_, _, rfl, hc.out, rfl⟩
    · have hc := Lib.hid (tail_no he)
      have hb : ((s.extract (s.size - 1) s.size).toList == [c]) = false := by
        rw [ByteArray.toList_eq, beq_eq_false_iff_ne]
        exact fun e => he (ba_ext e)
      clear he h0
      go_enter Tryd.func36, Tryd.ntmps36
      go_wp2
      go_ret2
      exact ⟨_, _, rfl, hc.out, rfl⟩

theorem strings_CutSuffix_one (s : ByteArray) (c : UInt8) (w : World) (hs : s.size ≤ maxLen) :
    Calls Tryd.prog 26 #[.string s, .string ⟨#[c]⟩] w (TailGives s c w) := by
  have HI := Lib.hid fun (w : World) => lite_CutSuffix s c w hs
  clear hs
  go_enter Tryd.func26, Tryd.ntmps26
  go_wp2_with fail
  refine (HI.out _).mono ?_
  rintro e w' ⟨b, f, rfl, hc, rfl⟩
  have HC := Lib.hid hc
  clear hc
  go_wp2_with fail
  go_ret2
  exact ⟨_, _, rfl, HC.out, rfl⟩
end Go.Proofs.YtjnoekhdkmgagaaDoor
