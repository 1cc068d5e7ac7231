/-
  Plain mathematics: when the text ahead of the check digit has the form of ten bytes. Nothing of the program.
-/
import Derived.Test.YtkfpondpepegpaaDoorNoMath
namespace Go.Proofs.YtkfpondpepegpaaDoor
set_option linter.unusedVariables false

def isDig (b : UInt8) : Prop := 48 ≤ b.toNat ∧ b.toNat ≤ 57
def isCap (b : UInt8) : Prop := 65 ≤ b.toNat ∧ b.toNat ≤ 90

theorem ofNat_digit (n : Nat) (h : n < 10) : isDig (UInt8.ofNat (48 + n)) := by
  unfold isDig
  rw [UInt8.toNat_ofNat']
  omega
theorem decDigits_dig : ∀ (f m : Nat), m < 10 ^ (f + 1) → ∀ b ∈ Lib.decDigits m, isDig b
  | 0, m, h, b, hb => by
    rw [Lib.decDigits, dif_pos (by omega)] at hb
    simp only [List.mem_singleton] at hb
    rw [hb]; exact ofNat_digit m (by omega)
  | f + 1, m, h, b, hb => by
    rw [Lib.decDigits] at hb
    split at hb
    · simp only [List.mem_singleton] at hb
      rw [hb]; exact ofNat_digit m (by omega)
    · have h' : m < 10 ^ (f + 1) * 10 := by rw [← Nat.pow_succ]; exact h
      rcases List.mem_append.1 hb with hb | hb
      · exact decDigits_dig f (m / 10) (by omega) b hb
      · simp only [List.mem_singleton] at hb
        rw [hb]; exact ofNat_digit (m % 10) (by omega)
theorem pad6_list (m : Nat) : (pad6 m).data.toList = List.replicate (6 - (Lib.decDigits m).length) 48 ++ Lib.decDigits m := rfl
theorem pad6_dig {m : Nat} (h : m ≤ 999999) : ∀ b ∈ (pad6 m).data.toList, isDig b := by
  intro b hb
  rw [pad6_list] at hb
  rcases List.mem_append.1 hb with hb | hb
  · rw [(List.mem_replicate.1 hb).2]; exact ⟨by decide, by decide⟩
  · exact decDigits_dig 5 m (by omega) b hb

def ujzB (k : Int) : UInt8 := if k = 0 then 85 else if k = 1 then 74 else 90
theorem kind_list {k : Int} (h0 : 0 ≤ k) (h1 : k ≤ 2) : (kindText.extract k.toNat (k + 1).toNat).data.toList = [ujzB k] := by
  obtain rfl | rfl | rfl : k = 0 ∨ k = 1 ∨ k = 2 := by omega
  all_goals rfl
theorem numText_list {o : ByteArray} {k m : Int} (h0 : 0 ≤ k) (h1 : k ≤ 2) : (numText o k m).data.toList = o.data.toList ++ (ujzB k :: (pad6 m.toNat).data.toList) := by
  rw [numText, ByteArray.data_append, ByteArray.data_append, Array.toList_append, Array.toList_append, kind_list h0 h1, List.append_assoc]
  rfl

theorem byteAt_list {s : ByteArray} {l : List UInt8} (h : s.data.toList = l) (k : Nat) (hk : k < l.length) : byteAt s k = (l[k].toNat : Int) := by
  unfold byteAt
  rw [h, List.getD_eq_getElem?_getD, List.getElem?_eq_getElem hk, Option.getD_some]

theorem formB_parts {s : ByteArray} {o d : List UInt8} {x : UInt8} (h : s.data.toList = o ++ (x :: d)) (ho : o.length = 3) (hd : d.length = 6)
    (hcap : ∀ b ∈ o, isCap b) (hx : x.toNat = 85 ∨ x.toNat = 74 ∨ x.toNat = 90) (hdig : ∀ b ∈ d, isDig b) : formB s = true := by
  have hl : (o ++ (x :: d)).length = 10 := by simp [ho, hd]
  apply formB_true
  · have : s.size = s.data.toList.length := by rw [Array.length_toList]; rfl
    rw [this, h, hl]
  · intro k hk
    rw [byteAt_list h k (by omega)]
    unfold fitsB
    apply decide_eq_true
    by_cases hk3 : k < 3
    · left
      rw [List.getElem_append_left (by omega)]
      have := hcap _ (List.getElem_mem (show k < o.length by omega))
      unfold isCap at this
      omega
    · right
      rw [List.getElem_append_right (by omega)]
      by_cases he : k = 3
      · left
        refine ⟨he, ?_⟩
        have e : (x :: d)[k - o.length]'(by simp; omega) = x := by
          have : k - o.length = 0 := by omega
          simp [this]
        rw [e]; omega
      · right
        have e : (x :: d)[k - o.length]'(by simp; omega) = d[k - 4]'(by omega) := by
          have : k - o.length = (k - 4) + 1 := by omega
          simp [this]
        rw [e]
        have := hdig _ (List.getElem_mem (show k - 4 < d.length by omega))
        unfold isDig at this
        omega
theorem ujzB_ok (k : Int) : (ujzB k).toNat = 85 ∨ (ujzB k).toNat = 74 ∨ (ujzB k).toNat = 90 := by
  unfold ujzB; split
  · left; rfl
  · split
    · right; left; rfl
    · right; right; rfl
theorem pad6_len {m : Nat} (h : m ≤ 999999) : (pad6 m).data.toList.length = 6 := by rw [Array.length_toList]; exact pad6_size h

/-- An owner of three capitals, a kind and a serial make ten bytes of the form. -/
theorem formB_numText {o : ByteArray} {k m : Int} (ho : o.data.toList.length = 3) (hcap : ∀ b ∈ o.data.toList, isCap b) (h0 : 0 ≤ k) (h1 : k ≤ 2) (h2 : 0 ≤ m) (h3 : m ≤ 999999) : formB (numText o k m) = true :=
  formB_parts (numText_list h0 h1) ho (pad6_len (by omega)) hcap (ujzB_ok k) (pad6_dig (by omega))
theorem crS_pos {s : ByteArray} (h : formB s = true) : 0 ≤ crS s := by rw [crS_form h]; omega
theorem decDigits_one {n : Nat} (h : n < 10) : Lib.decDigits n = [UInt8.ofNat (48 + n)] := by rw [Lib.decDigits, dif_pos h]

/-- The number has eleven bytes, and its first ten are the text. -/
theorem numS_size {o : ByteArray} {k m : Int} (ho : o.data.toList.length = 3) (hcap : ∀ b ∈ o.data.toList, isCap b) (h0 : 0 ≤ k) (h1 : k ≤ 2) (h2 : 0 ≤ m) (h3 : m ≤ 999999) :
    (numS o k m).size = 11 := by
  have hf := formB_numText (k := k) (m := m) ho hcap h0 h1 h2 h3
  have hc := crS_bd (numText o k m)
  rw [numS_yes ⟨h0, h1, h2, h3⟩ (crS_pos hf), ByteArray.size_append, formB_size hf, decDigits_one (by omega)]
  rfl
end Go.Proofs.YtkfpondpepegpaaDoor
