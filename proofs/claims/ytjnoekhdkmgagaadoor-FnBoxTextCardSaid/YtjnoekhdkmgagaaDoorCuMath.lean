/-
  Plain mathematics: how a text is cut at a byte. Nothing of the program.
-/
import Derived.Lib.IndexLaws
import Derived.Laws.Strings
namespace Go.Proofs.YtjnoekhdkmgagaaDoor
set_option linter.unusedVariables false

/-- How a text is cut at the first of a byte. -/
def CutIs (s : ByteArray) (c : UInt8) (b a : ByteArray) (f : Bool) : Prop :=
  (f = true ∧ s.data.toList = b.data.toList ++ c :: a.data.toList ∧ c ∉ b.data.toList) ∨ (f = false ∧ b = s ∧ a = ⟨#[]⟩ ∧ c ∉ s.data.toList)
/-- How a text's last byte is cut off, if it is the one. -/
def TailIs (s : ByteArray) (c : UInt8) (b : ByteArray) (f : Bool) : Prop :=
  (f = true ∧ s.data.toList = b.data.toList ++ [c]) ∨ (f = false ∧ b = s ∧ ∀ l, s.data.toList ≠ l ++ [c])

theorem ba_len (s : ByteArray) : s.data.toList.length = s.size := Array.length_toList
theorem ba_ext {a b : ByteArray} (h : a.data.toList = b.data.toList) : a = b := by
  cases a; cases b
  simp only at h
  rw [Array.toList_inj.1 h]
theorem cut_sizes {s b a : ByteArray} {c : UInt8} {f : Bool} (h : CutIs s c b a f) : b.size ≤ s.size ∧ a.size ≤ s.size := by
  rcases h with ⟨_, h, _⟩ | ⟨_, rfl, rfl, _⟩
  · have e := congrArg List.length h
    simp only [List.length_append, List.length_cons, ba_len] at e
    omega
  · exact ⟨Nat.le_refl _, Nat.zero_le _⟩
theorem tail_sizes {s b : ByteArray} {c : UInt8} {f : Bool} (h : TailIs s c b f) : b.size ≤ s.size := by
  rcases h with ⟨_, h⟩ | ⟨_, rfl, _⟩
  · have e := congrArg List.length h
    simp only [List.length_append, List.length_cons, List.length_nil, ba_len] at e
    omega
  · exact Nat.le_refl _
theorem ex_to (s : ByteArray) (o : Nat) : (s.extract 0 o).data.toList = s.data.toList.take o := by simp [ByteArray.data_extract]
theorem ex_from (s : ByteArray) (o : Nat) : (s.extract o s.size).data.toList = s.data.toList.drop o := by
  simp only [ByteArray.data_extract, Array.toList_extract]
  rw [List.extract_eq_take_drop]
  apply List.take_of_length_le
  rw [List.length_drop, ba_len]
  omega
theorem cut_at {s : ByteArray} {c : UInt8} {o : Nat} (h : Lib.indexByte s.data.toList c = o) : o < s.size ∧ CutIs s c (s.extract 0 o) (s.extract (o + 1) s.size) true := by
  obtain ⟨h1, h2⟩ := Lib.indexByte_some h
  have ho : o < s.data.toList.length := by
    rcases Nat.lt_or_ge o s.data.toList.length with h' | h'
    · exact h'
    · rw [List.getElem?_eq_none h'] at h1; cases h1
  have hc : s.data.toList[o] = c := by rw [List.getElem?_eq_getElem ho] at h1; exact Option.some.inj h1
  refine ⟨by rw [← ba_len]; exact ho, .inl ⟨rfl, ?_, ?_⟩⟩
  · rw [ex_to, ex_from, ← hc, ← List.drop_eq_getElem_cons ho, List.take_append_drop]
  · rw [ex_to]
    intro hm
    obtain ⟨k, hk, he⟩ := List.getElem_of_mem hm
    have hk' : k < o := by rw [List.length_take] at hk; omega
    refine h2 k hk' ?_
    rw [List.getElem_take] at he
    rw [List.getElem?_eq_getElem (by omega), he]
theorem cut_none {s : ByteArray} {c : UInt8} (h : Lib.indexByte s.data.toList c = -1) : CutIs s c s ⟨#[]⟩ false := by
  refine .inr ⟨rfl, rfl, rfl, fun hm => ?_⟩
  obtain ⟨k, hk, he⟩ := List.getElem_of_mem hm
  exact Lib.indexByte_none h k (by rw [List.getElem?_eq_getElem hk, he])
theorem one_byte {s : ByteArray} (h : s.size = 1) : s = ⟨#[s[0]]⟩ := by
  apply ba_ext
  have hl : s.data.toList.length = 1 := by rw [ba_len]; exact h
  match hs : s.data.toList, hl with
  | [x], _ =>
    have : s[0] = x := by
      have e : s[0] = s.data.toList[0] := rfl
      rw [e]; simp [hs]
    simp [this]
theorem tail_at {s : ByteArray} {c : UInt8} (h : 1 ≤ s.size) (he : s.extract (s.size - 1) s.size = ⟨#[c]⟩) : TailIs s c (s.extract 0 (s.size - 1)) true := by
  refine .inl ⟨rfl, ?_⟩
  have e := congrArg (fun x : ByteArray => x.data.toList) he
  simp only [ex_from] at e
  rw [ex_to]
  have : s.data.toList = s.data.toList.take (s.size - 1) ++ s.data.toList.drop (s.size - 1) := (List.take_append_drop _ _).symm
  rw [e] at this
  exact this
theorem tail_no {s : ByteArray} {c : UInt8} (h : s.extract (s.size - 1) s.size ≠ ⟨#[c]⟩) : TailIs s c s false := by
  refine .inr ⟨rfl, rfl, fun l hl => h (ba_ext ?_)⟩
  rw [ex_from]
  have hs : s.size = l.length + 1 := by rw [← ba_len, hl]; simp
  rw [hl, hs]
  simp
theorem tail_short {s : ByteArray} {c : UInt8} (h : s.size = 0) : TailIs s c s false := by
  refine .inr ⟨rfl, rfl, fun l hl => ?_⟩
  have := congrArg List.length hl
  rw [ba_len, h] at this
  simp at this
end Go.Proofs.YtjnoekhdkmgagaaDoor
