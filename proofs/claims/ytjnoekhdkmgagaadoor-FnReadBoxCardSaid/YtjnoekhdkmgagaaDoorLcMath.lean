/-
  Plain mathematics: a text that is cut at every one of a byte. Nothing of the program.
-/
import Derived.Test.YtjnoekhdkmgagaaDoorCuMath
import Derived.Test.YtjnoekhdkmgagaaDoorRbMath
namespace Go.Proofs.YtjnoekhdkmgagaaDoor
set_option linter.unusedVariables false

/-- All that is cut off ahead of the last part. -/
def flatC (c : UInt8) (l : List ByteArray) : List UInt8 := l.flatMap fun p => p.data.toList ++ [c]
/-- A text is its parts, a byte behind each but the last; no part has the byte. -/
def CutUp (s : ByteArray) (c : UInt8) (done : List ByteArray) (last : ByteArray) : Prop :=
  s.data.toList = flatC c done ++ last.data.toList ∧ (∀ p ∈ done, c ∉ p.data.toList) ∧ c ∉ last.data.toList
/-- How far it is when k bytes are looked at and the part under way begins at g. -/
def CutRel (s : ByteArray) (c : UInt8) (done : List ByteArray) (g k : Nat) : Prop :=
  g ≤ k ∧ k ≤ s.size ∧ s.data.toList.take g = flatC c done ∧ (∀ p ∈ done, c ∉ p.data.toList) ∧ (∀ j, g ≤ j → j < k → s.data.toList[j]? ≠ some c) ∧ done.length ≤ g

theorem flatC_snoc (c : UInt8) (l : List ByteArray) (p : ByteArray) : flatC c (l ++ [p]) = flatC c l ++ (p.data.toList ++ [c]) := by simp [flatC]
theorem ex_mid (s : ByteArray) (g k : Nat) : (s.extract g k).data.toList = (s.data.toList.drop g).take (k - g) := by
  simp only [ByteArray.data_extract, Array.toList_extract]
theorem mid_none {s : ByteArray} {c : UInt8} {g k : Nat} (h : ∀ j, g ≤ j → j < k → s.data.toList[j]? ≠ some c) : c ∉ (s.extract g k).data.toList := by
  rw [ex_mid]
  intro hm
  obtain ⟨i, hi, he⟩ := List.getElem_of_mem hm
  rw [List.length_take] at hi
  rw [List.getElem_take, List.getElem_drop] at he
  have hl : g + i < s.data.toList.length := by have := List.length_drop (i := g) (l := s.data.toList); omega
  exact h (g + i) (by omega) (by omega) (by rw [List.getElem?_eq_getElem hl, he])
theorem CutRel.start (s : ByteArray) (c : UInt8) : CutRel s c [] 0 0 := ⟨Nat.le_refl _, Nat.zero_le _, by simp [flatC], by simp, fun j _ hj => by omega, Nat.le_refl _⟩
theorem CutRel.no {s : ByteArray} {c : UInt8} {done : List ByteArray} {g k : Nat} (h : CutRel s c done g k) (hk : k < s.size) (hc : s[k] ≠ c) : CutRel s c done g (k + 1) := by
  obtain ⟨h1, h2, h3, h4, h5, h6⟩ := h
  refine ⟨by omega, by omega, h3, h4, fun j hg hj => ?_, h6⟩
  by_cases e : j = k
  · subst e
    have hl : j < s.data.toList.length := by rw [ba_len]; exact hk
    rw [List.getElem?_eq_getElem hl]
    intro e
    exact hc (Option.some.inj e)
  · exact h5 j hg (by omega)
theorem CutRel.yes {s : ByteArray} {c : UInt8} {done : List ByteArray} {g k : Nat} (h : CutRel s c done g k) (hk : k < s.size) (hc : s[k] = c) : CutRel s c (done ++ [s.extract g k]) (k + 1) (k + 1) := by
  obtain ⟨h1, h2, h3, h4, h5, h6⟩ := h
  have hl : k < s.data.toList.length := by rw [ba_len]; exact hk
  refine ⟨Nat.le_refl _, by omega, ?_, fun p hp => ?_, fun j hg hj => by omega, by rw [List.length_append, List.length_singleton]; omega⟩
  · rw [flatC_snoc, ← h3, ex_mid, List.take_succ_eq_append_getElem hl]
    have e : s.data.toList[k] = c := hc
    have e2 : s.data.toList.take k = s.data.toList.take g ++ (s.data.toList.drop g).take (k - g) := by
      rw [← List.take_add, show g + (k - g) = k by omega]
    rw [e, e2, List.append_assoc]
  · rcases List.mem_append.1 hp with hp | hp
    · exact h4 p hp
    · rw [List.mem_singleton.1 hp]; exact mid_none h5
theorem CutRel.ends {s : ByteArray} {c : UInt8} {done : List ByteArray} {g : Nat} (h : CutRel s c done g s.size) : CutUp s c done (s.extract g s.size) := by
  obtain ⟨h1, h2, h3, h4, h5, h6⟩ := h
  exact ⟨by rw [ex_from, ← h3, List.take_append_drop], h4, mid_none h5⟩

/-- A text with the byte once has two parts. -/
theorem CutUp.two {s : ByteArray} {c : UInt8} {done : List ByteArray} {last : ByteArray} {x y : List UInt8} (h : CutUp s c done last) (hs : s.data.toList = x ++ c :: y) (hx : c ∉ x) (hy : c ∉ y) :
    ∃ a, done = [a] ∧ a.data.toList = x ∧ last.data.toList = y := by
  obtain ⟨h1, h2, h3⟩ := h
  match done, h2 with
  | [], _ =>
    rw [h1] at hs
    simp [flatC] at hs
    exact absurd (by rw [hs]; simp) h3
  | p :: ds, h2 =>
    have e : flatC c (p :: ds) ++ last.data.toList = p.data.toList ++ c :: (flatC c ds ++ last.data.toList) := by simp [flatC]
    rw [h1, e] at hs
    obtain ⟨e1, e2⟩ := sep_inj c _ _ _ _ (h2 p (by simp)) hx hs
    match ds with
    | [] => exact ⟨p, rfl, e1, by simpa [flatC] using e2⟩
    | q :: qs => exact absurd (by rw [← e2]; simp [flatC]) hy
/-- A text with the byte twice has three parts. -/
theorem CutUp.three {s : ByteArray} {c : UInt8} {done : List ByteArray} {last : ByteArray} {x y z : List UInt8} (h : CutUp s c done last) (hs : s.data.toList = x ++ c :: (y ++ c :: z)) (hx : c ∉ x) (hy : c ∉ y) (hz : c ∉ z) :
    ∃ a b, done = [a, b] ∧ a.data.toList = x ∧ b.data.toList = y ∧ last.data.toList = z := by
  obtain ⟨h1, h2, h3⟩ := h
  match done, h2 with
  | [], _ =>
    rw [h1] at hs
    simp [flatC] at hs
    exact absurd (by rw [hs]; simp) h3
  | p :: ds, h2 =>
    have e : flatC c (p :: ds) ++ last.data.toList = p.data.toList ++ c :: (flatC c ds ++ last.data.toList) := by simp [flatC]
    rw [h1, e] at hs
    obtain ⟨e1, e2⟩ := sep_inj c _ _ _ _ (h2 p (by simp)) hx hs
    have hu : CutUp ⟨(flatC c ds ++ last.data.toList).toArray⟩ c ds last := ⟨rfl, fun q hq => h2 q (by simp [hq]), h3⟩
    obtain ⟨b, rfl, eb, el⟩ := hu.two (by show (flatC c ds ++ last.data.toList).toArray.toList = _; rw [List.toList_toArray, e2]) hy hz
    exact ⟨p, b, rfl, e1, eb, el⟩
end Go.Proofs.YtjnoekhdkmgagaaDoor
