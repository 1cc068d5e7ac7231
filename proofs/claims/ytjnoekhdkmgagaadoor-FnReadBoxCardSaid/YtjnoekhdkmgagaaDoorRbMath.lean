/-
  The text of a valid box tells the box.
-/
import Derived.Test.YtjnoekhdkmgagaaDoorRn
import Derived.Test.YtjnoekhdkmgagaaDoorGBx
namespace Go.Proofs.YtjnoekhdkmgagaaDoor
set_option linter.unusedVariables false

theorem sep_inj (x : UInt8) : ∀ (a a' b b' : List UInt8), x ∉ a → x ∉ a' → a ++ x :: b = a' ++ x :: b' → a = a' ∧ b = b'
  | [], [], b, b', _, _, h => ⟨rfl, by simpa using h⟩
  | [], y :: a', b, b', _, h2, h => by simp at h; exact absurd (by simp [h.1]) h2
  | y :: a, [], b, b', h1, _, h => by simp at h; exact absurd (by simp [h.1]) h1
  | y :: a, z :: a', b, b', h1, h2, h => by
    simp at h h1 h2
    obtain ⟨e1, e2⟩ := sep_inj x a a' b b' h1.2 h2.2 h.2
    exact ⟨by rw [h.1, e1], e2⟩

/-- The digits of a number are digits. -/
theorem dec_digits {n : Int} (h0 : 0 ≤ n) (h1 : n ≤ 999) : ∀ x ∈ (decB n).data.toList, 48 ≤ x.toNat ∧ x.toNat ≤ 57 := by
  intro x hx
  obtain ⟨k, hk, he⟩ := List.getElem_of_mem hx
  have h := (rd_dec h0 h1).1.2.2.2 k (by have e : (decB n).data.toList.length = (decB n).size := Array.length_toList; omega)
  have hb : byteAt (decB n) k = (x.toNat : Int) := by
    unfold byteAt
    rw [List.getD_eq_getElem?_getD, List.getElem?_eq_getElem hk, he]; rfl
  omega
theorem dec_none {n : Int} (h0 : 0 ≤ n) (h1 : n ≤ 999) (c : UInt8) (hc : c.toNat < 48 ∨ 57 < c.toNat) : c ∉ (decB n).data.toList := fun h => by
  have := dec_digits h0 h1 c h
  omega
theorem dec_inj {n m : Int} (n0 : 0 ≤ n) (n1 : n ≤ 999) (m0 : 0 ≤ m) (m1 : m ≤ 999) (h : (decB n).data.toList = (decB m).data.toList) : n = m := by
  have e : decB n = decB m := by
    have : (decB n).data = (decB m).data := by rw [← Array.toArray_toList (xs := (decB n).data), h, Array.toArray_toList]
    cases hn : decB n; cases hm : decB m; simp [hn, hm] at this; rw [this]
  have a := (rd_dec n0 n1).2
  rw [e] at a
  exact a.symm.trans (rd_dec m0 m1).2

/-- The letters of a box's text. -/
theorem bt_list (i g c p : Int) (d : Bool) : (btS i g c p d).data.toList = (decB i).data.toList ++ 58 :: ((decB g).data.toList ++ 47 :: ((decB c).data.toList ++ 47 :: ((decB p).data.toList ++ if d = true then [99] else []))) := by
  cases d <;> simp [btS, bt6, bt5, bt4, bt3, bt2, bt1, ByteArray.data_append]

theorem bt_inj {i g c p i' g' c' p' : Int} {d d' : Bool} (h : bxOk i g c p = true) (h' : bxOk i' g' c' p' = true) (e : btS i g c p d = btS i' g' c' p' d') : i = i' ∧ g = g' ∧ c = c' ∧ p = p' ∧ d = d' := by
  have k := bxOk_yes h
  have k' := bxOk_yes h'
  have e1 := congrArg (fun s : ByteArray => s.data.toList) e
  simp only [bt_list] at e1
  obtain ⟨a1, e2⟩ := sep_inj 58 _ _ _ _ (dec_none (by omega) (by omega) 58 (.inr (by decide))) (dec_none (by omega) (by omega) 58 (.inr (by decide))) e1
  obtain ⟨a2, e3⟩ := sep_inj 47 _ _ _ _ (dec_none (by omega) (by omega) 47 (.inl (by decide))) (dec_none (by omega) (by omega) 47 (.inl (by decide))) e2
  obtain ⟨a3, e4⟩ := sep_inj 47 _ _ _ _ (dec_none (by omega) (by omega) 47 (.inl (by decide))) (dec_none (by omega) (by omega) 47 (.inl (by decide))) e3
  have hd : d = d' ∧ (decB p).data.toList = (decB p').data.toList := by
    cases d <;> cases d'
    · exact ⟨rfl, by simpa using e4⟩
    · have : (99 : UInt8) ∈ (decB p).data.toList := by
        have e5 : (decB p).data.toList = (decB p').data.toList ++ [99] := by simpa using e4
        rw [e5]; simp
      exact absurd this (dec_none (by omega) (by omega) 99 (.inr (by decide)))
    · have : (99 : UInt8) ∈ (decB p').data.toList := by
        have e5 : (decB p').data.toList = (decB p).data.toList ++ [99] := by simpa using e4.symm
        rw [e5]; simp
      exact absurd this (dec_none (by omega) (by omega) 99 (.inr (by decide)))
    · refine ⟨rfl, ?_⟩
      have e5 : (decB p).data.toList ++ [(99 : UInt8)] = (decB p').data.toList ++ [99] := by simpa using e4
      exact List.append_cancel_right e5
  exact ⟨dec_inj (by omega) (by omega) (by omega) (by omega) a1, dec_inj (by omega) (by omega) (by omega) (by omega) a2, dec_inj (by omega) (by omega) (by omega) (by omega) a3, dec_inj (by omega) (by omega) (by omega) (by omega) hd.2, hd.1⟩
/-- The box that a text reads as, and whether it does. -/
def RbIs (s : ByteArray) (b : Bx) (ok : Bool) : Prop :=
  (ok = true ∧ bxOk b.i b.g b.c b.p = true ∧ btS b.i b.g b.c b.p b.d = s) ∨ (ok = false ∧ b = Bx.zero ∧ ∀ i g c p d, bxOk i g c p = true → btS i g c p d ≠ s)
theorem RbIs.same {s : ByteArray} {b b' : Bx} {ok ok' : Bool} (h : RbIs s b ok) (h' : RbIs s b' ok') : b = b' ∧ ok = ok' := by
  rcases h with ⟨h0, h1, h2⟩ | ⟨h0, h1, h2⟩ <;> rcases h' with ⟨k0, k1, k2⟩ | ⟨k0, k1, k2⟩
  · obtain ⟨e1, e2, e3, e4, e5⟩ := bt_inj h1 k1 (h2.trans k2.symm)
    cases b; cases b'
    simp only at e1 e2 e3 e4 e5
    exact ⟨by rw [e1, e2, e3, e4, e5], h0.trans k0.symm⟩
  · exact absurd h2 (k2 _ _ _ _ _ h1)
  · exact absurd k2 (h2 _ _ _ _ _ k1)
  · exact ⟨h1.trans k1.symm, h0.trans k0.symm⟩
theorem RbIs.text {i g c p : Int} {d : Bool} {b : Bx} {ok : Bool} (hv : bxOk i g c p = true) (h : RbIs (btS i g c p d) b ok) : b = ⟨i, g, c, p, d⟩ ∧ ok = true :=
  h.same (b' := ⟨i, g, c, p, d⟩) (.inl ⟨rfl, hv, rfl⟩)
end Go.Proofs.YtjnoekhdkmgagaaDoor
