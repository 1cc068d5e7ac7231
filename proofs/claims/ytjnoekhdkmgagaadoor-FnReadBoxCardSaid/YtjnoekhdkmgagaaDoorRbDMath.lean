/-
  Plain mathematics: a box's text with a slash behind it is no box's text. Nothing of the program.
-/
import Derived.Test.YtjnoekhdkmgagaaDoorRbMath
import Derived.Test.YtjnoekhdkmgagaaDoorGNo
namespace Go.Proofs.YtjnoekhdkmgagaaDoor
set_option linter.unusedVariables false

theorem count_slash {i g c p : Int} {d : Bool} (h : bxOk i g c p = true) : (btS i g c p d).data.toList.count 47 = 2 := by
  have k := bxOk_yes h
  have n1 := List.count_eq_zero.2 (dec_none (n := i) (by omega) (by omega) 47 (.inl (by decide)))
  have n2 := List.count_eq_zero.2 (dec_none (n := g) (by omega) (by omega) 47 (.inl (by decide)))
  have n3 := List.count_eq_zero.2 (dec_none (n := c) (by omega) (by omega) 47 (.inl (by decide)))
  have n4 := List.count_eq_zero.2 (dec_none (n := p) (by omega) (by omega) 47 (.inl (by decide)))
  rw [bt_list]
  cases d <;> simp [List.count_append, n1, n2, n3, n4]
theorem slash_none {s : ByteArray} {b b' : Bx} {ok : Bool} (h : RbIs s b true) (h' : RbIs (s ++ ⟨#[47]⟩) b' ok) : ok = false := by
  rcases h' with ⟨h0, h1, h2⟩ | ⟨h0, _⟩
  · exfalso
    rcases h with ⟨_, k1, k2⟩ | ⟨k0, _⟩
    · have e := congrArg (fun s : ByteArray => s.data.toList.count 47) h2
      simp only [ByteArray.data_append, Array.toList_append, List.count_append] at e
      rw [count_slash h1, ← k2, count_slash k1] at e
      simp at e
    · cases k0
  · exact h0
theorem rb_valid {s : ByteArray} {b : Bx} (h : RbIs s b true) : bxOk b.i b.g b.c b.p = true ∧ bxText b.i b.g b.c b.p b.d = s := by
  rcases h with ⟨_, k1, k2⟩ | ⟨k0, _⟩
  · exact ⟨k1, by unfold bxText; rw [if_pos k1]; exact k2⟩
  · cases k0
theorem rb_zero {s : ByteArray} {b : Bx} (h : RbIs s b false) : b = Bx.zero := by
  rcases h with ⟨k0, _⟩ | ⟨_, k1, _⟩
  · cases k0
  · exact k1
end Go.Proofs.YtjnoekhdkmgagaaDoor
