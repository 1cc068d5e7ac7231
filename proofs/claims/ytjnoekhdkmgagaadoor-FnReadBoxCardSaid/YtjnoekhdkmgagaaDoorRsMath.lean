/-
  Plain mathematics: what the model's ReadBox reads: a text's tail, its two parts, the three parts of the second. Nothing of the program.
-/
import Derived.Test.YtjnoekhdkmgagaaDoorLcMath
import Derived.Test.YtjnoekhdkmgagaaDoorRcMath
import Derived.Test.YtjnoekhdkmgagaaDoorGNo
namespace Go.Proofs.YtjnoekhdkmgagaaDoor
set_option linter.unusedVariables false

theorem no58 {n : Int} (h0 : 0 ≤ n) (h1 : n ≤ 999) : (58 : UInt8) ∉ (decB n).data.toList := dec_none h0 h1 58 (.inr (by decide))
theorem no47 {n : Int} (h0 : 0 ≤ n) (h1 : n ≤ 999) : (47 : UInt8) ∉ (decB n).data.toList := dec_none h0 h1 47 (.inl (by decide))
/-- A box's text, less its tail. -/
theorem text_tail {s x : ByteArray} {cold : Bool} {i g c p : Int} {d : Bool} (h : TailIs s 99 x cold) (hok : bxOk i g c p = true) (he : btS i g c p d = s) :
    cold = d ∧ x.data.toList = (decB i).data.toList ++ 58 :: ((decB g).data.toList ++ 47 :: ((decB c).data.toList ++ 47 :: (decB p).data.toList)) := by
  have hb := bxOk_yes hok
  have hl := congrArg (fun s : ByteArray => s.data.toList) he
  simp only [bt_list] at hl
  cases d
  · have hl' : s.data.toList = (decB i).data.toList ++ 58 :: ((decB g).data.toList ++ 47 :: ((decB c).data.toList ++ 47 :: (decB p).data.toList)) := by rw [← hl]; simp
    rcases h with ⟨h, h'⟩ | ⟨h, h', _⟩
    · exfalso
      rw [h'] at hl'
      have e2 := congrArg List.getLast? hl'
      simp only [List.getLast?_append, List.getLast?_cons] at e2
      have hne : (decB p).data.toList ≠ [] := by
        intro e
        have := (rd_dec (n := p) (by omega) (by omega)).1.1
        rw [← ba_len, e] at this
        simp at this
      obtain ⟨z, hz⟩ : ∃ z, (decB p).data.toList.getLast? = some z := by
        cases hq : (decB p).data.toList.getLast? with
        | none => exact absurd (List.getLast?_eq_none_iff.1 hq) hne
        | some z => exact ⟨z, rfl⟩
      rw [hz] at e2
      simp at e2
      have hm : z ∈ (decB p).data.toList := List.mem_of_getLast? hz
      rw [← e2] at hm
      exact dec_none (by omega) (by omega) 99 (.inr (by decide)) hm
    · exact ⟨h, by rw [h', hl']⟩
  · have hl' : s.data.toList = ((decB i).data.toList ++ 58 :: ((decB g).data.toList ++ 47 :: ((decB c).data.toList ++ 47 :: (decB p).data.toList))) ++ [99] := by rw [← hl]; simp
    rcases h with ⟨h, h'⟩ | ⟨_, _, h'⟩
    · rw [h'] at hl'
      exact ⟨h, List.append_cancel_right hl'⟩
    · exact absurd hl' (h' _)
theorem tail_none {i g c p : Int} (hok : bxOk i g c p = true) : (58 : UInt8) ∉ (decB g).data.toList ++ 47 :: ((decB c).data.toList ++ 47 :: (decB p).data.toList) := by
  have hb := bxOk_yes hok
  have a := no58 (n := g) (by omega) (by omega)
  have b := no58 (n := c) (by omega) (by omega)
  have d := no58 (n := p) (by omega) (by omega)
  simp [a, b, d]
/-- Not two parts: no box. -/
theorem not_two {s x t : ByteArray} {cold : Bool} {done : List ByteArray} (h : TailIs s 99 x cold) (h1 : CutUp x 58 done t) (hn : done.length ≠ 1) : RbIs s Bx.zero false := by
  refine .inr ⟨rfl, rfl, fun i g c p d hok he => ?_⟩
  have hb := bxOk_yes hok
  obtain ⟨_, hx⟩ := text_tail h hok he
  obtain ⟨a, rfl, _⟩ := h1.two hx (no58 (by omega) (by omega)) (tail_none hok)
  exact hn rfl
/-- Not three parts behind: no box. -/
theorem not_three {s x t a1 u : ByteArray} {cold : Bool} {done : List ByteArray} (h : TailIs s 99 x cold) (h1 : CutUp x 58 [a1] t) (h2 : CutUp t 47 done u) (hn : done.length ≠ 2) : RbIs s Bx.zero false := by
  refine .inr ⟨rfl, rfl, fun i g c p d hok he => ?_⟩
  have hb := bxOk_yes hok
  obtain ⟨_, hx⟩ := text_tail h hok he
  obtain ⟨a, e0, e1, e2⟩ := h1.two hx (no58 (by omega) (by omega)) (tail_none hok)
  obtain ⟨a, b, rfl, _⟩ := h2.three e2 (no47 (by omega) (by omega)) (no47 (by omega) (by omega)) (no47 (by omega) (by omega))
  exact hn rfl
/-- All four parts. -/
theorem four_parts {s x t a1 a2 a3 a4 : ByteArray} {cold : Bool} {i g c p : Int} (h : TailIs s 99 x cold) (h1 : CutUp x 58 [a1] t) (h2 : CutUp t 47 [a2, a3] a4) (r1 : RdIs a1 i) (r2 : RdIs a2 g) (r3 : RdIs a3 c) (r4 : RdIs a4 p) :
    (bxText i g c p cold = s → RbIs s ⟨i, g, c, p, cold⟩ true) ∧ (bxText i g c p cold ≠ s → RbIs s Bx.zero false) := by
  refine ⟨fun he => ?_, fun hne => .inr ⟨rfl, rfl, fun i' g' c' p' d' hok he => hne ?_⟩⟩
  · unfold bxText at he
    by_cases hok : bxOk i g c p = true
    · rw [if_pos hok] at he
      exact .inl ⟨rfl, hok, he⟩
    · exfalso
      rw [if_neg hok] at he
      subst he
      have hx := tail_empty h
      subst hx
      have := h1.1
      simp [flatC] at this
  · have hb := bxOk_yes hok
    obtain ⟨rfl, hx⟩ := text_tail h hok he
    obtain ⟨b1, e0, e1, e2⟩ := h1.two hx (no58 (by omega) (by omega)) (tail_none hok)
    obtain ⟨b2, b3, f0, f1, f2, f3⟩ := h2.three e2 (no47 (by omega) (by omega)) (no47 (by omega) (by omega)) (no47 (by omega) (by omega))
    simp only [List.cons.injEq, and_true] at e0 f0
    obtain ⟨g1, g2⟩ := f0
    subst e0 g1 g2
    have q1 := rd_of (v := i) (by omega) (by omega) (by rw [← ba_ext e1]; exact r1 : RdIs (decB i') i)
    have q2 := rd_of (v := g) (by omega) (by omega) (by rw [← ba_ext f1]; exact r2 : RdIs (decB g') g)
    have q3 := rd_of (v := c) (by omega) (by omega) (by rw [← ba_ext f2]; exact r3 : RdIs (decB c') c)
    have q4 := rd_of (v := p) (by omega) (by omega) (by rw [← ba_ext f3]; exact r4 : RdIs (decB p') p)
    subst q1 q2 q3 q4
    unfold bxText
    rw [if_pos hok, he]
end Go.Proofs.YtjnoekhdkmgagaaDoor
