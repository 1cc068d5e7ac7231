/-
  Plain mathematics: valid boxes without their first one, and with the first one once more. Nothing of the program.
-/
import Derived.Test.YtafkobakcclicaaBlI
namespace Go.Proofs.Ytafkobakcclicaa
set_option linter.unusedVariables false

theorem okAt_iff {l : List Bx} {k : Nat} (hk : k < l.length) : okAt l k = true ↔ l[k].ok = true ∧ ¬ findB l l[k].i < k := by
  unfold okAt
  rw [getD_bx hk]
  simp
theorem bxsOk_drop {l : List Bx} (h : bxsOk l = true) : bxsOk (l.drop 1) = true := by
  match l, h with
  | [], h => exact h
  | b :: t, h =>
    have he := bxsOk_each h
    have hl : t.length ≤ 10 := by have := he.2; simp at this; omega
    show bxsOk t = true
    rw [bxsOk_end fun k hk => ?_]
    · exact decide_eq_true hl
    · have h1 := (okAt_iff (l := b :: t) (k := k + 1) (by simpa using hk)).1 (he.1 (k + 1) (by simpa using hk))
      rw [List.getElem_cons_succ] at h1
      refine (okAt_iff hk).2 ⟨h1.1, fun h2 => h1.2 ?_⟩
      unfold findB
      split
      · omega
      · have := findB_has hk
        rw [if_neg (by omega)]
        omega
theorem bxsOk_twice {l : List Bx} (hz : 0 < l.length) : bxsOk (l ++ [l[0]]) = false := by
  have hlen : l.length < (l ++ [l[0]]).length := by simp
  refine bxsOk_at hlen ?_
  have e : (l ++ [l[0]])[l.length] = l[0] := by simp
  have h0 : findB (l ++ [l[0]]) l[0].i = 0 := by
    match l, hz with
    | b :: t, _ =>
      show findB (b :: (t ++ [b])) b.i = 0
      rw [findB, if_pos rfl]
  unfold okAt
  rw [getD_bx hlen, e, h0, decide_eq_true (by omega), Bool.not_true, Bool.and_false]
theorem bxsOk_nil : bxsOk [] = true := rfl
end Go.Proofs.Ytafkobakcclicaa
