/-
  Appends of boxes inside a region that draws its order; what such a region's worlds bear.
  Words for a region that appends twice: blocks made in either order, what stays of them.
  Plain mathematics: valid boxes without their first one, and with the first one once more. Nothing of the program.
  Plain mathematics: each of valid boxes is found at its own index. Nothing of the program.
-/
import Derived.Test.YtmgnbkiphdlooabGDr
import Derived.Test.YtmgnbkiphdlooabGBl
namespace Go.Proofs.Ytmgnbkiphdlooab
open Go.RowKit
set_option linter.unusedVariables false

theorem HoldsBx.row {w : World} {b off cap : Nat} {l : List Bx} (h : HoldsBx w (.slice (some ⟨b, off, none⟩) l.length cap) l) (j : Nat) (u : Value) (hu : (rowB l)[j]? = some u) : w.cell? ((⟨b, off, none⟩ : Addr).add j) = some u := by
  have hj : j < (rowB l).length := by
    rcases Nat.lt_or_ge j (rowB l).length with h' | h'
    · exact h'
    · rw [List.getElem?_eq_none h'] at hu; cases hu
  rw [rowB_len] at hj
  obtain ⟨a, cap', he, _, _, h4⟩ := h
  simp only [Value.slice.injEq, true_and] at he
  obtain ⟨rfl, rfl⟩ := he
  rcases h4 with h4 | ⟨b', off', h5, h6, h7⟩
  · omega
  · simp only [Option.some.injEq, Addr.mk.injEq, and_true] at h5
    obtain ⟨rfl, rfl⟩ := h5
    have e : (⟨b, off, none⟩ : Addr).add j = ⟨b, off + j, none⟩ := by
      unfold Addr.add
      split
      · next h => subst h; rfl
      · rfl
    have hk : j / 5 < l.length := by omega
    have e2 := h7 (j / 5) hk (j % 5) (Nat.mod_lt _ (by omega))
    rw [← rowB_at l (j / 5) hk (j % 5) (Nat.mod_lt _ (by omega)), show j / 5 * 5 + j % 5 = j by omega] at e2
    rw [e, e2, hu]
theorem rowB_one : ∀ (l : List Bx), ∀ u ∈ rowB l, u.oneCell' = true := by
  intro l u hu
  obtain ⟨b, _, hb⟩ := List.mem_flatMap.1 hu
  simp only [Bx.cells, List.mem_cons, List.not_mem_nil, or_false] at hb
  rcases hb with rfl | rfl | rfl | rfl | rfl <;> rfl

/-- Five cells of an elder block, in every later world. -/
theorem five_since {w0 w : World} {b off : Nat} {v0 v1 v2 v3 v4 : Value} (hlt : b < w0.heap.size)
    (h : w0.cell? ⟨b, off, none⟩ = some v0 ∧ w0.cell? ⟨b, off + 1, none⟩ = some v1 ∧ w0.cell? ⟨b, off + 2, none⟩ = some v2 ∧ w0.cell? ⟨b, off + 3, none⟩ = some v3 ∧ w0.cell? ⟨b, off + 4, none⟩ = some v4) (hb : Since w0 w) :
    w.cell? ⟨b, off, none⟩ = some v0 ∧ w.cell? ⟨b, off + 1, none⟩ = some v1 ∧ w.cell? ⟨b, off + 2, none⟩ = some v2 ∧ w.cell? ⟨b, off + 3, none⟩ = some v3 ∧ w.cell? ⟨b, off + 4, none⟩ = some v4 ∧ Since w0 w := by
  have k : ∀ o, w.cell? ⟨b, o, none⟩ = w0.cell? ⟨b, o, none⟩ := fun o => Below.cell (p := ⟨b, o, none⟩) hb hlt
  exact ⟨by rw [k]; exact h.1, by rw [k]; exact h.2.1, by rw [k]; exact h.2.2.1, by rw [k]; exact h.2.2.2.1, by rw [k]; exact h.2.2.2.2, hb⟩
end Go.Proofs.Ytmgnbkiphdlooab
namespace Go.Proofs.Ytmgnbkiphdlooab
open Go.RowKit
set_option linter.unusedVariables false

theorem HoldsBx.drop1 {w : World} {b off cap : Nat} {l : List Bx} (h : HoldsBx w (.slice (some ⟨b, off, none⟩) l.length cap) l) (hz : ¬ l.length = 0) : HoldsBx w (.slice (some ⟨b, if cap = 1 then off else off + 5, none⟩) (l.length - 1) (cap - 1)) (l.drop 1) := by
  obtain ⟨a, cap', he, h2, h3, h4⟩ := h
  simp only [Value.slice.injEq, true_and] at he
  obtain ⟨rfl, rfl⟩ := he
  refine ⟨_, cap - 1, by rw [List.length_drop], by rw [List.length_drop]; omega, by omega, ?_⟩
  rcases h4 with h4 | ⟨b', off', h5, h6, h7⟩
  · exact absurd h4 hz
  · simp only [Option.some.injEq, Addr.mk.injEq, and_true] at h5
    obtain ⟨rfl, rfl⟩ := h5
    by_cases hc : cap = 1
    · exact .inl (by rw [List.length_drop]; omega)
    · rw [if_neg hc]
      refine .inr ⟨b, off + 5, rfl, h6, fun k hk j hj => ?_⟩
      have hk' : k + 1 < l.length := by rw [List.length_drop] at hk; omega
      have e := h7 (k + 1) hk' j hj
      rw [show off + 5 + (k * 5 + j) = off + ((k + 1) * 5 + j) by omega, e, List.getElem_drop]
      simp only [Nat.add_comm 1 k]
theorem final_holds {w : World} {base : Nat} {e : TypeId} {v : Value} {l : List Bx} {x : Bx} (h : w.ownsRow base e 5 v (l.length + 1) (rowB l ++ [.int .i64 x.i, .int .i64 x.g, .int .i64 x.c, .int .i64 x.p, .bool x.d])) : HoldsBx w v (l ++ [x]) := by
  refine (NewBx.of_own (base := base) (e := e) (l := l ++ [x]) ?_).holds
  rw [rowB_app, List.length_append]
  exact h

end Go.Proofs.Ytmgnbkiphdlooab
namespace Go.Proofs.Ytmgnbkiphdlooab
set_option linter.unusedVariables false

theorem okAt_iff {l : List Bx} {k : Nat} (hk : k < l.length) : okAt l k = true ↔ l[k].ok = true ∧ ¬ findB l l[k].i < k := by
  unfold okAt
  rw [getD_bx hk]
  simp
theorem bxsOk_drop {l : List Bx} (h : bxsOk l = true) : bxsOk (l.drop 1) = true := by
  match l, h with
  | [], h => exact h
  | b :: t, h =>
    have he := bxsOk_each h
    have hl : t.length ≤ 10 := by have := he.2; simp at this; omega
    show bxsOk t = true
    rw [bxsOk_end fun k hk => ?_]
    · exact decide_eq_true hl
    · have h1 := (okAt_iff (l := b :: t) (k := k + 1) (by simpa using hk)).1 (he.1 (k + 1) (by simpa using hk))
      rw [List.getElem_cons_succ] at h1
      refine (okAt_iff hk).2 ⟨h1.1, fun h2 => h1.2 ?_⟩
      unfold findB
      split
      · omega
      · have := findB_has hk
        rw [if_neg (by omega)]
        omega
theorem bxsOk_twice {l : List Bx} (hz : 0 < l.length) : bxsOk (l ++ [l[0]]) = false := by
  have hlen : l.length < (l ++ [l[0]]).length := by simp
  refine bxsOk_at hlen ?_
  have e : (l ++ [l[0]])[l.length] = l[0] := by simp
  have h0 : findB (l ++ [l[0]]) l[0].i = 0 := by
    match l, hz with
    | b :: t, _ =>
      show findB (b :: (t ++ [b])) b.i = 0
      rw [findB, if_pos rfl]
  unfold okAt
  rw [getD_bx hlen, e, h0, decide_eq_true (by omega), Bool.not_true, Bool.and_false]
theorem bxsOk_nil : bxsOk [] = true := rfl
end Go.Proofs.Ytmgnbkiphdlooab
namespace Go.Proofs.Ytmgnbkiphdlooab
set_option linter.unusedVariables false

theorem findB_le : ∀ (l : List Bx) (k : Nat) (hk : k < l.length), findB l l[k].i ≤ k
  | b :: l, 0, _ => by
    show findB (b :: l) b.i ≤ 0
    rw [findB, if_pos rfl]; exact Int.le_refl _
  | b :: l, k + 1, hk => by
    have ih := findB_le l k (by simpa using hk)
    rw [List.getElem_cons_succ]
    unfold findB
    split
    · omega
    · split <;> omega
theorem findS_at {l : List Bx} (h : bxsOk l = true) {k : Nat} (hk : k < l.length) : findS l l[k].i = k := by
  unfold findS
  rw [if_pos h]
  have h1 := (bxsOk_each h).1 k hk
  unfold okAt at h1
  rw [getD_bx hk, Bool.and_eq_true] at h1
  have h2 : ¬ findB l l[k].i < k := by simpa using h1.2
  have h3 := findB_le l k hk
  omega
theorem findB_in : ∀ (l : List Bx) (id : Int) (h : 0 ≤ findB l id), ∃ (hk : (findB l id).toNat < l.length), l[(findB l id).toNat].i = id
  | [], id, h => by
    have e : findB [] id = -1 := rfl
    omega
  | b :: l, id, h => by
    unfold findB at h ⊢
    split
    · next e => exact ⟨by simp, e⟩
    · next e =>
      rw [if_neg e] at h
      by_cases h1 : findB l id < 0
      · rw [if_pos h1] at h; omega
      · obtain ⟨hk, he⟩ := findB_in l id (by omega)
        have e2 : (if findB l id < 0 then (-1 : Int) else findB l id + 1).toNat = (findB l id).toNat + 1 := by rw [if_neg h1]; omega
        refine ⟨by rw [e2, List.length_cons]; omega, ?_⟩
        simp only [e2, List.getElem_cons_succ]
        exact he
theorem findB_neg {l : List Bx} {id : Int} (h : findB l id < 0) {k : Nat} (hk : k < l.length) : l[k].i ≠ id := fun e => by
  have := findB_has hk
  rw [e] at this
  omega
theorem findS_bd (l : List Bx) (id : Int) : -1 ≤ findS l id ∧ findS l id < (l.length : Int) + 1 := by
  have := findB_bd l id
  unfold findS
  split <;> omega
end Go.Proofs.Ytmgnbkiphdlooab
