/-
  Plain mathematics of plans, second part: how many next slots there are; finding; all ids. Nothing of the program.
-/
import Derived.Test.YtnnjphhkheocgaaPlMath
namespace Go.Proofs.Ytnnjphhkheocgaa
set_option linter.unusedVariables false

theorem pAt_pos {h : Hl} {bok : Bool} {ids p : List Int} (hpos : ∀ x ∈ ids, 1 ≤ x) (hk : plOk h bok ids p = true) {k : Nat} (hl : k < p.length) : 0 ≤ pAt p k ∧ (pAt p k ≠ 0 → 0 < pAt p k) := by
  by_cases hz : pAt p k = 0
  · exact ⟨by omega, fun hc => absurd hz hc⟩
  · have := hpos _ ((plOk_iff.1 hk).2.2.2 k hl hz).1
    exact ⟨by omega, fun _ => by omega⟩
/-- The rows whose highest slot is empty, of the first n. -/
def roomRows (T : Nat) (p : List Int) (n : Nat) : Nat := ((List.range n).filter fun i => decide (pAt p (i * T + (T - 1)) = 0)).length
theorem filter_snoc (f : Nat → Bool) (l : List Nat) (x : Nat) : ((l ++ [x]).filter f).length = (l.filter f).length + if f x = true then 1 else 0 := by
  rw [List.filter_append, List.length_append]
  congr 1
  cases hf : f x <;> simp [hf]
theorem roomRows_next (T : Nat) (p : List Int) (n : Nat) : roomRows T p (n + 1) = roomRows T p n + if pAt p (n * T + (T - 1)) = 0 then 1 else 0 := by
  unfold roomRows
  rw [List.range_succ, filter_snoc]
  congr 1
  by_cases hc : pAt p (n * T + (T - 1)) = 0
  · rw [if_pos hc, if_pos (decide_eq_true hc)]
  · rw [if_neg hc, if_neg (by simpa using hc)]
theorem next_row {h : Hl} {bok : Bool} {ids p : List Int} (hpos : ∀ x ∈ ids, 1 ≤ x) (hk : plOk h bok ids p = true) {T : Nat} (hT : (T : Int) = h.t) {n : Nat} (hn : (n + 1) * T ≤ p.length) :
    ((List.range ((n + 1) * T)).filter (nextOk h p)).length = ((List.range (n * T)).filter (nextOk h p)).length + if pAt p (n * T + (T - 1)) = 0 then 1 else 0 := by
  obtain ⟨_, _, _, _, g5, g6⟩ := hlOk_iff.1 (plOk_iff.1 hk).1
  have nx : ∀ k, nextOk h p k = decide (pAt p k = 0 ∧ ((k : Int) % h.t = 0 ∨ 0 < pAt p (k - 1))) := fun k => rfl
  rcases (by omega : T = 1 ∨ T = 2 ∨ T = 3) with rfl | rfl | rfl
  · have e : (n + 1) * 1 = n * 1 + 1 := by omega
    rw [e, List.range_succ, filter_snoc]
    congr 1
    have hm : ((n * 1 : Nat) : Int) % h.t = 0 := by rw [← hT]; omega
    rw [nx, show n * 1 + (1 - 1) = n * 1 from rfl]
    by_cases hz : pAt p (n * 1) = 0
    · rw [if_pos (decide_eq_true ⟨hz, .inl hm⟩), if_pos hz]
    · rw [if_neg (fun hc => hz (of_decide_eq_true hc).1), if_neg hz]
  · have e : (n + 1) * 2 = n * 2 + 1 + 1 := by omega
    rw [e] at hn
    rw [e, List.range_succ, filter_snoc, List.range_succ, filter_snoc]
    have m0 : ((n * 2 : Nat) : Int) % h.t = 0 := by rw [← hT]; omega
    have m1 : ¬ ((n * 2 + 1 : Nat) : Int) % h.t = 0 := by rw [← hT]; omega
    have p0 := pAt_pos hpos hk (k := n * 2) (by omega)
    have u1 := empty_above hk (k := n * 2) (by omega)
    rw [nx, nx, show n * 2 + (2 - 1) = n * 2 + 1 from rfl, show n * 2 + 1 - 1 = n * 2 by omega]
    by_cases hz : pAt p (n * 2) = 0
    · have hz1 := u1 hz m1
      rw [if_pos (decide_eq_true ⟨hz, .inl m0⟩), if_neg (fun hc => (of_decide_eq_true hc).2.elim m1 fun hx => by omega), if_pos hz1]
    · have h0 := p0.2 hz
      rw [if_neg (fun hc => hz (of_decide_eq_true hc).1)]
      by_cases hz1 : pAt p (n * 2 + 1) = 0
      · rw [if_pos (decide_eq_true ⟨hz1, .inr h0⟩), if_pos hz1]
      · rw [if_neg (fun hc => hz1 (of_decide_eq_true hc).1), if_neg hz1]
  · have e : (n + 1) * 3 = n * 3 + 1 + 1 + 1 := by omega
    rw [e] at hn
    rw [e, List.range_succ, filter_snoc, List.range_succ, filter_snoc, List.range_succ, filter_snoc]
    have m0 : ((n * 3 : Nat) : Int) % h.t = 0 := by rw [← hT]; omega
    have m1 : ¬ ((n * 3 + 1 : Nat) : Int) % h.t = 0 := by rw [← hT]; omega
    have m2 : ¬ ((n * 3 + 1 + 1 : Nat) : Int) % h.t = 0 := by rw [← hT]; omega
    have p0 := pAt_pos hpos hk (k := n * 3) (by omega)
    have p1 := pAt_pos hpos hk (k := n * 3 + 1) (by omega)
    have u1 := empty_above hk (k := n * 3) (by omega)
    have u2 := empty_above hk (k := n * 3 + 1) (by omega)
    rw [nx, nx, nx]
    have c1 : (n * 3 + 1) - 1 = n * 3 := by omega
    have c2 : (n * 3 + 1 + 1) - 1 = n * 3 + 1 := by omega
    have c3 : n * 3 + (3 - 1) = n * 3 + 1 + 1 := by omega
    rw [c1, c2, c3]
    by_cases hz : pAt p (n * 3) = 0
    · have hz1 := u1 hz m1
      have hz2 := u2 hz1 m2
      rw [if_pos (decide_eq_true ⟨hz, .inl m0⟩), if_neg (fun hc => (of_decide_eq_true hc).2.elim m1 fun hx => by omega), if_neg (fun hc => (of_decide_eq_true hc).2.elim m2 fun hx => by omega), if_pos hz2]
    · have h0 := p0.2 hz
      rw [if_neg (fun hc => hz (of_decide_eq_true hc).1)]
      by_cases hz1 : pAt p (n * 3 + 1) = 0
      · have hz2 := u2 hz1 m2
        rw [if_pos (decide_eq_true ⟨hz1, .inr h0⟩), if_neg (fun hc => (of_decide_eq_true hc).2.elim m2 fun hx => by omega), if_pos hz2]
      · have h1 := p1.2 hz1
        rw [if_neg (fun hc => hz1 (of_decide_eq_true hc).1)]
        by_cases hz2 : pAt p (n * 3 + 1 + 1) = 0
        · rw [if_pos (decide_eq_true ⟨hz2, .inr h1⟩), if_pos hz2]
        · rw [if_neg (fun hc => hz2 (of_decide_eq_true hc).1), if_neg hz2]
/-- There are as many next slots as rows that have room. -/
theorem next_count {h : Hl} {bok : Bool} {ids p : List Int} (hpos : ∀ x ∈ ids, 1 ≤ x) (hk : plOk h bok ids p = true) {T : Nat} (hT : (T : Int) = h.t) : ∀ n, n * T ≤ p.length → ((List.range (n * T)).filter (nextOk h p)).length = roomRows T p n
  | 0, _ => by rw [Nat.zero_mul]; rfl
  | n + 1, hn => by
    rw [next_row hpos hk hT hn, next_count hpos hk hT n (by rw [Nat.add_mul] at hn; omega), roomRows_next]
/-- Where a box is. -/
def findP (h : Hl) (bok : Bool) (ids p : List Int) (id : Int) : Int := if 0 < id ∧ plOk h bok ids p = true ∧ id ∈ p then (p.idxOf id : Int) else -1
theorem findP_hit {h : Hl} {bok : Bool} {ids p : List Int} {id : Int} (h0 : 0 < id) (hk : plOk h bok ids p = true) {k : Nat} (hl : k < p.length) (he : pAt p k = id) : findP h bok ids p id = (k : Int) := by
  have hm : id ∈ p := he ▸ (pAt_get hl ▸ List.getElem_mem hl)
  unfold findP
  rw [if_pos ⟨h0, hk, hm⟩]
  have hlt := List.idxOf_lt_length_of_mem hm
  have hg : pAt p (p.idxOf id) = id := by rw [pAt_get hlt]; exact List.getElem_idxOf hlt
  have := plOk_inj hk hlt hl (by rw [hg, he]) (by rw [hg]; omega)
  rw [this]
theorem findP_none {h : Hl} {bok : Bool} {ids p : List Int} {id : Int} (hc : ¬ (0 < id ∧ plOk h bok ids p = true ∧ id ∈ p)) : findP h bok ids p id = -1 := by unfold findP; rw [if_neg hc]
/-- All ids of a plan. -/
def idsP (h : Hl) (bok : Bool) (ids p : List Int) : List Int := if plOk h bok ids p = true then p.filter (fun x => decide (0 < x)) else []
theorem idsP_mem {h : Hl} {bok : Bool} {ids p : List Int} {x : Int} (hm : x ∈ idsP h bok ids p) : plOk h bok ids p = true ∧ x ∈ p ∧ 0 < x := by
  unfold idsP at hm
  split at hm
  · next hk =>
    obtain ⟨h1, h2⟩ := List.mem_filter.1 hm
    exact ⟨hk, h1, of_decide_eq_true h2⟩
  · cases hm
theorem idsP_nodup (h : Hl) (bok : Bool) (ids p : List Int) : (idsP h bok ids p).Nodup := by
  unfold idsP
  split
  · next hk =>
    rw [List.nodup_iff_pairwise_ne] at *
    rw [List.pairwise_filter]
    refine List.pairwise_iff_getElem.2 fun i j hi hj hij h1 h2 e => ?_
    have hp : 0 < p[i] := of_decide_eq_true h1
    have := plOk_inj hk hi hj (by rw [pAt_get hi, pAt_get hj, e]) (by rw [pAt_get hi]; omega)
    omega
  · exact List.Pairwise.nil
end Go.Proofs.Ytnnjphhkheocgaa
