/-
  Plans: what stage 7's laws ask of the answers. Nothing of the program.
  Plain mathematics of plans, fifth part: what the list of the next slots has.
  The contract of the laws' ascend, for lists that ascend.
-/
import Derived.Test.YtfeobdgdhgcgoaaPlC
import Derived.Test.YtfeobdgdhgcgoaaGNo
import Derived.Test.YtfeobdgdhgcgoaaGAp
import Derived.Test.YtfeobdgdhgcgoaaGYh
import Derived.Test.YtfeobdgdhgcgoaaGBase
import Derived.Deep.QuietTactic
import Derived.BigQuiet
namespace Go.Proofs.Ytfeobdgdhgcgoaa
set_option linter.unusedVariables false

theorem bxIds_pos {l : List Bx} (h : bxsOk l = true) : ∀ x ∈ bxIds l, 1 ≤ x := by
  intro x hx
  obtain ⟨b, hb, rfl⟩ := List.mem_map.1 hx
  obtain ⟨k, hk, rfl⟩ := List.getElem_of_mem hb
  have := bxsOk_box h hk
  unfold Bx.ok at this
  exact (bxOk_yes this).1
theorem plOk_bok {h : Hl} {bok : Bool} {ids p : List Int} (hk : plOk h bok ids p = true) : bok = true := (plOk_iff.1 hk).2.1
theorem plOk_posX {h : Hl} {l : List Bx} {p : List Int} (hk : plOk h (bxsOk l) (bxIds l) p = true) {k : Nat} (hl : k < p.length) (hz : pAt p k ≠ 0) : 0 < pAt p k :=
  (pAt_pos (bxIds_pos (plOk_bok hk)) hk hl).2 hz
theorem findP_law (h : Hl) (l : List Bx) (p : List Int) (id : Int) : (findP h (bxsOk l) (bxIds l) p id = -1 ∧ hasI (idsP h (bxsOk l) (bxIds l) p) id = false) ∨
    (∃ k, k < p.length ∧ findP h (bxsOk l) (bxIds l) p id = (k : Int) ∧ pAt p k = id ∧ 0 < id) := by
  by_cases hc : 0 < id ∧ plOk h (bxsOk l) (bxIds l) p = true ∧ id ∈ p
  · obtain ⟨h0, hk, hm⟩ := hc
    obtain ⟨k, hl, he⟩ := List.getElem_of_mem hm
    have he' : pAt p k = id := by rw [pAt_get hl]; exact he
    exact .inr ⟨k, hl, findP_hit h0 hk hl he', he', h0⟩
  · refine .inl ⟨findP_none hc, decide_eq_false fun hm => ?_⟩
    obtain ⟨h1, h2, h3⟩ := idsP_mem hm
    exact hc ⟨h3, h1, h2⟩
theorem putP_law (h : Hl) (l : List Bx) (p : List Int) (s id : Int) : putP h (bxsOk l) (bxIds l) p s id = ([], false) ∨ putP h (bxsOk l) (bxIds l) p s id = (p, false) ∨
    (∃ (k : Nat) (q : List Int), s = (k : Int) ∧ k < p.length ∧ q.length = p.length ∧ putP h (bxsOk l) (bxIds l) p s id = (q, true) ∧ takeP h (bxsOk l) (bxIds l) q (k : Int) = (p, id) ∧ plOk h (bxsOk l) (bxIds l) q = true ∧ findP h (bxsOk l) (bxIds l) q id = (k : Int)) := by
  rcases putP_cases h (bxsOk l) (bxIds l) p s id with ⟨_, e⟩ | ⟨_, e⟩ | ⟨hk, h0, h1, hz, hid, hk2, e⟩
  · exact .inl e
  · exact .inr (.inl e)
  · obtain ⟨k, rfl⟩ := Int.eq_ofNat_of_zero_le h0
    have hl : k < p.length := by omega
    have ht := takeP_put hk h0 h1 hz hid hk2
    rw [Int.toNat_natCast] at hz hk2 e ht
    have hat : pAt (p.set k id) k = id := pAt_set_self hl id
    have hls : k < (p.set k id).length := by rw [List.length_set]; exact hl
    have hpos : 0 < id := by have := plOk_posX hk2 hls (by rw [hat]; exact hid); rw [hat] at this; exact this
    exact .inr (.inr ⟨k, p.set k id, rfl, hl, by rw [List.length_set], e, ht, hk2, findP_hit hpos hk2 hls hat⟩)
theorem takeP_law (h : Hl) (l : List Bx) (p : List Int) (s : Int) : takeP h (bxsOk l) (bxIds l) p s = ([], -1) ∨ takeP h (bxsOk l) (bxIds l) p s = (p, -1) ∨
    (∃ (k : Nat) (x : Int) (q : List Int), s = (k : Int) ∧ k < p.length ∧ 0 < x ∧ q.length = p.length ∧ takeP h (bxsOk l) (bxIds l) p s = (q, x) ∧ putP h (bxsOk l) (bxIds l) q (k : Int) x = (p, true) ∧ hasI (nextI h (bxsOk l) (bxIds l) q) (k : Int) = true) := by
  rcases takeP_cases h (bxsOk l) (bxIds l) p s with ⟨_, e⟩ | ⟨_, e⟩ | ⟨hk, h0, h1, hz, hm, hk2, e⟩
  · exact .inl e
  · exact .inr (.inl e)
  · obtain ⟨k, rfl⟩ := Int.eq_ofNat_of_zero_le h0
    have hl : k < p.length := by omega
    have hput := putP_take hk h0 h1 hz hk2
    rw [Int.toNat_natCast] at hz hk2 e hput
    refine .inr (.inr ⟨k, pAt p k, p.set k 0, rfl, hl, plOk_posX hk hl hz, by rw [List.length_set], e, hput, decide_eq_true ?_⟩)
    unfold nextI nextP
    rw [if_pos hk2]
    refine List.mem_map.2 ⟨k, List.mem_filter.2 ⟨List.mem_range.2 (by rw [List.length_set]; exact hl), decide_eq_true ⟨pAt_set_self hl 0, ?_⟩⟩, rfl⟩
    by_cases ht : (k : Int) % h.t = 0
    · exact .inl ht
    · right
      have hk0 : k ≠ 0 := fun e => ht (by subst e; simp)
      have := ((plOk_iff.1 hk).2.2.2 k hl hz).2.2 ht
      rw [pAt_set_ne (by omega)]
      exact plOk_posX hk (by omega) this
theorem idsP_law {h : Hl} {l : List Bx} {p : List Int} {k : Nat} (hk : k < (idsP h (bxsOk l) (bxIds l) p).length) :
    hasI ((idsP h (bxsOk l) (bxIds l) p).take k) ((idsP h (bxsOk l) (bxIds l) p).getD k 0) = false ∧ 0 ≤ findS l ((idsP h (bxsOk l) (bxIds l) p).getD k 0) ∧ 0 ≤ findP h (bxsOk l) (bxIds l) p ((idsP h (bxsOk l) (bxIds l) p).getD k 0) := by
  have hg : (idsP h (bxsOk l) (bxIds l) p).getD k 0 = (idsP h (bxsOk l) (bxIds l) p)[k] := by rw [List.getD_eq_getElem?_getD, List.getElem?_eq_getElem hk, Option.getD_some]
  rw [hg]
  obtain ⟨h1, h2, h3⟩ := idsP_mem (List.getElem_mem hk)
  obtain ⟨j, hj, he⟩ := List.getElem_of_mem h2
  have he' : pAt p j = (idsP h (bxsOk l) (bxIds l) p)[k] := by rw [pAt_get hj]; exact he
  refine ⟨decide_eq_false fun hm => ?_, ?_, ?_⟩
  · obtain ⟨i, hi, hie⟩ := List.getElem_of_mem hm
    rw [List.length_take] at hi
    rw [List.getElem_take] at hie
    have hn := idsP_nodup h (bxsOk l) (bxIds l) p
    rw [List.nodup_iff_pairwise_ne] at hn
    exact (List.pairwise_iff_getElem.1 hn) i k (by omega) hk (by omega) hie
  · have := (findB_mem l _).2 (((plOk_iff.1 h1).2.2.2 j hj (by rw [he']; omega)).1)
    unfold findS
    rw [if_pos (plOk_bok h1), ← he']
    exact this
  · rw [findP_hit h3 h1 hj he']
    omega
theorem plOk_zeroX {h : Hl} {l : List Bx} {p : List Int} (hk : plOk h (bxsOk l) (bxIds l) p = true) : plOk h (bxsOk l) (bxIds l) (List.replicate p.length 0) = true := by
  obtain ⟨q1, q2, q3, _⟩ := plOk_iff.1 hk
  rw [q2]
  exact plOk_zero q1 q3
end Go.Proofs.Ytfeobdgdhgcgoaa
namespace Go.Proofs.Ytfeobdgdhgcgoaa
open Go.RowKit
set_option linter.unusedVariables false

theorem nextI_has {h : Hl} {bok : Bool} {ids p : List Int} (hk : plOk h bok ids p = true) {k : Nat} (hl : k < p.length) : hasI (nextI h bok ids p) (k : Int) = nextOk h p k := by
  unfold nextI nextP
  rw [if_pos hk]
  cases hc : nextOk h p k
  · cases hh : hasI (((List.range p.length).filter (nextOk h p)).map Int.ofNat) (k : Int)
    · rfl
    · obtain ⟨j, hj, e⟩ := List.mem_map.1 (hasI_iffP.1 hh)
      obtain ⟨_, hj2⟩ := List.mem_filter.1 hj
      obtain rfl : j = k := Int.ofNat.inj e
      rw [hc] at hj2; cases hj2
  · exact hasI_iffP.2 (List.mem_map.2 ⟨k, List.mem_filter.2 ⟨List.mem_range.2 hl, hc⟩, rfl⟩)
theorem nextI_len {h : Hl} {l : List Bx} {p : List Int} (hk : plOk h (bxsOk l) (bxIds l) p = true) {T n : Nat} (hT : (T : Int) = h.t) (hn : n * T = p.length) : (nextI h (bxsOk l) (bxIds l) p).length = roomRows T p n := by
  unfold nextI nextP
  rw [if_pos hk, List.length_map, ← hn]
  exact next_count (bxIds_pos (plOk_bok hk)) hk hT n (by omega)
theorem nextI_asc (h : Hl) (bok : Bool) (ids p : List Int) : ∀ k, k + 1 < (nextI h bok ids p).length → (nextI h bok ids p).getD k 0 < (nextI h bok ids p).getD (k + 1) 0 := by
  have hs : (nextI h bok ids p).Pairwise (· < ·) := by
    unfold nextI nextP
    split
    · refine List.pairwise_map.2 ((List.pairwise_lt_range (n := p.length)).filter _ |>.imp ?_)
      intro a b hab
      exact Int.ofNat_lt.2 hab
    · exact List.Pairwise.nil
  intro k hk
  have := List.pairwise_iff_getElem.1 hs k (k + 1) (by omega) hk (by omega)
  rw [List.getD_eq_getElem?_getD, List.getD_eq_getElem?_getD, List.getElem?_eq_getElem hk, List.getElem?_eq_getElem (by omega), Option.getD_some, Option.getD_some]
  exact this
/-- How many rows of slots a ship has, and how high they are. -/
theorem rows_of {h : Hl} (hk : hlOk h = true) {n : Nat} (hn : (n : Int) = slMany h) : ∃ R T : Nat, (T : Int) = h.t ∧ 1 ≤ T ∧ T ≤ 3 ∧ R * T = n := by
  obtain ⟨g1, g2, g3, g4, g5, g6⟩ := hlOk_iff.1 hk
  refine ⟨(h.b * h.r).toNat, h.t.toNat, by omega, by omega, by omega, ?_⟩
  have e : slMany h = h.b * h.r * h.t := by unfold slMany; rw [if_pos hk]
  have hb : 0 ≤ h.b * h.r := Int.mul_nonneg (by omega) (by omega)
  have : (((h.b * h.r).toNat * h.t.toNat : Nat) : Int) = (n : Int) := by
    rw [hn, e, Int.natCast_mul, Int.toNat_of_nonneg hb, Int.toNat_of_nonneg (by omega)]
  exact_mod_cast this
theorem putP_nextX {h : Hl} {l : List Bx} {p : List Int} (hk : plOk h (bxsOk l) (bxIds l) p = true) {i : Nat} (hi : i < l.length) (hn : hasI p l[i].i = false) {k : Nat} (hl : k < p.length) : (putP h (bxsOk l) (bxIds l) p (k : Int) l[i].i).2 = nextOk h p k := by
  refine putP_next (bxIds_pos (plOk_bok hk)) hk ?_ (fun hm => ?_) hl
  · unfold bxIds; exact List.mem_map.2 ⟨l[i], List.getElem_mem hi, rfl⟩
  · rw [hasI_iffP.2 hm] at hn; cases hn
end Go.Proofs.Ytfeobdgdhgcgoaa
namespace Go.Proofs.Ytfeobdgdhgcgoaa
open Go.RowKit
set_option linter.unusedVariables false

theorem belowP_drewN {B : Nat} {a w : World} (h : Below B a w) (n : Nat) : Below B a (w.drewN n) := ⟨h.os, h.tape, h.output, h.size, h.block⟩

end Go.Proofs.Ytfeobdgdhgcgoaa
