/-
  Rows of numbers that grow side by side in a slice of slices of the call's own.
-/
import Derived.Test.YtfeobdgdhgcgoaaGYh
namespace Go.Proofs.Ytfeobdgdhgcgoaa
open Go.RowKit
set_option linter.unusedVariables false

/-- Block g holds the slices us, each in a block of its own from B on, that hold these lists of numbers. -/
structure GrowY (B g n : Nat) (w : World) (us : List Value) (R : Nat → List Int) : Prop where
  out : ∃ cur, w.heap[g]? = some (.cells cur 25 (0, 0)) ∧ cur.toList = us
  len : us.length = n
  low : g < B
  row : ∀ (k : Nat) (u : Value), us[k]? = some u → w.ownsRow B 3 1 u (R k).length (rowI (R k))
  apart : ∀ (j k : Nat) (u u' : Value), j ≠ k → us[j]? = some u → us[k]? = some u' → ∀ b, u.ownBlock = some b → u'.ownBlock ≠ some b
theorem GrowY.lt {B g n : Nat} {w : World} {us : List Value} {R : Nat → List Int} (h : GrowY B g n w us R) : g < w.heap.size := by
  obtain ⟨cur, h1, _⟩ := h.out
  exact free_lt h1
theorem GrowY.start {B g n : Nat} {w : World} {cur : Array Value} (h : w.heap[g]? = some (.cells cur 25 (0, 0))) (hc : cur.toList = List.replicate n (.slice none 0 0)) (hg : g < B) : GrowY B g n w (List.replicate n (.slice none 0 0)) (fun _ => []) := by
  refine ⟨⟨cur, h, hc⟩, List.length_replicate, hg, fun k u hu => ?_, fun j k u u' _ hj _ b hb => ?_⟩
  · obtain ⟨hlt, e⟩ := List.getElem?_eq_some_iff.1 hu
    rw [List.getElem_replicate] at e
    subst e
    exact ⟨rfl, .inl ⟨rfl, rfl⟩⟩
  · obtain ⟨hlt, e⟩ := List.getElem?_eq_some_iff.1 hj
    rw [List.getElem_replicate] at e
    subst e
    cases hb
theorem GrowY.keep {B g n : Nat} {w w' : World} {us : List Value} {R : Nat → List Int} (h : GrowY B g n w us R) (hb : Below w.heap.size w w') : GrowY B g n w' us R := by
  obtain ⟨cur, h1, h2⟩ := h.out
  exact ⟨⟨cur, by rw [hb.block g (free_lt h1)]; exact h1, h2⟩, h.len, h.low, fun k u hu => own_stay (h.row k u hu) hb, h.apart⟩
theorem GrowY.congr {B g n : Nat} {w : World} {us : List Value} {R R' : Nat → List Int} (h : GrowY B g n w us R) (hR : ∀ k, R k = R' k) : GrowY B g n w us R' := by
  have e : R = R' := funext hR
  rwa [e] at h
theorem GrowY.at_ {B g n : Nat} {w : World} {us : List Value} {R : Nat → List Int} (h : GrowY B g n w us R) {k : Nat} (hk : k < n) : ∃ u, us[k]? = some u ∧ w.cell? ⟨g, k, none⟩ = some u ∧ w.ownsRow B 3 1 u (R k).length (rowI (R k)) ∧ w.frozen? ⟨g, k, none⟩ = false := by
  obtain ⟨cur, h1, h2⟩ := h.out
  have hl : k < us.length := by rw [h.len]; exact hk
  refine ⟨us[k], List.getElem?_eq_getElem hl, ?_, h.row k _ (List.getElem?_eq_getElem hl), by simp [World.frozen?, h1]⟩
  simp only [World.cell?, h1]
  rw [← List.getElem?_eq_getElem hl, ← h2, Array.getElem?_toList]
  rfl
/-- A row that has grown, laid into its place. -/
theorem GrowY.set {B g n i : Nat} {w w' : World} {us : List Value} {R : Nat → List Int} {ui v' : Value} {l : List Int} (h : GrowY B g n w us R) (hu : us[i]? = some ui) (hg : w.grownBy w' ui.ownBlock)
    (ho : w'.ownsRow B 3 1 v' l.length (rowI l)) (hv : v'.ownBlock = ui.ownBlock ∨ v'.ownBlock = some w.heap.size) : GrowY B g n (w'.setCell ⟨g, i, none⟩ v') (us.set i v') (upd R i l) := by
  obtain ⟨cur, h1, h2⟩ := h.out
  have hgl := free_lt h1
  have hgu : ∀ b, ui.ownBlock = some b → g ≠ b := fun b hb e => by
    have := (own_lt (h.row i ui hu) b hb).1
    have := h.low
    omega
  have h1' : w'.heap[g]? = some (.cells cur 25 (0, 0)) := by
    rw [hg.block g hgl (fun e => hgu g e.symm rfl)]; exact h1
  have far : ∀ k, k ≠ g → (w'.setCell ⟨g, i, none⟩ v').heap[k]? = w'.heap[k]? := fun k hk => Below.heap_setCell _ _ _ _ hk
  have hvb : ∀ b, v'.ownBlock = some b → ui.ownBlock = some b ∨ b = w.heap.size := fun b hb => by
    rcases hv with e | e
    · exact .inl (e ▸ hb)
    · rw [hb] at e; exact .inr (Option.some.inj e)
  have hold : ∀ k u, k ≠ i → us[k]? = some u → ∀ b, u.ownBlock = some b → b < w.heap.size ∧ ui.ownBlock ≠ some b := fun k u hk hu' b hb => ⟨(own_lt (h.row k u hu') b hb).2, h.apart k i u ui hk hu' hu b hb⟩
  have hset : ∀ k u, (us.set i v')[k]? = some u → (k = i ∧ u = v') ∨ (k ≠ i ∧ us[k]? = some u) := fun k u hk => by
    by_cases e : i = k
    · subst e
      rw [List.getElem?_set_self (List.getElem?_eq_some_iff.1 hu).1] at hk
      exact .inl ⟨rfl, (Option.some.inj hk).symm⟩
    · rw [List.getElem?_set_ne e] at hk
      exact .inr ⟨Ne.symm e, hk⟩
  refine ⟨⟨_, Joins.block_setCell h1' (i := i) v', by rw [Array.toList_setIfInBounds, h2]⟩, by rw [List.length_set]; exact h.len, h.low, fun k u hk => ?_, fun j k u u' hjk hj hk b hb => ?_⟩
  · have move : ∀ (m : Nat) (xs : List Value) (z : Value), w'.ownsRow B 3 1 z m xs → (w'.setCell ⟨g, i, none⟩ v').ownsRow B 3 1 z m xs := fun m xs z hz =>
      own_keep hz fun k hk _ => far k (by have := h.low; omega)
    rcases hset k u hk with ⟨rfl, rfl⟩ | ⟨hne, hk'⟩
    · rw [upd_self]; exact move _ _ _ ho
    · rw [upd_ne hne]
      refine move _ _ _ ?_
      have hr := h.row k u hk'
      refine ⟨hr.1, ?_⟩
      rcases hr.2 with q | ⟨g', cap', cur', rfl, q1, q2, q3⟩
      · exact .inl q
      · refine .inr ⟨g', cap', cur', rfl, q1, ?_, q3⟩
        have := hold k _ hne hk' g' rfl
        rw [hg.block g' this.1 (fun e => this.2 e.symm)]; exact q2
  · rcases hset j u hj with ⟨rfl, rfl⟩ | ⟨hnj, hj'⟩
    · rcases hset k u' hk with ⟨rfl, rfl⟩ | ⟨hnk, hk'⟩
      · exact absurd rfl hjk
      · intro hc
        have := hold k u' hnk hk' b hc
        rcases hvb b hb with e | e
        · exact this.2 e
        · omega
    · rcases hset k u' hk with ⟨rfl, rfl⟩ | ⟨hnk, hk'⟩
      · intro hc
        have := hold j u hnj hj' b hb
        rcases hvb b hc with e | e
        · exact this.2 e
        · omega
      · exact h.apart j k u u' hjk hj' hk' b hb
theorem GrowY.newY {B g K : Nat} {w : World} {us : List Value} {R : Nat → List Int} {ss : List (List Int)} (h : GrowY B g ss.length w us R) (hK : K ≤ g) (hm : ss.length ≤ maxLen) (hR : ∀ k, k < ss.length → R k = rowAt ss k) : NewY K w (.slice (some ⟨g, 0, none⟩) ss.length ss.length) ss := by
  refine ⟨_, _, rfl, Nat.le_refl _, hm, (fun e => by cases e), ?_⟩
  by_cases hz : ss.length = 0
  · exact .inl hz
  · refine .inr ⟨g, 0, rfl, hK, h.lt, fun k hk => ?_⟩
    obtain ⟨u, h1, h2, h3, _⟩ := h.at_ hk
    have hlow := h.low
    refine ⟨u, by rw [Nat.zero_add]; exact h2, ?_, NilOk.of_own h3⟩
    rw [hR k hk] at h3
    exact (NewI.of_own h3).from_ (by omega)
/-- A slice of slices that was just made. -/
theorem made_rows {K n : Nat} {w : World} {g : Nat} (h : w.ownsRow K 25 1 (.slice (some ⟨g, 0, none⟩) n n) n (madeCells (Value.slice none 0 0).cells (n * 1)).toList) : ∃ cur, w.heap[g]? = some (.cells cur 25 (0, 0)) ∧ cur.toList = List.replicate n (.slice none 0 0) := by
  have e : (madeCells (Value.slice none 0 0).cells (n * 1)).toList = List.replicate n (.slice none 0 0) := by
    apply List.ext_getElem
    · simp [madeCells]
    · intro i h1 h2
      simp [madeCells, Value.cells, Nat.mod_one]
  rw [e] at h
  rcases h.2 with ⟨h1, _⟩ | ⟨g', cap', cur, h1, _, h3, _, _, h6, h7⟩
  · cases h1
  · simp only [Value.slice.injEq, Option.some.injEq, Addr.mk.injEq, and_true, true_and] at h1
    obtain ⟨rfl, rfl⟩ := h1
    refine ⟨cur, h3, ?_⟩
    rw [← h7, List.take_of_length_le (by rw [Array.length_toList]; omega)]
end Go.Proofs.Ytfeobdgdhgcgoaa
