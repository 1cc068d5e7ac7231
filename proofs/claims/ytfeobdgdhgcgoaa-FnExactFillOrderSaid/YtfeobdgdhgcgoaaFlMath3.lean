/-
  Plain mathematics of filling, third part: the library's insertion sort of boxes gives the order in which they are loaded; the lightest of the next slots as the library's search for the least finds it. Nothing of the program.
-/
import Derived.Test.YtfeobdgdhgcgoaaFlMath2
namespace Go.Proofs.Ytfeobdgdhgcgoaa
set_option linter.unusedVariables false

/-- One box goes down to its place; the first i boxes sorted. -/
def inB (lt : Bx → Bx → Bool) : Nat → List Bx → List Bx
  | 0, c => c
  | j + 1, c => if lt (bxAt c (j + 1)) (bxAt c j) = true then inB lt j ((c.set (j + 1) (bxAt c j)).set j (bxAt c (j + 1))) else c
def isB (lt : Bx → Bx → Bool) (c : List Bx) : Nat → List Bx
  | 0 => c
  | i + 1 => inB lt i (isB lt c i)
theorem inB_go {lt : Bx → Bx → Bool} {j : Nat} {c : List Bx} (h : lt (bxAt c (j + 1)) (bxAt c j) = true) : inB lt (j + 1) c = inB lt j ((c.set (j + 1) (bxAt c j)).set j (bxAt c (j + 1))) := by
  rw [inB, if_pos h]
theorem inB_stop {lt : Bx → Bx → Bool} {j : Nat} {c : List Bx} (h : lt (bxAt c (j + 1)) (bxAt c j) = false) : inB lt (j + 1) c = c := by
  rw [inB, if_neg (by rw [h]; simp)]
theorem swapB_perm {c : List Bx} {j : Nat} (hj : j + 1 < c.length) : ((c.set (j + 1) (bxAt c j)).set j (bxAt c (j + 1))).Perm c := by
  have hj2 : j < c.length := by omega
  rw [bxAt_get hj, bxAt_get hj2]
  exact List.set_set_perm hj hj2
theorem inB_perm (lt : Bx → Bx → Bool) : ∀ j c, j < c.length → (inB lt j c).Perm c
  | 0, c, _ => List.Perm.refl _
  | j + 1, c, h => by
    unfold inB
    split
    · exact (inB_perm lt j _ (by rw [List.length_set, List.length_set]; omega)).trans (swapB_perm h)
    · exact List.Perm.refl _
theorem isB_perm (lt : Bx → Bx → Bool) (c : List Bx) : ∀ i, i ≤ c.length → (isB lt c i).Perm c
  | 0, _ => List.Perm.refl _
  | i + 1, h => by
    have ih := isB_perm lt c i (by omega)
    exact (inB_perm lt i _ (by rw [ih.length_eq]; omega)).trans ih
theorem bxAt_set_self {c : List Bx} {k : Nat} (h : k < c.length) (x : Bx) : bxAt (c.set k x) k = x := by
  unfold bxAt
  rw [List.getD_eq_getElem?_getD, List.getElem?_set_self h]
  rfl
theorem bxAt_set_ne {c : List Bx} {k j : Nat} (h : k ≠ j) (x : Bx) : bxAt (c.set k x) j = bxAt c j := by
  unfold bxAt
  rw [List.getD_eq_getElem?_getD, List.getElem?_set_ne h, ← List.getD_eq_getElem?_getD]
theorem swapB_at {c : List Bx} {j : Nat} (hj : j + 1 < c.length) (a : Nat) : bxAt ((c.set (j + 1) (bxAt c j)).set j (bxAt c (j + 1))) a = if a = j then bxAt c (j + 1) else if a = j + 1 then bxAt c j else bxAt c a := by
  by_cases h1 : a = j
  · subst h1
    rw [if_pos rfl, bxAt_set_self (by rw [List.length_set]; omega)]
  · rw [if_neg h1, bxAt_set_ne (Ne.symm h1)]
    by_cases h2 : a = j + 1
    · subst h2
      rw [if_pos rfl, bxAt_set_self hj]
    · rw [if_neg h2, bxAt_set_ne (Ne.symm h2)]
theorem bxAt_mem {c : List Bx} {k : Nat} (h : k < c.length) : bxAt c k ∈ c := by rw [bxAt_get h]; exact List.getElem_mem h
/-- All but the box that goes down is in order, and it is before what it has passed. -/
theorem inB_srt {lt : Bx → Bx → Bool} {i : Nat} : ∀ j (c : List Bx), j < i → i ≤ c.length → (∀ x y, x ∈ c → y ∈ c → lt x y = decide (keyB x < keyB y)) →
    (∀ a b, a < b → b < i → a ≠ j → b ≠ j → keyB (bxAt c a) ≤ keyB (bxAt c b)) → (∀ b, j < b → b < i → keyB (bxAt c j) ≤ keyB (bxAt c b)) →
    ∀ a b, a < b → b < i → keyB (bxAt (inB lt j c) a) ≤ keyB (bxAt (inB lt j c) b)
  | 0, c, hj, hi, hlt, h1, h2 => fun a b hab hb => by
    show keyB (bxAt c a) ≤ keyB (bxAt c b)
    by_cases e : a = 0
    · subst e; exact h2 b hab hb
    · exact h1 a b hab hb e (by omega)
  | j + 1, c, hj, hi, hlt, h1, h2 => fun a b hab hb => by
    have hv := hlt (bxAt c (j + 1)) (bxAt c j) (bxAt_mem (by omega)) (bxAt_mem (by omega))
    have hjl : j + 1 < c.length := by omega
    by_cases hk : keyB (bxAt c (j + 1)) < keyB (bxAt c j)
    · rw [inB_go (by rw [hv]; exact decide_eq_true hk)]
      have hp := swapB_perm hjl
      refine inB_srt j _ (by omega) (by rw [hp.length_eq]; exact hi) (fun x y hx hy => hlt x y (hp.mem_iff.1 hx) (hp.mem_iff.1 hy)) ?_ ?_ a b hab hb
      · intro a b hab hb ha hb2
        rw [swapB_at hjl, swapB_at hjl, if_neg ha, if_neg hb2]
        by_cases e1 : a = j + 1
        · rw [if_pos e1, if_neg (by omega)]
          exact h1 j b (by omega) hb (by omega) (by omega)
        · rw [if_neg e1]
          by_cases e2 : b = j + 1
          · rw [if_pos e2]
            exact h1 a j (by omega) (by omega) e1 (by omega)
          · rw [if_neg e2]
            exact h1 a b hab hb e1 e2
      · intro b hb hbi
        rw [swapB_at hjl, swapB_at hjl, if_pos rfl, if_neg (by omega)]
        by_cases e2 : b = j + 1
        · rw [if_pos e2]; omega
        · rw [if_neg e2]
          exact h2 b (by omega) hbi
    · rw [inB_stop (by rw [hv]; exact decide_eq_false hk)]
      by_cases e1 : a = j + 1
      · subst e1; exact h2 b hab hb
      · by_cases e2 : b = j + 1
        · subst e2
          by_cases e3 : a = j
          · subst e3; omega
          · have := h1 a j (by omega) (by omega) e1 (by omega)
            omega
        · exact h1 a b hab hb e1 e2
theorem isB_srt {lt : Bx → Bx → Bool} {c : List Bx} (hlt : ∀ x y, x ∈ c → y ∈ c → lt x y = decide (keyB x < keyB y)) : ∀ i, i ≤ c.length → ∀ a b, a < b → b < i → keyB (bxAt (isB lt c i) a) ≤ keyB (bxAt (isB lt c i) b)
  | 0, _, a, b, _, hb => absurd hb (Nat.not_lt_zero _)
  | i + 1, hi, a, b, hab, hb => by
    have ih := isB_srt hlt i (by omega)
    have hp := isB_perm lt c i (by omega)
    exact inB_srt (i := i + 1) i _ (by omega) (by rw [hp.length_eq]; exact hi) (fun x y hx hy => hlt x y (hp.mem_iff.1 hx) (hp.mem_iff.1 hy)) (fun a b hab hb ha hb2 => ih a b hab (by omega)) (fun b h1 h2 => by omega) a b hab hb
theorem fillO_mem {l : List Bx} (h : bxsOk l = true) {x : Int} : x ∈ fillO l ↔ x ∈ bxIds l := by
  obtain ⟨h1, h2, h3, -⟩ := fillO_law h
  refine ⟨h3 x, fun hx => ?_⟩
  apply Classical.byContradiction
  intro hn
  have := List.Nodup.length_le_of_subset (l₁ := x :: fillO l) (l₂ := bxIds l) (List.nodup_cons.2 ⟨hn, h2⟩) (fun y hy => by
    rcases List.mem_cons.1 hy with e | e
    · rw [e]; exact hx
    · exact h3 y e)
  have e : (bxIds l).length = l.length := by simp [bxIds]
  rw [List.length_cons] at this
  omega
/-- What the library sorts so is the order. -/
theorem fill_sorted {l : List Bx} (h : bxsOk l = true) : bxIds (isB befB l l.length) = fillO l := by
  have hlt : ∀ x y, x ∈ l → y ∈ l → befB x y = decide (keyB x < keyB y) := fun x y hx hy => by
    obtain ⟨i, hi, rfl⟩ := List.getElem_of_mem hx
    obtain ⟨j, hj, rfl⟩ := List.getElem_of_mem hy
    exact bef_key (bxsOk_box h hi) (bxsOk_box h hj)
  have hp := isB_perm befB l l.length (Nat.le_refl _)
  have hs := isB_srt hlt l.length (Nat.le_refl _)
  generalize isB befB l l.length = s at hp hs
  have hpm : (bxIds s).Perm (bxIds l) := hp.map _
  have hk : ∀ b, b ∈ s → keyI l b.i = keyB b := fun b hb => by
    obtain ⟨i, hi, rfl⟩ := List.getElem_of_mem (hp.mem_iff.1 hb)
    have := keyI_at h hi
    rwa [bxAt_get hi] at this
  obtain ⟨f1, f2, f3, f4⟩ := fillO_law h
  refine key_uniq (l := l) ?_ f4 (fun x => hpm.mem_iff.trans (fillO_mem h).symm)
  have hnd := hpm.nodup_iff.2 (bxIds_nodup h)
  unfold bxIds at hnd ⊢
  rw [List.nodup_iff_pairwise_ne, List.pairwise_map] at hnd
  rw [List.pairwise_map]
  rw [List.pairwise_iff_getElem] at hnd ⊢
  intro a b ha hb hab
  rw [hk _ (List.getElem_mem ha), hk _ (List.getElem_mem hb)]
  have h1 := hs a b hab (by rw [← hp.length_eq]; exact hb)
  rw [bxAt_get ha, bxAt_get hb] at h1
  have h2 : keyB s[a] ≠ keyB s[b] := fun he => by
    obtain ⟨i, hi, ei⟩ := List.getElem_of_mem (hp.mem_iff.1 (List.getElem_mem ha))
    obtain ⟨j, hj, ej⟩ := List.getElem_of_mem (hp.mem_iff.1 (List.getElem_mem hb))
    have hij := key_inj h hi hj (by rw [bxAt_get hi, bxAt_get hj, ei, ej]; exact he)
    subst hij
    exact hnd a b ha hb hab (by rw [← ei, ← ej])
  omega
/-- The first of three numbers that is not zero. -/
def orI (a b c : Int) : Int := if a = 0 then (if b = 0 then c else b) else a
/-- What cmp.Compare gives, and what the program compares two boxes by. -/
def cmpB (a b : Bx) : Int := orI (if b.p < a.p then -1 else if a.p < b.p then 1 else 0) (if b.g < a.g then -1 else if a.g < b.g then 1 else 0) (if a.i < b.i then -1 else if b.i < a.i then 1 else 0)
theorem cmpB_lt (a b : Bx) : befB a b = decide (cmpB a b < 0) := by
  unfold befB cmpB orI
  by_cases c1 : a.p = b.p
  · rw [if_neg (fun h => h c1), if_neg (by omega : ¬ b.p < a.p), if_neg (by omega : ¬ a.p < b.p), if_pos rfl]
    by_cases c2 : a.g = b.g
    · rw [if_neg (fun h => h c2), if_neg (by omega : ¬ b.g < a.g), if_neg (by omega : ¬ a.g < b.g), if_pos rfl]
      by_cases c3 : a.i < b.i
      · rw [if_pos c3]; simp [c3]
      · rw [if_neg c3]
        by_cases c4 : b.i < a.i
        · rw [if_pos c4]; simp [c3]
        · rw [if_neg c4]; simp [c3]
    · rw [if_pos c2]
      by_cases c3 : b.g < a.g
      · rw [if_pos c3]; simp [c3]
      · have c4 : a.g < b.g := by omega
        simp [c3, c4]
  · rw [if_pos c1]
    by_cases c3 : b.p < a.p
    · rw [if_pos c3]; simp [c3]
    · have c4 : a.p < b.p := by omega
      simp [c3, c4]
/-- The first number of least key among the first k + 1, as the library's search goes. -/
def minK (key : Int → Int) (nx : List Int) : Nat → Int
  | 0 => nx.getD 0 0
  | k + 1 => if key (nx.getD k 0) < key (minK key nx k) then nx.getD k 0 else minK key nx k
theorem minK_one (key : Int → Int) (nx : List Int) : minK key nx 1 = nx.getD 0 0 := by
  rw [minK, if_neg (show ¬ key (nx.getD 0 0) < key (minK key nx 0) from Int.lt_irrefl (key (nx.getD 0 0)))]
  rfl
theorem minK_mem {key : Int → Int} {nx : List Int} (h0 : 0 < nx.length) : ∀ k, k ≤ nx.length → minK key nx k ∈ nx
  | 0, _ => by
    show nx.getD 0 0 ∈ nx
    rw [List.getD_eq_getElem?_getD, List.getElem?_eq_getElem h0, Option.getD_some]
    exact List.getElem_mem h0
  | k + 1, hk => by
    unfold minK
    split
    · rw [List.getD_eq_getElem?_getD, List.getElem?_eq_getElem (by omega), Option.getD_some]
      exact List.getElem_mem _
    · exact minK_mem h0 k (by omega)
theorem lgt_min {T : Nat} {rows nx : List Int} (h0 : 0 < nx.length) (hn : ∀ x, x ∈ nx → 0 ≤ x) : ∀ k, 0 < k → k ≤ nx.length → lgtN T rows nx k = minK (fun x => rows.getD (x.toNat / T) 0) nx k
  | 1, _, _ => by
    rw [minK_one]
    rw [lgtN, if_pos (.inl (show (-1 : Int) < 0 by omega))]
  | k + 2, _, hk => by
    have ih := lgt_min (T := T) (rows := rows) h0 hn (k + 1) (by omega) (by omega)
    have hm := hn _ (minK_mem (key := fun x => rows.getD (x.toNat / T) 0) h0 (k + 1) (by omega))
    have e2 : minK (fun x => rows.getD (x.toNat / T) 0) nx (k + 2) = if rows.getD ((nx.getD (k + 1) 0).toNat / T) 0 < rows.getD ((minK (fun x => rows.getD (x.toNat / T) 0) nx (k + 1)).toNat / T) 0 then nx.getD (k + 1) 0 else minK (fun x => rows.getD (x.toNat / T) 0) nx (k + 1) := rfl
    rw [lgtN, ih, e2]
    by_cases hc : rows.getD ((nx.getD (k + 1) 0).toNat / T) 0 < rows.getD ((minK (fun x => rows.getD (x.toNat / T) 0) nx (k + 1)).toNat / T) 0
    · rw [if_pos (.inr hc), if_pos hc]
    · rw [if_neg (by rintro (h1 | h1); omega; exact hc h1), if_neg hc]
theorem fillN_stay {h : Hl} {l : List Bx} {ord : List Int} {k : Nat} (hl : lgtO h l (fillN h l ord k) < 0) : ∀ d, fillN h l ord (k + d) = fillN h l ord k
  | 0 => rfl
  | d + 1 => by
    have ih := fillN_stay hl d
    rw [← Nat.add_assoc, fillN, ih, if_neg (by omega)]
end Go.Proofs.Ytfeobdgdhgcgoaa
