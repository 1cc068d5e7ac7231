/-
  Plain mathematics of filling: the order in which boxes are loaded. Nothing of the program.
-/
import Derived.Test.YtfeobdgdhgcgoaaGPn
import Derived.Test.YtfeobdgdhgcgoaaGOm
import Derived.Test.YtfeobdgdhgcgoaaGAp
namespace Go.Proofs.Ytfeobdgdhgcgoaa
set_option linter.unusedVariables false

/-- Whether a box is loaded before another one. -/
def befB (a b : Bx) : Bool := if a.p ≠ b.p then decide (a.p > b.p) else if a.g ≠ b.g then decide (a.g > b.g) else decide (a.i < b.i)
/-- A number that tells the order of valid boxes. -/
def keyB (b : Bx) : Int := (6 - b.p) * 100000 + (30 - b.g) * 1000 + b.i
theorem Bx.ok_bd {b : Bx} (h : b.ok = true) : (1 ≤ b.i ∧ b.i ≤ 999) ∧ (1 ≤ b.g ∧ b.g ≤ 30) ∧ 0 ≤ b.p ∧ b.p ≤ 6 := by
  have h2 := of_decide_eq_true (show bxOk b.i b.g b.c b.p = true from h)
  omega
theorem bef_key {a b : Bx} (ha : a.ok = true) (hb : b.ok = true) : befB a b = decide (keyB a < keyB b) := by
  have h1 := Bx.ok_bd ha
  have h2 := Bx.ok_bd hb
  unfold befB keyB
  by_cases c1 : a.p = b.p
  · rw [if_neg (fun h => h c1)]
    by_cases c2 : a.g = b.g
    · rw [if_neg (fun h => h c2)]
      exact decide_eq_decide.2 (by omega)
    · rw [if_pos c2]
      exact decide_eq_decide.2 (by omega)
  · rw [if_pos c1]
    exact decide_eq_decide.2 (by omega)
def bxAt (l : List Bx) (k : Nat) : Bx := l.getD k Bx.zero
theorem bxAt_get {l : List Bx} {k : Nat} (h : k < l.length) : bxAt l k = l[k] := getD_bx h
/-- The index of the box, of the first n, that comes before all others that are not out; -1 if there is none. -/
def bstF (l : List Bx) (out : List Int) : Nat → Int
  | 0 => -1
  | j + 1 => if hasI out (bxAt l j).i = false ∧ (bstF l out j < 0 ∨ befB (bxAt l j) (bxAt l (bstF l out j).toNat) = true) then (j : Int) else bstF l out j
theorem bstF_bd (l : List Bx) (out : List Int) : ∀ n, -1 ≤ bstF l out n ∧ bstF l out n < n
  | 0 => by unfold bstF; omega
  | j + 1 => by
    have ih := bstF_bd l out j
    unfold bstF
    split <;> omega
theorem bxsOk_ok {l : List Bx} (h : bxsOk l = true) {k : Nat} (hk : k < l.length) : (bxAt l k).ok = true := by rw [bxAt_get hk]; exact bxsOk_box h hk
theorem find_at {l : List Bx} (h : bxsOk l = true) {i : Nat} (hi : i < l.length) : findB l (bxAt l i).i = (i : Int) := by
  rw [bxAt_get hi]
  have h1 := findS_at h hi
  unfold findS at h1
  rw [if_pos h] at h1
  exact h1
theorem ids_inj {l : List Bx} (h : bxsOk l = true) {i j : Nat} (hi : i < l.length) (hj : j < l.length) (he : (bxAt l i).i = (bxAt l j).i) : i = j := by
  have h1 := find_at h hi
  have h2 := find_at h hj
  rw [he, h2] at h1
  omega
theorem bxIds_nodup {l : List Bx} (h : bxsOk l = true) : (bxIds l).Nodup := by
  unfold bxIds
  rw [List.nodup_iff_pairwise_ne, List.pairwise_map, List.pairwise_iff_getElem]
  intro i j hi hj hij he
  have := ids_inj h hi hj (by rw [bxAt_get hi, bxAt_get hj]; exact he)
  omega
theorem key_inj {l : List Bx} (h : bxsOk l = true) {i j : Nat} (hi : i < l.length) (hj : j < l.length) (he : keyB (bxAt l i) = keyB (bxAt l j)) : i = j := by
  refine ids_inj h hi hj ?_
  have h1 := Bx.ok_bd (bxsOk_ok h hi)
  have h2 := Bx.ok_bd (bxsOk_ok h hj)
  unfold keyB at he
  omega
/-- What the search finds. -/
theorem bstF_law {l : List Bx} (h : bxsOk l = true) (out : List Int) : ∀ n, n ≤ l.length → (bstF l out n = -1 ∧ ∀ i, i < n → hasI out (bxAt l i).i = true) ∨
    ∃ b : Nat, bstF l out n = (b : Int) ∧ b < n ∧ hasI out (bxAt l b).i = false ∧ ∀ i, i < n → hasI out (bxAt l i).i = false → keyB (bxAt l b) ≤ keyB (bxAt l i)
  | 0, _ => .inl ⟨rfl, fun i hi => by omega⟩
  | j + 1, hj => by
    have ih := bstF_law h out j (by omega)
    unfold bstF
    rcases ih with ⟨i1, i2⟩ | ⟨b, i1, i2, i3, i4⟩
    · rw [i1]
      cases ho : hasI out (bxAt l j).i
      · rw [if_pos ⟨rfl, .inl (by omega)⟩]
        refine .inr ⟨j, rfl, by omega, ho, fun i hi hx => ?_⟩
        by_cases e : i = j
        · subst e; exact Int.le_refl _
        · rw [i2 i (by omega)] at hx; cases hx
      · rw [if_neg (by simp)]
        refine .inl ⟨rfl, fun i hi => ?_⟩
        by_cases e : i = j
        · subst e; exact ho
        · exact i2 i (by omega)
    · rw [i1, Int.toNat_natCast, bef_key (bxsOk_ok h (by omega)) (bxsOk_ok h (by omega))]
      cases ho : hasI out (bxAt l j).i
      · by_cases hlt : keyB (bxAt l j) < keyB (bxAt l b)
        · rw [if_pos ⟨rfl, .inr (decide_eq_true hlt)⟩]
          refine .inr ⟨j, rfl, by omega, ho, fun i hi hx => ?_⟩
          by_cases e : i = j
          · subst e; exact Int.le_refl _
          · have := i4 i (by omega) hx; omega
        · rw [if_neg (by rintro ⟨-, h1 | h1⟩; omega; exact hlt (of_decide_eq_true h1))]
          refine .inr ⟨b, rfl, by omega, i3, fun i hi hx => ?_⟩
          by_cases e : i = j
          · subst e; omega
          · exact i4 i (by omega) hx
      · rw [if_neg (by simp)]
        refine .inr ⟨b, rfl, by omega, i3, fun i hi hx => ?_⟩
        by_cases e : i = j
        · subst e; rw [ho] at hx; cases hx
        · exact i4 i (by omega) hx
/-- The first k ids of the order. -/
def selF (l : List Bx) : Nat → List Int
  | 0 => []
  | k + 1 => selF l k ++ [(bxAt l (bstF l (selF l k) l.length).toNat).i]
theorem selF_len (l : List Bx) : ∀ k, (selF l k).length = k
  | 0 => rfl
  | k + 1 => by unfold selF; rw [List.length_append, selF_len l k]; rfl
/-- What FillOrder gives. -/
def fillO (l : List Bx) : List Int := if bxsOk l = true then selF l l.length else []
theorem mem_ids {l : List Bx} {x : Int} : x ∈ bxIds l ↔ ∃ i, i < l.length ∧ (bxAt l i).i = x := by
  unfold bxIds
  rw [List.mem_map]
  constructor
  · rintro ⟨b, hb, rfl⟩
    obtain ⟨i, hi, rfl⟩ := List.getElem_of_mem hb
    exact ⟨i, hi, by rw [bxAt_get hi]⟩
  · rintro ⟨i, hi, rfl⟩
    exact ⟨l[i], List.getElem_mem hi, by rw [bxAt_get hi]⟩
/-- The key of what has an id. -/
def keyI (l : List Bx) (x : Int) : Int := keyB (bxAt l (findB l x).toNat)
theorem keyI_at {l : List Bx} (h : bxsOk l = true) {i : Nat} (hi : i < l.length) : keyI l (bxAt l i).i = keyB (bxAt l i) := by unfold keyI; rw [find_at h hi, Int.toNat_natCast]
/-- The order: each box once, and by the key. -/
theorem selF_law {l : List Bx} (h : bxsOk l = true) : ∀ k, k ≤ l.length → (selF l k).Nodup ∧ (∀ x, x ∈ selF l k → x ∈ bxIds l) ∧ (selF l k).Pairwise (fun a b => keyI l a < keyI l b) ∧ ∀ x, x ∈ selF l k → ∀ y, y ∈ bxIds l → y ∉ selF l k → keyI l x < keyI l y
  | 0, _ => ⟨List.nodup_nil, fun x (hx : x ∈ []) => absurd hx List.not_mem_nil, List.Pairwise.nil, fun x (hx : x ∈ []) => absurd hx List.not_mem_nil⟩
  | k + 1, hk => by
    obtain ⟨a1, a2, a3, a4⟩ := selF_law h k (by omega)
    have hlen := selF_len l k
    -- one is left
    have hleft : ∃ i, i < l.length ∧ hasI (selF l k) (bxAt l i).i = false := by
      apply Classical.byContradiction
      intro hc
      have hall : ∀ x, x ∈ bxIds l → x ∈ selF l k := fun x hx => by
        obtain ⟨i, hi, rfl⟩ := mem_ids.1 hx
        cases ho : hasI (selF l k) (bxAt l i).i
        · exact absurd ⟨i, hi, ho⟩ hc
        · exact hasI_iffP.1 ho
      have := List.Nodup.length_le_of_subset (bxIds_nodup h) hall
      rw [hlen] at this
      have e : (bxIds l).length = l.length := by simp [bxIds]
      omega
    rcases bstF_law h (selF l k) l.length (Nat.le_refl _) with ⟨i1, i2⟩ | ⟨b, i1, i2, i3, i4⟩
    · obtain ⟨i, hi, ho⟩ := hleft
      rw [i2 i hi] at ho; cases ho
    · have e : selF l (k + 1) = selF l k ++ [(bxAt l b).i] := by rw [selF, i1, Int.toNat_natCast]
      have hnm : (bxAt l b).i ∉ selF l k := fun hm => by rw [hasI_iffP.2 hm] at i3; cases i3
      have hbm : (bxAt l b).i ∈ bxIds l := mem_ids.2 ⟨b, i2, rfl⟩
      have hkb := keyI_at h i2
      rw [e]
      refine ⟨?_, fun x hx => ?_, ?_, fun x hx y hy hn => ?_⟩
      · rw [List.nodup_append]
        refine ⟨a1, by simp, fun a ha c hc => ?_⟩
        rw [List.mem_singleton] at hc
        subst hc
        exact fun he => hnm (he ▸ ha)
      · rcases List.mem_append.1 hx with hx | hx
        · exact a2 x hx
        · rw [List.mem_singleton] at hx; subst hx; exact hbm
      · rw [List.pairwise_append]
        refine ⟨a3, List.pairwise_singleton _ _, fun a ha c hc => ?_⟩
        rw [List.mem_singleton] at hc
        subst hc
        exact a4 a ha _ hbm hnm
      · have hny : y ∉ selF l k := fun hm => hn (List.mem_append_left _ hm)
        obtain ⟨j, hj, rfl⟩ := mem_ids.1 hy
        have hbj : b ≠ j := fun he => hn (List.mem_append_right _ (by rw [he]; exact List.mem_singleton_self _))
        rcases List.mem_append.1 hx with hx | hx
        · exact a4 x hx _ hy hny
        · rw [List.mem_singleton] at hx
          subst hx
          have hoj : hasI (selF l k) (bxAt l j).i = false := by
            cases ho : hasI (selF l k) (bxAt l j).i
            · rfl
            · exact absurd (hasI_iffP.1 ho) hny
          have h1 := i4 j hj hoj
          have h2 : keyB (bxAt l b) ≠ keyB (bxAt l j) := fun he => hbj (key_inj h i2 hj he)
          rw [hkb, keyI_at h hj]
          omega
theorem fillO_law {l : List Bx} (h : bxsOk l = true) : (fillO l).length = l.length ∧ (fillO l).Nodup ∧ (∀ x, x ∈ fillO l → x ∈ bxIds l) ∧ (fillO l).Pairwise (fun a b => keyI l a < keyI l b) := by
  obtain ⟨a1, a2, a3, a4⟩ := selF_law h l.length (Nat.le_refl _)
  have e : fillO l = selF l l.length := by unfold fillO; rw [if_pos h]
  rw [e]
  exact ⟨selF_len l _, a1, a2, a3⟩
theorem fillO_bad {l : List Bx} (h : bxsOk l = false) : fillO l = [] := by unfold fillO; rw [h]; rfl
/-- A list of all ids that is ordered by the key is the order. -/
theorem key_uniq {l : List Bx} : ∀ {a b : List Int}, a.Pairwise (fun x y => keyI l x < keyI l y) → b.Pairwise (fun x y => keyI l x < keyI l y) → (∀ x, x ∈ a ↔ x ∈ b) → a = b
  | [], [], _, _, _ => rfl
  | [], y :: b, _, _, h => absurd ((h y).2 List.mem_cons_self) (by simp)
  | x :: a, [], _, _, h => absurd ((h x).1 List.mem_cons_self) (by simp)
  | x :: a, y :: b, ha, hb, h => by
    have ha' := List.pairwise_cons.1 ha
    have hb' := List.pairwise_cons.1 hb
    have hxy : x = y := by
      rcases List.mem_cons.1 ((h x).1 List.mem_cons_self) with e | e
      · exact e
      · rcases List.mem_cons.1 ((h y).2 List.mem_cons_self) with e2 | e2
        · exact e2.symm
        · have h1 := hb'.1 x e
          have h2 := ha'.1 y e2
          omega
    subst hxy
    rw [key_uniq ha'.2 hb'.2 (fun z => ?_)]
    constructor
    · intro hz
      rcases List.mem_cons.1 ((h z).1 (List.mem_cons_of_mem _ hz)) with e | e
      · subst e; exact absurd (ha'.1 z hz) (Int.lt_irrefl _)
      · exact e
    · intro hz
      rcases List.mem_cons.1 ((h z).2 (List.mem_cons_of_mem _ hz)) with e | e
      · subst e; exact absurd (hb'.1 z hz) (Int.lt_irrefl _)
      · exact e
end Go.Proofs.Ytfeobdgdhgcgoaa
