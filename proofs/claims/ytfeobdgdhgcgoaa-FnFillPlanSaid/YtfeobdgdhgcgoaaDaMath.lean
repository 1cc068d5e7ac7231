/-
  Plain mathematics of dangerous boxes: how far apart, pairs that are too near, safe slots. Nothing of the program.
-/
import Derived.Test.YtfeobdgdhgcgoaaGOm
namespace Go.Proofs.Ytfeobdgdhgcgoaa
set_option linter.unusedVariables false

/-- How far two classes have to be apart. -/
def needC (a b : Int) : Int :=
  if min a b < 0 ∨ 3 < max a b then -1 else if min a b = 0 then 0 else if min a b = max a b ∧ min a b < 3 then 0 else if min a b = 1 ∧ max a b = 3 then 2 else if min a b = 2 ∧ max a b = 3 then 3 else 1
theorem needC_comm (a b : Int) : needC a b = needC b a := by unfold needC; rw [Int.min_comm a b, Int.max_comm a b]
theorem needC_bd (a b : Int) : -1 ≤ needC a b ∧ needC a b ≤ 3 := by unfold needC; repeat' split; all_goals omega
theorem needC_zero {a : Int} (h0 : 0 ≤ a) (h3 : a ≤ 3) : needC a 0 = 0 := by
  unfold needC
  rw [if_neg (by omega), if_pos (by omega)]
theorem needC_neg {a b : Int} (h : 0 ≤ needC a b) : 0 ≤ a ∧ a ≤ 3 ∧ 0 ≤ b ∧ b ≤ 3 := by
  unfold needC at h
  by_cases hc : min a b < 0 ∨ 3 < max a b
  · rw [if_pos hc] at h; omega
  · omega
theorem needC_low {a : Int} (b : Int) (h : a = 0) : needC a b ≤ 0 := by
  subst h
  unfold needC
  repeat' split
  all_goals omega
/-- How far two slots are apart. -/
def apartS (h : Hl) (s t : Int) : Int :=
  if (plOf h s).1 < 0 ∨ (plOf h t).1 < 0 then -1 else if (plOf h s).1 = (plOf h t).1 ∧ (plOf h s).2.1 = (plOf h t).2.1 then 0 else if (plOf h s).1 = (plOf h t).1 then 1 else if (plOf h s).1 - (plOf h t).1 = 1 ∨ (plOf h t).1 - (plOf h s).1 = 1 then 2 else 3
theorem apartS_comm (h : Hl) (s t : Int) : apartS h s t = apartS h t s := by
  unfold apartS
  generalize plOf h s = a
  generalize plOf h t = b
  repeat' split
  all_goals omega
theorem apartS_bd (h : Hl) (s t : Int) : -1 ≤ apartS h s t ∧ apartS h s t ≤ 3 := by unfold apartS; repeat' split; all_goals omega
theorem plOf_two (h : Hl) (s : Int) : ((plOf h s).1 = -1 ∧ ¬ (hlOk h = true ∧ 0 ≤ s ∧ s ≤ slMany h - 1)) ∨ (0 ≤ (plOf h s).1 ∧ hlOk h = true ∧ 0 ≤ s ∧ s ≤ slMany h - 1) := by
  by_cases hc : hlOk h = true ∧ 0 ≤ s ∧ s ≤ slMany h - 1
  · refine .inr ⟨?_, hc⟩
    rw [plOf_yes hc.1 hc.2.1 hc.2.2]
    exact (plOf_in hc.1 hc.2.1 hc.2.2).1.1
  · exact .inl ⟨by rw [plOf_no hc], hc⟩
theorem apartS_pos {h : Hl} {s t : Int} (hx : 0 ≤ apartS h s t) : 0 ≤ (plOf h s).1 ∧ 0 ≤ (plOf h t).1 := by
  unfold apartS at hx
  by_cases hc : (plOf h s).1 < 0 ∨ (plOf h t).1 < 0
  · rw [if_pos hc] at hx; omega
  · omega
theorem apartS_in {h : Hl} (hk : hlOk h = true) {s t n : Nat} (hn : (n : Int) = slMany h) (hs : s < n) (ht : t < n) : 0 ≤ apartS h s t := by
  have h1 := plOf_two h (s : Int)
  have h2 := plOf_two h (t : Int)
  have e1 : 0 ≤ (plOf h (s : Int)).1 := by
    rcases h1 with ⟨_, h1⟩ | ⟨h1, _⟩
    · exact absurd ⟨hk, by omega, by omega⟩ h1
    · exact h1
  have e2 : 0 ≤ (plOf h (t : Int)).1 := by
    rcases h2 with ⟨_, h2⟩ | ⟨h2, _⟩
    · exact absurd ⟨hk, by omega, by omega⟩ h2
    · exact h2
  unfold apartS
  rw [if_neg (by omega)]
  repeat' split
  all_goals omega
theorem apartS_self {h : Hl} {s t : Int} (hx : 0 ≤ apartS h s t) : apartS h s s = 0 := by
  have := (apartS_pos hx).1
  unfold apartS
  rw [if_neg (by omega), if_pos ⟨rfl, rfl⟩]
/-- The slot below is in the same place but for its tier. -/
theorem apartS_below {h : Hl} {s t : Int} (hx : 0 ≤ apartS h s t) (hb : 0 ≤ slBelow h s) : apartS h s (slBelow h s) = 0 ∧ apartS h (slBelow h s) t = apartS h s t := by
  rcases plOf_two h s with ⟨h1, _⟩ | ⟨h1, hk, h2, h3⟩
  · have := (apartS_pos hx).1; omega
  · have hv := slBelow_val hk h2 h3
    by_cases ht : s % h.t = 0
    · rw [if_pos ht] at hv; omega
    · rw [if_neg ht] at hv
      obtain ⟨g1, g2, g3, g4, g5, g6⟩ := hlOk_iff.1 hk
      have hd : (s - 1) / h.t = s / h.t := by
        have a1 := Int.emod_nonneg s (show h.t ≠ 0 by omega)
        have a2 := Int.emod_lt_of_pos s (show 0 < h.t by omega)
        have a3 := Int.mul_ediv_add_emod s h.t
        have a4 : s - 1 = (s % h.t - 1) + h.t * (s / h.t) := by omega
        rw [a4, Int.add_mul_ediv_left _ _ (show h.t ≠ 0 by omega), Int.ediv_eq_zero_of_lt (by omega) (by omega), Int.zero_add]
      have e : (plOf h (s - 1)).1 = (plOf h s).1 ∧ (plOf h (s - 1)).2.1 = (plOf h s).2.1 := by
        rw [plOf_yes hk (by omega) (by omega), plOf_yes hk h2 h3]
        simp only []
        rw [hd]
        exact ⟨rfl, rfl⟩
      rw [hv]
      constructor
      · unfold apartS
        rw [e.1, e.2, if_neg (by omega), if_pos ⟨rfl, rfl⟩]
      · unfold apartS
        rw [e.1, e.2]
/-- The class of what has an id; of nothing, 0. -/
def clsB (l : List Bx) (x : Int) : Int := if x = 0 then 0 else (l.getD (findB l x).toNat Bx.zero).c
theorem clsB_bd {h : Hl} {l : List Bx} {p : List Int} (hk : plOk h (bxsOk l) (bxIds l) p = true) {k : Nat} (hl : k < p.length) : 0 ≤ clsB l (pAt p k) ∧ clsB l (pAt p k) ≤ 3 := by
  unfold clsB
  split
  · omega
  · next hz =>
    have hf := pl_find hk hl hz
    have hbd := (findB_bd l (pAt p k)).2
    have hi : (findB l (pAt p k)).toNat < l.length := by omega
    rw [getD_bx hi]
    have := bxOk_yes (bxsOk_box (plOk_bok hk) hi)
    omega
/-- Whether the boxes in two slots are too near, by what each slot's class is. -/
def nearG (h : Hl) (c : Nat → Int) (a b : Nat) : Bool := decide (apartS h a b < needC (c a) (c b))
/-- The pairs of slots that are too near: those of slot a, and all of the first n. -/
def nearA (g : Nat → Nat → Bool) (n a : Nat) : List (Int × Int) := ((List.range n).filter fun b => decide (a < b) && g a b).map fun (b : Nat) => (((a : Int), (b : Int)) : Int × Int)
def nearN (g : Nat → Nat → Bool) (n : Nat) : Nat → List (Int × Int)
  | 0 => []
  | a + 1 => nearN g n a ++ nearA g n a
theorem nearA_len (g : Nat → Nat → Bool) (n a : Nat) : (nearA g n a).length = cnt (fun b => decide (a < b) && g a b) n := by unfold nearA cnt; rw [List.length_map]
theorem nearN_len (g : Nat → Nat → Bool) (n : Nat) : ∀ m, (nearN g n m).length = sumR (fun a => cnt (fun b => decide (a < b) && g a b) n) m
  | 0 => rfl
  | m + 1 => by rw [nearN, List.length_append, nearN_len g n m, nearA_len]; rfl
theorem nearN_mem {g : Nat → Nat → Bool} {n : Nat} {x : Int × Int} : ∀ {m : Nat}, x ∈ nearN g n m ↔ ∃ a b : Nat, a < m ∧ a < b ∧ b < n ∧ g a b = true ∧ x = ((a : Int), (b : Int))
  | 0 => ⟨fun h => (by cases h), fun ⟨_, _, h, _⟩ => (by omega)⟩
  | m + 1 => by
    rw [nearN, List.mem_append, nearN_mem]
    constructor
    · rintro (⟨a, b, h1, h2⟩ | h)
      · exact ⟨a, b, by omega, h2⟩
      · obtain ⟨b, hb, e⟩ := List.mem_map.1 h
        obtain ⟨h1, h2⟩ := List.mem_filter.1 hb
        rw [Bool.and_eq_true, decide_eq_true_eq] at h2
        exact ⟨m, b, by omega, h2.1, List.mem_range.1 h1, h2.2, e.symm⟩
    · rintro ⟨a, b, h1, h2, h3, h4, rfl⟩
      by_cases e : a = m
      · subst e
        exact .inr (List.mem_map.2 ⟨b, List.mem_filter.2 ⟨List.mem_range.2 h3, by rw [decide_eq_true h2, h4]; rfl⟩, rfl⟩)
      · exact .inl ⟨a, b, by omega, h2, h3, h4, rfl⟩
theorem cnt_mono {f g : Nat → Bool} : ∀ {n : Nat}, (∀ b, b < n → f b = true → g b = true) → cnt f n ≤ cnt g n
  | 0, _ => Nat.le_refl 0
  | n + 1, h => by
    have ih := cnt_mono (n := n) fun b hb => h b (by omega)
    rw [cnt_next, cnt_next]
    by_cases hf : f n = true
    · rw [if_pos hf, if_pos (h n (by omega) hf)]; omega
    · rw [if_neg hf]; omega
theorem cnt_strict {f g : Nat → Bool} : ∀ {n : Nat}, (∀ b, b < n → f b = true → g b = true) → (∃ b, b < n ∧ f b = false ∧ g b = true) → cnt f n < cnt g n
  | 0, _, ⟨_, h, _⟩ => by omega
  | n + 1, h, ⟨b, hb, h1, h2⟩ => by
    rw [cnt_next, cnt_next]
    by_cases e : b = n
    · subst e
      have := cnt_mono (f := f) (g := g) (n := b) fun c hc => h c (by omega)
      rw [if_neg (by rw [h1]; simp), if_pos h2]; omega
    · have ih := cnt_strict (n := n) (fun c hc => h c (by omega)) ⟨b, by omega, h1, h2⟩
      by_cases hf : f n = true
      · rw [if_pos hf, if_pos (h n (by omega) hf)]; omega
      · rw [if_neg hf]; omega
theorem sumR_strict {f g : Nat → Nat} : ∀ {m : Nat}, (∀ a, a < m → f a ≤ g a) → (∃ a, a < m ∧ f a < g a) → sumR f m < sumR g m
  | 0, _, ⟨_, h, _⟩ => by omega
  | m + 1, h, ⟨a, ha, h1⟩ => by
    unfold sumR
    by_cases e : a = m
    · subst e
      have := sumR_le (g := f) (h := g) (R := a) fun c hc => h c (by omega)
      omega
    · have ih := sumR_strict (m := m) (fun c hc => h c (by omega)) ⟨a, by omega, h1⟩
      have := h m (by omega)
      omega
/-- With more pairs that are too near there are more, and as many only if none has come. -/
theorem near_more {f g : Nat → Nat → Bool} {n : Nat} (h : ∀ a b, a < b → b < n → f a b = true → g a b = true) : (nearN f n n).length ≤ (nearN g n n).length ∧ ((nearN f n n).length = (nearN g n n).length ↔ ∀ a b, a < b → b < n → g a b = true → f a b = true) := by
  rw [nearN_len, nearN_len]
  have hm : ∀ a, a < n → cnt (fun b => decide (a < b) && f a b) n ≤ cnt (fun b => decide (a < b) && g a b) n := fun a ha => cnt_mono fun b hb hf => by
    rw [Bool.and_eq_true, decide_eq_true_eq] at hf ⊢
    exact ⟨hf.1, h a b hf.1 hb hf.2⟩
  refine ⟨sumR_le hm, fun he a b hab hb hg => ?_, fun hall => ?_⟩
  · cases hf : f a b
    · exfalso
      have hs := sumR_strict hm ⟨a, by omega, cnt_strict (fun c hc hfc => by
        rw [Bool.and_eq_true, decide_eq_true_eq] at hfc ⊢
        exact ⟨hfc.1, h a c hfc.1 hc hfc.2⟩) ⟨b, hb, by rw [hf, Bool.and_false], by rw [decide_eq_true hab, hg]; rfl⟩⟩
      omega
    · rfl
  · refine sumR_congr fun a ha => ?_
    refine Nat.le_antisymm (hm a ha) (cnt_mono fun b hb hg => ?_)
    rw [Bool.and_eq_true, decide_eq_true_eq] at hg ⊢
    exact ⟨hg.1, hall a b hg.1 hb hg.2⟩
/-- What TooNear and SafeSlots give. -/
def nearO (h : Hl) (l : List Bx) (p : List Int) : List (Int × Int) := if plOk h (bxsOk l) (bxIds l) p = true then nearN (nearG h fun k => clsB l (pAt p k)) p.length p.length else []
def safeS (h : Hl) (l : List Bx) (p : List Int) (c s : Int) : Bool := (List.range p.length).all fun j => decide (pAt p j = 0) || decide (needC c (clsB l (pAt p j)) ≤ apartS h s (j : Int))
def safeO (h : Hl) (l : List Bx) (p : List Int) (c : Int) : List Int := if 0 ≤ c ∧ c ≤ 3 then (nextI h (bxsOk l) (bxIds l) p).filter (safeS h l p c) else []
/-- Without a box fewer pairs are too near, and none with its slot. -/
theorem near_take {h : Hl} {c : Nat → Int} {d : Nat → Int} {n k : Nat} (hk : hlOk h = true) (hn : (n : Int) = slMany h) (hd : ∀ j, j < n → j ≠ k → d j = c j) (h0 : d k = 0) {a b : Nat} (hab : a < b) (hb : b < n) (hg : nearG h d a b = true) : nearG h c a b = true ∧ a ≠ k ∧ b ≠ k := by
  have h1 := of_decide_eq_true hg
  have hp := apartS_in hk hn (show a < n by omega) hb
  have ha : a ≠ k := fun e => by
    subst e
    have := needC_low (d b) h0
    omega
  have hbk : b ≠ k := fun e => by
    subst e
    have := needC_low (d a) h0
    rw [needC_comm] at this
    omega
  refine ⟨decide_eq_true ?_, ha, hbk⟩
  rw [← hd a (by omega) ha, ← hd b hb hbk]
  exact h1
/-- With a further box in an empty slot as many pairs are too near only if it is as far from all others as it has to be. -/
theorem near_put {h : Hl} {c : Nat → Int} {d : Nat → Int} {n k : Nat} (hk : hlOk h = true) (hn : (n : Int) = slMany h) (hkn : k < n) (hd : ∀ j, j < n → j ≠ k → d j = c j) (h0 : c k = 0) :
    (nearN (nearG h c) n n).length = (nearN (nearG h d) n n).length ↔ ∀ j, j < n → j ≠ k → needC (d k) (c j) ≤ apartS h k j := by
  have hm : ∀ a b, a < b → b < n → nearG h c a b = true → nearG h d a b = true := fun a b hab hb hg => by
    have hh := near_take (c := d) (d := c) hk hn (fun j hj hne => (hd j hj hne).symm) h0 hab hb hg
    exact hh.1
  rw [(near_more hm).2]
  constructor
  · intro hall j hj hne
    apply Classical.byContradiction
    intro hc
    rcases Nat.lt_or_ge k j with h1 | h1
    · have := hall k j h1 hj (decide_eq_true (by rw [hd j hj hne]; omega))
      have := of_decide_eq_true this
      have hp := apartS_in hk hn hkn hj
      have := needC_low (c j) h0
      omega
    · have := hall j k (by omega) hkn (decide_eq_true (by rw [hd j hj hne, needC_comm, apartS_comm]; omega))
      have := of_decide_eq_true this
      have hp := apartS_in hk hn hj hkn
      have := needC_low (c j) h0
      rw [needC_comm] at this
      omega
  · intro hall a b hab hb hg
    have h1 := of_decide_eq_true hg
    by_cases ha : a = k
    · subst ha
      have h2 := hall b hb (by omega)
      rw [hd b hb (by omega)] at h1
      omega
    · by_cases hbk : b = k
      · subst hbk
        have h2 := hall a (by omega) ha
        rw [hd a (by omega) ha, needC_comm, apartS_comm] at h1
        omega
      · refine decide_eq_true ?_
        rw [← hd a (by omega) ha, ← hd b hb hbk]
        exact h1
end Go.Proofs.Ytfeobdgdhgcgoaa
