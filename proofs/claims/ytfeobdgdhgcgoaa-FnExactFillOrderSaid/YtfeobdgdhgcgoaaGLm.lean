/-
  Plain mathematics of sets of things in an order: bits, and the least worst of all ways from a set to the full one. Nothing of the program.
  Plain mathematics of loading orders: what is loaded so far is a valid plan. Nothing of the program.
  Plain mathematics of loading orders, second part: the heel while a ship is loaded, the worst of it, and the order of the least worst. Nothing of the program.
  Plain mathematics of loading orders, third part: orders are ways through the sets of slots; no order is better than the best one. Nothing of the program.
  Plain mathematics of loading orders, fourth part: tier by tier. Nothing of the program.
  Plain mathematics of loading orders, fifth part: plans in which nothing floats, and that the next slot of an order can be found. Nothing of the program.
  Plain mathematics of loading orders, sixth part: the plans of sets of slots, and what a table of the least heels of sets tells. Nothing of the program.
  The slots of a plan that are not empty, as numbers.
  A bit as the program reads it.
-/
import Derived.Test.YtfeobdgdhgcgoaaRows
import Derived.Test.YtfeobdgdhgcgoaaGWm
import Derived.Test.YtfeobdgdhgcgoaaGPm
import Derived.WalkKit
namespace Go.Proofs.Ytfeobdgdhgcgoaa
set_option linter.unusedVariables false

theorem bit_div (s k : Nat) : s.testBit k = decide (s / 2 ^ k % 2 = 1) := Nat.testBit_eq_decide_div_mod_eq
/-- A thing is added to a set that has it not. -/
theorem bit_add {s k : Nat} (h : s.testBit k = false) (j : Nat) : (s + 2 ^ k).testBit j = (decide (j = k) || s.testBit j) := by
  rcases Nat.lt_trichotomy j k with hj | rfl | hj
  · rw [Nat.add_comm, Nat.testBit_two_pow_add_gt hj, decide_eq_false (by omega), Bool.false_or]
  · rw [Nat.add_comm, Nat.testBit_two_pow_add_eq, h]; simp
  · rw [decide_eq_false (by omega), Bool.false_or]
    rw [bit_div] at h
    have hm : s / 2 ^ k % 2 = 0 := by have := of_decide_eq_false h; omega
    obtain ⟨d, rfl⟩ : ∃ d, j = k + 1 + d := ⟨j - (k + 1), by omega⟩
    have e1 : ∀ x, x / 2 ^ (k + 1 + d) = x / 2 ^ k / 2 / 2 ^ d := fun x => by
      rw [Nat.pow_add, Nat.pow_add, Nat.pow_one, Nat.div_div_eq_div_mul, Nat.div_div_eq_div_mul, Nat.mul_assoc]
    rw [bit_div, bit_div, e1, e1, Nat.add_div_right _ (Nat.two_pow_pos k)]
    have e2 : (s / 2 ^ k).succ / 2 = s / 2 ^ k / 2 := by omega
    rw [e2]
theorem bit_full {m k : Nat} (h : k < m) : (2 ^ m - 1).testBit k = true := by rw [Nat.testBit_two_pow_sub_one]; exact decide_eq_true h
theorem bits_all {m s : Nat} (hs : s < 2 ^ m) (ha : ∀ k, k < m → s.testBit k = true) : s = 2 ^ m - 1 := by
  refine Nat.eq_of_testBit_eq fun k => ?_
  rw [Nat.testBit_two_pow_sub_one]
  by_cases hk : k < m
  · rw [ha k hk, decide_eq_true hk]
  · rw [decide_eq_false hk]
    exact Nat.testBit_lt_two_pow (Nat.lt_of_lt_of_le hs (Nat.pow_le_pow_right (by omega) (by omega)))
theorem bits_lt {m s : Nat} (ha : ∀ k, m ≤ k → s.testBit k = false) : s < 2 ^ m := by
  refine Nat.lt_of_not_le fun hle => ?_
  obtain ⟨k, hk, hb⟩ := Nat.exists_ge_and_testBit_of_ge_two_pow hle
  rw [ha k hk] at hb; cases hb
theorem bit_room {m s k : Nat} (hs : s < 2 ^ m) (hk : k < m) (h : s.testBit k = false) : s + 2 ^ k < 2 ^ m := by
  refine bits_lt fun j hj => ?_
  rw [bit_add h, decide_eq_false (by omega), Bool.false_or]
  exact Nat.testBit_lt_two_pow (Nat.lt_of_lt_of_le hs (Nat.pow_le_pow_right (by omega) hj))
/-- A sum over the things of a set. -/
def bsum (c : Nat → Int) (s : Nat) : Nat → Int
  | 0 => 0
  | k + 1 => bsum c s k + if s.testBit k = true then c k else 0
theorem bsum_add {c : Nat → Int} {s k : Nat} (h : s.testBit k = false) : ∀ n, bsum c (s + 2 ^ k) n = bsum c s n + if k < n then c k else 0
  | 0 => by simp [bsum]
  | n + 1 => by
    unfold bsum
    rw [bsum_add h n, bit_add h]
    by_cases e : n = k
    · subst e
      rw [decide_eq_true rfl, Bool.true_or, if_pos rfl, if_neg (show ¬ n < n by omega), if_pos (show n < n + 1 by omega), h, if_neg (by simp)]
    · rw [decide_eq_false e, Bool.false_or]
      by_cases hk : k < n
      · rw [if_pos hk, if_pos (show k < n + 1 by omega)]; omega
      · rw [if_neg hk, if_neg (show ¬ k < n + 1 by omega)]; omega
theorem bsum_zero (c : Nat → Int) : ∀ n, bsum c 0 n = 0
  | 0 => rfl
  | n + 1 => by unfold bsum; rw [bsum_zero c n]; simp
/-- The least number of those that count, -1 if none does. -/
def foldB (g : Nat → Bool) (x : Nat → Int) : Nat → Int
  | 0 => -1
  | k + 1 => if g k = true then (if foldB g x k < 0 ∨ x k < foldB g x k then x k else foldB g x k) else foldB g x k
theorem foldB_congr {g : Nat → Bool} {x y : Nat → Int} : ∀ n, (∀ k, k < n → g k = true → x k = y k) → foldB g x n = foldB g y n
  | 0, _ => rfl
  | n + 1, h => by
    unfold foldB
    rw [foldB_congr n fun k hk hg => h k (by omega) hg]
    by_cases hg : g n = true
    · rw [if_pos hg, if_pos hg, h n (by omega) hg]
    · rw [if_neg hg, if_neg hg]
theorem foldB_hit {g : Nat → Bool} {x : Nat → Int} : ∀ n, (foldB g x n = -1 ∧ ∀ k, k < n → g k = false) ∨ ∃ k, k < n ∧ g k = true ∧ foldB g x n = x k
  | 0 => .inl ⟨rfl, fun k hk => by omega⟩
  | n + 1 => by
    unfold foldB
    cases hg : g n
    · rw [if_neg (by simp)]
      rcases foldB_hit (g := g) (x := x) n with ⟨h1, h2⟩ | ⟨k, h1, h2, h3⟩
      · refine .inl ⟨h1, fun k hk => ?_⟩
        rcases Nat.lt_or_ge k n with h | h
        · exact h2 k h
        · obtain rfl : k = n := by omega
          exact hg
      · exact .inr ⟨k, by omega, h2, h3⟩
    · rw [if_pos rfl]
      by_cases hc : foldB g x n < 0 ∨ x n < foldB g x n
      · rw [if_pos hc]; exact .inr ⟨n, by omega, hg, rfl⟩
      · rw [if_neg hc]
        rcases foldB_hit (g := g) (x := x) n with ⟨h1, h2⟩ | ⟨k, h1, h2, h3⟩
        · exact absurd (.inl (by omega)) hc
        · exact .inr ⟨k, by omega, h2, h3⟩
theorem foldB_le {g : Nat → Bool} {x : Nat → Int} (hx : ∀ k, g k = true → 0 ≤ x k) : ∀ n, (∀ k, k < n → g k = true → 0 ≤ foldB g x n ∧ foldB g x n ≤ x k)
  | 0, k, hk, _ => by omega
  | n + 1, k, hk, hgk => by
    have hx0 := hx k hgk
    unfold foldB
    by_cases hg : g n = true
    · rw [if_pos hg]
      have hxn := hx n hg
      by_cases hc : foldB g x n < 0 ∨ x n < foldB g x n
      · rw [if_pos hc]
        rcases Nat.lt_or_ge k n with h | h
        · have := foldB_le hx n k h hgk
          omega
        · obtain rfl : k = n := by omega
          exact ⟨hxn, Int.le_refl _⟩
      · rw [if_neg hc]
        rcases Nat.lt_or_ge k n with h | h
        · exact foldB_le hx n k h hgk
        · obtain rfl : k = n := by omega
          omega
    · rw [if_neg hg]
      rcases Nat.lt_or_ge k n with h | h
      · exact foldB_le hx n k h hgk
      · obtain rfl : k = n := by omega
        exact absurd hgk hg
/-- The least worst of the ways from a set to the full one. -/
def leastD (m : Nat) (H : Nat → Int) (nx : Nat → Nat → Bool) : Nat → Nat → Int
  | 0, _ => 0
  | d + 1, s => if s = 2 ^ m - 1 then 0 else foldB (nx s) (fun k => max (H (s + 2 ^ k)) (leastD m H nx d (s + 2 ^ k))) m
def leastL (m : Nat) (H : Nat → Int) (nx : Nat → Nat → Bool) (s : Nat) : Int := leastD m H nx (2 ^ m) s
section
variable {m : Nat} {H : Nat → Int} {nx : Nat → Nat → Bool} (hb : ∀ s k, nx s k = true → s.testBit k = false)
include hb
theorem leastD_same : ∀ (d e s : Nat), s < 2 ^ m → 2 ^ m - 1 - s ≤ d → 2 ^ m - 1 - s ≤ e → leastD m H nx d s = leastD m H nx e s
  | 0, 0, _, _, _, _ => rfl
  | 0, e + 1, s, h1, h2, _ => by
    have : s = 2 ^ m - 1 := by omega
    unfold leastD
    rw [if_pos this]
  | d + 1, 0, s, h1, _, h2 => by
    have : s = 2 ^ m - 1 := by omega
    unfold leastD
    rw [if_pos this]
  | d + 1, e + 1, s, h1, h2, h3 => by
    unfold leastD
    by_cases he : s = 2 ^ m - 1
    · rw [if_pos he, if_pos he]
    · rw [if_neg he, if_neg he]
      refine foldB_congr m fun k hk hg => ?_
      have hr := bit_room h1 hk (hb s k hg)
      have hp := Nat.two_pow_pos k
      rw [leastD_same d e (s + 2 ^ k) hr (by omega) (by omega)]
theorem leastL_next {s : Nat} (hs : s < 2 ^ m - 1) : leastL m H nx s = foldB (nx s) (fun k => max (H (s + 2 ^ k)) (leastL m H nx (s + 2 ^ k))) m := by
  have hp := Nat.two_pow_pos m
  obtain ⟨d, hd⟩ : ∃ d, 2 ^ m = d + 1 := ⟨2 ^ m - 1, by omega⟩
  show leastD m H nx (2 ^ m) s = _
  rw [hd, leastD, if_neg (by omega)]
  refine foldB_congr m fun k hk hg => ?_
  have hr := bit_room (m := m) (by omega) hk (hb s k hg)
  have hpk := Nat.two_pow_pos k
  unfold leastL
  rw [leastD_same hb d (2 ^ m) (s + 2 ^ k) hr (by omega) (by omega)]
omit hb in
theorem leastL_full : leastL m H nx (2 ^ m - 1) = 0 := by
  have hp := Nat.two_pow_pos m
  obtain ⟨d, hd⟩ : ∃ d, 2 ^ m = d + 1 := ⟨2 ^ m - 1, by omega⟩
  show leastD m H nx (2 ^ m) (2 ^ m - 1) = 0
  rw [hd, leastD, if_pos (by omega)]
variable (hH : ∀ s, 0 ≤ H s) (hn : ∀ s, s < 2 ^ m - 1 → ∃ k, k < m ∧ nx s k = true)
include hH hn
theorem leastL_pos : ∀ d s, s < 2 ^ m → 2 ^ m - 1 - s ≤ d → 0 ≤ leastL m H nx s
  | d, s, h1, h2 => by
    by_cases he : s = 2 ^ m - 1
    · rw [he, leastL_full]; exact Int.le_refl 0
    · obtain ⟨k, hk, hg⟩ := hn s (by omega)
      rw [leastL_next hb (by omega)]
      exact (foldB_le (fun k hg => Int.le_trans (hH _) (Int.le_max_left _ _)) m k hk hg).1
omit hn in
theorem leastL_step {s k : Nat} (hs : s < 2 ^ m) (hk : k < m) (hg : nx s k = true) : leastL m H nx s ≤ max (H (s + 2 ^ k)) (leastL m H nx (s + 2 ^ k)) := by
  have hr := bit_room hs hk (hb s k hg)
  have hpk := Nat.two_pow_pos k
  rw [leastL_next hb (by omega)]
  exact (foldB_le (fun k hg => Int.le_trans (hH _) (Int.le_max_left _ _)) m k hk hg).2
omit hH in
theorem leastL_hit {s : Nat} (hs : s < 2 ^ m - 1) : ∃ k, k < m ∧ nx s k = true ∧ leastL m H nx s = max (H (s + 2 ^ k)) (leastL m H nx (s + 2 ^ k)) := by
  obtain ⟨j, hj, hgj⟩ := hn s hs
  rcases foldB_hit (g := nx s) (x := fun k => max (H (s + 2 ^ k)) (leastL m H nx (s + 2 ^ k))) m with ⟨_, h2⟩ | ⟨k, h1, h2, h3⟩
  · rw [h2 j hj] at hgj; cases hgj
  · exact ⟨k, h1, h2, by rw [leastL_next hb hs]; exact h3⟩
end
/-- The first that fits, m if none does. -/
def firstK (g : Nat → Bool) (m : Nat) : Nat := ((List.range m).find? g).getD m
theorem firstK_some {g : Nat → Bool} {m : Nat} (h : ∃ k, k < m ∧ g k = true) : firstK g m < m ∧ g (firstK g m) = true := by
  unfold firstK
  cases hf : (List.range m).find? g with
  | none =>
    obtain ⟨k, hk, hg⟩ := h
    have := List.find?_eq_none.1 hf k (List.mem_range.2 hk)
    exact absurd hg this
  | some k =>
    have h1 := List.mem_range.1 (List.mem_of_find?_eq_some hf)
    have h2 := List.find?_some hf
    exact ⟨h1, h2⟩
theorem firstK_hit {g : Nat → Bool} {m k : Nat} (hk : k < m) (hg : g k = true) (hb : ∀ j, j < k → g j = false) : firstK g m = k := by
  obtain ⟨h1, h2⟩ := firstK_some ⟨k, hk, hg⟩
  rcases Nat.lt_trichotomy (firstK g m) k with h | h | h
  · rw [hb _ h] at h2; cases h2
  · exact h
  · exfalso
    unfold firstK at h
    cases hf : (List.range m).find? g with
    | none => exact absurd hg (List.find?_eq_none.1 hf k (List.mem_range.2 hk))
    | some j =>
      rw [hf, Option.getD_some] at h
      obtain ⟨_, us, vs, e, hno⟩ := List.find?_eq_some_iff_append.1 hf
      have hlen : (List.range m)[us.length]? = some j := by rw [e]; simp
      have hj : us.length = j := by
        obtain ⟨hl, hv⟩ := List.getElem?_eq_some_iff.1 hlen
        simpa using hv
      have hka : (List.range m)[k]? = some k := by rw [List.getElem?_range hk]
      have hmem : k ∈ us := by
        rw [e, List.getElem?_append_left (by omega)] at hka
        exact List.mem_of_getElem? hka
      have := hno k hmem
      rw [hg] at this; cases this
theorem least_true {g : Nat → Bool} : ∀ j, g j = true → ∃ i, i ≤ j ∧ g i = true ∧ ∀ k, k < i → g k = false := by
  intro j
  induction j using Nat.strongRecOn with
  | ind j ih =>
    intro hj
    by_cases hall : ∀ k, k < j → g k = false
    · exact ⟨j, Nat.le_refl _, hj, hall⟩
    · obtain ⟨k, hk⟩ := Classical.not_forall.1 hall
      obtain ⟨h1, h2⟩ := Classical.not_imp.1 hk
      obtain ⟨i, a1, a2, a3⟩ := ih k h1 (by simpa using h2)
      exact ⟨i, by omega, a2, a3⟩
theorem firstK_before {g : Nat → Bool} {m j : Nat} (hm : firstK g m < m) (hj : j < firstK g m) : g j = false := by
  cases hg : g j
  · rfl
  · obtain ⟨i, a1, a2, a3⟩ := least_true j hg
    have := firstK_hit (m := m) (by omega) a2 a3
    omega
/-- The first way of all whose worst is no more than a number. -/
def greedy (m : Nat) (H : Nat → Int) (nx : Nat → Nat → Bool) (W : Int) : Nat → Nat → List Nat
  | 0, _ => []
  | d + 1, s => if s = 2 ^ m - 1 then [] else
    let k := firstK (fun k => nx s k && decide (max (H (s + 2 ^ k)) (leastL m H nx (s + 2 ^ k)) ≤ W)) m
    k :: greedy m H nx W d (s + 2 ^ k)
def maskN (G : List Nat) (n : Nat) : Nat := ((G.take n).map (2 ^ ·)).sum
theorem maskN_zero (G : List Nat) : maskN G 0 = 0 := rfl
theorem maskN_cons (k : Nat) (G : List Nat) (n : Nat) : maskN (k :: G) (n + 1) = 2 ^ k + maskN G n := by simp [maskN]
theorem maskN_next {G : List Nat} {n : Nat} (h : n < G.length) : maskN G (n + 1) = maskN G n + 2 ^ G[n] := by
  unfold maskN
  rw [← List.take_append_getElem h, List.map_append, List.sum_append]
  simp
/-- A way from a set to the full one whose worst is no more than a number. -/
def Way (m : Nat) (H : Nat → Int) (nx : Nat → Nat → Bool) (W : Int) (s : Nat) (G : List Nat) : Prop :=
  (∀ n (hn : n < G.length), G[n] < m ∧ nx (s + maskN G n) G[n] = true ∧ H (s + maskN G (n + 1)) ≤ W) ∧ s + maskN G G.length = 2 ^ m - 1
theorem greedy_way {m : Nat} {H : Nat → Int} {nx : Nat → Nat → Bool} {W : Int} (hb : ∀ s k, nx s k = true → s.testBit k = false) (hH : ∀ s, 0 ≤ H s) (hn : ∀ s, s < 2 ^ m - 1 → ∃ k, k < m ∧ nx s k = true) :
    ∀ d s, s < 2 ^ m → 2 ^ m - 1 - s ≤ d → leastL m H nx s ≤ W → Way m H nx W s (greedy m H nx W d s)
  | 0, s, h1, h2, _ => by
    refine ⟨fun n hn => by simp [greedy] at hn, ?_⟩
    show s + maskN [] 0 = _
    rw [maskN_zero]; omega
  | d + 1, s, h1, h2, h3 => by
    unfold greedy
    by_cases he : s = 2 ^ m - 1
    · rw [if_pos he]
      refine ⟨fun n hn => by simp at hn, ?_⟩
      show s + maskN [] 0 = _
      rw [maskN_zero]; omega
    · rw [if_neg he]
      obtain ⟨j, j1, j2, j3⟩ := leastL_hit hb hn (s := s) (by omega)
      obtain ⟨k1, k2⟩ := firstK_some (g := fun k => nx s k && decide (max (H (s + 2 ^ k)) (leastL m H nx (s + 2 ^ k)) ≤ W)) (m := m) ⟨j, j1, by
        show (nx s j && decide _) = true
        rw [j2, Bool.true_and]
        exact decide_eq_true (by rw [← j3]; exact h3)⟩
      obtain ⟨k, hk⟩ : ∃ k, k = firstK (fun k => nx s k && decide (max (H (s + 2 ^ k)) (leastL m H nx (s + 2 ^ k)) ≤ W)) m := ⟨_, rfl⟩
      simp only []
      rw [← hk] at k1 k2 ⊢
      have k2' : (nx s k && decide (max (H (s + 2 ^ k)) (leastL m H nx (s + 2 ^ k)) ≤ W)) = true := k2
      rw [Bool.and_eq_true, decide_eq_true_eq] at k2'
      obtain ⟨g1, g2⟩ := k2'
      have hr := bit_room h1 k1 (hb s k g1)
      have hp := Nat.two_pow_pos k
      obtain ⟨w1, w2⟩ := greedy_way (W := W) hb hH hn d (s + 2 ^ k) hr (by omega) (by omega)
      refine ⟨fun n hn' => ?_, ?_⟩
      · cases n with
        | zero =>
          refine ⟨k1, by rw [maskN_zero]; exact g1, ?_⟩
          rw [maskN_cons, maskN_zero]
          simp only [Nat.add_zero]
          omega
        | succ n =>
          have := w1 n (by simpa using hn')
          rw [maskN_cons, maskN_cons, List.getElem_cons_succ, ← Nat.add_assoc, ← Nat.add_assoc]
          exact this
      · rw [List.length_cons, maskN_cons, ← Nat.add_assoc]
        exact w2
/-- No way is better than the least worst. -/
theorem way_ge {m : Nat} {H : Nat → Int} {nx : Nat → Nat → Bool} {W : Int} (hb : ∀ s k, nx s k = true → s.testBit k = false) (hH : ∀ s, 0 ≤ H s) (hn : ∀ s, s < 2 ^ m - 1 → ∃ k, k < m ∧ nx s k = true) (hW : 0 ≤ W) :
    ∀ (G : List Nat) (s : Nat), s < 2 ^ m → Way m H nx W s G → leastL m H nx s ≤ W
  | [], s, h1, h2 => by
    have e : s + maskN [] 0 = 2 ^ m - 1 := h2.2
    rw [maskN_zero, Nat.add_zero] at e
    rw [e, leastL_full]; exact hW
  | k :: G, s, h1, h2 => by
    obtain ⟨w1, w2⟩ := h2
    obtain ⟨a1, a2, a3⟩ := w1 0 (by simp)
    rw [List.getElem_cons_zero, maskN_zero, Nat.add_zero] at a2
    rw [List.getElem_cons_zero] at a1
    rw [maskN_cons, maskN_zero, Nat.add_zero] at a3
    have hr := bit_room h1 a1 (hb s k a2)
    have ih := way_ge hb hH hn hW G (s + 2 ^ k) hr ⟨fun n hn' => by
      have := w1 (n + 1) (by simpa using hn')
      rw [maskN_cons, maskN_cons, List.getElem_cons_succ, ← Nat.add_assoc, ← Nat.add_assoc] at this
      exact this, by
      rw [List.length_cons, maskN_cons, ← Nat.add_assoc] at w2
      exact w2⟩
    have := leastL_step hb hH h1 a1 a2
    omega
end Go.Proofs.Ytfeobdgdhgcgoaa
namespace Go.Proofs.Ytfeobdgdhgcgoaa
set_option linter.unusedVariables false

/-- A plan with some of its slots alone. -/
def restr (p : List Int) (S : List Nat) : List Int := (List.range p.length).map fun k => if k ∈ S then pAt p k else 0
theorem restr_len (p : List Int) (S : List Nat) : (restr p S).length = p.length := by simp [restr]
theorem restr_at {p : List Int} {S : List Nat} {k : Nat} (h : k < p.length) : pAt (restr p S) k = if k ∈ S then pAt p k else 0 := by
  rw [pAt_get (by rw [restr_len]; exact h)]
  simp [restr]
theorem restr_ext {p q : List Int} (hl : p.length = q.length) (h : ∀ k, k < p.length → pAt p k = pAt q k) : p = q := by
  refine List.ext_getElem hl fun k h1 h2 => ?_
  rw [← pAt_get h1, ← pAt_get h2]
  exact h k h1
theorem restr_none (p : List Int) : restr p [] = List.replicate p.length 0 := by
  refine restr_ext (by simp [restr]) fun k hk => ?_
  rw [restr_len] at hk
  rw [restr_at hk, if_neg (by simp), pAt_get (by simpa using hk)]
  simp
theorem restr_snoc {p : List Int} {S : List Nat} {k : Nat} (hk : k < p.length) : (restr p S).set k (pAt p k) = restr p (S ++ [k]) := by
  refine restr_ext (by rw [List.length_set, restr_len, restr_len]) fun j hj => ?_
  rw [List.length_set, restr_len] at hj
  rw [restr_at hj]
  by_cases hjk : j = k
  · subst hjk
    rw [pAt_set_self (by rw [restr_len]; exact hj), if_pos (by simp)]
  · rw [pAt_set_ne (Ne.symm hjk), restr_at hj]
    by_cases hm : j ∈ S
    · rw [if_pos hm, if_pos (by simp [hm])]
    · rw [if_neg hm, if_neg (by simp [hm, hjk])]
/-- A set of slots that has every slot below one of its own. -/
def Down (h : Hl) (S : List Nat) : Prop := ∀ k, k ∈ S → ¬ (k : Int) % h.t = 0 → k - 1 ∈ S
theorem restr_ok {h : Hl} {bok : Bool} {ids p : List Int} {S : List Nat} (hk : plOk h bok ids p = true) (hd : Down h S) : plOk h bok ids (restr p S) = true := by
  obtain ⟨q1, q2, q3, q4⟩ := plOk_iff.1 hk
  refine plOk_iff.2 ⟨q1, q2, by rw [restr_len]; exact q3, fun k hl hne => ?_⟩
  rw [restr_len] at hl
  rw [restr_at hl] at hne ⊢
  by_cases hm : k ∈ S
  · rw [if_pos hm] at hne ⊢
    obtain ⟨r1, r2, r3⟩ := q4 k hl hne
    refine ⟨r1, fun hc => ?_, fun ht => ?_⟩
    · obtain ⟨j, h1, h2, h3⟩ := mem_take hc
      rw [restr_len] at h2
      rw [restr_at h2] at h3
      by_cases hj : j ∈ S
      · rw [if_pos hj] at h3
        exact r2 (h3 ▸ take_mem h1 h2)
      · rw [if_neg hj] at h3
        exact hne h3.symm
    · have hk0 : k ≠ 0 := fun e => ht (by subst e; simp)
      rw [restr_at (by omega), if_pos (hd k hm ht)]
      exact r3 ht
  · rw [if_neg hm] at hne
    exact absurd rfl hne
theorem down_snoc {h : Hl} {S : List Nat} {k : Nat} (hd : Down h S) (hb : ¬ (k : Int) % h.t = 0 → k - 1 ∈ S) : Down h (S ++ [k]) := by
  intro j hj ht
  rcases List.mem_append.1 hj with hj | hj
  · exact List.mem_append_left _ (hd j hj ht)
  · rw [List.mem_singleton] at hj
    subst hj
    exact List.mem_append_left _ (hb ht)
/-- The next box of an order can be put, and taken again. -/
theorem load_step {h : Hl} {bok : Bool} {ids p : List Int} {S : List Nat} {k : Nat} (hk : plOk h bok ids p = true) (hd : Down h S) (hl : k < p.length) (hz : pAt p k ≠ 0) (hn : k ∉ S) (hb : ¬ (k : Int) % h.t = 0 → k - 1 ∈ S) :
    putP h bok ids (restr p S) (k : Int) (pAt p k) = (restr p (S ++ [k]), true) ∧ takeP h bok ids (restr p (S ++ [k])) (k : Int) = (restr p S, pAt p k) := by
  have o1 := restr_ok hk hd
  have o2 := restr_ok hk (down_snoc hd hb)
  have e0 : pAt (restr p S) k = 0 := by rw [restr_at hl, if_neg hn]
  have es := restr_snoc (p := p) (S := S) hl
  rw [← es] at o2
  refine ⟨?_, ?_⟩
  · unfold putP
    rw [if_pos o1, Int.toNat_natCast, if_pos ⟨⟨by omega, by rw [restr_len]; omega⟩, e0, hz, o2⟩, es]
  · have := takeP_put (s := (k : Int)) o1 (by omega) (by rw [restr_len]; omega) (by rw [Int.toNat_natCast]; exact e0) hz (by rw [Int.toNat_natCast]; exact o2)
    rw [Int.toNat_natCast, es] at this
    exact this
/-- The slots of a plan that are not empty. -/
def fullS (p : List Int) : List Nat := (List.range p.length).filter fun k => decide (pAt p k ≠ 0)
theorem fullS_mem {p : List Int} {k : Nat} : k ∈ fullS p ↔ k < p.length ∧ pAt p k ≠ 0 := by
  unfold fullS
  rw [List.mem_filter, List.mem_range, decide_eq_true_eq]
theorem fullS_nodup (p : List Int) : (fullS p).Nodup := List.Nodup.sublist List.filter_sublist List.nodup_range
/-- Whether an order of slots is one by which a plan can be loaded. -/
def ldOk (h : Hl) (bok : Bool) (ids p : List Int) (os : List Int) : Bool := decide (plOk h bok ids p = true ∧ os.length = (fullS p).length ∧ ∀ k, k < os.length → (0 ≤ os.getD k 0 ∧ os.getD k 0 < (p.length : Int)) ∧ pAt p (os.getD k 0).toNat ≠ 0 ∧ os.getD k 0 ∉ os.take k ∧ (¬ os.getD k 0 % h.t = 0 → os.getD k 0 - 1 ∈ os.take k))
theorem ldOk_iff {h : Hl} {bok : Bool} {ids p : List Int} {os : List Int} : ldOk h bok ids p os = true ↔ plOk h bok ids p = true ∧ os.length = (fullS p).length ∧ ∀ k, k < os.length → (0 ≤ os.getD k 0 ∧ os.getD k 0 < (p.length : Int)) ∧ pAt p (os.getD k 0).toNat ≠ 0 ∧ os.getD k 0 ∉ os.take k ∧ (¬ os.getD k 0 % h.t = 0 → os.getD k 0 - 1 ∈ os.take k) := decide_eq_true_iff
/-- The slots of the first ones of an order. -/
def slotsN (os : List Int) (n : Nat) : List Nat := (os.take n).map Int.toNat
theorem slotsN_next {os : List Int} {n : Nat} (h : n < os.length) : slotsN os (n + 1) = slotsN os n ++ [(os.getD n 0).toNat] := by
  unfold slotsN
  rw [← List.take_append_getElem h, List.map_append, getD_i h]
  rfl
theorem slotsN_mem {os : List Int} {n : Nat} {x : Int} (hpos : ∀ k, k < os.length → 0 ≤ os.getD k 0) (hx : 0 ≤ x) : x.toNat ∈ slotsN os n ↔ x ∈ os.take n := by
  unfold slotsN
  rw [List.mem_map]
  constructor
  · rintro ⟨y, hy, he⟩
    obtain ⟨j, hj, rfl⟩ := List.getElem_of_mem hy
    have hj' : j < os.length := by rw [List.length_take] at hj; omega
    have := hpos j hj'
    rw [getD_i hj'] at this
    rw [List.getElem_take] at he hy
    have e : x = os[j] := by omega
    rw [e]; exact hy
  · exact fun hm => ⟨x, hm, rfl⟩
/-- What is loaded behind the first n of an order. -/
theorem ld_down {h : Hl} {bok : Bool} {ids p : List Int} {os : List Int} (ho : ldOk h bok ids p os = true) : ∀ n, n ≤ os.length → Down h (slotsN os n)
  | 0, _ => fun k hk => by simp [slotsN] at hk
  | n + 1, hn => by
    have hg := (ldOk_iff.1 ho).2.2
    have hpos : ∀ k, k < os.length → 0 ≤ os.getD k 0 := fun k hk => (hg k hk).1.1
    rw [slotsN_next (by omega)]
    refine down_snoc (ld_down ho n (by omega)) fun ht => ?_
    have hx := hpos n (by omega)
    rw [Int.toNat_of_nonneg hx] at ht
    have hm := (hg n (by omega)).2.2.2 ht
    have h1 : 1 ≤ os.getD n 0 := by
      rcases Int.lt_or_le (os.getD n 0) 1 with hlt | hle
      · exact absurd (by rw [show os.getD n 0 = 0 by omega]; simp) ht
      · exact hle
    have := (slotsN_mem (n := n) hpos (x := os.getD n 0 - 1) (by omega)).2 hm
    rwa [show (os.getD n 0 - 1).toNat = (os.getD n 0).toNat - 1 by omega] at this
/-- Each box of the order can be put, and taken again. -/
theorem ld_step {h : Hl} {bok : Bool} {ids p : List Int} {os : List Int} (ho : ldOk h bok ids p os = true) {n : Nat} (hn : n < os.length) :
    putP h bok ids (restr p (slotsN os n)) (os.getD n 0) (pAt p (os.getD n 0).toNat) = (restr p (slotsN os (n + 1)), true) ∧ takeP h bok ids (restr p (slotsN os (n + 1))) (os.getD n 0) = (restr p (slotsN os n), pAt p (os.getD n 0).toNat) := by
  obtain ⟨hk, _, hg⟩ := ldOk_iff.1 ho
  have hpos : ∀ k, k < os.length → 0 ≤ os.getD k 0 := fun k hk => (hg k hk).1.1
  obtain ⟨h1, h2, h3, h4⟩ := hg n hn
  have hx := hpos n hn
  have := load_step hk (ld_down ho n (by omega)) (k := (os.getD n 0).toNat) (by omega) h2 (fun hm => h3 ((slotsN_mem hpos hx).1 hm)) (fun ht => by
    have hd := ld_down ho (n + 1) (by omega) (os.getD n 0).toNat (by rw [slotsN_next hn]; simp) ht
    rw [slotsN_next hn] at hd
    rcases List.mem_append.1 hd with hd | hd
    · exact hd
    · rw [List.mem_singleton] at hd
      have hz : (os.getD n 0).toNat = 0 := by omega
      exact absurd (by rw [hz]; simp) ht)
  rw [Int.toNat_of_nonneg hx] at this
  rw [slotsN_next hn]
  exact this
/-- Behind all of them the plan is loaded. -/
theorem ld_all {h : Hl} {bok : Bool} {ids p : List Int} {os : List Int} (ho : ldOk h bok ids p os = true) : restr p (slotsN os os.length) = p := by
  obtain ⟨hk, hlen, hg⟩ := ldOk_iff.1 ho
  have hpos : ∀ k, k < os.length → 0 ≤ os.getD k 0 := fun k hk => (hg k hk).1.1
  refine restr_ext (restr_len _ _) fun k hl => ?_
  rw [restr_len] at hl
  rw [restr_at hl]
  by_cases hm : k ∈ slotsN os os.length
  · rw [if_pos hm]
  · rw [if_neg hm]
    by_cases hz : pAt p k = 0
    · exact hz.symm
    · exfalso
      have hnd : ∀ n, n ≤ os.length → (slotsN os n).Nodup := by
        intro n
        induction n with
        | zero => intro _; simp [slotsN]
        | succ n ih =>
          intro hn
          rw [slotsN_next (by omega)]
          refine List.nodup_append.2 ⟨ih (by omega), by simp, fun a ha b hb e => ?_⟩
          rw [List.mem_singleton] at hb
          subst hb
          subst e
          exact (hg n (by omega)).2.2.1 ((slotsN_mem hpos (hpos n (by omega))).1 ha)
      have hsub : (k :: slotsN os os.length) ⊆ fullS p := by
        intro x hx
        rcases List.mem_cons.1 hx with rfl | hx
        · exact fullS_mem.2 ⟨hl, hz⟩
        · unfold slotsN at hx
          obtain ⟨y, hy, rfl⟩ := List.mem_map.1 hx
          rw [List.take_length] at hy
          obtain ⟨j, hj, rfl⟩ := List.getElem_of_mem hy
          have := hg j hj
          rw [getD_i hj] at this
          exact fullS_mem.2 ⟨by omega, this.2.1⟩
      have := List.Nodup.length_le_of_subset (List.nodup_cons.2 ⟨hm, hnd _ (Nat.le_refl _)⟩) hsub
      rw [List.length_cons, ← hlen] at this
      simp [slotsN] at this
      omega
end Go.Proofs.Ytfeobdgdhgcgoaa
namespace Go.Proofs.Ytfeobdgdhgcgoaa
set_option linter.unusedVariables false

/-- The heel behind the first n of an order, and the greatest so far. -/
def hN (h : Hl) (l : List Bx) (p os : List Int) : Nat → Int
  | 0 => 0
  | n + 1 => hN h l p os n + wBx l (pAt p (os.getD n 0).toNat) * heelC h (os.getD n 0).toNat
def worstN (h : Hl) (l : List Bx) (p os : List Int) : Nat → Int
  | 0 => 0
  | n + 1 => max (max (worstN h l p os n) (hN h l p os (n + 1))) (-(hN h l p os (n + 1)))
/-- What WorstHeel gives. -/
def worstH (h : Hl) (l : List Bx) (p os : List Int) : Int := if ldOk h (bxsOk l) (bxIds l) p os = true then worstN h l p os os.length else -1
theorem worstN_ge (h : Hl) (l : List Bx) (p os : List Int) : ∀ n i, i ≤ n → hN h l p os i ≤ worstN h l p os n ∧ -(hN h l p os i) ≤ worstN h l p os n
  | 0, i, hi => by
    obtain rfl : i = 0 := by omega
    exact ⟨Int.le_refl 0, Int.le_refl 0⟩
  | n + 1, i, hi => by
    unfold worstN
    by_cases e : i = n + 1
    · subst e; omega
    · have := worstN_ge h l p os n i (by omega)
      omega
theorem worstN_pos (h : Hl) (l : List Bx) (p os : List Int) (n : Nat) : 0 ≤ worstN h l p os n := (worstN_ge h l p os n 0 (Nat.zero_le _)).1
theorem worstN_le {h : Hl} {l : List Bx} {p os : List Int} {W : Int} (hW : 0 ≤ W) : ∀ n, (∀ i, i ≤ n → hN h l p os i ≤ W ∧ -(hN h l p os i) ≤ W) → worstN h l p os n ≤ W
  | 0, _ => hW
  | n + 1, ha => by
    have h1 := worstN_le hW n fun i hi => ha i (by omega)
    have h2 := ha (n + 1) (Nat.le_refl _)
    unfold worstN
    omega
/-- What is loaded so far heels so much. -/
theorem hN_restr {h : Hl} {l : List Bx} {p os : List Int} (ho : ldOk h (bxsOk l) (bxIds l) p os = true) : ∀ n, n ≤ os.length → wsum (wBx l) (heelC h) (restr p (slotsN os n)) = hN h l p os n
  | 0, _ => by
    have : slotsN os 0 = [] := rfl
    rw [this, restr_none]
    unfold wsum hN
    have : ∀ (m : Nat), ((List.range m).map fun k => wBx l (pAt (List.replicate p.length (0 : Int)) k) * heelC h k).sum = 0 := by
      intro m
      induction m with
      | zero => rfl
      | succ m ih =>
        rw [List.range_succ, List.map_append, List.sum_append, ih]
        have hz : pAt (List.replicate p.length (0 : Int)) m = 0 := by
          unfold pAt
          rw [List.getD_eq_getElem?_getD, List.getElem?_replicate]
          split <;> rfl
        have hw : wBx l 0 = 0 := by unfold wBx; rw [if_pos rfl]
        simp [hz, hw]
    exact this _
  | n + 1, hn => by
    obtain ⟨hk, _, hg⟩ := ldOk_iff.1 ho
    have hpos : ∀ k, k < os.length → 0 ≤ os.getD k 0 := fun k hk => (hg k hk).1.1
    obtain ⟨h1, h2, h3, h4⟩ := hg n (by omega)
    have hl : (os.getD n 0).toNat < p.length := by omega
    rw [slotsN_next (by omega), ← restr_snoc hl, wsum_set (by rw [restr_len]; exact hl), hN_restr ho n (by omega)]
    have hm : (os.getD n 0).toNat ∉ slotsN os n := fun hm => h3 ((slotsN_mem hpos h1.1).1 hm)
    rw [restr_at hl, if_neg hm]
    have hw : wBx l 0 = 0 := by unfold wBx; rw [if_pos rfl]
    rw [hw, Int.zero_mul]
    show _ = hN h l p os n + wBx l (pAt p (os.getD n 0).toNat) * heelC h (os.getD n 0).toNat
    omega
theorem hN_heel {h : Hl} {l : List Bx} {p os : List Int} (ho : ldOk h (bxsOk l) (bxIds l) p os = true) {n : Nat} (hn : n ≤ os.length) : heelW h l (restr p (slotsN os n)) = (hN h l p os n, true) := by
  unfold heelW
  rw [if_pos (restr_ok (ldOk_iff.1 ho).1 (ld_down ho n hn)), hN_restr ho n hn]
/-- The k-th slot that is not empty, what it heels, and the heels of sets of such slots. -/
def fAt (p : List Int) (k : Nat) : Nat := (fullS p).getD k 0
def cAt (h : Hl) (l : List Bx) (p : List Int) (k : Nat) : Int := wBx l (pAt p (fAt p k)) * heelC h (fAt p k)
def setH (h : Hl) (l : List Bx) (p : List Int) (s : Nat) : Int := max (bsum (cAt h l p) s (fullS p).length) (-(bsum (cAt h l p) s (fullS p).length))
/-- Whether the k-th slot can be loaded after a set of slots. -/
def nxS (h : Hl) (p : List Int) (s k : Nat) : Bool := !s.testBit k && (List.range (fullS p).length).all fun j => !(decide ((fAt p j : Int) = slBelow h (fAt p k)) && !s.testBit j)
theorem nxS_iff {h : Hl} {p : List Int} {s k : Nat} : nxS h p s k = true ↔ s.testBit k = false ∧ ∀ j, j < (fullS p).length → (fAt p j : Int) = slBelow h (fAt p k) → s.testBit j = true := by
  unfold nxS
  rw [Bool.and_eq_true, List.all_eq_true]
  constructor
  · rintro ⟨h1, h2⟩
    refine ⟨by simpa using h1, fun j hj he => ?_⟩
    have := h2 j (List.mem_range.2 hj)
    rw [decide_eq_true he] at this
    simpa using this
  · rintro ⟨h1, h2⟩
    refine ⟨by simpa using h1, fun j hj => ?_⟩
    by_cases he : (fAt p j : Int) = slBelow h (fAt p k)
    · rw [h2 j (List.mem_range.1 hj) he]; simp
    · rw [decide_eq_false he]; rfl
theorem nxS_bit (h : Hl) (p : List Int) : ∀ s k, nxS h p s k = true → s.testBit k = false := fun s k hc => (nxS_iff.1 hc).1
theorem setH_pos (h : Hl) (l : List Bx) (p : List Int) : ∀ s, 0 ≤ setH h l p s := fun s => by unfold setH; omega
theorem fAt_mem {p : List Int} {k : Nat} (hk : k < (fullS p).length) : fAt p k < p.length ∧ pAt p (fAt p k) ≠ 0 := by
  have : fAt p k = (fullS p)[k] := by unfold fAt; rw [List.getD_eq_getElem?_getD, List.getElem?_eq_getElem hk, Option.getD_some]
  rw [this]
  exact fullS_mem.1 (List.getElem_mem hk)
theorem fAt_lt {p : List Int} {i j : Nat} (hj : j < (fullS p).length) (hij : i < j) : fAt p i < fAt p j := by
  have hs : (fullS p).Pairwise (· < ·) := List.Pairwise.filter _ List.pairwise_lt_range
  have := List.pairwise_iff_getElem.1 hs i j (by omega) hj hij
  unfold fAt
  rw [List.getD_eq_getElem?_getD, List.getD_eq_getElem?_getD, List.getElem?_eq_getElem hj, List.getElem?_eq_getElem (by omega), Option.getD_some, Option.getD_some]
  exact this
theorem fAt_inj {p : List Int} {i j : Nat} (hi : i < (fullS p).length) (hj : j < (fullS p).length) (he : fAt p i = fAt p j) : i = j := by
  rcases Nat.lt_trichotomy i j with h | h | h
  · have := fAt_lt hj h; omega
  · exact h
  · have := fAt_lt hi h; omega
theorem fAt_onto {p : List Int} {x : Nat} (hl : x < p.length) (hz : pAt p x ≠ 0) : ∃ k, k < (fullS p).length ∧ fAt p k = x := by
  obtain ⟨k, hk, he⟩ := List.getElem_of_mem (fullS_mem.2 ⟨hl, hz⟩)
  exact ⟨k, hk, by unfold fAt; rw [List.getD_eq_getElem?_getD, List.getElem?_eq_getElem hk, Option.getD_some]; exact he⟩
theorem nxS_ex {h : Hl} {bok : Bool} {ids p : List Int} (hk : plOk h bok ids p = true) : ∀ s, s < 2 ^ (fullS p).length - 1 → ∃ k, k < (fullS p).length ∧ nxS h p s k = true := by
  intro s hs
  have hp := Nat.two_pow_pos (fullS p).length
  have hex : ∃ k, k < (fullS p).length ∧ (!s.testBit k) = true := by
    refine Classical.byContradiction fun hno => ?_
    have := bits_all (m := (fullS p).length) (s := s) (by omega) fun k hkm => by
      cases hb : s.testBit k
      · exact absurd ⟨k, hkm, by rw [hb]; rfl⟩ hno
      · rfl
    omega
  obtain ⟨k1, k2⟩ := firstK_some (g := fun k => !s.testBit k) hex
  have hmin : ∀ j, j < firstK (fun k => !s.testBit k) (fullS p).length → s.testBit j = true := fun j hj => by
    have := firstK_before (g := fun k => !s.testBit k) k1 hj
    simpa using this
  refine ⟨_, k1, nxS_iff.2 ⟨by simpa using k2, fun j hj he => ?_⟩⟩
  refine hmin j (Nat.lt_of_not_le fun hle => ?_)
  obtain ⟨f1, f2⟩ := fAt_mem k1
  have hsl := pl_below (plOk_iff.1 hk).1 (plOk_iff.1 hk).2.2.1 f1
  have hge : fAt p (firstK (fun k => !s.testBit k) (fullS p).length) ≤ fAt p j := by
    rcases Nat.lt_or_ge (firstK (fun k => !s.testBit k) (fullS p).length) j with h1 | h1
    · exact Nat.le_of_lt (fAt_lt hj h1)
    · have e : firstK (fun k => !s.testBit k) (fullS p).length = j := by omega
      rw [e]; exact Nat.le_refl _
  rcases hsl with ⟨hb, _⟩ | ⟨i, hi, hb, _⟩ <;> rw [hb] at he <;> omega
/-- The least worst of all orders, and the first order that has it. -/
def leastO (h : Hl) (l : List Bx) (p : List Int) : Int := leastL (fullS p).length (setH h l p) (nxS h p) 0
def bestG (h : Hl) (l : List Bx) (p : List Int) : List Nat := greedy (fullS p).length (setH h l p) (nxS h p) (leastO h l p) (2 ^ (fullS p).length) 0
def bestO (h : Hl) (l : List Bx) (p : List Int) : List Int × Bool := if plOk h (bxsOk l) (bxIds l) p = true ∧ (fullS p).length ≤ 7 then ((bestG h l p).map fun k => (fAt p k : Int), true) else ([], false)
/-- What the masks of a way have. -/
theorem mask_bits {G : List Nat} (hf : ∀ n (hn : n < G.length), (maskN G n).testBit G[n] = false) : ∀ n, n ≤ G.length → ∀ j, (maskN G n).testBit j = decide (j ∈ G.take n)
  | 0, _, j => by rw [maskN_zero]; simp
  | n + 1, hn, j => by
    rw [maskN_next (by omega), bit_add (hf n (by omega)), mask_bits hf n (by omega) j, ← List.take_append_getElem (show n < G.length by omega)]
    by_cases h1 : j = G[n]
    · rw [decide_eq_true h1, Bool.true_or]
      exact (decide_eq_true (List.mem_append_right _ (by simp [h1]))).symm
    · rw [decide_eq_false h1, Bool.false_or]
      apply decide_eq_decide.2
      rw [List.mem_append, List.mem_singleton]
      exact ⟨.inl, fun h => h.resolve_right h1⟩
theorem mask_sum {c : Nat → Int} {m : Nat} {G : List Nat} (hf : ∀ n (hn : n < G.length), (maskN G n).testBit G[n] = false) (hm : ∀ n (hn : n < G.length), G[n] < m) : ∀ n (hn : n + 1 ≤ G.length), bsum c (maskN G (n + 1)) m = bsum c (maskN G n) m + c G[n] := fun n hn => by
  rw [maskN_next (by omega), bsum_add (hf n (by omega)), if_pos (hm n (by omega))]
end Go.Proofs.Ytfeobdgdhgcgoaa
namespace Go.Proofs.Ytfeobdgdhgcgoaa
set_option linter.unusedVariables false

theorem mask_nodup {G : List Nat} (hd : G.Nodup) : ∀ n (hn : n < G.length), (maskN G n).testBit G[n] = false := by
  have hp := List.nodup_iff_pairwise_ne.1 hd
  have hall : ∀ n, n ≤ G.length → ∀ j, (maskN G n).testBit j = decide (j ∈ G.take n) := by
    intro n
    induction n with
    | zero => intro _ j; rw [maskN_zero]; simp
    | succ n ih =>
      intro hn j
      have hni : G[n] ∉ G.take n := fun hm => by
        obtain ⟨i, hi, he⟩ := List.getElem_of_mem hm
        rw [List.length_take] at hi
        rw [List.getElem_take] at he
        exact List.pairwise_iff_getElem.1 hp i n (by omega) (by omega) (by omega) he
      have hb : (maskN G n).testBit G[n] = false := by rw [ih (by omega)]; exact decide_eq_false hni
      rw [maskN_next (by omega), bit_add hb, ih (by omega) j, ← List.take_append_getElem (show n < G.length by omega)]
      by_cases h1 : j = G[n]
      · rw [decide_eq_true h1, Bool.true_or]
        exact (decide_eq_true (List.mem_append_right _ (by simp [h1]))).symm
      · rw [decide_eq_false h1, Bool.false_or]
        apply decide_eq_decide.2
        rw [List.mem_append, List.mem_singleton]
        exact ⟨.inl, fun h => h.resolve_right h1⟩
  intro n hn
  rw [hall n (by omega)]
  refine decide_eq_false fun hm => ?_
  obtain ⟨i, hi, he⟩ := List.getElem_of_mem hm
  rw [List.length_take] at hi
  rw [List.getElem_take] at he
  exact List.pairwise_iff_getElem.1 hp i n (by omega) hn (by omega) he
theorem nodup_mask {G : List Nat} (hf : ∀ n (hn : n < G.length), (maskN G n).testBit G[n] = false) : G.Nodup := by
  refine List.nodup_iff_pairwise_ne.2 (List.pairwise_iff_getElem.2 fun i j hi hj hij he => ?_)
  have h1 := hf j hj
  rw [mask_bits hf j (by omega)] at h1
  refine of_decide_eq_false h1 ?_
  rw [← he]
  exact List.mem_take_iff_getElem.2 ⟨i, by omega, rfl⟩
theorem mask_full {G : List Nat} {m : Nat} (hd : G.Nodup) (hm : ∀ k, k ∈ G ↔ k < m) : maskN G G.length = 2 ^ m - 1 := by
  refine Nat.eq_of_testBit_eq fun j => ?_
  rw [mask_bits (mask_nodup hd) _ (Nat.le_refl _), List.take_length, Nat.testBit_two_pow_sub_one]
  exact decide_eq_decide.2 (hm j)
theorem full_mask {G : List Nat} {m : Nat} (hf : ∀ n (hn : n < G.length), (maskN G n).testBit G[n] = false) (he : maskN G G.length = 2 ^ m - 1) (k : Nat) : k ∈ G ↔ k < m := by
  have h := mask_bits hf _ (Nat.le_refl _) k
  rw [List.take_length, he, Nat.testBit_two_pow_sub_one] at h
  exact (decide_eq_decide.1 h).symm
theorem full_len {G : List Nat} {m : Nat} (hd : G.Nodup) (hm : ∀ k, k ∈ G ↔ k < m) : G.length = m := by
  have h1 := List.Nodup.length_le_of_subset hd (l₂ := List.range m) fun k hk => List.mem_range.2 ((hm k).1 hk)
  have h2 := List.Nodup.length_le_of_subset (List.nodup_range (n := m)) (l₂ := G) fun k hk => (hm k).2 (List.mem_range.1 hk)
  rw [List.length_range] at h1 h2
  omega
/-- The heel along a way. -/
theorem way_heel {h : Hl} {l : List Bx} {p os : List Int} {G : List Nat} (hlen : G.length = os.length) (hat : ∀ n (hn : n < G.length), G[n] < (fullS p).length ∧ fAt p G[n] = (os.getD n 0).toNat) (hd : G.Nodup) : ∀ n, n ≤ G.length → bsum (cAt h l p) (maskN G n) (fullS p).length = hN h l p os n
  | 0, _ => by rw [maskN_zero, bsum_zero]; rfl
  | n + 1, hn => by
    rw [mask_sum (mask_nodup hd) (fun n hn => (hat n hn).1) n hn, way_heel hlen hat hd n (by omega)]
    unfold cAt
    rw [(hat n (by omega)).2]
    rfl
theorem ld_mem {h : Hl} {bok : Bool} {ids p os : List Int} (ho : ldOk h bok ids p os = true) {x : Nat} (hl : x < p.length) (hz : pAt p x ≠ 0) : (x : Int) ∈ os := by
  have hg := (ldOk_iff.1 ho).2.2
  have hpos : ∀ k, k < os.length → 0 ≤ os.getD k 0 := fun k hk => (hg k hk).1.1
  have ha := ld_all ho
  by_cases hm : x ∈ slotsN os os.length
  · have := (slotsN_mem (n := os.length) hpos (x := (x : Int)) (by omega)).1 (by rw [Int.toNat_natCast]; exact hm)
    rwa [List.take_length] at this
  · exfalso
    have h1 := restr_at (S := slotsN os os.length) hl
    rw [if_neg hm, ha] at h1
    exact hz h1
/-- An order is a way. -/
theorem way_of {h : Hl} {l : List Bx} {p os : List Int} (ho : ldOk h (bxsOk l) (bxIds l) p os = true) : ∃ G, Way (fullS p).length (setH h l p) (nxS h p) (worstN h l p os os.length) 0 G := by
  obtain ⟨hk, hlen, hg⟩ := ldOk_iff.1 ho
  have hpos : ∀ k, k < os.length → 0 ≤ os.getD k 0 := fun k hk => (hg k hk).1.1
  have hex : ∀ n, n < os.length → ∃ k, k < (fullS p).length ∧ fAt p k = (os.getD n 0).toNat := fun n hn => by
    obtain ⟨h1, h2, _, _⟩ := hg n hn
    exact fAt_onto (by omega) h2
  obtain ⟨f, hf⟩ : ∃ f : Nat → Nat, ∀ n, n < os.length → f n < (fullS p).length ∧ fAt p (f n) = (os.getD n 0).toNat :=
    ⟨fun n => if hn : n < os.length then Classical.choose (hex n hn) else 0, fun n hn => by
      simp only [dif_pos hn]
      exact Classical.choose_spec (hex n hn)⟩
  obtain ⟨G, hG⟩ : ∃ G, G = (List.range os.length).map f := ⟨_, rfl⟩
  have hGl : G.length = os.length := by rw [hG]; simp
  have hat : ∀ n (hn : n < G.length), G[n] < (fullS p).length ∧ fAt p G[n] = (os.getD n 0).toNat := fun n hn => by
    have : G[n] = f n := by subst hG; simp
    rw [this]
    exact hf n (by omega)
  have hinj : ∀ i j (hi : i < G.length) (hj : j < G.length), i < j → G[i] ≠ G[j] := fun i j hi hj hij he => by
    have h1 := (hat i hi).2
    rw [he, (hat j hj).2] at h1
    refine (hg j (by omega)).2.2.1 ?_
    have e : os.getD j 0 = os.getD i 0 := by have := hpos i (by omega); have := hpos j (by omega); omega
    rw [e, getD_i (show i < os.length by omega)]
    exact List.mem_take_iff_getElem.2 ⟨i, by omega, rfl⟩
  have hd : G.Nodup := List.nodup_iff_pairwise_ne.2 (List.pairwise_iff_getElem.2 fun i j hi hj hij => hinj i j hi hj hij)
  have hmem : ∀ k, k ∈ G ↔ k < (fullS p).length := fun k => by
    constructor
    · intro hm
      obtain ⟨n, hn, rfl⟩ := List.getElem_of_mem hm
      exact (hat n hn).1
    · intro hkm
      obtain ⟨f1, f2⟩ := fAt_mem hkm
      obtain ⟨n, hn, he⟩ := List.getElem_of_mem (ld_mem ho f1 f2)
      have := hat n (by omega)
      rw [getD_i hn, he, Int.toNat_natCast] at this
      have e := fAt_inj this.1 hkm this.2
      rw [← e]
      exact List.getElem_mem _
  have hbits := mask_bits (mask_nodup hd)
  refine ⟨G, fun n hn => ⟨(hat n hn).1, ?_, ?_⟩, by rw [Nat.zero_add]; exact mask_full hd hmem⟩
  · rw [Nat.zero_add]
    refine nxS_iff.2 ⟨mask_nodup hd n hn, fun j hj he => ?_⟩
    rw [(hat n hn).2] at he
    obtain ⟨h1, h2, h3, h4⟩ := hg n (by omega)
    rcases pl_below (plOk_iff.1 hk).1 (plOk_iff.1 hk).2.2.1 (show (os.getD n 0).toNat < p.length by omega) with ⟨hb, _⟩ | ⟨i, hi, hb, ht⟩
    · rw [hb] at he; omega
    · rw [hb] at he
      rw [Int.toNat_of_nonneg h1.1] at ht
      have hm := h4 ht
      obtain ⟨a, ha, hae⟩ := List.getElem_of_mem hm
      rw [List.length_take] at ha
      rw [List.getElem_take] at hae
      have h5 := hat a (by omega)
      rw [getD_i (show a < os.length by omega), hae] at h5
      have e : G[a] = j := fAt_inj h5.1 hj (by rw [h5.2]; omega)
      rw [hbits n (by omega)]
      refine decide_eq_true ?_
      rw [← e]
      exact List.mem_take_iff_getElem.2 ⟨a, by omega, rfl⟩
  · rw [Nat.zero_add]
    unfold setH
    rw [way_heel hGl hat hd (n + 1) (by omega)]
    have := worstN_ge h l p os os.length (n + 1) (by omega)
    omega
/-- A way is an order. -/
theorem of_way {h : Hl} {l : List Bx} {p : List Int} (hk : plOk h (bxsOk l) (bxIds l) p = true) {W : Int} (hW : 0 ≤ W) {G : List Nat} (hw : Way (fullS p).length (setH h l p) (nxS h p) W 0 G) :
    ldOk h (bxsOk l) (bxIds l) p (G.map fun k => (fAt p k : Int)) = true ∧ worstN h l p (G.map fun k => (fAt p k : Int)) (G.map fun k => (fAt p k : Int)).length ≤ W := by
  obtain ⟨w1, w2⟩ := hw
  rw [Nat.zero_add] at w2
  have hf : ∀ n (hn : n < G.length), (maskN G n).testBit G[n] = false := fun n hn => by
    have := (nxS_iff.1 (w1 n hn).2.1).1
    rwa [Nat.zero_add] at this
  have hd := nodup_mask hf
  have hmem := full_mask hf w2
  have hlen := full_len hd hmem
  obtain ⟨os, hos⟩ : ∃ os, os = G.map fun k => (fAt p k : Int) := ⟨_, rfl⟩
  have hol : os.length = G.length := by rw [hos]; simp
  have hget : ∀ n (hn : n < G.length), os.getD n 0 = (fAt p G[n] : Int) := fun n hn => by
    rw [getD_i (show n < os.length by omega)]
    subst hos
    simp
  have hat : ∀ n (hn : n < G.length), G[n] < (fullS p).length ∧ fAt p G[n] = (os.getD n 0).toNat := fun n hn => ⟨(w1 n hn).1, by rw [hget n hn]; omega⟩
  have htake : ∀ n x, x ∈ os.take n → ∃ i, ∃ hi : i < G.length, i < n ∧ x = (fAt p G[i] : Int) := fun n x hx => by
    obtain ⟨i, hi, he⟩ := List.getElem_of_mem hx
    rw [List.length_take] at hi
    rw [List.getElem_take] at he
    refine ⟨i, by omega, by omega, ?_⟩
    rw [← hget i (by omega), getD_i (show i < os.length by omega)]
    exact he.symm
  rw [← hos]
  constructor
  · refine ldOk_iff.2 ⟨hk, by omega, fun n hn => ?_⟩
    have hn' : n < G.length := by omega
    obtain ⟨f1, f2⟩ := fAt_mem (hat n hn').1
    rw [hget n hn', Int.toNat_natCast]
    refine ⟨⟨by omega, by omega⟩, f2, fun hm => ?_, fun ht => ?_⟩
    · obtain ⟨i, hi, hin, he⟩ := htake n _ hm
      have e := fAt_inj (hat n hn').1 (hat i hi).1 (by omega)
      have hb := hf n hn'
      rw [mask_bits hf n (by omega)] at hb
      refine of_decide_eq_false hb ?_
      rw [e]
      exact List.mem_take_iff_getElem.2 ⟨i, by omega, rfl⟩
    · rcases pl_below (plOk_iff.1 hk).1 (plOk_iff.1 hk).2.2.1 f1 with ⟨_, hz⟩ | ⟨i, hi, hb, _⟩
      · exact absurd hz ht
      · have hz : pAt p i ≠ 0 := by
          have := ((plOk_iff.1 hk).2.2.2 (fAt p G[n]) f1 f2).2.2 ht
          rwa [show fAt p G[n] - 1 = i by omega] at this
        obtain ⟨j, hj, hje⟩ := fAt_onto (show i < p.length by omega) hz
        have hbit := (nxS_iff.1 (w1 n hn').2.1).2 j hj (by rw [hb]; omega)
        rw [Nat.zero_add, mask_bits hf n (by omega)] at hbit
        obtain ⟨a, ha, hae⟩ := List.getElem_of_mem (of_decide_eq_true hbit)
        rw [List.length_take] at ha
        rw [List.getElem_take] at hae
        have h1 := hget a (by omega)
        rw [hae, hje] at h1
        rw [show (fAt p G[n] : Int) - 1 = (i : Int) by omega, ← h1, getD_i (show a < os.length by omega)]
        exact List.mem_take_iff_getElem.2 ⟨a, by omega, rfl⟩
  · refine worstN_le hW _ fun i hi => ?_
    rw [← way_heel (h := h) (l := l) hol.symm hat hd i (by omega)]
    cases i with
    | zero => rw [maskN_zero, bsum_zero]; omega
    | succ i =>
      have := (w1 i (by omega)).2.2
      unfold setH at this
      rw [Nat.zero_add] at this
      omega
theorem leastO_pos {h : Hl} {l : List Bx} {p : List Int} (hk : plOk h (bxsOk l) (bxIds l) p = true) : 0 ≤ leastO h l p :=
  leastL_pos (nxS_bit h p) (setH_pos h l p) (nxS_ex hk) _ 0 (Nat.two_pow_pos _) (Nat.le_refl _)
/-- No order is better than the best one. -/
theorem leastO_le {h : Hl} {l : List Bx} {p os : List Int} (ho : ldOk h (bxsOk l) (bxIds l) p os = true) : leastO h l p ≤ worstN h l p os os.length := by
  obtain ⟨G, hw⟩ := way_of ho
  exact way_ge (nxS_bit h p) (setH_pos h l p) (nxS_ex (ldOk_iff.1 ho).1) (worstN_pos h l p os _) G 0 (Nat.two_pow_pos _) hw
theorem bestG_law {h : Hl} {l : List Bx} {p : List Int} (hk : plOk h (bxsOk l) (bxIds l) p = true) :
    ldOk h (bxsOk l) (bxIds l) p ((bestG h l p).map fun k => (fAt p k : Int)) = true ∧ worstN h l p ((bestG h l p).map fun k => (fAt p k : Int)) ((bestG h l p).map fun k => (fAt p k : Int)).length = leastO h l p := by
  have hp := Nat.two_pow_pos (fullS p).length
  have hw := greedy_way (W := leastO h l p) (nxS_bit h p) (setH_pos h l p) (nxS_ex hk) (2 ^ (fullS p).length) 0 hp (by omega) (Int.le_refl _)
  obtain ⟨h1, h2⟩ := of_way hk (leastO_pos hk) hw
  have h3 := leastO_le h1
  exact ⟨h1, Int.le_antisymm h2 h3⟩
theorem bestO_law {h : Hl} {l : List Bx} {p : List Int} (hb : (bestO h l p).2 = true) : plOk h (bxsOk l) (bxIds l) p = true ∧ ldOk h (bxsOk l) (bxIds l) p (bestO h l p).1 = true ∧ 0 ≤ worstH h l p (bestO h l p).1 ∧ ∀ os, ldOk h (bxsOk l) (bxIds l) p os = true → worstH h l p (bestO h l p).1 ≤ worstH h l p os := by
  unfold bestO at hb ⊢
  by_cases hc : plOk h (bxsOk l) (bxIds l) p = true ∧ (fullS p).length ≤ 7
  · rw [if_pos hc] at hb ⊢
    obtain ⟨h1, h2⟩ := bestG_law hc.1
    simp only []
    refine ⟨hc.1, h1, ?_, fun os ho => ?_⟩
    · unfold worstH; rw [if_pos h1, h2]; exact leastO_pos hc.1
    · unfold worstH; rw [if_pos h1, if_pos ho, h2]; exact leastO_le ho
  · rw [if_neg hc] at hb; cases hb
end Go.Proofs.Ytfeobdgdhgcgoaa
namespace Go.Proofs.Ytfeobdgdhgcgoaa
set_option linter.unusedVariables false

/-- The slots of a tier that are not empty, below a number; and those of the first tiers. -/
def tierK (T : Nat) (p : List Int) (t n : Nat) : List Nat := (List.range n).filter fun k => decide (k % T = t ∧ pAt p k ≠ 0)
def tierN (T : Nat) (p : List Int) : Nat → List Nat
  | 0 => []
  | t + 1 => tierN T p t ++ tierK T p t p.length
/-- What LoadOrder gives. -/
def tierO (h : Hl) (bok : Bool) (ids p : List Int) : List Int := if plOk h bok ids p = true then (tierN h.t.toNat p h.t.toNat).map Int.ofNat else []
theorem tierK_mem {T : Nat} {p : List Int} {t n k : Nat} : k ∈ tierK T p t n ↔ k < n ∧ k % T = t ∧ pAt p k ≠ 0 := by
  unfold tierK
  rw [List.mem_filter, List.mem_range, decide_eq_true_eq]
theorem tierN_mem {T : Nat} {p : List Int} {k : Nat} : ∀ {t : Nat}, k ∈ tierN T p t ↔ k < p.length ∧ k % T < t ∧ pAt p k ≠ 0
  | 0 => by simp [tierN]
  | t + 1 => by
    unfold tierN
    rw [List.mem_append, tierN_mem (t := t), tierK_mem]
    omega
theorem tierK_nodup (T : Nat) (p : List Int) (t n : Nat) : (tierK T p t n).Nodup := List.Nodup.sublist List.filter_sublist List.nodup_range
theorem tierN_nodup (T : Nat) (p : List Int) : ∀ t, (tierN T p t).Nodup
  | 0 => List.nodup_nil
  | t + 1 => by
    unfold tierN
    refine List.nodup_append.2 ⟨tierN_nodup T p t, tierK_nodup T p t _, fun a ha b hb e => ?_⟩
    subst e
    have h1 := (tierN_mem.1 ha).2.1
    have h2 := (tierK_mem.1 hb).2.1
    omega
theorem tierN_len {T : Nat} {p : List Int} (hT : 0 < T) : (tierN T p T).length = (fullS p).length := by
  have h1 := List.Nodup.length_le_of_subset (tierN_nodup T p T) (l₂ := fullS p) fun k hk => fullS_mem.2 ⟨(tierN_mem.1 hk).1, (tierN_mem.1 hk).2.2⟩
  have h2 := List.Nodup.length_le_of_subset (fullS_nodup p) (l₂ := tierN T p T) fun k hk => tierN_mem.2 ⟨(fullS_mem.1 hk).1, Nat.mod_lt _ hT, (fullS_mem.1 hk).2⟩
  omega
/-- Tier by tier: no slot comes before one of a lesser tier, none before the slot below it. -/
theorem tierN_sorted {T : Nat} {p : List Int} : ∀ t, (tierN T p t).Pairwise fun a b => a % T ≤ b % T
  | 0 => List.Pairwise.nil
  | t + 1 => by
    unfold tierN
    refine List.pairwise_append.2 ⟨tierN_sorted t, ?_, fun a ha b hb => ?_⟩
    · refine List.Pairwise.imp_of_mem (R := fun _ _ => True) (fun {a b} ha hb _ => ?_) (List.pairwise_of_forall fun _ _ => trivial)
      rw [(tierK_mem.1 ha).2.1, (tierK_mem.1 hb).2.1]
      exact Nat.le_refl _
    · have h1 := (tierN_mem.1 ha).2.1
      rw [(tierK_mem.1 hb).2.1]
      omega
theorem tierN_below {T : Nat} {p : List Int} (hT : 0 < T) (hz : ∀ k, k < p.length → pAt p k ≠ 0 → ¬ k % T = 0 → pAt p (k - 1) ≠ 0) : ∀ t, ∀ n (hn : n < (tierN T p t).length), ¬ (tierN T p t)[n] % T = 0 → (tierN T p t)[n] - 1 ∈ (tierN T p t).take n
  | 0, n, hn, _ => by simp [tierN] at hn
  | t + 1, n, hn, ht => by
    have hn' : n < (tierN T p t ++ tierK T p t p.length).length := hn
    have ht' : ¬ (tierN T p t ++ tierK T p t p.length)[n] % T = 0 := ht
    show (tierN T p t ++ tierK T p t p.length)[n] - 1 ∈ (tierN T p t ++ tierK T p t p.length).take n
    rcases Nat.lt_or_ge n (tierN T p t).length with h | h
    · rw [List.getElem_append_left h] at ht' ⊢
      rw [List.take_append_of_le_length (by omega)]
      exact tierN_below hT hz t n h ht'
    · rw [List.getElem_append_right h] at ht' ⊢
      rw [List.length_append] at hn'
      have hm := List.getElem_mem (l := tierK T p t p.length) (n := n - (tierN T p t).length) (by omega)
      obtain ⟨k, hk⟩ : ∃ k, k = (tierK T p t p.length)[n - (tierN T p t).length]'(by omega) := ⟨_, rfl⟩
      rw [← hk] at ht' hm ⊢
      obtain ⟨m1, m2, m3⟩ := tierK_mem.1 hm
      rw [List.take_append]
      refine List.mem_append_left _ ?_
      rw [List.take_of_length_le (by omega)]
      have hk0 : k ≠ 0 := fun e => ht' (by rw [e, Nat.zero_mod])
      have hd := Nat.div_add_mod k T
      have e1 : (k - 1) % T = k % T - 1 := by
        have e2 : k - 1 = T * (k / T) + (k % T - 1) := by omega
        rw [e2, Nat.mul_add_mod]
        exact Nat.mod_eq_of_lt (by have := Nat.mod_lt k hT; omega)
      exact tierN_mem.2 ⟨by omega, by omega, hz k m1 m3 ht'⟩
theorem tierO_ok {h : Hl} {bok : Bool} {ids p : List Int} (hk : plOk h bok ids p = true) : ldOk h bok ids p (tierO h bok ids p) = true := by
  obtain ⟨g1, g2, g3, g4, g5, g6⟩ := hlOk_iff.1 (plOk_iff.1 hk).1
  obtain ⟨T, hT⟩ : ∃ T : Nat, h.t = (T : Int) := ⟨h.t.toNat, by omega⟩
  have hmod : ∀ k : Nat, (k : Int) % h.t = ((k % T : Nat) : Int) := fun k => by rw [hT]; exact (Int.natCast_emod k T).symm
  have hz : ∀ k, k < p.length → pAt p k ≠ 0 → ¬ k % T = 0 → pAt p (k - 1) ≠ 0 := fun k hl hne ht => ((plOk_iff.1 hk).2.2.2 k hl hne).2.2 (by rw [hmod]; omega)
  unfold tierO
  rw [if_pos hk, hT, Int.toNat_natCast]
  have hget : ∀ n (hn : n < (tierN T p T).length), ((tierN T p T).map Int.ofNat).getD n 0 = ((tierN T p T)[n] : Int) := fun n hn => by
    rw [getD_i (show n < ((tierN T p T).map Int.ofNat).length by rw [List.length_map]; exact hn)]
    simp
  have hnd : ((tierN T p T).map Int.ofNat).Nodup := by
    rw [List.nodup_iff_pairwise_ne, List.pairwise_map]
    exact (List.nodup_iff_pairwise_ne.1 (tierN_nodup T p T)).imp fun hne e => hne (Int.ofNat.inj e)
  refine ldOk_iff.2 ⟨hk, by rw [List.length_map, tierN_len (by omega)], fun n hn => ?_⟩
  rw [List.length_map] at hn
  rw [hget n hn, Int.toNat_natCast]
  have hm := tierN_mem.1 (List.getElem_mem hn)
  refine ⟨⟨by omega, by omega⟩, hm.2.2, fun hc => ?_, fun ht => ?_⟩
  · obtain ⟨i, hi, he⟩ := List.getElem_of_mem hc
    rw [List.length_take] at hi
    rw [List.getElem_take] at he
    have hp := List.pairwise_iff_getElem.1 (List.nodup_iff_pairwise_ne.1 hnd) i n (by rw [List.length_map]; omega) (by rw [List.length_map]; omega) (by omega)
    refine hp (he.trans ?_)
    simp
  · rw [hmod] at ht
    have := tierN_below (T := T) (by omega) hz T n hn (by omega)
    obtain ⟨i, hi, he⟩ := List.getElem_of_mem this
    rw [List.length_take] at hi
    rw [List.getElem_take] at he
    have h0 : (tierN T p T)[n] ≠ 0 := fun e => ht (by rw [e]; simp)
    refine List.mem_take_iff_getElem.2 ⟨i, by rw [List.length_map]; omega, ?_⟩
    rw [List.getElem_map, he]
    show ((_ - 1 : Nat) : Int) = _
    omega
theorem tierO_sorted {h : Hl} {bok : Bool} {ids p : List Int} (hk : plOk h bok ids p = true) {n : Nat} (hn : n + 1 < (tierO h bok ids p).length) : (plOf h ((tierO h bok ids p).getD n 0)).2.2 ≤ (plOf h ((tierO h bok ids p).getD (n + 1) 0)).2.2 := by
  have ho := tierO_ok hk
  have hg := (ldOk_iff.1 ho).2.2
  have hsl := (plOk_iff.1 hk).2.2.1
  have hh := (plOk_iff.1 hk).1
  rw [plOf_yes hh (hg n (by omega)).1.1 (by have := (hg n (by omega)).1.2; omega), plOf_yes hh (hg (n + 1) hn).1.1 (by have := (hg (n + 1) hn).1.2; omega)]
  simp only []
  obtain ⟨g1, g2, g3, g4, g5, g6⟩ := hlOk_iff.1 hh
  obtain ⟨T, hT⟩ : ∃ T : Nat, h.t = (T : Int) := ⟨h.t.toNat, by omega⟩
  have e : tierO h bok ids p = (tierN T p T).map Int.ofNat := by unfold tierO; rw [if_pos hk, hT, Int.toNat_natCast]
  rw [e, List.length_map] at hn
  have hget : ∀ n (hn : n < (tierN T p T).length), (tierO h bok ids p).getD n 0 = ((tierN T p T)[n] : Int) := fun n hn => by
    rw [e, getD_i (show n < ((tierN T p T).map Int.ofNat).length by rw [List.length_map]; exact hn)]
    simp
  rw [hget n (by omega), hget (n + 1) hn, hT, ← Int.natCast_emod, ← Int.natCast_emod]
  exact Int.ofNat_le.2 (List.pairwise_iff_getElem.1 (tierN_sorted (T := T) (p := p) T) n (n + 1) (by omega) hn (by omega))
end Go.Proofs.Ytfeobdgdhgcgoaa
namespace Go.Proofs.Ytfeobdgdhgcgoaa
set_option linter.unusedVariables false

/-- As many slots as the ship has, and below every box that is not in the lowest tier there is one. -/
def CarryP (h : Hl) (p : List Int) : Prop := (p.length : Int) = slMany h ∧ ∀ k, k < p.length → pAt p k ≠ 0 → (k : Int) % h.t = 0 ∨ pAt p (k - 1) ≠ 0
theorem CarryP.of_ok {h : Hl} {bok : Bool} {ids p : List Int} (hk : plOk h bok ids p = true) : CarryP h p := by
  obtain ⟨h1, h2, h3, h4⟩ := plOk_iff.1 hk
  refine ⟨h3, fun k hl hz => ?_⟩
  rcases Classical.em ((k : Int) % h.t = 0) with ht | ht
  · exact .inl ht
  · exact .inr ((h4 k hl hz).2.2 ht)
theorem CarryP.empty {h : Hl} (hk : hlOk h = true) : CarryP h (emptyP h) := by
  obtain ⟨m1, m2, _⟩ := slMany_bd hk
  unfold emptyP
  rw [if_pos hk]
  refine ⟨by rw [List.length_replicate]; omega, fun k hl hz => absurd ?_ hz⟩
  unfold pAt
  rw [List.getD_eq_getElem?_getD, List.getElem?_replicate]
  split <;> rfl
theorem CarryP.put {h : Hl} {bok : Bool} {ids p : List Int} {s id : Int} (hok : (putP h bok ids p s id).2 = true) : CarryP h (putP h bok ids p s id).1 := by
  rcases putP_cases h bok ids p s id with ⟨_, e⟩ | ⟨_, e⟩ | ⟨_, _, _, _, _, h6, e⟩
  · rw [e] at hok; cases hok
  · rw [e] at hok; cases hok
  · rw [e]; exact CarryP.of_ok h6
theorem CarryP.len {h : Hl} {p : List Int} (hk : hlOk h = true) (hc : CarryP h p) : 1 ≤ p.length ∧ p.length ≤ 36 := by
  have := hc.1
  obtain ⟨m1, m2, _⟩ := slMany_bd hk
  omega
/-- Whether a slot can be the next one of an order. -/
def canL (h : Hl) (os : List Int) (x : Int) : Prop := hasI os x = false ∧ (slBelow h x < 0 ∨ hasI os (slBelow h x) = true)
theorem fullI_mem {p : List Int} {x : Int} : x ∈ (fullS p).map Int.ofNat ↔ ∃ k, k < (fullS p).length ∧ (fAt p k : Int) = x := by
  constructor
  · intro hm
    obtain ⟨a, ha, rfl⟩ := List.mem_map.1 hm
    obtain ⟨k, hk, he⟩ := fAt_onto (fullS_mem.1 ha).1 (fullS_mem.1 ha).2
    exact ⟨k, hk, by rw [he]; rfl⟩
  · rintro ⟨k, hk, rfl⟩
    exact List.mem_map.2 ⟨fAt p k, fullS_mem.2 (fAt_mem hk), rfl⟩
theorem can_ex {h : Hl} {p os : List Int} (hk : hlOk h = true) (hc : CarryP h p) (hlen : os.length < (fullS p).length) : ∃ k, k < (fullS p).length ∧ canL h os (fAt p k : Int) := by
  have hex : ∃ k, k < (fullS p).length ∧ (!hasI os (fAt p k : Int)) = true := by
    refine Classical.byContradiction fun hno => ?_
    have hsub : ∀ x ∈ (fullS p).map Int.ofNat, x ∈ os := fun x hm => by
      obtain ⟨k, hk, rfl⟩ := fullI_mem.1 hm
      cases hb : hasI os (fAt p k : Int)
      · exact absurd ⟨k, hk, by rw [hb]; rfl⟩ hno
      · exact of_decide_eq_true hb
    have hnd : ((fullS p).map Int.ofNat).Nodup := by
      rw [List.nodup_iff_pairwise_ne, List.pairwise_map]
      refine List.Pairwise.imp ?_ (List.nodup_iff_pairwise_ne.1 (fullS_nodup p))
      intro a b hab he
      exact hab (Int.ofNat.inj he)
    have := List.Nodup.length_le_of_subset hnd (l₂ := os) hsub
    rw [List.length_map] at this
    omega
  obtain ⟨k1, k2⟩ := firstK_some (g := fun k => !hasI os (fAt p k : Int)) hex
  have hmin : ∀ j, j < firstK (fun k => !hasI os (fAt p k : Int)) (fullS p).length → hasI os (fAt p j : Int) = true := fun j hj => by
    have := firstK_before (g := fun k => !hasI os (fAt p k : Int)) k1 hj
    simpa using this
  generalize firstK (fun k => !hasI os (fAt p k : Int)) (fullS p).length = K at k1 k2 hmin
  refine ⟨K, k1, by simpa using k2, ?_⟩
  obtain ⟨f1, f2⟩ := fAt_mem k1
  rcases pl_below hk hc.1 f1 with ⟨hb, _⟩ | ⟨i, hi, hb, ht⟩
  · exact .inl (by rw [hb]; omega)
  · refine .inr ?_
    rw [hb]
    have hz : pAt p i ≠ 0 := by
      rcases hc.2 _ f1 f2 with h' | h'
      · exact absurd h' ht
      · rw [hi] at h'; simpa using h'
    obtain ⟨j, hj, he⟩ := fAt_onto (p := p) (x := i) (by omega) hz
    have hjK : j < K := by
      rcases Nat.lt_trichotomy j K with h1 | h1 | h1
      · exact h1
      · subst h1; omega
      · have := fAt_lt hj h1; omega
    have := hmin j hjK
    rw [he] at this
    exact this
/-- How many steps lie ahead of a place, round and round. -/
def stepsTo (n g k : Nat) : Nat := if k ≤ g then g - k else n - k + g
theorem stepsTo_next {n g k : Nat} (hk : k < n) (hg : g < n) (hne : k ≠ g) : stepsTo n g ((k + 1) % n) < stepsTo n g k := by
  unfold stepsTo
  by_cases h1 : k + 1 = n
  · rw [h1, Nat.mod_self]
    repeat' split
    all_goals omega
  · rw [Nat.mod_eq_of_lt (by omega)]
    repeat' split
    all_goals omega
/-- The plan without boxes has no ids. -/
theorem idsP_none (h : Hl) (bok : Bool) (ids p os : List Int) : idsP h bok ids (restr p (slotsN os 0)) = [] := by
  have e : slotsN os 0 = [] := rfl
  rw [e, restr_none]
  unfold idsP
  split
  · rw [List.filter_eq_nil_iff]
    intro x hx
    rw [(List.mem_replicate.1 hx).2]
    simp
  · rfl
end Go.Proofs.Ytfeobdgdhgcgoaa
namespace Go.Proofs.Ytfeobdgdhgcgoaa
set_option linter.unusedVariables false

/-- The slots of a set, of the first n ones that are not empty. -/
def setS (p : List Int) (s : Nat) : Nat → List Nat
  | 0 => []
  | n + 1 => if s.testBit n = true then setS p s n ++ [fAt p n] else setS p s n
theorem setS_mem {p : List Int} {s x : Nat} : ∀ {n : Nat}, x ∈ setS p s n ↔ ∃ k, k < n ∧ s.testBit k = true ∧ fAt p k = x
  | 0 => by
    constructor
    · intro hm; cases hm
    · rintro ⟨k, h1, _⟩; omega
  | n + 1 => by
    unfold setS
    by_cases hb : s.testBit n = true
    · rw [if_pos hb, List.mem_append, List.mem_singleton, setS_mem]
      constructor
      · rintro (⟨k, h1, h2, h3⟩ | rfl)
        · exact ⟨k, by omega, h2, h3⟩
        · exact ⟨n, by omega, hb, rfl⟩
      · rintro ⟨k, h1, h2, h3⟩
        by_cases e : k = n
        · subst e; exact .inr h3.symm
        · exact .inl ⟨k, by omega, h2, h3⟩
    · rw [if_neg hb, setS_mem]
      constructor
      · rintro ⟨k, h1, h2, h3⟩; exact ⟨k, by omega, h2, h3⟩
      · rintro ⟨k, h1, h2, h3⟩
        by_cases e : k = n
        · subst e; exact absurd h2 hb
        · exact ⟨k, by omega, h2, h3⟩
/-- The plan in which only these are loaded. -/
def partP (p : List Int) (s n : Nat) : List Int := restr p (setS p s n)
theorem partP_len (p : List Int) (s n : Nat) : (partP p s n).length = p.length := restr_len _ _
theorem partP_zero (p : List Int) (s : Nat) : partP p s 0 = List.replicate p.length 0 := restr_none p
theorem partP_next {p : List Int} {s n : Nat} (hn : n < (fullS p).length) : partP p s (n + 1) = if s.testBit n = true then (partP p s n).set (fAt p n) (pAt p (fAt p n)) else partP p s n := by
  unfold partP
  rw [setS]
  by_cases hb : s.testBit n = true
  · rw [if_pos hb, if_pos hb, restr_snoc (fAt_mem hn).1]
  · rw [if_neg hb, if_neg hb]
theorem wsum_zero (h : Hl) (l : List Bx) (n : Nat) : wsum (wBx l) (heelC h) (List.replicate n (0 : Int)) = 0 := by
  unfold wsum
  have : ∀ (m : Nat), ((List.range m).map fun k => wBx l (pAt (List.replicate n (0 : Int)) k) * heelC h k).sum = 0 := by
    intro m
    induction m with
    | zero => rfl
    | succ m ih =>
      rw [List.range_succ, List.map_append, List.sum_append, ih]
      have hz : pAt (List.replicate n (0 : Int)) m = 0 := by
        unfold pAt
        rw [List.getD_eq_getElem?_getD, List.getElem?_replicate]
        split <;> rfl
      have hw : wBx l 0 = 0 := by unfold wBx; rw [if_pos rfl]
      simp [hz, hw]
  exact this _
theorem partP_sum {h : Hl} {l : List Bx} {p : List Int} {s : Nat} : ∀ n, n ≤ (fullS p).length → wsum (wBx l) (heelC h) (partP p s n) = bsum (cAt h l p) s n
  | 0, _ => by rw [partP_zero, wsum_zero]; rfl
  | n + 1, hn => by
    have ih := partP_sum (h := h) (l := l) (p := p) (s := s) n (by omega)
    have hl := (fAt_mem (p := p) (k := n) (by omega)).1
    rw [partP_next (by omega), bsum]
    by_cases hb : s.testBit n = true
    · rw [if_pos hb, if_pos hb, wsum_set (by rw [partP_len]; exact hl), ih]
      have hm : fAt p n ∉ setS p s n := fun hm => by
        obtain ⟨k, k1, _, k3⟩ := setS_mem.1 hm
        have := fAt_inj (p := p) (by omega) (by omega) k3
        omega
      have e : pAt (partP p s n) (fAt p n) = 0 := by unfold partP; rw [restr_at hl, if_neg hm]
      have hw : wBx l 0 = 0 := by unfold wBx; rw [if_pos rfl]
      rw [e, hw, Int.zero_mul]
      unfold cAt
      omega
    · rw [if_neg hb, if_neg hb, ih]; omega
/-- Whether nothing floats in it. -/
def okS (h : Hl) (l : List Bx) (p : List Int) (s : Nat) : Bool := plOk h (bxsOk l) (bxIds l) (partP p s (fullS p).length)
def dnS (h : Hl) (p : List Int) (s : Nat) : Prop := ∀ k, k < (fullS p).length → s.testBit k = true → ∀ j, j < (fullS p).length → (fAt p j : Int) = slBelow h (fAt p k) → s.testBit j = true
theorem okS_iff {h : Hl} {l : List Bx} {p : List Int} {s : Nat} (hok : plOk h (bxsOk l) (bxIds l) p = true) : okS h l p s = true ↔ dnS h p s := by
  obtain ⟨q1, q2, q3, q4⟩ := plOk_iff.1 hok
  constructor
  · intro hs k hk hb j hj he
    obtain ⟨_, _, _, r4⟩ := plOk_iff.1 hs
    obtain ⟨f1, f2⟩ := fAt_mem hk
    rcases pl_below q1 q3 f1 with ⟨hb0, _⟩ | ⟨i, hi, hb0, ht⟩
    · rw [hb0] at he; omega
    · rw [hb0] at he
      have hkm : fAt p k ∈ setS p s (fullS p).length := setS_mem.2 ⟨k, hk, hb, rfl⟩
      have e1 : pAt (partP p s (fullS p).length) (fAt p k) = pAt p (fAt p k) := by unfold partP; rw [restr_at f1, if_pos hkm]
      have h3 := (r4 (fAt p k) (by rw [partP_len]; exact f1) (by rw [e1]; exact f2)).2.2 ht
      have hjl := (fAt_mem hj).1
      have e2 : fAt p k - 1 = fAt p j := by omega
      rw [e2] at h3
      unfold partP at h3
      rw [restr_at hjl] at h3
      by_cases hm : fAt p j ∈ setS p s (fullS p).length
      · obtain ⟨i', i1, i2, i3⟩ := setS_mem.1 hm
        rw [← fAt_inj i1 hj i3]; exact i2
      · rw [if_neg hm] at h3; exact absurd rfl h3
  · intro hd
    refine restr_ok hok fun x hx ht => ?_
    obtain ⟨k, k1, k2, rfl⟩ := setS_mem.1 hx
    obtain ⟨f1, f2⟩ := fAt_mem k1
    rcases pl_below q1 q3 f1 with ⟨_, h0⟩ | ⟨i, hi, hb0, _⟩
    · exact absurd h0 ht
    · have h3 := (q4 (fAt p k) f1 f2).2.2 ht
      obtain ⟨j, j1, j2⟩ := fAt_onto (p := p) (x := fAt p k - 1) (by omega) h3
      rw [← j2]
      exact setS_mem.2 ⟨j, j1, hd k k1 k2 j j1 (by rw [hb0]; omega), rfl⟩
theorem okS_heel {h : Hl} {l : List Bx} {p : List Int} {s : Nat} : heelW h l (partP p s (fullS p).length) = if okS h l p s = true then (bsum (cAt h l p) s (fullS p).length, true) else (0, false) := by
  unfold heelW okS
  by_cases hs : plOk h (bxsOk l) (bxIds l) (partP p s (fullS p).length) = true
  · rw [if_pos hs, if_pos hs, partP_sum _ (Nat.le_refl _)]
  · rw [if_neg hs, if_neg hs]
theorem okS_zero {h : Hl} {l : List Bx} {p : List Int} (hok : plOk h (bxsOk l) (bxIds l) p = true) : okS h l p 0 = true :=
  (okS_iff hok).2 fun k _ hb => by simp at hb
/-- The next sets are those in which nothing floats. -/
theorem nxS_okS {h : Hl} {l : List Bx} {p : List Int} (hok : plOk h (bxsOk l) (bxIds l) p = true) {s k : Nat} (hs : okS h l p s = true) (hk : k < (fullS p).length) (hb : s.testBit k = false) : nxS h p s k = okS h l p (s + 2 ^ k) := by
  have hd := (okS_iff hok).1 hs
  have hiff : nxS h p s k = true ↔ okS h l p (s + 2 ^ k) = true := by
    rw [nxS_iff, okS_iff hok]
    constructor
    · rintro ⟨_, h2⟩ i hi hbi j hj he
      rw [bit_add hb] at hbi ⊢
      by_cases e : i = k
      · subst e
        rw [h2 j hj he, Bool.or_true]
      · rw [decide_eq_false e, Bool.false_or] at hbi
        rw [hd i hi hbi j hj he, Bool.or_true]
    · intro h2
      refine ⟨hb, fun j hj he => ?_⟩
      have h3 := h2 k hk (by rw [bit_add hb, decide_eq_true rfl, Bool.true_or]) j hj he
      rw [bit_add hb] at h3
      by_cases e : j = k
      · subst e
        have hl := (fAt_mem hj).1
        rcases pl_below (plOk_iff.1 hok).1 (plOk_iff.1 hok).2.2.1 hl with ⟨hb0, _⟩ | ⟨i, hi, hb0, _⟩ <;> rw [hb0] at he <;> omega
      · rw [decide_eq_false e, Bool.false_or] at h3
        exact h3
  cases h1 : nxS h p s k
  · cases h2 : okS h l p (s + 2 ^ k)
    · rfl
    · rw [hiff.2 h2] at h1; cases h1
  · exact (hiff.1 h1).symm
/-- The worst heel from a set on, its own too. -/
def valS (h : Hl) (l : List Bx) (p : List Int) (s : Nat) : Int := max (setH h l p s) (leastL (fullS p).length (setH h l p) (nxS h p) s)
def mapT (h : Hl) (l : List Bx) (p : List Int) (t : Nat) : Int → Option Int := fun x => if 0 ≤ x ∧ t ≤ x.toNat ∧ x.toNat < 2 ^ (fullS p).length ∧ okS h l p x.toNat = true then some (valS h l p x.toNat) else none
theorem mapT_at {h : Hl} {l : List Bx} {p : List Int} (t n : Nat) : mapT h l p t (n : Int) = if t ≤ n ∧ n < 2 ^ (fullS p).length ∧ okS h l p n = true then some (valS h l p n) else none := by
  unfold mapT
  rw [Int.toNat_natCast]
  by_cases hc : t ≤ n ∧ n < 2 ^ (fullS p).length ∧ okS h l p n = true
  · rw [if_pos hc, if_pos ⟨by omega, hc⟩]
  · rw [if_neg hc, if_neg (fun h' => hc h'.2)]
theorem mapT_start (h : Hl) (l : List Bx) (p : List Int) : mapT h l p (2 ^ (fullS p).length) = fun _ => none := by
  funext x
  unfold mapT
  rw [if_neg (by omega)]
theorem mapT_skip {h : Hl} {l : List Bx} {p : List Int} {s : Nat} (hs : okS h l p s = false) : mapT h l p (s + 1) = mapT h l p s := by
  funext x
  unfold mapT
  by_cases e : x.toNat = s
  · rw [e, hs, if_neg (by simp), if_neg (by simp)]
  · by_cases hc : 0 ≤ x ∧ s ≤ x.toNat ∧ x.toNat < 2 ^ (fullS p).length ∧ okS h l p x.toNat = true
    · rw [if_pos hc, if_pos ⟨hc.1, by omega, hc.2.2⟩]
    · rw [if_neg hc, if_neg (fun h' => hc ⟨h'.1, by omega, h'.2.2⟩)]
theorem mapT_put {h : Hl} {l : List Bx} {p : List Int} {s : Nat} (hlt : s < 2 ^ (fullS p).length) (hs : okS h l p s = true) : (fun j => if j = (s : Int) then some (valS h l p s) else mapT h l p (s + 1) j) = mapT h l p s := by
  funext x
  by_cases e : x = (s : Int)
  · rw [if_pos e, e, mapT_at, if_pos ⟨Nat.le_refl _, hlt, hs⟩]
  · rw [if_neg e]
    unfold mapT
    by_cases hc : 0 ≤ x ∧ s ≤ x.toNat ∧ x.toNat < 2 ^ (fullS p).length ∧ okS h l p x.toNat = true
    · rw [if_pos hc, if_pos ⟨hc.1, by omega, hc.2.2⟩]
    · rw [if_neg hc, if_neg (fun h' => hc ⟨h'.1, by omega, h'.2.2⟩)]
theorem or_add {s k : Nat} (hb : s.testBit k = false) : s ||| 2 ^ k = s + 2 ^ k := by
  refine Nat.eq_of_testBit_eq fun j => ?_
  rw [Nat.testBit_or, bit_add hb, Nat.testBit_two_pow]
  by_cases e : j = k
  · subst e; simp
  · rw [decide_eq_false e, decide_eq_false (fun h => e h.symm), Bool.or_false, Bool.false_or]
/-- What a table tells of a set with one more. -/
def gM (m : Int → Option Int) (s k : Nat) : Bool := !s.testBit k && (m ((s ||| 2 ^ k : Nat) : Int)).isSome
def xM (m : Int → Option Int) (s k : Nat) : Int := (m ((s ||| 2 ^ k : Nat) : Int)).getD 0
theorem foldB_cut {g g' : Nat → Bool} {x x' : Nat → Int} {m : Nat} (h1 : ∀ k, k < m → g k = g' k) (h2 : ∀ k, k < m → g k = true → x k = x' k) (h3 : ∀ k, m ≤ k → g k = false) : ∀ d, foldB g x (m + d) = foldB g' x' m
  | 0 => by
    have : ∀ n, n ≤ m → foldB g x n = foldB g' x' n := by
      intro n
      induction n with
      | zero => intro _; rfl
      | succ n ih =>
        intro hn
        unfold foldB
        rw [ih (by omega), ← h1 n (by omega)]
        by_cases hg : g n = true
        · rw [if_pos hg, if_pos hg, h2 n (by omega) hg]
        · rw [if_neg hg, if_neg hg]
    exact this m (Nat.le_refl _)
  | d + 1 => by
    rw [← Nat.add_assoc, foldB, h3 (m + d) (by omega), if_neg (by simp)]
    exact foldB_cut h1 h2 h3 d
section
variable {h : Hl} {l : List Bx} {p : List Int} (hok : plOk h (bxsOk l) (bxIds l) p = true)
include hok
theorem gM_val {t s k : Nat} (hs : okS h l p s = true) (hlt : s < 2 ^ (fullS p).length) (ht : t ≤ s + 1) : gM (mapT h l p t) s k = (decide (k < (fullS p).length) && nxS h p s k) := by
  unfold gM
  cases hb : s.testBit k
  · rw [or_add hb, mapT_at]
    have hp := Nat.two_pow_pos k
    by_cases hk : k < (fullS p).length
    · have hr := bit_room hlt hk hb
      rw [decide_eq_true hk, nxS_okS hok hs hk hb]
      cases ho : okS h l p (s + 2 ^ k)
      · rw [if_neg (by simp)]; rfl
      · rw [if_pos ⟨by omega, hr, rfl⟩]; rfl
    · rw [decide_eq_false hk]
      have : 2 ^ (fullS p).length ≤ 2 ^ k := Nat.pow_le_pow_right (by omega) (by omega)
      rw [if_neg (by omega)]; rfl
  · have : nxS h p s k = false := by
      cases hc : nxS h p s k
      · rfl
      · rw [(nxS_iff.1 hc).1] at hb; cases hb
    rw [this]; simp
theorem xM_val {t s k : Nat} (hs : okS h l p s = true) (hlt : s < 2 ^ (fullS p).length) (ht : t ≤ s + 1) (hg : gM (mapT h l p t) s k = true) : xM (mapT h l p t) s k = valS h l p (s + 2 ^ k) := by
  rw [gM_val hok hs hlt ht, Bool.and_eq_true, decide_eq_true_eq] at hg
  have hb := nxS_bit h p s k hg.2
  have hr := bit_room hlt hg.1 hb
  have hp := Nat.two_pow_pos k
  unfold xM
  rw [or_add hb, mapT_at, if_pos ⟨by omega, hr, by rw [← nxS_okS hok hs hg.1 hb]; exact hg.2⟩]
  rfl
/-- The least heel behind a set, -1 for the full one. -/
theorem behind_val {s : Nat} (hs : okS h l p s = true) (hlt : s < 2 ^ (fullS p).length) (hm : (fullS p).length ≤ 7) : foldB (gM (mapT h l p (s + 1)) s) (xM (mapT h l p (s + 1)) s) 7 = if s = 2 ^ (fullS p).length - 1 then -1 else leastL (fullS p).length (setH h l p) (nxS h p) s := by
  have e : (7 : Nat) = (fullS p).length + (7 - (fullS p).length) := by omega
  have h3 : ∀ k, (fullS p).length ≤ k → gM (mapT h l p (s + 1)) s k = false := fun k hk => by
    rw [gM_val hok hs hlt (Nat.le_refl _), decide_eq_false (by omega)]; rfl
  have hc := foldB_cut (g := gM (mapT h l p (s + 1)) s) (g' := nxS h p s) (x := xM (mapT h l p (s + 1)) s) (x' := fun k => valS h l p (s + 2 ^ k)) (m := (fullS p).length)
    (fun k hk => by rw [gM_val hok hs hlt (Nat.le_refl _), decide_eq_true hk, Bool.true_and]) (fun k hk hg => xM_val hok hs hlt (Nat.le_refl _) hg) h3 (7 - (fullS p).length)
  rw [← e] at hc
  rw [hc]
  by_cases hf : s = 2 ^ (fullS p).length - 1
  · rw [if_pos hf]
    rcases foldB_hit (g := nxS h p s) (x := fun k => valS h l p (s + 2 ^ k)) (fullS p).length with ⟨h1, _⟩ | ⟨k, h1, h2, _⟩
    · exact h1
    · have := nxS_bit h p s k h2
      rw [hf, bit_full h1] at this; cases this
  · rw [if_neg hf, leastL_next (nxS_bit h p) (by omega)]
    rfl
omit hok in
theorem setH_zero : setH h l p 0 = 0 := by unfold setH; rw [bsum_zero]; rfl
theorem least_pos {s : Nat} (hlt : s < 2 ^ (fullS p).length) : 0 ≤ leastL (fullS p).length (setH h l p) (nxS h p) s := leastL_pos (nxS_bit h p) (setH_pos h l p) (nxS_ex hok) (2 ^ (fullS p).length) s hlt (by omega)
theorem valS_zero : valS h l p 0 = leastO h l p := by
  have := least_pos hok (s := 0) (Nat.two_pow_pos _)
  unfold valS leastO
  rw [setH_zero]
  omega
omit hok in
theorem valS_behind {s : Nat} (hlt : s < 2 ^ (fullS p).length) : max (setH h l p s) (if s = 2 ^ (fullS p).length - 1 then -1 else leastL (fullS p).length (setH h l p) (nxS h p) s) = valS h l p s := by
  unfold valS
  by_cases hf : s = 2 ^ (fullS p).length - 1
  · have h0 := setH_pos h l p s
    rw [if_pos hf, hf, leastL_full, ← hf]
    omega
  · rw [if_neg hf]
end
theorem foldB_most {g : Nat → Bool} {x : Nat → Int} {C : Int} (hC : 0 ≤ C) (hx : ∀ k, x k ≤ C) : ∀ n, foldB g x n ≤ C
  | 0 => by unfold foldB; omega
  | n + 1 => by
    have h1 := foldB_most (g := g) hC hx n
    have h2 := hx n
    unfold foldB
    repeat' split
    all_goals omega
theorem leastD_most {m : Nat} {H : Nat → Int} {nx : Nat → Nat → Bool} {C : Int} (hC : 0 ≤ C) (hH : ∀ s, H s ≤ C) : ∀ d s, leastD m H nx d s ≤ C
  | 0, s => hC
  | d + 1, s => by
    unfold leastD
    split
    · exact hC
    · exact foldB_most hC (fun k => by
        have h1 := hH (s + 2 ^ k)
        have h2 := leastD_most (nx := nx) (m := m) hC hH d (s + 2 ^ k)
        omega) m
end Go.Proofs.Ytfeobdgdhgcgoaa
namespace Go.Proofs.Ytfeobdgdhgcgoaa
set_option linter.unusedVariables false

/-- The slots that are not empty, as numbers; those ahead of a slot. -/
def fullI (p : List Int) : List Int := (fullS p).map Int.ofNat
def fulN (p : List Int) (k : Nat) : List Int := ((List.range k).filter fun k => decide (pAt p k ≠ 0)).map Int.ofNat
theorem fulN_end (p : List Int) : fulN p p.length = fullI p := rfl
theorem fulN_next (p : List Int) (k : Nat) : fulN p (k + 1) = if pAt p k ≠ 0 then fulN p k ++ [(k : Int)] else fulN p k := by
  unfold fulN
  rw [List.range_succ, List.filter_append]
  by_cases h : pAt p k ≠ 0
  · rw [if_pos h]; simp [h]
  · rw [if_neg h]; simp [h]
theorem fulN_len (p : List Int) (k : Nat) : (fulN p k).length ≤ k := by
  unfold fulN
  rw [List.length_map]
  exact Nat.le_trans (List.length_filter_le _ _) (by rw [List.length_range]; omega)
theorem fullI_len (p : List Int) : (fullI p).length = (fullS p).length := by unfold fullI; rw [List.length_map]
theorem fullS_le (p : List Int) : (fullS p).length ≤ p.length := by
  have := fulN_len p p.length
  rw [fulN_end, fullI_len] at this
  exact this
theorem fullI_at {p : List Int} {k : Nat} (hk : k < (fullS p).length) : (fullI p).getD k 0 = (fAt p k : Int) := by
  rw [getD_i (show k < (fullI p).length by rw [fullI_len]; exact hk)]
  unfold fullI fAt
  rw [List.getElem_map, List.getD_eq_getElem?_getD, List.getElem?_eq_getElem hk, Option.getD_some]
  rfl
end Go.Proofs.Ytfeobdgdhgcgoaa
namespace Go.Proofs.Ytfeobdgdhgcgoaa
set_option linter.unusedVariables false

/-- A bit as the program reads it. -/
theorem bit_val (s k : Nat) : ((s : Int) / 2 ^ k).tmod 2 = if s.testBit k = true then 1 else 0 := by
  have e : ((s : Int) / 2 ^ k) = ((s / 2 ^ k : Nat) : Int) := by rw [Int.natCast_ediv, Int.natCast_pow]; rfl
  rw [e, bit_div]
  generalize s / 2 ^ k = a
  have e2 : ((a : Nat) : Int).tmod 2 = ((a % 2 : Nat) : Int) := by rw [Int.tmod_eq_emod_of_nonneg (by omega)]; omega
  rw [e2]
  by_cases h : a % 2 = 1
  · rw [h, if_pos (decide_eq_true rfl)]; rfl
  · rw [if_neg (by simpa using h)]; omega
theorem bit_val2 (s k : Nat) : ((s : Int) / 2 ^ k) % 2 = if s.testBit k = true then 1 else 0 := by
  have e : (0 : Int) ≤ (s : Int) / 2 ^ k := Int.ediv_nonneg (by omega) (Int.pow_nonneg (by omega))
  rw [← Int.tmod_eq_emod_of_nonneg e, bit_val]
theorem shl_val {m : Nat} (h : m ≤ 36) : IntKind.i64.wrap ((2 : Int) ^ m) = ((2 ^ m : Nat) : Int) := by
  have h1 : (2 : Nat) ^ m ≤ 2 ^ 36 := Nat.pow_le_pow_right (by omega) h
  have e : ((2 : Int) ^ m) = ((2 ^ m : Nat) : Int) := by rw [Int.natCast_pow]; rfl
  rw [e]
  generalize (2 : Nat) ^ m = a at h1
  exact IntWalk.i64_in _ (by omega)
end Go.Proofs.Ytfeobdgdhgcgoaa
