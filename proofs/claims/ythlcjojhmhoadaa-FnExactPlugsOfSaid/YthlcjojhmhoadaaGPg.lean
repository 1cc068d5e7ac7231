/-
  Plain mathematics of plugs: as many boxes as possible have one, the first of the best lists, and that only too few plugs keep a box out. Nothing of the program.
  Plain mathematics of plugs, second part: the first of the best lists of plugs. Nothing of the program.
  Plain mathematics of plugs that are given one box after the other, each plug left by the box that has it where there is another one for it: in the end as many boxes have one as can have. Nothing of the program.
-/
import Derived.Test.YthlcjojhmhoadaaGLm
namespace Go.Proofs.Ythlcjojhmhoadaa
set_option linter.unusedVariables false

/-- The plugs that a box can use. -/
def useA (u : List (List Int)) (k : Nat) : List Int := u.getD k []
/-- A plug or none (-1) for each of n boxes, no plug twice. -/
def VF (u : List (List Int)) (n : Nat) (f : Nat → Int) : Prop := (∀ k, k < n → f k ≠ -1 → f k ∈ useA u k) ∧ ∀ j k, j < n → k < n → f j ≠ -1 → f j = f k → j = k
def cntF (f : Nat → Int) : Nat → Nat
  | 0 => 0
  | n + 1 => cntF f n + if f n = -1 then 0 else 1
def updF (f : Nat → Int) (k : Nat) (x : Int) : Nat → Int := fun j => if j = k then x else f j
theorem updF_self (f : Nat → Int) (k : Nat) (x : Int) : updF f k x k = x := if_pos rfl
theorem updF_ne {f : Nat → Int} {k j : Nat} {x : Int} (h : j ≠ k) : updF f k x j = f j := if_neg h
theorem cntF_congr {f g : Nat → Int} : ∀ n, (∀ k, k < n → f k = g k) → cntF f n = cntF g n
  | 0, _ => rfl
  | n + 1, h => by rw [cntF, cntF, cntF_congr n fun k hk => h k (by omega), h n (by omega)]
theorem cntF_upd {f : Nat → Int} {k : Nat} {x : Int} (hx : x ≠ -1) : ∀ n, k < n → cntF (updF f k x) n = cntF f n + if f k = -1 then 1 else 0
  | 0, h => by omega
  | n + 1, h => by
    rw [cntF, cntF]
    by_cases e : k = n
    · subst e
      rw [updF_self, if_neg hx, cntF_congr (g := f) k fun j hj => updF_ne (by omega)]
      by_cases hf : f k = -1
      · rw [if_pos hf, if_pos hf]
      · rw [if_neg hf, if_neg hf]
    · rw [updF_ne (fun h => e h.symm), cntF_upd hx n (by omega)]; omega
theorem cntF_drop {f : Nat → Int} {k : Nat} : ∀ n, k < n → cntF (updF f k (-1)) n + (if f k = -1 then 0 else 1) = cntF f n
  | 0, h => by omega
  | n + 1, h => by
    rw [cntF, cntF]
    by_cases e : k = n
    · subst e
      rw [updF_self, if_pos rfl, cntF_congr (g := f) k fun j hj => updF_ne (by omega)]
      omega
    · rw [updF_ne (fun h => e h.symm)]
      have := cntF_drop (f := f) (k := k) n (by omega)
      omega
theorem VF.upd {u : List (List Int)} {n k : Nat} {f : Nat → Int} {x : Int} (h : VF u n f) (hx : x ∈ useA u k) (hf : ∀ j, j < n → f j ≠ x) : VF u n (updF f k x) := by
  refine ⟨fun j hj hne => ?_, fun i j hi hj hne he => ?_⟩
  · by_cases e : j = k
    · subst e; rw [updF_self]; exact hx
    · rw [updF_ne e] at hne ⊢; exact h.1 j hj hne
  · by_cases ei : i = k
    · by_cases ej : j = k
      · rw [ei, ej]
      · rw [ei, updF_self, updF_ne ej] at he
        exact absurd he.symm (hf j hj)
    · by_cases ej : j = k
      · rw [ej, updF_self, updF_ne ei] at he
        exact absurd he (hf i hi)
      · rw [updF_ne ei] at hne he
        rw [updF_ne ej] at he
        exact h.2 i j hi hj hne he
theorem VF.drop {u : List (List Int)} {n k : Nat} {f : Nat → Int} (h : VF u n f) : VF u n (updF f k (-1)) := by
  refine ⟨fun j hj hne => ?_, fun i j hi hj hne he => ?_⟩
  · by_cases e : j = k
    · subst e; rw [updF_self] at hne; exact absurd rfl hne
    · rw [updF_ne e] at hne ⊢; exact h.1 j hj hne
  · by_cases ei : i = k
    · rw [ei, updF_self] at hne; exact absurd rfl hne
    · rw [updF_ne ei] at hne he
      by_cases ej : j = k
      · rw [ej, updF_self] at he; exact absurd he hne
      · rw [updF_ne ej] at he
        exact h.2 i j hi hj hne he
/-- A walk from a box without a plug to one that could use a free plug: one more box can have a plug. -/
theorem augment {u : List (List Int)} {n : Nat} (hpos : ∀ k, k < n → ∀ q, q ∈ useA u k → q ≠ -1) : ∀ (m : Nat) (f : Nat → Int) (b : Nat → Nat) (q : Int), VF u n f → (∀ i, i ≤ m → b i < n) → f (b 0) = -1 → (∀ i, i < m → f (b (i + 1)) ≠ -1 ∧ f (b (i + 1)) ∈ useA u (b i)) → q ∈ useA u (b m) → (∀ j, j < n → f j ≠ q) → ∃ g, VF u n g ∧ cntF g n = cntF f n + 1 := by
  intro m
  induction m using Nat.strongRecOn with
  | ind m ih =>
    intro f b q hv hb h0 hst hq hfree
    have hq1 : q ≠ -1 := hpos (b m) (hb m (Nat.le_refl _)) q hq
    cases m with
    | zero => exact ⟨updF f (b 0) q, hv.upd hq hfree, by rw [cntF_upd hq1 n (hb 0 (Nat.le_refl _)), if_pos h0]⟩
    | succ m =>
      by_cases hrep : ∃ i, i ≤ m ∧ b i = b (m + 1)
      · obtain ⟨i, hi, he⟩ := hrep
        exact ih i (by omega) f b q hv (fun j hj => hb j (by omega)) h0 (fun j hj => hst j (by omega)) (by rw [he]; exact hq) hfree
      · have hne : ∀ i, i ≤ m → b i ≠ b (m + 1) := fun i hi he => hrep ⟨i, hi, he⟩
        obtain ⟨s1, s2⟩ := hst m (by omega)
        have hbm := hb (m + 1) (Nat.le_refl _)
        obtain ⟨g, g1, g2⟩ := ih m (by omega) (updF f (b (m + 1)) q) b (f (b (m + 1))) (hv.upd hq hfree) (fun j hj => hb j (by omega)) (by rw [updF_ne (hne 0 (by omega))]; exact h0)
          (fun j hj => by rw [updF_ne (hne (j + 1) (by omega))]; exact hst j (by omega)) s2 (fun j hj => by
            by_cases e : j = b (m + 1)
            · rw [e, updF_self]; exact fun h => hfree _ hbm h.symm
            · rw [updF_ne e]; exact fun h => e (hv.2 _ _ hj hbm (by rw [h]; exact s1) h))
        exact ⟨g, g1, by rw [g2, cntF_upd hq1 n hbm, if_neg s1]⟩
/-- What is reached from the boxes without a plug. -/
def RchF (u : List (List Int)) (n : Nat) (f : Nat → Int) (k : Nat) : Prop := ∃ (m : Nat) (b : Nat → Nat), (∀ i, i ≤ m → b i < n) ∧ f (b 0) = -1 ∧ (∀ i, i < m → f (b (i + 1)) ≠ -1 ∧ f (b (i + 1)) ∈ useA u (b i)) ∧ b m = k
theorem RchF.start {u : List (List Int)} {n k : Nat} {f : Nat → Int} (hk : k < n) (h : f k = -1) : RchF u n f k := ⟨0, fun _ => k, fun _ _ => hk, h, fun i hi => by omega, rfl⟩
theorem RchF.next {u : List (List Int)} {n k j : Nat} {f : Nat → Int} (h : RchF u n f k) (hj : j < n) (h1 : f j ≠ -1) (h2 : f j ∈ useA u k) : RchF u n f j := by
  obtain ⟨m, b, b1, b2, b3, b4⟩ := h
  refine ⟨m + 1, fun i => if i ≤ m then b i else j, fun i hi => ?_, ?_, fun i hi => ?_, ?_⟩
  · by_cases e : i ≤ m
    · simp only [if_pos e]; exact b1 i e
    · simp only [if_neg e]; exact hj
  · simp only [if_pos (Nat.zero_le m)]; exact b2
  · by_cases e : i + 1 ≤ m
    · simp only [if_pos e, if_pos (show i ≤ m by omega)]; exact b3 i (by omega)
    · have : i = m := by omega
      subst this
      simp only [if_neg e, if_pos (Nat.le_refl i)]
      exact ⟨h1, by rw [b4]; exact h2⟩
  · simp only [if_neg (show ¬ m + 1 ≤ m by omega)]
theorem RchF.lt {u : List (List Int)} {n k : Nat} {f : Nat → Int} (h : RchF u n f k) : k < n := by
  obtain ⟨m, b, b1, _, _, b4⟩ := h
  rw [← b4]; exact b1 m (Nat.le_refl _)
/-- With as many plugged in as possible, each plug that what is reached can use is had by what is reached. -/
theorem reach_full {u : List (List Int)} {n k : Nat} {f : Nat → Int} {q : Int} (hpos : ∀ k, k < n → ∀ q, q ∈ useA u k → q ≠ -1) (hv : VF u n f) (hmax : ∀ g, VF u n g → cntF g n ≤ cntF f n) (hr : RchF u n f k) (hq : q ∈ useA u k) : ∃ j, j < n ∧ f j = q ∧ RchF u n f j := by
  by_cases hfree : ∀ j, j < n → f j ≠ q
  · obtain ⟨m, b, b1, b2, b3, b4⟩ := hr
    obtain ⟨g, g1, g2⟩ := augment hpos m f b q hv b1 b2 b3 (by rw [b4]; exact hq) hfree
    have := hmax g g1
    omega
  · obtain ⟨j, hj⟩ := Classical.not_forall.1 hfree
    obtain ⟨h1, h2⟩ := Classical.not_imp.1 hj
    have h3 : f j = q := Classical.not_not.1 h2
    exact ⟨j, h1, h3, hr.next h1 (by rw [h3]; exact hpos k hr.lt q hq) (by rw [h3]; exact hq)⟩
/-- A set of boxes by its bits. -/
theorem bits_of (P : Nat → Bool) : ∀ n, ∃ s, s < 2 ^ n ∧ ∀ k, k < n → s.testBit k = P k
  | 0 => ⟨0, by simp, fun k hk => by omega⟩
  | n + 1 => by
    obtain ⟨s, h1, h2⟩ := bits_of P n
    have hn : s.testBit n = false := Nat.testBit_lt_two_pow h1
    cases hP : P n
    · refine ⟨s, by rw [Nat.pow_succ]; omega, fun k hk => ?_⟩
      by_cases e : k = n
      · subst e; rw [hn, hP]
      · exact h2 k (by omega)
    · refine ⟨s + 2 ^ n, by rw [Nat.pow_succ]; omega, fun k hk => ?_⟩
      rw [bit_add hn]
      by_cases e : k = n
      · subst e; rw [decide_eq_true rfl, hP]; rfl
      · rw [decide_eq_false e, Bool.false_or]; exact h2 k (by omega)
/-- The boxes of a set, and the plugs that at least one of them can use. -/
def someS (s n : Nat) : List Int := ((List.range n).filter fun k => s.testBit k).map Int.ofNat
def plugN (u : List (List Int)) (some : List Int) : List Int := ((List.range 6).map Int.ofNat).filter fun q => some.any fun k => decide (q ∈ useA u k.toNat)
theorem plugN_mem {u : List (List Int)} {some : List Int} {q : Int} : q ∈ plugN u some ↔ (0 ≤ q ∧ q < 6) ∧ ∃ k, k ∈ some ∧ q ∈ useA u k.toNat := by
  unfold plugN
  rw [List.mem_filter, List.any_eq_true]
  constructor
  · rintro ⟨h1, k, h2, h3⟩
    obtain ⟨a, ha, rfl⟩ := List.mem_map.1 h1
    have := List.mem_range.1 ha
    exact ⟨⟨by simp, by simp; omega⟩, k, h2, of_decide_eq_true h3⟩
  · rintro ⟨⟨h1, h2⟩, k, h3, h4⟩
    exact ⟨List.mem_map.2 ⟨q.toNat, List.mem_range.2 (by omega), by simp; omega⟩, k, h3, decide_eq_true h4⟩
theorem plugN_nodup (u : List (List Int)) (some : List Int) : (plugN u some).Nodup := by
  refine List.Nodup.sublist List.filter_sublist ?_
  rw [List.nodup_iff_pairwise_ne, List.pairwise_map]
  exact List.Pairwise.imp (fun hab he => hab (Int.ofNat.inj he)) (List.nodup_iff_pairwise_ne.1 (List.nodup_range (n := 6)))
theorem someS_mem {s n : Nat} {x : Int} : x ∈ someS s n ↔ ∃ k, k < n ∧ s.testBit k = true ∧ x = (k : Int) := by
  unfold someS
  rw [List.mem_map]
  constructor
  · rintro ⟨k, hk, rfl⟩
    obtain ⟨h1, h2⟩ := List.mem_filter.1 hk
    exact ⟨k, List.mem_range.1 h1, h2, rfl⟩
  · rintro ⟨k, h1, h2, rfl⟩
    exact ⟨k, List.mem_filter.2 ⟨List.mem_range.2 h1, h2⟩, rfl⟩
theorem filt_split (p : Nat → Bool) (f : Nat → Int) : ∀ n, cntF f n + ((List.range n).filter fun k => p k && decide (f k = -1)).length + ((List.range n).filter fun k => !p k && decide (f k = -1)).length = n
  | 0 => rfl
  | n + 1 => by
    have ih := filt_split p f n
    rw [cntF, List.range_succ, List.filter_append, List.filter_append, List.length_append, List.length_append]
    by_cases hf : f n = -1
    · cases hp : p n <;> simp [hf, hp] <;> omega
    · cases hp : p n <;> simp [hf, hp] <;> omega
theorem filt_part (p q : Nat → Bool) : ∀ n, ((List.range n).filter p).length = ((List.range n).filter fun k => p k && q k).length + ((List.range n).filter fun k => p k && !q k).length
  | 0 => rfl
  | n + 1 => by
    have ih := filt_part p q n
    rw [List.range_succ, List.filter_append, List.filter_append, List.filter_append, List.length_append, List.length_append, List.length_append, ih]
    cases hp : p n <;> cases hq : q n <;> simp [hp, hq] <;> omega
theorem filt_sum (p : Nat → Bool) : ∀ n, ((List.range n).filter p).length + ((List.range n).filter fun k => !p k).length = n
  | 0 => rfl
  | n + 1 => by
    have ih := filt_sum p n
    rw [List.range_succ, List.filter_append, List.filter_append, List.length_append, List.length_append]
    cases hp : p n <;> simp [hp] <;> omega
theorem cntF_filt (f : Nat → Int) : ∀ n, cntF f n = ((List.range n).filter fun k => !decide (f k = -1)).length
  | 0 => rfl
  | n + 1 => by
    rw [cntF, cntF_filt f n, List.range_succ, List.filter_append, List.length_append]
    by_cases hf : f n = -1 <;> simp [hf]
theorem filt_le {p q : Nat → Bool} (h : ∀ k, p k = true → q k = true) : ∀ n, ((List.range n).filter p).length ≤ ((List.range n).filter q).length
  | 0 => Nat.le_refl _
  | n + 1 => by
    have ih := filt_le h n
    rw [List.range_succ, List.filter_append, List.filter_append, List.length_append, List.length_append]
    cases hp : p n
    · simp [hp]; omega
    · simp [hp, h n hp]; omega
theorem map_nodup {f : Nat → Int} {l : List Nat} (hl : l.Nodup) (h : ∀ i j, i ∈ l → j ∈ l → f i = f j → i = j) : (l.map f).Nodup := by
  induction l with
  | nil => simp
  | cons a l ih =>
    rw [List.nodup_cons] at hl
    rw [List.map_cons, List.nodup_cons]
    refine ⟨fun hm => ?_, ih hl.2 fun i j hi hj => h i j (List.mem_cons_of_mem _ hi) (List.mem_cons_of_mem _ hj)⟩
    obtain ⟨b, hb, he⟩ := List.mem_map.1 hm
    have := h b a (List.mem_cons_of_mem _ hb) (List.mem_cons_self ..) he
    subst this
    exact hl.1 hb
section
variable {u : List (List Int)} {n : Nat} {f : Nat → Int} (hu : ∀ k, k < n → ∀ q, q ∈ useA u k → 0 ≤ q ∧ q < 6) (hv : VF u n f)
include hu hv
/-- For every set of boxes at most all but as many are plugged in as they are more than the plugs that they can use. -/
theorem plug_most (s : Nat) : cntF f n + (someS s n).length ≤ n + (plugN u (someS s n)).length := by
  have h1 := filt_part (fun k => s.testBit k) (fun k => !decide (f k = -1)) n
  have h2 : (((List.range n).filter fun k => s.testBit k && !decide (f k = -1)).map f).length ≤ (plugN u (someS s n)).length := by
    refine List.Nodup.length_le_of_subset (map_nodup (List.Nodup.sublist List.filter_sublist List.nodup_range) fun i j hi hj he => ?_) fun q hq => ?_
    · obtain ⟨i1, i2⟩ := List.mem_filter.1 hi
      obtain ⟨j1, j2⟩ := List.mem_filter.1 hj
      rw [Bool.and_eq_true] at i2
      exact hv.2 i j (List.mem_range.1 i1) (List.mem_range.1 j1) (by simpa using i2.2) he
    · obtain ⟨k, hk, rfl⟩ := List.mem_map.1 hq
      obtain ⟨k1, k2⟩ := List.mem_filter.1 hk
      rw [Bool.and_eq_true] at k2
      have hkn := List.mem_range.1 k1
      have hm := hv.1 k hkn (by simpa using k2.2)
      exact plugN_mem.2 ⟨hu k hkn _ hm, (k : Int), someS_mem.2 ⟨k, hkn, k2.1, rfl⟩, by rw [Int.toNat_natCast]; exact hm⟩
  rw [List.length_map] at h2
  have h3 : (someS s n).length = ((List.range n).filter fun k => s.testBit k).length := by unfold someS; rw [List.length_map]
  have h4 := filt_sum (fun k => !decide (f k = -1)) n
  have h5 : ((List.range n).filter fun k => s.testBit k && !(!decide (f k = -1))).length ≤ ((List.range n).filter fun k => !(!decide (f k = -1))).length := filt_le (fun k hk => by
    rw [Bool.and_eq_true] at hk; exact hk.2) n
  rw [cntF_filt]
  omega
/-- And for one set it is exactly so many. -/
theorem plug_exact (hmax : ∀ g, VF u n g → cntF g n ≤ cntF f n) : ∃ s, s < 2 ^ n ∧ cntF f n + (someS s n).length = n + (plugN u (someS s n)).length := by
  obtain ⟨s, s1, s2⟩ := bits_of (fun k => @decide (RchF u n f k) (Classical.propDecidable _)) n
  refine ⟨s, s1, Nat.le_antisymm (plug_most hu hv s) ?_⟩
  have hR : ∀ k, k < n → (s.testBit k = true ↔ RchF u n f k) := fun k hk => by
    rw [s2 k hk]
    exact @decide_eq_true_iff _ (Classical.propDecidable _)
  have hpos : ∀ k, k < n → ∀ q, q ∈ useA u k → q ≠ -1 := fun k hk q hq e => by have := hu k hk q hq; omega
  have h1 := filt_part (fun k => s.testBit k) (fun k => !decide (f k = -1)) n
  have h2 : (plugN u (someS s n)).length ≤ (((List.range n).filter fun k => s.testBit k && !decide (f k = -1)).map f).length := by
    refine List.Nodup.length_le_of_subset (plugN_nodup u _) fun q hq => ?_
    obtain ⟨_, x, hx, hm⟩ := plugN_mem.1 hq
    obtain ⟨k, k1, k2, rfl⟩ := someS_mem.1 hx
    rw [Int.toNat_natCast] at hm
    obtain ⟨j, j1, j2, j3⟩ := reach_full hpos hv hmax ((hR k k1).1 k2) hm
    refine List.mem_map.2 ⟨j, List.mem_filter.2 ⟨List.mem_range.2 j1, ?_⟩, j2⟩
    rw [Bool.and_eq_true]
    exact ⟨(hR j j1).2 j3, by rw [j2]; simpa using hpos k k1 q hm⟩
  rw [List.length_map] at h2
  have h3 : (someS s n).length = ((List.range n).filter fun k => s.testBit k).length := by unfold someS; rw [List.length_map]
  have h4 := filt_sum (fun k => !decide (f k = -1)) n
  have h5 : ((List.range n).filter fun k => !(!decide (f k = -1))).length ≤ ((List.range n).filter fun k => s.testBit k && !(!decide (f k = -1))).length := by
    have h6 : ((List.range n).filter fun k => !(!decide (f k = -1))) = ((List.range n).filter fun k => s.testBit k && !(!decide (f k = -1))) := by
      refine List.filter_congr fun k hk => ?_
      have hkn := List.mem_range.1 hk
      by_cases hf : f k = -1
      · rw [(hR k hkn).2 (RchF.start hkn hf)]; rfl
      · simp [hf]
    rw [h6]
    exact Nat.le_refl _
  rw [cntF_filt]
  omega
end
end Go.Proofs.Ythlcjojhmhoadaa
namespace Go.Proofs.Ythlcjojhmhoadaa
set_option linter.unusedVariables false

/-- How many plugs are used. -/
def manyP (ps : List Int) : Nat := (ps.filter fun x => decide (0 ≤ x)).length
theorem manyP_app (a b : List Int) : manyP (a ++ b) = manyP a + manyP b := by unfold manyP; rw [List.filter_append, List.length_append]
theorem manyP_cons (x : Int) (a : List Int) : manyP (x :: a) = (if 0 ≤ x then 1 else 0) + manyP a := by
  have := manyP_app [x] a
  rw [List.singleton_append] at this
  rw [this]
  congr 1
  unfold manyP
  by_cases h : 0 ≤ x <;> simp [h]
/-- The order of lists of plugs: the lesser plug at the first difference; none is the greatest. -/
def keyP (x : Int) : Int := if x = -1 then 99 else x
def lexLt : List Int → List Int → Prop
  | x :: a, y :: b => keyP x < keyP y ∨ (x = y ∧ lexLt a b)
  | _, _ => False
def lexLe (a b : List Int) : Prop := a = b ∨ lexLt a b
theorem lexLt_asymm : ∀ {a b : List Int}, lexLt a b → lexLt b a → False
  | [], _, h, _ => by cases h
  | _ :: _, [], h, _ => by cases h
  | x :: a, y :: b, h, h' => by
    rcases h with h | ⟨rfl, h⟩
    · rcases h' with h' | ⟨rfl, _⟩ <;> omega
    · rcases h' with h' | ⟨_, h'⟩
      · omega
      · exact lexLt_asymm h h'
/-- What can stand behind the plugs of the first boxes. -/
def okR : List (List Int) → List Int → List Int → Prop
  | [], _, [] => True
  | us :: rest, ps, x :: s => (x = -1 ∨ (x ∈ us ∧ x ∉ ps)) ∧ okR rest (ps ++ [x]) s
  | _, _, _ => False
/-- The first of the lists with most plugs. -/
def pickA (best : List Int) : List (List Int) → List Int
  | [] => best
  | x :: l => pickA (if best = [] ∨ manyP best < manyP x then x else best) l
def pickP (l : List (List Int)) : List Int := pickA [] l
theorem pickA_app (best : List Int) : ∀ (l : List (List Int)) (x : List Int), pickA best (l ++ [x]) = if pickA best l = [] ∨ manyP (pickA best l) < manyP x then x else pickA best l := by
  intro l
  induction l generalizing best with
  | nil => intro x; rfl
  | cons y l ih => intro x; exact ih _ x
theorem pickA_law : ∀ (l : List (List Int)) (best : List Int), best ≠ [] → (∀ x, x ∈ l → x ≠ []) →
    (pickA best l = best ∧ ∀ j (hj : j < l.length), manyP l[j] ≤ manyP best) ∨ ∃ i, ∃ hi : i < l.length, pickA best l = l[i] ∧ manyP best < manyP l[i] ∧ ∀ j (hj : j < l.length), manyP l[j] ≤ manyP l[i] ∧ (j < i → manyP l[j] < manyP l[i])
  | [], best, _, _ => .inl ⟨rfl, fun j hj => by simp at hj⟩
  | x :: l, best, hb, hl => by
    have hx := hl x (List.mem_cons_self ..)
    have hl' : ∀ y, y ∈ l → y ≠ [] := fun y hy => hl y (List.mem_cons_of_mem _ hy)
    unfold pickA
    by_cases hc : manyP best < manyP x
    · rw [if_pos (.inr hc)]
      rcases pickA_law l x hx hl' with ⟨h1, h2⟩ | ⟨i, hi, h1, h2, h3⟩
      · refine .inr ⟨0, by simp, h1, hc, fun j hj => ⟨?_, fun h => by omega⟩⟩
        cases j with
        | zero => exact Nat.le_refl _
        | succ j => exact h2 j (by simpa using hj)
      · refine .inr ⟨i + 1, by simpa using hi, h1, Nat.lt_trans hc h2, fun j hj => ?_⟩
        cases j with
        | zero => exact ⟨Nat.le_of_lt h2, fun _ => h2⟩
        | succ j => exact ⟨(h3 j (by simpa using hj)).1, fun h => (h3 j (by simpa using hj)).2 (by omega)⟩
    · rw [if_neg (fun h => h.elim hb hc)]
      rcases pickA_law l best hb hl' with ⟨h1, h2⟩ | ⟨i, hi, h1, h2, h3⟩
      · refine .inl ⟨h1, fun j hj => ?_⟩
        cases j with
        | zero => exact Nat.le_of_not_lt hc
        | succ j => exact h2 j (by simpa using hj)
      · refine .inr ⟨i + 1, by simpa using hi, h1, h2, fun j hj => ?_⟩
        cases j with
        | zero =>
          have : manyP ((x :: l)[0]) < manyP l[i] := Nat.lt_of_le_of_lt (Nat.le_of_not_lt hc) h2
          exact ⟨Nat.le_of_lt this, fun _ => this⟩
        | succ j => exact ⟨(h3 j (by simpa using hj)).1, fun h => (h3 j (by simpa using hj)).2 (by omega)⟩
theorem pickP_law {l : List (List Int)} (hl : ∀ x, x ∈ l → x ≠ []) (hn : l ≠ []) : ∃ i, ∃ hi : i < l.length, pickP l = l[i] ∧ ∀ j (hj : j < l.length), manyP l[j] ≤ manyP l[i] ∧ (j < i → manyP l[j] < manyP l[i]) := by
  cases l with
  | nil => exact absurd rfl hn
  | cons x l =>
    unfold pickP pickA
    rw [if_pos (.inl rfl)]
    rcases pickA_law l x (hl x (List.mem_cons_self ..)) (fun y hy => hl y (List.mem_cons_of_mem _ hy)) with ⟨h1, h2⟩ | ⟨i, hi, h1, h2, h3⟩
    · refine ⟨0, by simp, h1, fun j hj => ⟨?_, fun h => by omega⟩⟩
      cases j with
      | zero => exact Nat.le_refl _
      | succ j => exact h2 j (by simpa using hj)
    · refine ⟨i + 1, by simpa using hi, h1, fun j hj => ?_⟩
      cases j with
      | zero => exact ⟨Nat.le_of_lt h2, fun _ => h2⟩
      | succ j => exact ⟨(h3 j (by simpa using hj)).1, fun h => (h3 j (by simpa using hj)).2 (by omega)⟩
/-- What a box can have behind the plugs of the first ones, and the best of all behind them. -/
def candP (us ps : List Int) : List Int := (us.filter fun x => !decide (x ∈ ps)) ++ [-1]
def bestS : List (List Int) → List Int → List Int
  | [], _ => []
  | us :: rest, ps => pickP ((candP us ps).map fun x => x :: bestS rest (ps ++ [x]))
theorem candP_mem {us ps : List Int} {x : Int} : x ∈ candP us ps ↔ x = -1 ∨ (x ∈ us ∧ x ∉ ps) := by
  unfold candP
  rw [List.mem_append, List.mem_filter, List.mem_singleton]
  constructor
  · rintro (⟨h1, h2⟩ | h)
    · exact .inr ⟨h1, by simpa using h2⟩
    · exact .inl h
  · rintro (h | ⟨h1, h2⟩)
    · exact .inr h
    · exact .inl ⟨h1, by simpa using h2⟩
def usOk (us : List Int) : Prop := us.Pairwise (· < ·) ∧ ∀ x, x ∈ us → 0 ≤ x ∧ x < 6
theorem candP_asc {us : List Int} (ps : List Int) (h : usOk us) : ((candP us ps).map keyP).Pairwise (· < ·) := by
  unfold candP
  rw [List.map_append, List.pairwise_append]
  have hk : ∀ x, x ∈ us → keyP x = x := fun x hx => by have := h.2 x hx; unfold keyP; rw [if_neg (by omega)]
  refine ⟨?_, by simp, fun a ha b hb => ?_⟩
  · rw [List.pairwise_map]
    have hp : (us.filter fun x => !decide (x ∈ ps)).Pairwise (· < ·) := h.1.filter _
    refine List.Pairwise.imp_of_mem (fun {a b} ha hb hab => ?_) hp
    rw [hk a (List.mem_filter.1 ha).1, hk b (List.mem_filter.1 hb).1]
    exact hab
  · obtain ⟨x, hx, rfl⟩ := List.mem_map.1 ha
    rw [List.map_cons, List.map_nil, List.mem_singleton] at hb
    subst hb
    have h1 := hk x (List.mem_filter.1 hx).1
    have h2 := h.2 x (List.mem_filter.1 hx).1
    rw [h1]
    unfold keyP
    rw [if_pos rfl]
    omega
theorem bestS_law : ∀ (rest : List (List Int)) (ps : List Int), (∀ us, us ∈ rest → usOk us) → okR rest ps (bestS rest ps) ∧ ∀ s, okR rest ps s → manyP s ≤ manyP (bestS rest ps) ∧ (manyP s = manyP (bestS rest ps) → lexLe (bestS rest ps) s)
  | [], ps, _ => ⟨trivial, fun s hs => by
    cases s with
    | nil => exact ⟨Nat.le_refl _, fun _ => .inl rfl⟩
    | cons x s => cases hs⟩
  | us :: rest, ps, hu => by
    have hu' : ∀ vs, vs ∈ rest → usOk vs := fun vs hv => hu vs (List.mem_cons_of_mem _ hv)
    have hne : ∀ x, x ∈ ((candP us ps).map fun x => x :: bestS rest (ps ++ [x])) → x ≠ [] := fun x hx => by
      obtain ⟨y, _, rfl⟩ := List.mem_map.1 hx
      simp
    have hnil : ((candP us ps).map fun x => x :: bestS rest (ps ++ [x])) ≠ [] := by simp [candP]
    obtain ⟨i, hi, h1, h2⟩ := pickP_law hne hnil
    have hic : i < (candP us ps).length := by simpa using hi
    rw [List.getElem_map] at h1 h2
    have hci : (candP us ps)[i] ∈ candP us ps := List.getElem_mem hic
    have e : bestS (us :: rest) ps = (candP us ps)[i] :: bestS rest (ps ++ [(candP us ps)[i]]) := h1
    rw [e]
    obtain ⟨g1, g2⟩ := bestS_law rest (ps ++ [(candP us ps)[i]]) hu'
    refine ⟨⟨candP_mem.1 hci, g1⟩, fun s hs => ?_⟩
    cases s with
    | nil => cases hs
    | cons x t =>
      obtain ⟨hx, ht⟩ := hs
      obtain ⟨j, hj, hjx⟩ := List.getElem_of_mem (candP_mem.2 hx)
      have h2j := h2 j (by simpa using hj)
      rw [List.getElem_map, hjx] at h2j
      obtain ⟨k1, k2⟩ := (bestS_law rest (ps ++ [x]) hu').2 t ht
      have hle : manyP (x :: t) ≤ manyP (x :: bestS rest (ps ++ [x])) := by rw [manyP_cons, manyP_cons]; omega
      refine ⟨Nat.le_trans hle h2j.1, fun he => ?_⟩
      have hji : ¬ j < i := fun hlt => by
        have := h2j.2 hlt
        omega
      by_cases hij : i = j
      · subst hij
        rw [hjx] at he ⊢
        rw [manyP_cons, manyP_cons] at he
        rcases k2 (by omega) with h | h
        · exact .inl (by rw [h])
        · exact .inr (.inr ⟨rfl, h⟩)
      · refine .inr (.inl ?_)
        have := List.pairwise_iff_getElem.1 (candP_asc ps (hu us (List.mem_cons_self ..))) i j (by simpa using hic) (by simpa using hj) (by omega)
        rw [List.getElem_map, List.getElem_map, hjx] at this
        exact this
/-- There is one best list only. -/
theorem best_uniq {rest : List (List Int)} {ps r : List Int} (hu : ∀ us, us ∈ rest → usOk us) (h1 : okR rest ps r) (h2 : ∀ s, okR rest ps s → manyP s ≤ manyP r ∧ (manyP s = manyP r → lexLe r s)) : r = bestS rest ps := by
  obtain ⟨g1, g2⟩ := bestS_law rest ps hu
  obtain ⟨a1, a2⟩ := g2 r h1
  obtain ⟨b1, b2⟩ := h2 _ g1
  have he : manyP r = manyP (bestS rest ps) := Nat.le_antisymm a1 b1
  rcases a2 he with h | h
  · exact h.symm
  · rcases b2 he.symm with h' | h'
    · exact h'
    · exact (lexLt_asymm h h').elim
/-- Told by the places. -/
theorem okR_iff : ∀ {rest : List (List Int)} {ps s : List Int}, okR rest ps s ↔ s.length = rest.length ∧ ∀ k, k < s.length → s.getD k 0 = -1 ∨ (s.getD k 0 ∈ useA rest k ∧ s.getD k 0 ∉ ps ++ s.take k)
  | [], ps, [] => ⟨fun _ => ⟨rfl, fun k hk => by simp at hk⟩, fun _ => trivial⟩
  | [], ps, x :: s => ⟨fun h => (by cases h), fun h => (by have := h.1; simp at this)⟩
  | us :: rest, ps, [] => ⟨fun h => (by cases h), fun h => (by have := h.1; simp at this)⟩
  | us :: rest, ps, x :: s => by
    constructor
    · rintro ⟨h1, h2⟩
      obtain ⟨g1, g2⟩ := okR_iff.1 h2
      refine ⟨by rw [List.length_cons, List.length_cons, g1], fun k hk => ?_⟩
      cases k with
      | zero => simpa [useA] using h1
      | succ k =>
        have := g2 k (by simpa using hk)
        simpa [useA] using this
    · rintro ⟨h1, h2⟩
      refine ⟨by simpa [useA] using h2 0 (by simp), okR_iff.2 ⟨by simpa using h1, fun k hk => ?_⟩⟩
      have := h2 (k + 1) (by simpa using hk)
      simpa [useA] using this
/-- The functions' answers. -/
def usesOk (u : List (List Int)) : Bool := decide (u.length ≤ 6 ∧ ∀ k, k < u.length → ∀ j, j < (useA u k).length → (0 ≤ (useA u k).getD j 0 ∧ (useA u k).getD j 0 ≤ 5) ∧ (0 < j → (useA u k).getD (j - 1) 0 < (useA u k).getD j 0))
theorem usesOk_iff {u : List (List Int)} : usesOk u = true ↔ u.length ≤ 6 ∧ ∀ k, k < u.length → ∀ j, j < (useA u k).length → (0 ≤ (useA u k).getD j 0 ∧ (useA u k).getD j 0 ≤ 5) ∧ (0 < j → (useA u k).getD (j - 1) 0 < (useA u k).getD j 0) := decide_eq_true_iff
theorem asc_pair {l : List Int} (h : ∀ j, j < l.length → 0 < j → l.getD (j - 1) 0 < l.getD j 0) : l.Pairwise (· < ·) := by
  refine List.pairwise_iff_getElem.2 fun i j hi hj hij => ?_
  have hs : ∀ d (hd : i + (d + 1) < l.length), l[i] < l[i + (d + 1)] := by
    intro d
    induction d with
    | zero =>
      intro hd
      have := h (i + 1) hd (by omega)
      rw [Nat.add_sub_cancel, List.getD_eq_getElem?_getD, List.getD_eq_getElem?_getD, List.getElem?_eq_getElem hi, List.getElem?_eq_getElem hd] at this
      simpa using this
    | succ d ih =>
      intro hd
      have h1 := ih (by omega)
      have h2 := h (i + (d + 1) + 1) (by omega) (by omega)
      rw [Nat.add_sub_cancel, List.getD_eq_getElem?_getD, List.getD_eq_getElem?_getD, List.getElem?_eq_getElem (by omega), List.getElem?_eq_getElem (by omega)] at h2
      simp only [Option.getD_some] at h2
      exact Int.lt_trans h1 h2
  have := hs (j - i - 1) (by omega)
  have e : i + (j - i - 1 + 1) = j := by omega
  simp only [e] at this
  exact this
theorem usesOk_us {u : List (List Int)} (h : usesOk u = true) : ∀ k, k < u.length → usOk (useA u k) := fun k hk => by
  have h2 := (usesOk_iff.1 h).2 k hk
  refine ⟨asc_pair fun j hj h0 => (h2 j hj).2 h0, fun x hx => ?_⟩
  obtain ⟨j, hj, rfl⟩ := List.getElem_of_mem hx
  have := (h2 j hj).1
  rw [List.getD_eq_getElem?_getD, List.getElem?_eq_getElem hj, Option.getD_some] at this
  omega
theorem usesOk_mem {u : List (List Int)} (h : usesOk u = true) : ∀ us, us ∈ u → usOk us := fun us hm => by
  obtain ⟨k, hk, rfl⟩ := List.getElem_of_mem hm
  have := usesOk_us h k hk
  unfold useA at this
  rwa [List.getD_eq_getElem?_getD, List.getElem?_eq_getElem hk, Option.getD_some] at this
def plugsOk (u : List (List Int)) (ps : List Int) : Bool := decide (usesOk u = true ∧ ps.length = u.length ∧ ∀ k, k < ps.length → ps.getD k 0 ≠ -1 → ps.getD k 0 ∈ useA u k ∧ ps.getD k 0 ∉ ps.take k)
theorem plugsOk_iff {u : List (List Int)} {ps : List Int} : plugsOk u ps = true ↔ usesOk u = true ∧ ps.length = u.length ∧ ∀ k, k < ps.length → ps.getD k 0 ≠ -1 → ps.getD k 0 ∈ useA u k ∧ ps.getD k 0 ∉ ps.take k := decide_eq_true_iff
theorem plugsOk_okR {u : List (List Int)} {ps : List Int} : plugsOk u ps = true ↔ usesOk u = true ∧ okR u [] ps := by
  rw [plugsOk_iff, okR_iff]
  constructor
  · rintro ⟨h1, h2, h3⟩
    refine ⟨h1, h2, fun k hk => ?_⟩
    by_cases he : ps.getD k 0 = -1
    · exact .inl he
    · rw [List.nil_append]; exact .inr (h3 k hk he)
  · rintro ⟨h1, h2, h3⟩
    refine ⟨h1, h2, fun k hk hne => ?_⟩
    rcases h3 k hk with h | h
    · exact absurd h hne
    · rw [List.nil_append] at h; exact h
def plugI (u : List (List Int)) : List Int := if usesOk u = true then bestS u [] else []
def plugM (u : List (List Int)) : Int := if usesOk u = true then (manyP (plugI u) : Nat) else -1
def plugO (u : List (List Int)) (some : List Int) : List Int := if usesOk u = true ∧ ∀ k, k < some.length → 0 ≤ some.getD k 0 ∧ some.getD k 0 < (u.length : Int) then plugN u some else []
/-- As functions of the boxes. -/
theorem getD_ps {ps : List Int} {k : Nat} (h : k < ps.length) : ps.getD k 0 = ps[k] := by rw [List.getD_eq_getElem?_getD, List.getElem?_eq_getElem h, Option.getD_some]
theorem mem_takeP {ps : List Int} {k : Nat} {x : Int} : x ∈ ps.take k ↔ ∃ j, j < k ∧ j < ps.length ∧ ps.getD j 0 = x := by
  constructor
  · intro h
    obtain ⟨j, hj, rfl⟩ := List.getElem_of_mem h
    rw [List.length_take] at hj
    exact ⟨j, by omega, by omega, by rw [getD_ps (by omega), List.getElem_take]⟩
  · rintro ⟨j, h1, h2, rfl⟩
    rw [getD_ps h2]
    have : (ps.take k)[j]'(by rw [List.length_take]; omega) = ps[j] := by rw [List.getElem_take]
    rw [← this]
    exact List.getElem_mem _
theorem plugsOk_VF {u : List (List Int)} {ps : List Int} (h : plugsOk u ps = true) : VF u u.length fun k => ps.getD k 0 := by
  obtain ⟨_, h2, h3⟩ := plugsOk_iff.1 h
  refine ⟨fun k hk hne => (h3 k (by omega) hne).1, fun j k hj hk hne he => ?_⟩
  have he : ps.getD j 0 = ps.getD k 0 := he
  have hne : ps.getD j 0 ≠ -1 := hne
  rcases Nat.lt_trichotomy j k with hlt | rfl | hlt
  · exact absurd (mem_takeP.2 ⟨j, hlt, by omega, he⟩) (h3 k (by omega) (by rw [← he]; exact hne)).2
  · rfl
  · exact absurd (mem_takeP.2 ⟨k, hlt, by omega, he.symm⟩) (h3 j (by omega) hne).2
theorem VF_plugsOk {u : List (List Int)} {ps : List Int} (hu : usesOk u = true) (hl : ps.length = u.length) (h : VF u u.length fun k => ps.getD k 0) : plugsOk u ps = true := by
  refine plugsOk_iff.2 ⟨hu, hl, fun k hk hne => ⟨h.1 k (by omega) hne, fun hm => ?_⟩⟩
  obtain ⟨j, h1, h2, h3⟩ := mem_takeP.1 hm
  have := h.2 j k (by omega) (by omega) (show ps.getD j 0 ≠ -1 by rw [h3]; exact hne) h3
  omega
theorem cntF_many : ∀ (ps : List Int), (∀ x, x ∈ ps → x = -1 ∨ 0 ≤ x) → cntF (fun k => ps.getD k 0) ps.length = manyP ps := by
  have h : ∀ (n : Nat) (ps : List Int), (∀ x, x ∈ ps → x = -1 ∨ 0 ≤ x) → n ≤ ps.length → cntF (fun k => ps.getD k 0) n = manyP (ps.take n) := by
    intro n
    induction n with
    | zero => intro ps _ _; rfl
    | succ n ih =>
      intro ps hp hn
      rw [cntF, ih ps hp (by omega), ← List.take_append_getElem (by omega), manyP_app, getD_ps (by omega)]
      congr 1
      rcases hp ps[n] (List.getElem_mem _) with h1 | h1
      · rw [if_pos h1, h1]; rfl
      · rw [if_neg (by omega)]; unfold manyP; simp [h1]
  intro ps hp
  rw [h ps.length ps hp (Nat.le_refl _), List.take_length]
theorem plugsOk_val {u : List (List Int)} {ps : List Int} (h : plugsOk u ps = true) : ∀ x, x ∈ ps → x = -1 ∨ (0 ≤ x ∧ x < 6) := fun x hx => by
  obtain ⟨h1, h2, h3⟩ := plugsOk_iff.1 h
  obtain ⟨k, hk, rfl⟩ := List.getElem_of_mem hx
  by_cases he : ps[k] = -1
  · exact .inl he
  · have := (h3 k hk (by rw [getD_ps hk]; exact he)).1
    rw [getD_ps hk] at this
    exact .inr ((usesOk_us h1 k (by omega)).2 _ this)
theorem plugsOk_cnt {u : List (List Int)} {ps : List Int} (h : plugsOk u ps = true) : cntF (fun k => ps.getD k 0) u.length = manyP ps := by
  rw [← (plugsOk_iff.1 h).2.1]
  exact cntF_many ps fun x hx => (plugsOk_val h x hx).imp id fun h => h.1
theorem plugI_ok {u : List (List Int)} (hu : usesOk u = true) : plugsOk u (plugI u) = true := by
  unfold plugI
  rw [if_pos hu]
  exact plugsOk_okR.2 ⟨hu, (bestS_law u [] (usesOk_mem hu)).1⟩
theorem plugI_most {u : List (List Int)} {ps : List Int} (h : plugsOk u ps = true) : manyP ps ≤ manyP (plugI u) := by
  obtain ⟨h1, h2⟩ := plugsOk_okR.1 h
  unfold plugI
  rw [if_pos h1]
  exact ((bestS_law u [] (usesOk_mem h1)).2 ps h2).1
theorem VF_most {u : List (List Int)} (hu : usesOk u = true) {g : Nat → Int} (h : VF u u.length g) : cntF g u.length ≤ cntF (fun k => (plugI u).getD k 0) u.length := by
  have hl : ((List.range u.length).map g).length = u.length := by simp
  have he : ∀ k, k < u.length → ((List.range u.length).map g).getD k 0 = g k := fun k hk => by
    rw [getD_ps (by rw [hl]; exact hk)]; simp
  have hv : VF u u.length fun k => ((List.range u.length).map g).getD k 0 := by
    refine ⟨fun k hk hne => ?_, fun j k hj hk hne hq => ?_⟩
    · simp only [he k hk] at hne ⊢; exact h.1 k hk hne
    · simp only [he j hj, he k hk] at hne hq; exact h.2 j k hj hk hne hq
  have hok := VF_plugsOk hu hl hv
  have h1 := plugI_most hok
  rw [← plugsOk_cnt hok, cntF_congr (g := g) u.length fun k hk => he k hk, ← plugsOk_cnt (plugI_ok hu)] at h1
  exact h1
/-- With any one plug pulled plugs are valid. -/
theorem plugsOk_pull {u : List (List Int)} {ps : List Int} {k : Nat} (h : plugsOk u ps = true) (hk : k < ps.length) : plugsOk u (ps.set k (-1)) = true := by
  have h2 := (plugsOk_iff.1 h).2.1
  have hv := plugsOk_VF h
  refine VF_plugsOk (plugsOk_iff.1 h).1 (by rw [List.length_set]; exact h2) ?_
  have e : (fun j => (ps.set k (-1)).getD j 0) = updF (fun j => ps.getD j 0) k (-1) := by
    funext j
    unfold updF
    by_cases hj : j = k
    · subst hj; rw [if_pos rfl, getD_ps (by rw [List.length_set]; exact hk), List.getElem_set_self]
    · rw [if_neg hj]
      show (ps.set k (-1)).getD j 0 = ps.getD j 0
      rw [List.getD_eq_getElem?_getD, List.getD_eq_getElem?_getD, List.getElem?_set_ne (by omega)]
  rw [e]
  exact hv.drop
/-- No box without a plug can use a plug that nobody has. -/
theorem plugI_full {u : List (List Int)} (hu : usesOk u = true) {k : Nat} {q : Int} (hk : k < u.length) (hn : (plugI u).getD k 0 = -1) (hq : q ∈ useA u k) : q ∈ plugI u := by
  have hok := plugI_ok hu
  have hlen := (plugsOk_iff.1 hok).2.1
  have hq0 := (usesOk_us hu k hk).2 q hq
  obtain ⟨j, h1, h2, _⟩ := reach_full (k := k) (q := q) (fun j hj x hx e => by have := (usesOk_us hu j hj).2 x hx; omega) (plugsOk_VF hok) (fun g hg => VF_most hu hg) (RchF.start hk hn) hq
  rw [← h2, getD_ps (by omega)]
  exact List.getElem_mem _
/-- Only too few plugs keep a box out. -/
theorem plugM_most {u : List (List Int)} (hu : usesOk u = true) (s : Nat) : plugM u + ((someS s u.length).length : Int) ≤ (u.length : Int) + ((plugN u (someS s u.length)).length : Int) := by
  have hok := plugI_ok hu
  have := plug_most (fun k hk q hq => (usesOk_us hu k hk).2 q hq) (plugsOk_VF hok) s
  rw [plugsOk_cnt hok] at this
  unfold plugM
  rw [if_pos hu]
  omega
theorem plugM_exact {u : List (List Int)} (hu : usesOk u = true) : ∃ s, s < 2 ^ u.length ∧ plugM u + ((someS s u.length).length : Int) = (u.length : Int) + ((plugN u (someS s u.length)).length : Int) := by
  have hok := plugI_ok hu
  obtain ⟨s, h1, h2⟩ := plug_exact (fun k hk q hq => (usesOk_us hu k hk).2 q hq) (plugsOk_VF hok) (fun g hg => VF_most hu hg)
  rw [plugsOk_cnt hok] at h2
  refine ⟨s, h1, ?_⟩
  unfold plugM
  rw [if_pos hu]
  omega
end Go.Proofs.Ythlcjojhmhoadaa
namespace Go.Proofs.Ythlcjojhmhoadaa
set_option linter.unusedVariables false

/-- How many boxes a box stands at. -/
theorem count_put {k : Int} : ∀ (l : List Int) (i : Nat) (a : Int), i < l.length → (l.set i a).count k + (if l.getD i 0 = k then 1 else 0) = l.count k + if a = k then 1 else 0
  | [], i, a, h => by simp at h
  | x :: l, 0, a, h => by
    rw [List.set_cons_zero, List.count_cons, List.count_cons]
    simp only [List.getD_cons_zero, beq_iff_eq]
    omega
  | x :: l, i + 1, a, h => by
    have := count_put (k := k) l i a (by simpa using h)
    rw [List.set_cons_succ, List.count_cons, List.count_cons, List.getD_cons_succ]
    omega
theorem many_put : ∀ (l : List Int) (i : Nat) (a : Int), i < l.length → manyP (l.set i a) + (if 0 ≤ l.getD i 0 then 1 else 0) = manyP l + if 0 ≤ a then 1 else 0
  | [], i, a, h => by simp at h
  | x :: l, 0, a, h => by
    rw [List.set_cons_zero, manyP_cons, manyP_cons]
    simp only [List.getD_cons_zero]
    omega
  | x :: l, i + 1, a, h => by
    have := many_put l i a (by simpa using h)
    rw [List.set_cons_succ, manyP_cons, manyP_cons, List.getD_cons_succ]
    omega
theorem getD_put {l : List Int} {i : Nat} {a : Int} (h : i < l.length) (q : Nat) : (l.set i a).getD q 0 = if q = i then a else l.getD q 0 := by
  rw [List.getD_eq_getElem?_getD, List.getD_eq_getElem?_getD]
  by_cases e : q = i
  · subst e; rw [if_pos rfl, List.getElem?_set_self h]; rfl
  · rw [if_neg e, List.getElem?_set_ne (fun he => e he.symm)]
theorem getB_put {l : List Bool} {i : Nat} {a : Bool} (h : i < l.length) (q : Nat) : (l.set i a).getD q false = if q = i then a else l.getD q false := by
  rw [List.getD_eq_getElem?_getD, List.getD_eq_getElem?_getD]
  by_cases e : q = i
  · subst e; rw [if_pos rfl, List.getElem?_set_self h]; rfl
  · rw [if_neg e, List.getElem?_set_ne (fun he => e he.symm)]
theorem count_two {k : Int} : ∀ (l : List Int) (p q : Nat), p < q → q < l.length → l.getD p 0 = k → l.getD q 0 = k → 2 ≤ l.count k
  | [], p, q, _, h, _, _ => by simp at h
  | x :: l, 0, q + 1, _, h, h1, h2 => by
    rw [List.getD_cons_zero] at h1
    rw [List.getD_cons_succ] at h2
    have hq : q < l.length := by simpa using h
    have hm : k ∈ l := by rw [← h2, getD_ps hq]; exact List.getElem_mem _
    have := List.count_pos_iff.2 hm
    rw [h1, List.count_cons_self]; omega
  | x :: l, p + 1, q + 1, hpq, h, h1, h2 => by
    have := count_two (k := k) l p q (by omega) (by simpa using h) (by simpa using h1) (by simpa using h2)
    rw [List.count_cons]; omega
/-- How many plugs were not asked for. -/
def notA (A : List Bool) : Nat := (A.filter fun a => !a).length
theorem notA_put : ∀ (A : List Bool) (i : Nat), i < A.length → A.getD i false = false → notA (A.set i true) + 1 = notA A
  | [], i, h, _ => by simp at h
  | x :: A, 0, h, hx => by
    rw [List.getD_cons_zero] at hx
    subst hx
    simp [notA]
  | x :: A, i + 1, h, hx => by
    have := notA_put A i (by simpa using h) (by simpa using hx)
    unfold notA at this ⊢
    rw [List.set_cons_succ]
    cases x <;> simp <;> omega
theorem notA_le (A : List Bool) : notA A ≤ A.length := List.length_filter_le _ _
theorem notA_mono : ∀ (A B : List Bool), A.length = B.length → (∀ q, A.getD q false = true → B.getD q false = true) → notA B ≤ notA A
  | [], [], _, _ => Nat.le_refl _
  | [], b :: B, h, _ => by simp at h
  | a :: A, [], h, _ => by simp at h
  | a :: A, b :: B, h, hm => by
    have := notA_mono A B (by simpa using h) fun q hq => by simpa using hm (q + 1) (by simpa using hq)
    have h0 := hm 0
    unfold notA at this ⊢
    cases a <;> cases b <;> simp at h0 ⊢ <;> omega
/-- Each plug is nobody's, or that of a box. -/
def AtOk (n : Nat) (T : List Int) : Prop := T.length = 6 ∧ ∀ q, q < 6 → T.getD q 0 = -1 ∨ (0 ≤ T.getD q 0 ∧ T.getD q 0 < (n : Int))
/-- Only plugs that were asked for lie behind. -/
def ShutA (u : List (List Int)) (A0 A : List Bool) (T : List Int) : Prop := ∀ q, q < 6 → A.getD q false = true → A0.getD q false = false → 0 ≤ T.getD q 0 ∧ ∀ p, p ∈ useA u (T.getD q 0).toNat → A.getD p.toNat false = true
/-- What a box that asks for a plug leads to. -/
structure GiveR (u : List (List Int)) (n x : Nat) (A : List Bool) (T : List Int) (b : Bool) (A' : List Bool) (T' : List Int) : Prop where
  len : A'.length = 6
  ok : AtOk n T'
  mono : ∀ q, A.getD q false = true → A'.getD q false = true
  no : b = false → T' = T ∧ (∀ p, p ∈ useA u x → A'.getD p.toNat false = true) ∧ ShutA u A A' T
  kept : b = true → ∀ q, A.getD q false = true → T'.getD q 0 = T.getD q 0
  edge : b = true → ∀ q, q < 6 → T'.getD q 0 = T.getD q 0 ∨ (q : Int) ∈ useA u (T'.getD q 0).toNat
  occ : b = true → ∀ k : Int, 0 ≤ k → T'.count k = T.count k + if k = (x : Int) then 1 else 0
  many : b = true → manyP T' = manyP T + 1
/-- On the way through a box's plugs: the first j were asked for. -/
structure WayR (u : List (List Int)) (n x : Nat) (A : List Bool) (T : List Int) (j : Nat) (B : List Bool) : Prop where
  len : B.length = 6
  mono : ∀ q, A.getD q false = true → B.getD q false = true
  done : ∀ i, i < j → B.getD ((useA u x).getD i 0).toNat false = true
  shut : ShutA u A B T
theorem WayR.start {u : List (List Int)} {n x : Nat} {A : List Bool} {T : List Int} (h : A.length = 6) : WayR u n x A T 0 A :=
  ⟨h, fun _ h => h, fun i hi => by omega, fun q _ h1 h2 => by rw [h1] at h2; exact absurd h2 (by decide)⟩
/-- A plug that was asked for before. -/
theorem WayR.skip {u : List (List Int)} {n x j : Nat} {A B : List Bool} {T : List Int} (h : WayR u n x A T j B) (hb : B.getD ((useA u x).getD j 0).toNat false = true) : WayR u n x A T (j + 1) B :=
  ⟨h.len, h.mono, fun i hi => by
    by_cases e : i = j
    · subst e; exact hb
    · exact h.done i (by omega), h.shut⟩
/-- A plug that is nobody's is given. -/
theorem WayR.free {u : List (List Int)} {n x j q : Nat} {A B : List Bool} {T : List Int} (h : WayR u n x A T j B) (hT : AtOk n T) (hx : x < n) (hj : j < (useA u x).length) (hq : (useA u x).getD j 0 = (q : Int)) (hq6 : q < 6) (hb : B.getD q false = false) (hf : T.getD q 0 < 0) : GiveR u n x A T true (B.set q true) (T.set q (x : Int)) := by
  have hl := hT.1
  refine ⟨by rw [List.length_set]; exact h.len, ⟨by rw [List.length_set]; exact hl, fun p hp => ?_⟩, fun p hp => ?_, fun h => (by cases h), fun _ p hp => ?_, fun _ p hp => ?_, fun _ k hk => ?_, fun _ => ?_⟩
  · rw [getD_put (by omega)]
    by_cases e : p = q
    · rw [if_pos e]; exact .inr ⟨by omega, by omega⟩
    · rw [if_neg e]; exact hT.2 p hp
  · rw [getB_put (by rw [h.len]; omega)]
    by_cases e : p = q
    · rw [if_pos e]
    · rw [if_neg e]; exact h.mono p hp
  · have hne : p ≠ q := fun e => by rw [e] at hp; rw [h.mono q hp] at hb; cases hb
    rw [getD_put (by omega), if_neg hne]
  · rw [getD_put (by omega)]
    by_cases e : p = q
    · rw [if_pos e]
      refine .inr ?_
      rw [e, ← hq, getD_ps hj, Int.toNat_natCast]
      exact List.getElem_mem _
    · rw [if_neg e]; exact .inl rfl
  · have := count_put (k := k) T q (x : Int) (by omega)
    rw [if_neg (by omega)] at this
    by_cases e : k = (x : Int)
    · rw [if_pos e]; rw [if_pos e.symm] at this; omega
    · rw [if_neg e]; rw [if_neg (fun h => e h.symm)] at this; omega
  · have := many_put T q (x : Int) (by omega)
    rw [if_neg (by omega), if_pos (by omega)] at this
    omega
/-- The box that has the plug finds another one. -/
theorem WayR.left {u : List (List Int)} {n x j q : Nat} {A B B' : List Bool} {T T' : List Int} (h : WayR u n x A T j B) (hT : AtOk n T) (hx : x < n) (hj : j < (useA u x).length) (hq : (useA u x).getD j 0 = (q : Int)) (hq6 : q < 6) (hb : B.getD q false = false) (hf : 0 ≤ T.getD q 0) (hg : GiveR u n (T.getD q 0).toNat (B.set q true) T true B' T') : GiveR u n x A T true B' (T'.set q (x : Int)) := by
  have hl := hg.ok.1
  have hbq : (B.set q true).getD q false = true := by rw [getB_put (by rw [h.len]; omega), if_pos rfl]
  have hbm : ∀ p, B.getD p false = true → (B.set q true).getD p false = true := fun p hp => by
    rw [getB_put (by rw [h.len]; omega)]
    by_cases e : p = q
    · rw [if_pos e]
    · rw [if_neg e]; exact hp
  have hTq : T'.getD q 0 = T.getD q 0 := hg.kept rfl q hbq
  refine ⟨hg.len, ⟨by rw [List.length_set]; exact hl, fun p hp => ?_⟩, fun p hp => hg.mono p (hbm p (h.mono p hp)), fun h => (by cases h), fun _ p hp => ?_, fun _ p hp => ?_, fun _ k hk => ?_, fun _ => ?_⟩
  · rw [getD_put (by omega)]
    by_cases e : p = q
    · rw [if_pos e]; exact .inr ⟨by omega, by omega⟩
    · rw [if_neg e]; exact hg.ok.2 p hp
  · have hne : p ≠ q := fun e => by rw [e] at hp; rw [h.mono q hp] at hb; cases hb
    rw [getD_put (by omega), if_neg hne]
    exact hg.kept rfl p (hbm p (h.mono p hp))
  · rw [getD_put (by omega)]
    by_cases e : p = q
    · rw [if_pos e]
      refine .inr ?_
      rw [e, ← hq, getD_ps hj, Int.toNat_natCast]
      exact List.getElem_mem _
    · rw [if_neg e]; exact hg.edge rfl p hp
  · have h1 := count_put (k := k) T' q (x : Int) (by omega)
    have h2 := hg.occ rfl k hk
    rw [hTq] at h1
    rw [Int.toNat_of_nonneg hf] at h2
    have e3 : ((x : Int) = k) = (k = (x : Int)) := propext ⟨Eq.symm, Eq.symm⟩
    have e4 : (T.getD q 0 = k) = (k = T.getD q 0) := propext ⟨Eq.symm, Eq.symm⟩
    simp only [e3, e4] at h1
    omega
  · have h1 := many_put T' q (x : Int) (by omega)
    rw [hTq, if_pos hf, if_pos (by omega)] at h1
    have := hg.many rfl
    omega
/-- It does not. -/
theorem WayR.stay {u : List (List Int)} {n x j q : Nat} {A B B' : List Bool} {T T' : List Int} (h : WayR u n x A T j B) (hq : (useA u x).getD j 0 = (q : Int)) (hq6 : q < 6) (hb : B.getD q false = false) (hf : 0 ≤ T.getD q 0) (hg : GiveR u n (T.getD q 0).toNat (B.set q true) T false B' T') : T' = T ∧ WayR u n x A T (j + 1) B' := by
  obtain ⟨h1, h2, h3⟩ := hg.no rfl
  have hbq : (B.set q true).getD q false = true := by rw [getB_put (by rw [h.len]; omega), if_pos rfl]
  have hbm : ∀ p, B.getD p false = true → (B.set q true).getD p false = true := fun p hp => by
    rw [getB_put (by rw [h.len]; omega)]
    by_cases e : p = q
    · rw [if_pos e]
    · rw [if_neg e]; exact hp
  refine ⟨h1, hg.len, fun p hp => hg.mono p (hbm p (h.mono p hp)), fun i hi => ?_, fun p hp hp1 hp0 => ?_⟩
  · by_cases e : i = j
    · rw [e, hq, Int.toNat_natCast]; exact hg.mono q hbq
    · exact hg.mono _ (hbm _ (h.done i (by omega)))
  · cases hB : (B.set q true).getD p false
    · exact h3 p hp hp1 hB
    · rw [getB_put (by rw [h.len]; omega)] at hB
      by_cases e : p = q
      · rw [e]; exact ⟨hf, h2⟩
      · rw [if_neg e] at hB
        obtain ⟨g1, g2⟩ := h.shut p hp hB hp0
        exact ⟨g1, fun r hr => hg.mono _ (hbm _ (g2 r hr))⟩
/-- All plugs were asked for, and none was left. -/
theorem WayR.none {u : List (List Int)} {n x : Nat} {A B : List Bool} {T : List Int} (h : WayR u n x A T (useA u x).length B) (hT : AtOk n T) : GiveR u n x A T false B T := by
  refine ⟨h.len, hT, h.mono, fun _ => ⟨rfl, fun p hp => ?_, h.shut⟩, fun h => (by cases h), fun h => (by cases h), fun h => (by cases h), fun h => (by cases h)⟩
  obtain ⟨i, hi, rfl⟩ := List.getElem_of_mem hp
  have := h.done i hi
  rwa [getD_ps hi] at this
/-- Of the plugs those that somebody has. -/
def usedN (g : Nat → Int) (n : Nat) : Nat := ((List.range 6).filter fun q : Nat => (List.range n).any fun k => decide (g k = (q : Int))).length
theorem cntF_used {u : List (List Int)} {n : Nat} {f : Nat → Int} (hu : ∀ k, k < n → ∀ q, q ∈ useA u k → 0 ≤ q ∧ q < 6) (hv : VF u n f) : cntF f n = usedN f n := by
  have h1 : (((List.range n).filter fun k => !decide (f k = -1)).map f).Nodup := map_nodup (List.Nodup.sublist List.filter_sublist List.nodup_range) fun i j hi hj he => by
    obtain ⟨i1, i2⟩ := List.mem_filter.1 hi
    obtain ⟨j1, j2⟩ := List.mem_filter.1 hj
    exact hv.2 i j (List.mem_range.1 i1) (List.mem_range.1 j1) (by simpa using i2) he
  have h2 : (((List.range 6).filter fun q : Nat => (List.range n).any fun k => decide (f k = (q : Int))).map Int.ofNat).Nodup := by
    rw [List.nodup_iff_pairwise_ne, List.pairwise_map]
    exact List.Pairwise.imp (fun hab he => hab (Int.ofNat.inj he)) (List.nodup_iff_pairwise_ne.1 (List.Nodup.sublist List.filter_sublist List.nodup_range))
  rw [cntF_filt]
  unfold usedN
  refine Nat.le_antisymm ?_ ?_
  · have := List.Nodup.length_le_of_subset h1 (l₂ := ((List.range 6).filter fun q : Nat => (List.range n).any fun k => decide (f k = (q : Int))).map Int.ofNat) fun q hq => by
      obtain ⟨k, hk, rfl⟩ := List.mem_map.1 hq
      obtain ⟨k1, k2⟩ := List.mem_filter.1 hk
      have hkn := List.mem_range.1 k1
      have h6 := hu k hkn _ (hv.1 k hkn (by simpa using k2))
      refine List.mem_map.2 ⟨(f k).toNat, List.mem_filter.2 ⟨List.mem_range.2 (by omega), List.any_eq_true.2 ⟨k, k1, decide_eq_true (by omega)⟩⟩, ?_⟩
      show ((f k).toNat : Int) = f k
      omega
    rwa [List.length_map, List.length_map] at this
  · have := List.Nodup.length_le_of_subset h2 (l₂ := ((List.range n).filter fun k => !decide (f k = -1)).map f) fun q hq => by
      obtain ⟨p, hp, rfl⟩ := List.mem_map.1 hq
      obtain ⟨p1, p2⟩ := List.mem_filter.1 hp
      obtain ⟨k, k1, k2⟩ := List.any_eq_true.1 p2
      have k3 := of_decide_eq_true k2
      refine List.mem_map.2 ⟨k, List.mem_filter.2 ⟨k1, ?_⟩, k3⟩
      have : f k ≠ -1 := by omega
      simpa using this
    rwa [List.length_map, List.length_map] at this
theorem usedN_le {f g : Nat → Int} {m n : Nat} (h : ∀ q : Nat, q < 6 → ∀ k, k < m → f k = (q : Int) → ∃ j, j < n ∧ g j = (q : Int)) : usedN f m ≤ usedN g n := by
  unfold usedN
  have hs : ((List.range 6).filter fun q : Nat => (List.range m).any fun k => decide (f k = (q : Int))) ⊆ ((List.range 6).filter fun q : Nat => (List.range n).any fun k => decide (g k = (q : Int))) := fun q hq => by
    obtain ⟨q1, q2⟩ := List.mem_filter.1 hq
    obtain ⟨k, k1, k2⟩ := List.any_eq_true.1 q2
    obtain ⟨j, j1, j2⟩ := h q (List.mem_range.1 q1) k (List.mem_range.1 k1) (of_decide_eq_true k2)
    exact List.mem_filter.2 ⟨q1, List.any_eq_true.2 ⟨j, List.mem_range.2 j1, decide_eq_true j2⟩⟩
  exact List.Nodup.length_le_of_subset (List.Nodup.sublist List.filter_sublist List.nodup_range) hs
/-- The plug at which a box stands, or -1. -/
def plugAt (T : List Int) (k : Nat) : Int := match (List.range 6).find? fun q => decide (T.getD q 0 = (k : Int)) with | some q => (q : Int) | none => -1
theorem plugAt_cases (T : List Int) (k : Nat) : (plugAt T k = -1 ∧ ∀ q, q < 6 → T.getD q 0 ≠ (k : Int)) ∨ ∃ q : Nat, q < 6 ∧ plugAt T k = (q : Int) ∧ T.getD q 0 = (k : Int) := by
  unfold plugAt
  cases h : (List.range 6).find? fun q => decide (T.getD q 0 = (k : Int)) with
  | none =>
    refine .inl ⟨rfl, fun q hq he => ?_⟩
    have := List.find?_eq_none.1 h q (List.mem_range.2 hq)
    exact this (decide_eq_true he)
  | some q => exact .inr ⟨q, List.mem_range.1 (List.mem_of_find?_eq_some h), rfl, of_decide_eq_true (List.find?_some (p := fun q => decide (T.getD q 0 = (k : Int))) h)⟩
/-- The first i boxes have had their turn: as many as can be have a plug. -/
structure KuhnSt (u : List (List Int)) (n i : Nat) (T : List Int) (m : Nat) : Prop where
  ok : AtOk n T
  less : ∀ q, q < 6 → 0 ≤ T.getD q 0 → T.getD q 0 < (i : Int) ∧ (q : Int) ∈ useA u (T.getD q 0).toNat
  once : ∀ k : Int, 0 ≤ k → T.count k ≤ 1
  many : manyP T = m
  most : ∀ g, VF u i g → cntF g i ≤ m
theorem KuhnSt.at_uniq {u : List (List Int)} {n i m : Nat} {T : List Int} (h : KuhnSt u n i T m) {p q : Nat} (hp : p < 6) (hq : q < 6) (h0 : 0 ≤ T.getD p 0) (he : T.getD p 0 = T.getD q 0) : p = q := by
  have hl := h.ok.1
  rcases Nat.lt_trichotomy p q with hlt | e | hlt
  · have := count_two (k := T.getD p 0) T p q hlt (by omega) rfl he.symm
    have := h.once _ h0
    omega
  · exact e
  · have := count_two (k := T.getD p 0) T q p hlt (by omega) he.symm rfl
    have := h.once _ h0
    omega
theorem KuhnSt.start (u : List (List Int)) (n : Nat) : KuhnSt u n 0 (List.replicate 6 (-1)) 0 := by
  refine ⟨⟨rfl, fun q hq => .inl ?_⟩, fun q hq h => ?_, fun k hk => ?_, rfl, fun g _ => Nat.le_refl _⟩
  · rw [List.getD_eq_getElem?_getD, List.getElem?_replicate_of_lt hq]; rfl
  · rw [List.getD_eq_getElem?_getD, List.getElem?_replicate_of_lt hq] at h
    exact absurd h (by decide)
  · rw [List.count_replicate, if_neg (by simp; omega)]; omega
theorem VF.less {u : List (List Int)} {n m : Nat} {f : Nat → Int} (h : VF u n f) (hm : m ≤ n) : VF u m f := ⟨fun k hk => h.1 k (by omega), fun j k hj hk => h.2 j k (by omega) (by omega)⟩
/-- A further box finds a plug. -/
theorem KuhnSt.more {u : List (List Int)} {n i m : Nat} {T T' : List Int} {A A' : List Bool} (h : KuhnSt u n i T m) (hg : GiveR u n i A T true A' T') (hi : i < n) : KuhnSt u n (i + 1) T' (m + 1) := by
  have hl := h.ok.1
  have hl' := hg.ok.1
  have hci : T.count (i : Int) = 0 := List.count_eq_zero.2 fun hm => by
    obtain ⟨q, hq, he⟩ := List.getElem_of_mem hm
    have := (h.less q (by omega) (by rw [getD_ps hq, he]; omega)).1
    rw [getD_ps hq, he] at this
    omega
  refine ⟨hg.ok, fun q hq h0 => ?_, fun k hk => ?_, by rw [hg.many rfl, h.many], fun g hv => ?_⟩
  · have hlt : T'.getD q 0 < ((i + 1 : Nat) : Int) := by
      by_cases hin : T'.getD q 0 ∈ T
      · obtain ⟨p, hp, he⟩ := List.getElem_of_mem hin
        have := (h.less p (by omega) (by rw [getD_ps hp, he]; exact h0)).1
        rw [getD_ps hp, he] at this
        omega
      · have h1 := hg.occ rfl _ h0
        rw [List.count_eq_zero.2 hin] at h1
        have h2 : 0 < T'.count (T'.getD q 0) := List.count_pos_iff.2 (by rw [getD_ps (by omega)]; exact List.getElem_mem _)
        by_cases e : T'.getD q 0 = (i : Int)
        · omega
        · rw [if_neg e] at h1; omega
    refine ⟨hlt, ?_⟩
    rcases hg.edge rfl q hq with he | he
    · rw [he] at h0 ⊢; exact (h.less q hq h0).2
    · exact he
  · have h1 := hg.occ rfl k hk
    by_cases e : k = (i : Int)
    · rw [if_pos e] at h1; rw [e] at h1 ⊢; omega
    · rw [if_neg e] at h1; have := h.once k hk; omega
  · have := h.most g (hv.less (by omega))
    rw [cntF]
    split <;> omega
/-- A further box finds none. -/
theorem KuhnSt.same {u : List (List Int)} {n i m : Nat} {T T' : List Int} {A A' : List Bool} (hu : ∀ k, k < n → ∀ q, q ∈ useA u k → 0 ≤ q ∧ q < 6) (h : KuhnSt u n i T m) (hA : ∀ q, A.getD q false = false) (hg : GiveR u n i A T false A' T') (hi : i < n) : KuhnSt u n (i + 1) T' m := by
  obtain ⟨h1, h2, h3⟩ := hg.no rfl
  subst h1
  have hl := h.ok.1
  refine ⟨h.ok, fun q hq h0 => ⟨by have := (h.less q hq h0).1; omega, (h.less q hq h0).2⟩, h.once, h.many, fun g hv => ?_⟩
  have hu1 : ∀ k, k < i + 1 → ∀ q, q ∈ useA u k → 0 ≤ q ∧ q < 6 := fun k hk => hu k (by omega)
  have hu0 : ∀ k, k < i → ∀ q, q ∈ useA u k → 0 ≤ q ∧ q < 6 := fun k hk => hu k (by omega)
  obtain ⟨f, hf⟩ : ∃ f : Nat → Int, f = fun k => if plugAt T' k ≠ -1 ∧ A'.getD (plugAt T' k).toNat false = true then plugAt T' k else if g k ≠ -1 ∧ A'.getD (g k).toNat false = false then g k else -1 := ⟨_, rfl⟩
  have hp1 : ∀ k, plugAt T' k ≠ -1 → ∃ q : Nat, q < 6 ∧ plugAt T' k = (q : Int) ∧ T'.getD q 0 = (k : Int) := fun k hk => by
    rcases plugAt_cases T' k with ⟨h, _⟩ | h
    · exact absurd h hk
    · exact h
  have hpe : ∀ k, plugAt T' k ≠ -1 → plugAt T' k ∈ useA u k := fun k hk => by
    obtain ⟨q, q1, q2, q3⟩ := hp1 k hk
    have := (h.less q q1 (by omega)).2
    rw [q3, Int.toNat_natCast] at this
    rw [q2]; exact this
  have hfv : VF u i f := by
    refine ⟨fun k hk hne => ?_, fun j k hj hk hne he => ?_⟩
    · rw [hf] at hne ⊢
      simp only at hne ⊢
      by_cases c1 : plugAt T' k ≠ -1 ∧ A'.getD (plugAt T' k).toNat false = true
      · rw [if_pos c1]; exact hpe k c1.1
      · rw [if_neg c1] at hne ⊢
        by_cases c2 : g k ≠ -1 ∧ A'.getD (g k).toNat false = false
        · rw [if_pos c2]; exact hv.1 k (by omega) c2.1
        · rw [if_neg c2] at hne; exact absurd rfl hne
    · rw [hf] at hne he
      simp only at hne he
      by_cases c1 : plugAt T' j ≠ -1 ∧ A'.getD (plugAt T' j).toNat false = true
      · rw [if_pos c1] at hne he
        by_cases d1 : plugAt T' k ≠ -1 ∧ A'.getD (plugAt T' k).toNat false = true
        · rw [if_pos d1] at he
          obtain ⟨q, q1, q2, q3⟩ := hp1 j c1.1
          obtain ⟨r, r1, r2, r3⟩ := hp1 k d1.1
          have : q = r := by omega
          subst this
          omega
        · rw [if_neg d1] at he
          by_cases d2 : g k ≠ -1 ∧ A'.getD (g k).toNat false = false
          · rw [if_pos d2] at he
            rw [← he, c1.2] at d2
            exact absurd d2.2 (by decide)
          · rw [if_neg d2] at he; exact absurd he hne
      · rw [if_neg c1] at hne he
        by_cases c2 : g j ≠ -1 ∧ A'.getD (g j).toNat false = false
        · rw [if_pos c2] at hne he
          by_cases d1 : plugAt T' k ≠ -1 ∧ A'.getD (plugAt T' k).toNat false = true
          · rw [if_pos d1] at he
            rw [he, d1.2] at c2
            exact absurd c2.2 (by decide)
          · rw [if_neg d1] at he
            by_cases d2 : g k ≠ -1 ∧ A'.getD (g k).toNat false = false
            · rw [if_pos d2] at he
              exact hv.2 j k (by omega) (by omega) hne he
            · rw [if_neg d2] at he; exact absurd he hne
        · rw [if_neg c2] at hne; exact absurd rfl hne
  have hle : usedN g (i + 1) ≤ usedN f i := usedN_le fun q hq k hk he => by
    cases hA' : A'.getD q false
    · have hqm : (q : Int) ∈ useA u k := by rw [← he]; exact hv.1 k hk (by omega)
      have hki : k ≠ i := fun e => by
        subst e
        have := h2 _ hqm
        rw [Int.toNat_natCast, hA'] at this
        cases this
      refine ⟨k, by omega, ?_⟩
      rw [hf]
      simp only
      have c1 : ¬ (plugAt T' k ≠ -1 ∧ A'.getD (plugAt T' k).toNat false = true) := fun c => by
        obtain ⟨p, p1, p2, p3⟩ := hp1 k c.1
        have c2 := c.2
        rw [p2, Int.toNat_natCast] at c2
        have := (h3 p p1 c2 (hA p)).2 (q : Int) (by rw [p3, Int.toNat_natCast]; exact hqm)
        rw [Int.toNat_natCast, hA'] at this
        cases this
      rw [if_neg c1, if_pos ⟨by omega, by rw [he, Int.toNat_natCast]; exact hA'⟩]
      exact he
    · obtain ⟨g1, g2⟩ := h3 q hq hA' (hA q)
      have hlt := (h.less q hq g1).1
      refine ⟨(T'.getD q 0).toNat, by omega, ?_⟩
      rw [hf]
      simp only
      have hpa : plugAt T' (T'.getD q 0).toNat = (q : Int) := by
        rcases plugAt_cases T' (T'.getD q 0).toNat with ⟨_, hno⟩ | ⟨p, p1, p2, p3⟩
        · exact absurd (by omega) (hno q hq)
        · have := h.at_uniq hq p1 g1 (by omega)
          omega
      rw [hpa, if_pos ⟨by omega, by rw [Int.toNat_natCast]; exact hA'⟩]
  have := h.most f hfv
  rw [cntF_used hu1 hv]
  rw [cntF_used hu0 hfv] at this
  omega
theorem manyP_range (T : List Int) : manyP T = ((List.range T.length).filter fun q => decide (0 ≤ T.getD q 0)).length := by
  have e : T = (List.range T.length).map fun q => T.getD q 0 := by
    refine List.ext_getElem (by simp) fun q h1 h2 => ?_
    rw [List.getElem_map, List.getElem_range, getD_ps h1]
  have : manyP T = manyP ((List.range T.length).map fun q => T.getD q 0) := by rw [← e]
  rw [this]
  unfold manyP
  rw [List.filter_map, List.length_map]
  rfl
/-- In the end as many have a plug as can have one. -/
theorem KuhnSt.done {u : List (List Int)} {m : Nat} {T : List Int} (hu : usesOk u = true) (h : KuhnSt u u.length u.length T m) : plugM u = (m : Int) := by
  have hl := h.ok.1
  have hu6 : ∀ k, k < u.length → ∀ q, q ∈ useA u k → 0 ≤ q ∧ q < 6 := fun k hk => (usesOk_us hu k hk).2
  have hv : VF u u.length (plugAt T) := by
    refine ⟨fun k hk hne => ?_, fun j k hj hk hne he => ?_⟩
    · rcases plugAt_cases T k with ⟨h1, _⟩ | ⟨q, q1, q2, q3⟩
      · exact absurd h1 hne
      · have := (h.less q q1 (by omega)).2
        rw [q3, Int.toNat_natCast] at this
        rw [q2]; exact this
    · rcases plugAt_cases T j with ⟨h1, _⟩ | ⟨q, q1, q2, q3⟩
      · exact absurd h1 hne
      · rcases plugAt_cases T k with ⟨h1, _⟩ | ⟨p, p1, p2, p3⟩
        · rw [he] at hne; exact absurd h1 hne
        · have : p = q := by omega
          subst this
          omega
  have h1 : plugM u = ((manyP (plugI u) : Nat) : Int) := by unfold plugM; rw [if_pos hu]
  have h2 := h.most _ (plugsOk_VF (plugI_ok hu))
  rw [plugsOk_cnt (plugI_ok hu)] at h2
  have h3 := VF_most hu hv
  rw [plugsOk_cnt (plugI_ok hu), cntF_used hu6 hv] at h3
  have h4 : m ≤ usedN (plugAt T) u.length := by
    rw [← h.many, manyP_range, hl]
    unfold usedN
    refine List.Nodup.length_le_of_subset (List.Nodup.sublist List.filter_sublist List.nodup_range) fun q hq => ?_
    obtain ⟨q1, q2⟩ := List.mem_filter.1 hq
    have q0 := List.mem_range.1 q1
    have q3 := of_decide_eq_true q2
    refine List.mem_filter.2 ⟨q1, List.any_eq_true.2 ⟨(T.getD q 0).toNat, List.mem_range.2 ?_, decide_eq_true ?_⟩⟩
    · have := (h.less q q0 q3).1
      omega
    · rcases plugAt_cases T (T.getD q 0).toNat with ⟨_, hno⟩ | ⟨p, p1, p2, p3⟩
      · exact absurd (by omega) (hno q q0)
      · have := h.at_uniq q0 p1 q3 (by omega)
        omega
  omega
end Go.Proofs.Ythlcjojhmhoadaa
