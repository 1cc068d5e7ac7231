/-
  Plain mathematics of dangerous boxes, second part: boxes without danger; a box less; a further box. Nothing of the program.
-/
import Derived.Test.YtlccmgdmfchmnaaDaMath
import Derived.Test.YtlccmgdmfchmnaaGPn
import Derived.Test.YtlccmgdmfchmnaaGAp
import Derived.Test.YtlccmgdmfchmnaaPlC
namespace Go.Proofs.Ytlccmgdmfchmnaa
set_option linter.unusedVariables false

theorem nearO_le (h : Hl) (l : List Bx) (p : List Int) : (nearO h l p).length ≤ 36 * 36 := by
  unfold nearO
  by_cases hk : plOk h (bxsOk l) (bxIds l) p = true
  · rw [if_pos hk, nearN_len]
    have hn : p.length ≤ 36 := by
      obtain ⟨q1, _, q3, _⟩ := plOk_iff.1 hk
      obtain ⟨m1, m2, _⟩ := slMany_bd q1
      omega
    have hs : ∀ m, m ≤ 36 → sumR (fun a => cnt (fun b => decide (a < b) && nearG h (fun k => clsB l (pAt p k)) a b) p.length) m ≤ 36 * m := by
      intro m
      induction m with
      | zero => intro _; exact Nat.le_refl 0
      | succ m ih =>
        intro hm
        have h1 := ih (by omega)
        have h2 := cnt_le (fun b => decide (m < b) && nearG h (fun k => clsB l (pAt p k)) m b) p.length
        unfold sumR
        omega
    have := hs p.length hn
    have : 36 * p.length ≤ 36 * 36 := Nat.mul_le_mul_left 36 hn
    omega
  · rw [if_neg hk]; simp
theorem nextI_le {h : Hl} {bok : Bool} {ids p : List Int} : (nextI h bok ids p).length ≤ 36 := by
  unfold nextI nextP
  by_cases hk : plOk h bok ids p = true
  · rw [if_pos hk, List.length_map]
    have hn : p.length ≤ 36 := by
      obtain ⟨q1, _, q3, _⟩ := plOk_iff.1 hk
      obtain ⟨m1, m2, _⟩ := slMany_bd q1
      omega
    exact Nat.le_trans (List.length_filter_le _ _) (by rw [List.length_range]; exact hn)
  · rw [if_neg hk]; simp
theorem safeO_le (h : Hl) (l : List Bx) (p : List Int) (c : Int) : (safeO h l p c).length ≤ 36 := by
  unfold safeO
  split
  · exact Nat.le_trans (List.length_filter_le _ _) nextI_le
  · simp
theorem safeO_asc (h : Hl) (l : List Bx) (p : List Int) (c : Int) : ∀ k, k + 1 < (safeO h l p c).length → (safeO h l p c).getD k 0 < (safeO h l p c).getD (k + 1) 0 := by
  have hs : (safeO h l p c).Pairwise (· < ·) := by
    unfold safeO nextI nextP
    split
    · split
      · refine List.Pairwise.filter _ ?_
        refine List.pairwise_map.2 ((List.pairwise_lt_range (n := p.length)).filter _ |>.imp ?_)
        intro a b hab
        exact Int.ofNat_lt.2 hab
      · exact List.Pairwise.nil
    · exact List.Pairwise.nil
  intro k hk
  have := List.pairwise_iff_getElem.1 hs k (k + 1) (by omega) hk (by omega)
  rw [List.getD_eq_getElem?_getD, List.getD_eq_getElem?_getD, List.getElem?_eq_getElem (by omega), List.getElem?_eq_getElem hk]
  exact this
/-- Boxes without danger. -/
def harmB (l : List Bx) : List Bx := l.map fun b => { b with c := 0 }
theorem harmB_len (l : List Bx) : (harmB l).length = l.length := by simp [harmB]
theorem harmB_at {l : List Bx} {k : Nat} (hk : k < l.length) : (harmB l)[k]'(by rw [harmB_len]; exact hk) = { l[k] with c := 0 } := by simp [harmB]
theorem harmB_ids (l : List Bx) : bxIds (harmB l) = bxIds l := by unfold harmB bxIds; rw [List.map_map]; rfl
theorem harmB_find : ∀ (l : List Bx) (x : Int), findB (harmB l) x = findB l x
  | [], _ => rfl
  | b :: t, x => by
    have ih := harmB_find t x
    show findB ({ b with c := 0 } :: harmB t) x = findB (b :: t) x
    unfold findB
    rw [ih]
theorem harmB_ok {l : List Bx} (h : bxsOk l = true) : bxsOk (harmB l) = true := by
  obtain ⟨h1, h2⟩ := bxsOk_each h
  have ha : ∀ k, k < (harmB l).length → okAt (harmB l) k = true := fun k hk => by
    have hk' : k < l.length := by rw [harmB_len] at hk; exact hk
    have h3 := (okAt_iff hk').1 (h1 k hk')
    refine (okAt_iff hk).2 ⟨?_, ?_⟩
    · rw [harmB_at hk']
      have h9 := bxOk_yes h3.1
      exact decide_eq_true (by simp only []; omega)
    · rw [harmB_at hk', harmB_find]; exact h3.2
  rw [bxsOk_end ha]
  exact decide_eq_true (by rw [harmB_len]; exact h2)
theorem harmB_take {l : List Bx} {k : Nat} (hk : k < l.length) : (harmB l).take (k + 1) = (harmB l).take k ++ [{ l[k] with c := 0 }] := by
  rw [List.take_add_one, List.getElem?_eq_getElem (show k < (harmB l).length by rw [harmB_len]; exact hk), harmB_at hk]
  rfl
theorem harmB_take_len {l : List Bx} {k : Nat} (hk : k ≤ l.length) : ((harmB l).take k).length = k := by rw [List.length_take, harmB_len]; omega
theorem clsB_harm (l : List Bx) (x : Int) : clsB (harmB l) x = 0 := by
  unfold clsB
  split
  · rfl
  · generalize (findB (harmB l) x).toNat = j
    by_cases hj : j < l.length
    · rw [getD_bx (show j < (harmB l).length by rw [harmB_len]; exact hj), harmB_at hj]
    · rw [List.getD_eq_getElem?_getD, List.getElem?_eq_none (by rw [harmB_len]; omega)]; rfl
theorem nearO_harm {h : Hl} {l : List Bx} {p : List Int} (hk : plOk h (bxsOk l) (bxIds l) p = true) : nearO h (harmB l) p = [] := by
  have hb := plOk_bok hk
  have hok : plOk h (bxsOk (harmB l)) (bxIds (harmB l)) p = true := by rw [harmB_ok hb, harmB_ids]; rw [hb] at hk; exact hk
  unfold nearO
  rw [if_pos hok]
  refine List.eq_nil_iff_forall_not_mem.2 fun x hx => ?_
  obtain ⟨a, b, h1, h2, h3, h4, _⟩ := nearN_mem.1 hx
  have h5 := of_decide_eq_true h4
  have h6 := apartS_in (plOk_iff.1 hok).1 (plOk_iff.1 hok).2.2.1 (show a < p.length by omega) h3
  simp only [clsB_harm] at h5
  have h7 := needC_zero (a := 0) (by omega) (by omega)
  omega
/-- With a box taken no other pairs are too near. -/
theorem nearO_take {h : Hl} {l : List Bx} {p : List Int} {k : Nat} (hid : 0 ≤ (takeP h (bxsOk l) (bxIds l) p (k : Int)).2) : ∀ x, x ∈ nearO h l (takeP h (bxsOk l) (bxIds l) p (k : Int)).1 → x ∈ nearO h l p ∧ x.1 ≠ (k : Int) ∧ x.2 ≠ (k : Int) := by
  rcases takeP_cases h (bxsOk l) (bxIds l) p (k : Int) with ⟨_, e⟩ | ⟨_, e⟩ | ⟨hk, h1, h2, h3, h4, h5, e⟩
  · rw [e] at hid; simp at hid
  · rw [e] at hid; simp at hid
  · rw [e]
    rw [Int.toNat_natCast] at h3 h5 ⊢
    intro x hx
    have hkl : k < p.length := by omega
    unfold nearO at hx ⊢
    rw [if_pos h5] at hx
    rw [if_pos hk]
    obtain ⟨a, b, a1, a2, a3, a4, rfl⟩ := nearN_mem.1 hx
    rw [List.length_set] at a1 a3
    obtain ⟨g1, g2, g3⟩ := near_take (k := k) (c := fun j => clsB l (pAt p j)) (plOk_iff.1 hk).1 (plOk_iff.1 hk).2.2.1 (fun j hj hne => by simp only []; rw [pAt_set_ne (Ne.symm hne)]) (by simp only []; rw [pAt_set_self hkl]; rfl) a2 a3 a4
    refine ⟨nearN_mem.2 ⟨a, b, a1, a2, a3, g1, rfl⟩, ?_, ?_⟩
    · simp only []; omega
    · simp only []; omega
/-- A further box. -/
def moreB (l : List Bx) (c : Int) : List Bx := l ++ [⟨777, 1, c, 0, false⟩]
theorem moreB_len (l : List Bx) (c : Int) : (moreB l c).length = l.length + 1 := by simp [moreB]
theorem moreB_ids (l : List Bx) (c : Int) : bxIds (moreB l c) = bxIds l ++ [777] := by simp [moreB, bxIds]
theorem moreB_at {l : List Bx} {c : Int} {k : Nat} (hk : k < l.length) : (moreB l c)[k]'(by rw [moreB_len]; omega) = l[k] := by
  unfold moreB; rw [List.getElem_append_left hk]
theorem moreB_last (l : List Bx) (c : Int) : (moreB l c)[l.length]'(by rw [moreB_len]; omega) = ⟨777, 1, c, 0, false⟩ := by
  unfold moreB; rw [List.getElem_append_right (Nat.le_refl _)]; simp
theorem findB_app : ∀ (l m : List Bx) (x : Int), 0 ≤ findB l x → findB (l ++ m) x = findB l x
  | [], _, x, h => by
    have : findB [] x = -1 := rfl
    omega
  | b :: t, m, x, h => by
    show findB (b :: (t ++ m)) x = findB (b :: t) x
    unfold findB at h ⊢
    by_cases hb : b.i = x
    · rw [if_pos hb, if_pos hb]
    · rw [if_neg hb] at h ⊢
      rw [if_neg hb]
      by_cases ht : findB t x < 0
      · rw [if_pos ht] at h; omega
      · rw [findB_app t m x (by omega)]
theorem findB_last : ∀ (l : List Bx) (b : Bx), findB l b.i < 0 → findB (l ++ [b]) b.i = (l.length : Int)
  | [], b, _ => by
    show findB [b] b.i = 0
    unfold findB; rw [if_pos rfl]
  | a :: t, b, h => by
    show findB (a :: (t ++ [b])) b.i = _
    unfold findB at h ⊢
    by_cases hb : a.i = b.i
    · rw [if_pos hb] at h; omega
    · rw [if_neg hb] at h ⊢
      by_cases ht : findB t b.i < 0
      · have ih := findB_last t b ht
        rw [ih, if_neg (by omega), List.length_cons]
        omega
      · rw [if_neg ht] at h; omega
theorem moreB_ok {l : List Bx} {c : Int} (hb : bxsOk l = true) (hc : 0 ≤ c ∧ c ≤ 3) (hl : l.length < 10) (hn : findB l 777 < 0) : bxsOk (moreB l c) = true := by
  obtain ⟨h1, h2⟩ := bxsOk_each hb
  have ha : ∀ k, k < (moreB l c).length → okAt (moreB l c) k = true := fun k hk => by
    rw [okAt_iff hk]
    by_cases hk' : k < l.length
    · have h3 := (okAt_iff hk').1 (h1 k hk')
      rw [moreB_at hk']
      refine ⟨h3.1, ?_⟩
      have hf : 0 ≤ findB l l[k].i := (findB_mem l l[k].i).2 (List.mem_map.2 ⟨l[k], List.getElem_mem hk', rfl⟩)
      unfold moreB
      rw [findB_app l _ _ hf]
      exact h3.2
    · obtain rfl : k = l.length := by rw [moreB_len] at hk; omega
      rw [moreB_last]
      refine ⟨decide_eq_true (by simp only []; omega), ?_⟩
      have := findB_last l ⟨777, 1, c, 0, false⟩ hn
      simp only [] at this
      unfold moreB
      simp only []
      omega
  rw [bxsOk_end ha]
  exact decide_eq_true (by rw [moreB_len]; omega)
theorem moreB_bad {l : List Bx} {c : Int} (hn : 0 ≤ findB l 777) : bxsOk (moreB l c) = false := by
  refine bxsOk_at (k := l.length) (by rw [moreB_len]; omega) ?_
  cases hx : okAt (moreB l c) l.length
  · rfl
  · rw [okAt_iff (by rw [moreB_len]; omega), moreB_last] at hx
    have h2 := hx.2
    simp only [] at h2
    unfold moreB at h2
    rw [findB_app l _ _ hn] at h2
    have := (findB_bd l 777).2
    omega
theorem plOk_more {h : Hl} {ids p : List Int} {x : Int} (hk : plOk h true ids p = true) : plOk h true (ids ++ [x]) p = true := by
  obtain ⟨q1, q2, q3, q4⟩ := plOk_iff.1 hk
  refine plOk_iff.2 ⟨q1, q2, q3, fun k hl hz => ?_⟩
  obtain ⟨r1, r2, r3⟩ := q4 k hl hz
  exact ⟨List.mem_append_left _ r1, r2, r3⟩
theorem clsB_more {l : List Bx} {c x : Int} (hx : x = 0 ∨ 0 ≤ findB l x) : clsB (moreB l c) x = clsB l x := by
  unfold clsB
  by_cases hz : x = 0
  · rw [if_pos hz, if_pos hz]
  · have hf := hx.resolve_left hz
    have hbd := (findB_bd l x).2
    have hj : (findB l x).toNat < l.length := by omega
    rw [if_neg hz, if_neg hz]
    unfold moreB
    rw [findB_app l _ _ hf]
    show ((moreB l c).getD (findB l x).toNat Bx.zero).c = _
    rw [getD_bx (show (findB l x).toNat < (moreB l c).length by rw [moreB_len]; omega), moreB_at hj, getD_bx hj]
theorem clsB_new {l : List Bx} {c : Int} (hn : findB l 777 < 0) : clsB (moreB l c) 777 = c := by
  unfold clsB
  rw [if_neg (by omega)]
  have hf : findB (moreB l c) 777 = (l.length : Int) := findB_last l ⟨777, 1, c, 0, false⟩ hn
  rw [hf, Int.toNat_natCast, getD_bx (show l.length < (moreB l c).length by rw [moreB_len]; omega), moreB_last]
section
variable {h : Hl} {l : List Bx} {p : List Int} {c : Int} (hk : plOk h (bxsOk l) (bxIds l) p = true) (hc : 0 ≤ c ∧ c ≤ 3) (hl : l.length < 10) (hn : findB l 777 < 0)
include hk hc hl hn
theorem more_plan : plOk h (bxsOk (moreB l c)) (bxIds (moreB l c)) p = true := by
  rw [moreB_ok (plOk_bok hk) hc hl hn, moreB_ids]
  rw [plOk_bok hk] at hk
  exact plOk_more hk
theorem more_next : nextI h (bxsOk (moreB l c)) (bxIds (moreB l c)) p = nextI h (bxsOk l) (bxIds l) p := by
  unfold nextI nextP
  rw [if_pos hk, if_pos (more_plan hk hc hl hn)]
omit hc hl in
theorem more_none : (777 : Int) ∉ p := fun hm => by
  obtain ⟨k, hk1, he⟩ := List.getElem_of_mem hm
  have hz : pAt p k = 777 := by rw [pAt_get hk1]; exact he
  have := pl_find hk hk1 (by rw [hz]; omega)
  rw [hz] at this
  omega
theorem more_put {k : Nat} (hkl : k < p.length) (hx : nextOk h p k = true) : putP h (bxsOk (moreB l c)) (bxIds (moreB l c)) p (k : Int) 777 = (p.set k 777, true) := by
  have hp := more_plan hk hc hl hn
  have hnone := more_none hk hn
  have hids : (777 : Int) ∈ bxIds (moreB l c) := by rw [moreB_ids]; simp
  have h2 := putP_next (bxIds_pos (plOk_bok hp)) hp hids hnone hkl
  rw [hx] at h2
  rcases putP_cases h (bxsOk (moreB l c)) (bxIds (moreB l c)) p (k : Int) 777 with ⟨_, e⟩ | ⟨_, e⟩ | ⟨_, _, _, _, _, _, e⟩
  · rw [e] at h2; cases h2
  · rw [e] at h2; cases h2
  · rw [e, Int.toNat_natCast]
theorem more_safe {k : Nat} (hkl : k < p.length) (hx : nextOk h p k = true) : (nearO h (moreB l c) (p.set k 777)).length = (nearO h (moreB l c) p).length ↔ hasI (safeO h l p c) (k : Int) = true := by
  have hp := more_plan hk hc hl hn
  have hput := more_put hk hc hl hn hkl hx
  have hp2 : plOk h (bxsOk (moreB l c)) (bxIds (moreB l c)) (p.set k 777) = true := by
    rcases putP_cases h (bxsOk (moreB l c)) (bxIds (moreB l c)) p (k : Int) 777 with ⟨_, e⟩ | ⟨_, e⟩ | ⟨_, _, _, _, _, h6, e⟩
    · rw [e] at hput; simp at hput
    · rw [e] at hput; simp at hput
    · rw [Int.toNat_natCast] at h6; exact h6
  obtain ⟨hz, _⟩ := of_decide_eq_true hx
  have hcl : ∀ j, j < p.length → clsB (moreB l c) (pAt p j) = clsB l (pAt p j) := fun j hj => clsB_more (by
    by_cases hzj : pAt p j = 0
    · exact .inl hzj
    · exact .inr (pl_find hk hj hzj))
  have hcz : ∀ j, pAt p j = 0 → clsB l (pAt p j) = 0 := fun j hj => by rw [hj]; rfl
  unfold nearO
  rw [if_pos hp, if_pos hp2, List.length_set, eq_comm]
  rw [near_put (k := k) (c := fun j => clsB (moreB l c) (pAt p j)) (plOk_iff.1 hk).1 (plOk_iff.1 hk).2.2.1 hkl (fun j hj hne => by rw [pAt_set_ne (Ne.symm hne)]) (by rw [hcl k hkl]; exact hcz k hz)]
  simp only [pAt_set_self hkl, clsB_new hn]
  rw [hasI_iffP]
  unfold safeO
  rw [if_pos hc, List.mem_filter]
  have hmem : (k : Int) ∈ nextI h (bxsOk l) (bxIds l) p := hasI_iffP.1 (by rw [nextI_has hk hkl]; exact hx)
  constructor
  · intro hall
    refine ⟨hmem, ?_⟩
    unfold safeS
    rw [List.all_eq_true]
    intro j hj
    have hjl := List.mem_range.1 hj
    by_cases hzj : pAt p j = 0
    · rw [decide_eq_true hzj]; rfl
    · have hne : j ≠ k := fun e => by subst e; exact hzj hz
      have := hall j hjl hne
      rw [hcl j hjl] at this
      rw [decide_eq_true this, Bool.or_true]
  · rintro ⟨_, hall⟩ j hj hne
    unfold safeS at hall
    rw [List.all_eq_true] at hall
    have := hall j (List.mem_range.2 hj)
    rw [Bool.or_eq_true, decide_eq_true_eq, decide_eq_true_eq] at this
    rw [hcl j hj]
    rcases this with h1 | h1
    · rw [hcz j h1, needC_zero hc.1 hc.2]
      exact apartS_in (plOk_iff.1 hk).1 (plOk_iff.1 hk).2.2.1 hkl hj
    · exact h1
end
/-- What the next slots of a plan are for a further box. -/
theorem more_law {h : Hl} {l : List Bx} {p : List Int} {c : Int} (hk : plOk h (bxsOk l) (bxIds l) p = true) (hc : 0 ≤ c ∧ c ≤ 3) (hl : l.length < 10) : ∀ k, k < (nextI h (bxsOk (moreB l c)) (bxIds (moreB l c)) p).length → ∃ s : Nat, (nextI h (bxsOk (moreB l c)) (bxIds (moreB l c)) p).getD k 0 = (s : Int) ∧ s < p.length ∧ putP h (bxsOk (moreB l c)) (bxIds (moreB l c)) p (s : Int) 777 = (p.set s 777, true) ∧ decide ((nearO h (moreB l c) (p.set s 777)).length = (nearO h (moreB l c) p).length) = hasI (safeO h l p c) (s : Int) := by
  intro k hkl
  by_cases hn : findB l 777 < 0
  · rw [more_next hk hc hl hn] at hkl ⊢
    have hm : (nextI h (bxsOk l) (bxIds l) p)[k] ∈ nextI h (bxsOk l) (bxIds l) p := List.getElem_mem hkl
    have he : (nextI h (bxsOk l) (bxIds l) p).getD k 0 = (nextI h (bxsOk l) (bxIds l) p)[k] := by rw [List.getD_eq_getElem?_getD, List.getElem?_eq_getElem hkl, Option.getD_some]
    rw [he]
    generalize (nextI h (bxsOk l) (bxIds l) p)[k] = x at hm
    have hm2 := hm
    unfold nextI nextP at hm2
    rw [if_pos hk] at hm2
    obtain ⟨s, hs, rfl⟩ := List.mem_map.1 hm2
    obtain ⟨s1, s2⟩ := List.mem_filter.1 hs
    have hsl := List.mem_range.1 s1
    refine ⟨s, rfl, hsl, more_put hk hc hl hn hsl s2, ?_⟩
    have := more_safe hk hc hl hn hsl s2
    cases hh : hasI (safeO h l p c) (s : Int)
    · exact decide_eq_false fun e => by rw [this.1 e] at hh; cases hh
    · exact decide_eq_true (this.2 hh)
  · exfalso
    have hb : plOk h (bxsOk (moreB l c)) (bxIds (moreB l c)) p = false := by
      rw [moreB_bad (by omega)]
      cases hx : plOk h false (bxIds (moreB l c)) p
      · rfl
      · exact absurd (plOk_iff.1 hx).2.1 (by simp)
    rw [nextI_bad hb] at hkl
    simp at hkl
end Go.Proofs.Ytlccmgdmfchmnaa
