/-
  Plain mathematics of plugs: the first of the best lists, box by box (what was given before stays as the only plug of its box); and the plugs of some boxes, sorted, each once. Nothing of the program.
-/
import Derived.Test.YthlcjojhmhoadaaGPg
import Derived.Test.YthlcjojhmhoadaaGYd
namespace Go.Proofs.Ythlcjojhmhoadaa
set_option linter.unusedVariables false

/-- What is left to a box that was given a plug, or none. -/
def oneP (x : Int) : List Int := if x = -1 then [] else [x]
/-- The boxes' plugs when the first k were given theirs (r) and box k has x only. -/
def leftU (u : List (List Int)) (r : List Int) (k : Nat) (x : Int) : List (List Int) := (List.range u.length).map fun j => if j < k then oneP (r.getD j 0) else if j = k then [x] else useA u j
theorem leftU_len (u : List (List Int)) (r : List Int) (k : Nat) (x : Int) : (leftU u r k x).length = u.length := by unfold leftU; simp
theorem leftU_at {u : List (List Int)} {r : List Int} {k j : Nat} {x : Int} (hj : j < u.length) : useA (leftU u r k x) j = if j < k then oneP (r.getD j 0) else if j = k then [x] else useA u j := by
  unfold useA leftU
  rw [List.getD_eq_getElem?_getD, List.getElem?_eq_getElem (by simpa using hj), Option.getD_some, List.getElem_map, List.getElem_range]
  rfl
theorem usOk_iff {l : List Int} : usOk l ↔ ∀ j, j < l.length → (0 ≤ l.getD j 0 ∧ l.getD j 0 ≤ 5) ∧ (0 < j → l.getD (j - 1) 0 < l.getD j 0) := by
  constructor
  · rintro ⟨h1, h2⟩ j hj
    refine ⟨?_, fun h0 => ?_⟩
    · rw [getD_ps hj]; have := h2 _ (List.getElem_mem hj); omega
    · rw [getD_ps hj, getD_ps (by omega)]; exact List.pairwise_iff_getElem.1 h1 (j - 1) j (by omega) hj (by omega)
  · intro h
    refine ⟨asc_pair fun j hj h0 => (h j hj).2 h0, fun x hx => ?_⟩
    obtain ⟨j, hj, rfl⟩ := List.getElem_of_mem hx
    have := (h j hj).1
    rw [getD_ps hj] at this
    omega
theorem usesOk_of {u : List (List Int)} (hl : u.length ≤ 6) (h : ∀ k, k < u.length → usOk (useA u k)) : usesOk u = true := usesOk_iff.2 ⟨hl, fun k hk j hj => usOk_iff.1 (h k hk) j hj⟩
theorem usOk_one {x : Int} (h0 : 0 ≤ x) (h1 : x < 6) : usOk [x] := ⟨by simp, fun y hy => by rw [List.mem_singleton] at hy; omega⟩
theorem leftU_ok {u : List (List Int)} {r : List Int} {k : Nat} {x : Int} (hu : usesOk u = true) (hr : ∀ j, j < k → j < u.length → r.getD j 0 = -1 ∨ (0 ≤ r.getD j 0 ∧ r.getD j 0 < 6)) (h0 : 0 ≤ x) (h1 : x < 6) : usesOk (leftU u r k x) = true := by
  refine usesOk_of (by rw [leftU_len]; exact (usesOk_iff.1 hu).1) fun j hj => ?_
  rw [leftU_len] at hj
  rw [leftU_at hj]
  by_cases c1 : j < k
  · rw [if_pos c1]
    unfold oneP
    rcases hr j c1 hj with h | h
    · rw [if_pos h]; exact ⟨by simp, fun y hy => by cases hy⟩
    · rw [if_neg (by omega)]; exact usOk_one h.1 h.2
  · rw [if_neg c1]
    by_cases c2 : j = k
    · rw [if_pos c2]; exact usOk_one h0 h1
    · rw [if_neg c2]; exact usesOk_us hu j hj
theorem plugM_VF {u : List (List Int)} (hu : usesOk u = true) {g : Nat → Int} (h : VF u u.length g) : (cntF g u.length : Int) ≤ plugM u := by
  have h1 := VF_most hu h
  rw [plugsOk_cnt (plugI_ok hu)] at h1
  unfold plugM
  rw [if_pos hu]
  omega
theorem plugM_cnt {u : List (List Int)} (hu : usesOk u = true) : plugM u = (cntF (fun k => (plugI u).getD k 0) u.length : Int) := by
  rw [plugsOk_cnt (plugI_ok hu)]
  unfold plugM
  rw [if_pos hu]
/-- What the boxes were given is given to them again, without a loss. -/
theorem refix {u : List (List Int)} {n k : Nat} {c : Nat → Int} {f : Nat → Int} {m : Nat} (hk : k ≤ n) (hone : ∀ j, j < k → useA u j = oneP (c j)) (hinj : ∀ i j, i < k → j < k → c i ≠ -1 → c i = c j → i = j) (hv : VF u n f) (hm : m ≤ cntF f n) : ∀ i, i ≤ k → ∃ g, VF u n g ∧ m ≤ cntF g n ∧ ∀ j, j < i → g j = c j
  | 0, _ => ⟨f, hv, hm, fun j hj => by omega⟩
  | i + 1, hi => by
    obtain ⟨g, g1, g2, g3⟩ := refix hk hone hinj hv hm i (by omega)
    have hmem : ∀ x, x ∈ useA u i → x = c i ∧ c i ≠ -1 := fun x hx => by
      rw [hone i (by omega)] at hx
      unfold oneP at hx
      by_cases e : c i = -1
      · rw [if_pos e] at hx; cases hx
      · rw [if_neg e, List.mem_singleton] at hx; exact ⟨hx, e⟩
    by_cases hgi : g i = c i
    · refine ⟨g, g1, g2, fun j hj => ?_⟩
      by_cases e : j = i
      · rw [e]; exact hgi
      · exact g3 j (by omega)
    · have hgn : g i = -1 := Classical.byContradiction fun hne => hgi (hmem _ (g1.1 i (by omega) hne)).1
      have hci : c i ≠ -1 := fun e => hgi (by rw [hgn, e])
      have hin : c i ∈ useA u i := by rw [hone i (by omega)]; unfold oneP; rw [if_neg hci]; exact List.mem_singleton.2 rfl
      by_cases hl : ∃ l, l < n ∧ g l = c i
      · obtain ⟨l, l1, l2⟩ := hl
        have hli : l ≠ i := fun e => by rw [e, hgn] at l2; exact hci l2.symm
        refine ⟨updF (updF g l (-1)) i (c i), (g1.drop).upd hin fun j hj => ?_, ?_, fun j hj => ?_⟩
        · by_cases e : j = l
          · rw [e, updF_self]; exact fun h => hci h.symm
          · rw [updF_ne e]
            exact fun h => e (g1.2 j l hj l1 (by rw [h]; exact hci) (by rw [h, l2]))
        · have h1 := cntF_drop (f := g) (k := l) n l1
          rw [if_neg (by rw [l2]; exact hci)] at h1
          have h2 := cntF_upd (f := updF g l (-1)) (k := i) hci n (by omega)
          rw [if_pos (by rw [updF_ne (fun e => hli e.symm)]; exact hgn)] at h2
          omega
        · by_cases e : j = i
          · rw [e, updF_self]
          · rw [updF_ne e]
            have hjl : j ≠ l := fun e2 => by
              have h1 := g3 j (by omega)
              rw [e2, l2] at h1
              have := hinj i l (by omega) (by omega) hci h1
              omega
            rw [updF_ne hjl]
            exact g3 j (by omega)
      · refine ⟨updF g i (c i), g1.upd hin fun j hj h => hl ⟨j, hj, h⟩, ?_, fun j hj => ?_⟩
        · have h2 := cntF_upd (f := g) (k := i) hci n (by omega)
          omega
        · by_cases e : j = i
          · rw [e, updF_self]
          · rw [updF_ne e]; exact g3 j (by omega)
theorem lex_first {b : List Int} : ∀ {s : List Int} {k : Nat}, k < s.length → s.length = b.length → (∀ j, j < k → s.getD j 0 = b.getD j 0) → keyP (s.getD k 0) < keyP (b.getD k 0) → ¬ lexLe b s := by
  induction b with
  | nil => intro s k hk hl _ _; simp at hl; rw [hl] at hk; simp at hk
  | cons y b ih =>
    intro s k hk hl hs hlt hle
    cases s with
    | nil => simp at hk
    | cons x s =>
      cases k with
      | zero =>
        rw [List.getD_cons_zero, List.getD_cons_zero] at hlt
        rcases hle with h | h
        · rw [List.cons.injEq] at h; rw [h.1] at hlt; exact absurd hlt (Int.lt_irrefl _)
        · rcases h with h | ⟨h, _⟩
          · exact absurd (Int.lt_trans hlt h) (Int.lt_irrefl _)
          · rw [h] at hlt; exact absurd hlt (Int.lt_irrefl _)
      | succ k =>
        have h0 := hs 0 (by omega)
        rw [List.getD_cons_zero, List.getD_cons_zero] at h0
        refine ih (s := s) (k := k) (by simpa using hk) (by simpa using hl) (fun j hj => by simpa using hs (j + 1) (by omega)) (by simpa using hlt) ?_
        rcases hle with h | h
        · rw [List.cons.injEq] at h; exact .inl h.2
        · rcases h with h | ⟨_, h⟩
          · rw [h0] at h; exact absurd h (Int.lt_irrefl _)
          · exact .inr h
section
variable {u : List (List Int)} (hu : usesOk u = true)
include hu
theorem best_len : (plugI u).length = u.length := (plugsOk_iff.1 (plugI_ok hu)).2.1
theorem best_at {j : Nat} (hj : j < u.length) : (plugI u).getD j 0 = -1 ∨ (0 ≤ (plugI u).getD j 0 ∧ (plugI u).getD j 0 < 6) := by
  have hl := best_len hu
  have := plugsOk_val (plugI_ok hu) ((plugI u).getD j 0) (by rw [getD_ps (by omega)]; exact List.getElem_mem _)
  exact this
theorem best_use {j : Nat} (hj : j < u.length) (hne : (plugI u).getD j 0 ≠ -1) : (plugI u).getD j 0 ∈ useA u j ∧ (plugI u).getD j 0 ∉ (plugI u).take j :=
  (plugsOk_iff.1 (plugI_ok hu)).2.2 j (by rw [best_len hu]; exact hj) hne
/-- What is left leaves no more than there was. -/
theorem left_le {k : Nat} {x : Int} (hk : k < u.length) (hx : x ∈ useA u k) {f : Nat → Int} (h : VF (leftU u (plugI u) k x) u.length f) : VF u u.length f := by
  refine ⟨fun j hj hne => ?_, h.2⟩
  have hm := h.1 j hj hne
  rw [leftU_at hj] at hm
  by_cases c1 : j < k
  · rw [if_pos c1] at hm
    unfold oneP at hm
    by_cases e : (plugI u).getD j 0 = -1
    · rw [if_pos e] at hm; cases hm
    · rw [if_neg e, List.mem_singleton] at hm
      rw [hm]; exact (best_use hu hj e).1
  · rw [if_neg c1] at hm
    by_cases c2 : j = k
    · rw [if_pos c2, List.mem_singleton] at hm
      rw [hm, c2]; exact hx
    · rw [if_neg c2] at hm; exact hm
/-- With the plug that the best list has as many can be plugged in. -/
theorem left_yes {k : Nat} {x : Int} (hk : k < u.length) (hx : x ∈ useA u k) (he : (plugI u).getD k 0 = x) : plugM (leftU u (plugI u) k x) = plugM u := by
  have hx6 := (usesOk_us hu k hk).2 x hx
  have hlu := leftU_ok (k := k) (r := plugI u) hu (fun j _ hj => best_at hu hj) hx6.1 hx6.2
  have hl := leftU_len u (plugI u) k x
  refine Int.le_antisymm ?_ ?_
  · rw [plugM_cnt hlu, hl]
    have := plugsOk_VF (plugI_ok hlu)
    rw [hl] at this
    exact plugM_VF hu (left_le hu hk hx this)
  · rw [plugM_cnt hu]
    have hv := plugsOk_VF (plugI_ok hu)
    have hv2 : VF (leftU u (plugI u) k x) (leftU u (plugI u) k x).length fun j => (plugI u).getD j 0 := by
      rw [hl]
      refine ⟨fun j hj hne => ?_, hv.2⟩
      rw [leftU_at hj]
      by_cases c1 : j < k
      · rw [if_pos c1]; unfold oneP; rw [if_neg hne]; exact List.mem_singleton.2 rfl
      · rw [if_neg c1]
        by_cases c2 : j = k
        · rw [if_pos c2, List.mem_singleton, c2]; exact he
        · rw [if_neg c2]; exact hv.1 j hj hne
    have := plugM_VF hlu hv2
    rw [hl] at this
    exact this
/-- With a lesser one, not as many. -/
theorem left_no {k : Nat} {x : Int} (hk : k < u.length) (hx : x ∈ useA u k) (hnew : x ∉ (plugI u).take k) (hlt : keyP x < keyP ((plugI u).getD k 0)) : plugM (leftU u (plugI u) k x) ≠ plugM u := by
  intro he
  have hx6 := (usesOk_us hu k hk).2 x hx
  have hx1 : x ≠ -1 := by omega
  have hlu := leftU_ok (k := k) (r := plugI u) hu (fun j _ hj => best_at hu hj) hx6.1 hx6.2
  have hl := leftU_len u (plugI u) k x
  have hbl := best_len hu
  have hv := plugsOk_VF (plugI_ok hlu)
  rw [hl] at hv
  have hm := plugM_cnt hlu
  rw [hl, he, plugM_cnt hu] at hm
  obtain ⟨c, hc⟩ : ∃ c : Nat → Int, c = fun j => if j < k then (plugI u).getD j 0 else x := ⟨_, rfl⟩
  have hc1 : ∀ j, j < k → c j = (plugI u).getD j 0 := fun j hj => by rw [hc]; exact if_pos hj
  have hck : c k = x := by rw [hc]; exact if_neg (Nat.lt_irrefl k)
  have hone : ∀ j, j < k + 1 → useA (leftU u (plugI u) k x) j = oneP (c j) := fun j hj => by
    rw [leftU_at (by omega)]
    by_cases c1 : j < k
    · rw [if_pos c1, hc1 j c1]
    · have : j = k := by omega
      subst this
      rw [if_neg c1, if_pos rfl, hck]; unfold oneP; rw [if_neg hx1]
  have hbv := plugsOk_VF (plugI_ok hu)
  have hinj : ∀ i j, i < k + 1 → j < k + 1 → c i ≠ -1 → c i = c j → i = j := fun i j hi hj hne e => by
    by_cases ci : i < k
    · by_cases cj : j < k
      · rw [hc1 i ci, hc1 j cj] at e
        rw [hc1 i ci] at hne
        exact hbv.2 i j (by omega) (by omega) hne e
      · have : j = k := by omega
        subst this
        rw [hc1 i ci, hck] at e
        exact absurd (mem_takeP.2 ⟨i, ci, by omega, e⟩) hnew
    · have : i = k := by omega
      subst this
      by_cases cj : j < i
      · rw [hck, hc1 j cj] at e
        exact absurd (mem_takeP.2 ⟨j, cj, by omega, e.symm⟩) hnew
      · omega
  obtain ⟨g, g1, g2, g3⟩ := refix (k := k + 1) (n := u.length) (c := c) (by omega) hone hinj hv (Nat.le_refl _) (k + 1) (Nat.le_refl _)
  have gv := left_le hu hk hx g1
  have hsl : ((List.range u.length).map g).length = u.length := by simp
  have hse : ∀ j, j < u.length → ((List.range u.length).map g).getD j 0 = g j := fun j hj => by
    rw [getD_ps (by rw [hsl]; exact hj)]; simp
  have hsv : VF u u.length fun j => ((List.range u.length).map g).getD j 0 := by
    refine ⟨fun j hj hne => ?_, fun i j hi hj hne hq => ?_⟩
    · simp only [hse j hj] at hne ⊢; exact gv.1 j hj hne
    · simp only [hse i hi, hse j hj] at hne hq; exact gv.2 i j hi hj hne hq
  have hsok := VF_plugsOk hu hsl hsv
  obtain ⟨q1, q2⟩ := plugsOk_okR.1 hsok
  have hbest := (bestS_law u [] (usesOk_mem hu)).2 _ q2
  have hpi : bestS u [] = plugI u := by unfold plugI; rw [if_pos hu]
  rw [hpi] at hbest
  have hmany : manyP ((List.range u.length).map g) = manyP (plugI u) := by
    refine Nat.le_antisymm hbest.1 ?_
    rw [← plugsOk_cnt hsok, ← plugsOk_cnt (plugI_ok hu), cntF_congr (g := g) u.length hse]
    omega
  refine lex_first (b := plugI u) (s := (List.range u.length).map g) (k := k) (by rw [hsl]; exact hk) (by rw [hsl, hbl]) (fun j hj => ?_) ?_ (hbest.2 hmany)
  · rw [hse j (by omega), g3 j (by omega), hc1 j hj]
  · rw [hse k hk, g3 k (by omega), hck]; exact hlt
end
/-- The plugs of some boxes, one behind the other. -/
def catU (u : List (List Int)) (some : List Int) (k : Nat) : List Int := (some.take k).flatMap fun x => useA u x.toNat
theorem catU_zero (u : List (List Int)) (some : List Int) : catU u some 0 = [] := by unfold catU; simp
theorem catU_next {u : List (List Int)} {some : List Int} {k : Nat} (hk : k < some.length) : catU u some (k + 1) = catU u some k ++ useA u (some.getD k 0).toNat := by
  unfold catU
  rw [← List.take_append_getElem hk, List.flatMap_append, getD_ps hk]
  simp
theorem useA_len {u : List (List Int)} (hu : usesOk u = true) (k : Nat) : (useA u k).length ≤ 6 := by
  by_cases hk : k < u.length
  · obtain ⟨h1, h2⟩ := usesOk_us hu k hk
    have hn : (useA u k).Nodup := h1.imp fun h => Int.ne_of_lt h
    have := List.Nodup.length_le_of_subset hn (l₂ := (List.range 6).map Int.ofNat) fun x hx => by
      have := h2 x hx
      exact List.mem_map.2 ⟨x.toNat, List.mem_range.2 (by omega), by show ((x.toNat : Nat) : Int) = x; omega⟩
    simpa using this
  · unfold useA
    rw [List.getD_eq_getElem?_getD, List.getElem?_eq_none (by omega)]
    simp
theorem catU_len {u : List (List Int)} (hu : usesOk u = true) (some : List Int) : ∀ k, (catU u some k).length ≤ 6 * k
  | 0 => by rw [catU_zero]; simp
  | k + 1 => by
    have ih := catU_len hu some k
    by_cases hk : k < some.length
    · rw [catU_next hk, List.length_append]
      have := useA_len hu (some.getD k 0).toNat
      omega
    · have : catU u some (k + 1) = catU u some k := by
        unfold catU
        rw [List.take_of_length_le (by omega), List.take_of_length_le (by omega)]
      rw [this]; omega
theorem compact_law {zs : List Int} (hs : zs.Pairwise (· ≤ ·)) : ∀ m, m ≤ zs.length → (Lib.compactUpTo zs.toArray m).Pairwise (· < ·) ∧ ∀ x, x ∈ Lib.compactUpTo zs.toArray m ↔ ∃ j, j < m ∧ zs.getD j 0 = x
  | 0, _ => ⟨by simp [Lib.compactUpTo], fun x => by simp [Lib.compactUpTo]⟩
  | m + 1, hm => by
    obtain ⟨h1, h2⟩ := compact_law hs m (by omega)
    have hget : ∀ j, j < zs.length → zs.toArray[j]! = zs.getD j 0 := fun j hj => by rw [getD_ps hj]; simp [getElem!_pos, hj]
    rw [Lib.compactUpTo_succ]
    cases hk : Lib.keeps zs.toArray m
    · simp only [Bool.false_eq_true, if_false, List.append_nil]
      refine ⟨h1, fun x => (h2 x).trans ⟨fun ⟨j, hj, e⟩ => ⟨j, by omega, e⟩, fun ⟨j, hj, e⟩ => ?_⟩⟩
      by_cases ej : j = m
      · subst ej
        unfold Lib.keeps at hk
        have hk2 := of_decide_eq_false hk
        have hj0 : j ≠ 0 := fun h => hk2 (.inl h)
        have he : zs.toArray[j]! = zs.toArray[j - 1]! := Classical.byContradiction fun h => hk2 (.inr h)
        rw [hget j (by omega), hget (j - 1) (by omega)] at he
        exact ⟨j - 1, by omega, by rw [← he]; exact e⟩
      · exact ⟨j, by omega, e⟩
    · simp only [if_true]
      rw [hget m (by omega)]
      refine ⟨List.pairwise_append.2 ⟨h1, by simp, fun x hx y hy => ?_⟩, fun x => ?_⟩
      · rw [List.mem_singleton] at hy
        subst hy
        obtain ⟨j, hj, rfl⟩ := (h2 x).1 hx
        unfold Lib.keeps at hk
        rcases of_decide_eq_true hk with h | h
        · omega
        · rw [hget m (by omega), hget (m - 1) (by omega), getD_ps (by omega), getD_ps (by omega)] at h
          have a1 := List.pairwise_iff_getElem.1 hs (m - 1) m (by omega) (by omega) (by omega)
          have a2 : zs.getD j 0 ≤ zs[m - 1] := by
            rw [getD_ps (by omega)]
            by_cases e : j = m - 1
            · subst e; exact Int.le_refl _
            · exact List.pairwise_iff_getElem.1 hs j (m - 1) (by omega) (by omega) (by omega)
          rw [getD_ps (show m < zs.length by omega)]
          omega
      · rw [List.mem_append, List.mem_singleton, h2 x]
        constructor
        · rintro (⟨j, hj, e⟩ | e)
          · exact ⟨j, by omega, e⟩
          · exact ⟨m, by omega, e.symm⟩
        · rintro ⟨j, hj, e⟩
          by_cases ej : j = m
          · subst ej; exact .inr e.symm
          · exact .inl ⟨j, by omega, e⟩
theorem asc_ext : ∀ {a b : List Int}, a.Pairwise (· < ·) → b.Pairwise (· < ·) → (∀ x, x ∈ a ↔ x ∈ b) → a = b
  | [], [], _, _, _ => rfl
  | [], y :: b, _, _, h => absurd ((h y).2 (List.mem_cons_self ..)) (by simp)
  | x :: a, [], _, _, h => absurd ((h x).1 (List.mem_cons_self ..)) (by simp)
  | x :: a, y :: b, ha, hb, h => by
    obtain ⟨a1, a2⟩ := List.pairwise_cons.1 ha
    obtain ⟨b1, b2⟩ := List.pairwise_cons.1 hb
    have hxy : x = y := by
      rcases List.mem_cons.1 ((h x).1 (List.mem_cons_self ..)) with e | e
      · exact e
      · rcases List.mem_cons.1 ((h y).2 (List.mem_cons_self ..)) with e2 | e2
        · exact e2.symm
        · have := b1 x e; have := a1 y e2; omega
    subst hxy
    rw [asc_ext a2 b2 fun z => ?_]
    constructor
    · intro hz
      rcases List.mem_cons.1 ((h z).1 (List.mem_cons_of_mem _ hz)) with e | e
      · subst e; exact absurd (a1 z hz) (Int.lt_irrefl _)
      · exact e
    · intro hz
      rcases List.mem_cons.1 ((h z).2 (List.mem_cons_of_mem _ hz)) with e | e
      · subst e; exact absurd (b1 z hz) (Int.lt_irrefl _)
      · exact e
theorem plugN_pw (u : List (List Int)) (some : List Int) : (plugN u some).Pairwise (· < ·) := by
  unfold plugN
  refine List.Pairwise.filter _ ?_
  rw [List.pairwise_map]
  exact List.Pairwise.imp (fun {a b} (h : a < b) => by show ((a : Nat) : Int) < ((b : Nat) : Int); omega) (List.pairwise_lt_range (n := 6))
/-- The plugs of the boxes, sorted, each once. -/
theorem plugO_cat {u : List (List Int)} {some : List Int} (hu : usesOk u = true) (h : ∀ k, k < some.length → 0 ≤ some.getD k 0 ∧ some.getD k 0 < (u.length : Int)) : plugO u some = Lib.compact (sortI (catU u some some.length)) := by
  unfold plugO
  rw [if_pos ⟨hu, h⟩]
  have hc := compact_law (sortI_le (catU u some some.length)) _ (Nat.le_refl _)
  refine asc_ext (plugN_pw u some) hc.1 fun q => ?_
  refine Iff.trans ?_ (hc.2 q).symm
  have hmem : (∃ j, j < (sortI (catU u some some.length)).length ∧ (sortI (catU u some some.length)).getD j 0 = q) ↔ q ∈ catU u some some.length := by
    rw [← (sortI_perm _).mem_iff]
    constructor
    · rintro ⟨j, hj, rfl⟩; rw [getD_ps hj]; exact List.getElem_mem hj
    · intro hm
      obtain ⟨j, hj, rfl⟩ := List.getElem_of_mem hm
      exact ⟨j, hj, getD_ps hj⟩
  refine Iff.trans plugN_mem (Iff.trans ?_ hmem.symm)
  unfold catU
  rw [List.take_length, List.mem_flatMap]
  constructor
  · rintro ⟨_, k, h1, h2⟩; exact ⟨k, h1, h2⟩
  · rintro ⟨k, h1, h2⟩
    obtain ⟨j, hj, rfl⟩ := List.getElem_of_mem h1
    have := h j hj
    rw [getD_ps hj] at this
    exact ⟨(usesOk_us hu _ (by omega)).2 q h2, _, h1, h2⟩
end Go.Proofs.Ythlcjojhmhoadaa
