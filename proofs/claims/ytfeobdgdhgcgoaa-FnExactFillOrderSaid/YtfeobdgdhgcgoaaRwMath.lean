/-
  Plain mathematics of lashing: weights of rows, who lies on a lighter box, sorted rows. Nothing of the program.
-/
import Derived.Test.YtfeobdgdhgcgoaaGWm
import Derived.Test.YtfeobdgdhgcgoaaGOm
namespace Go.Proofs.Ytfeobdgdhgcgoaa
set_option linter.unusedVariables false

/-- What the first t slots of a row weigh. -/
def rowN (l : List Bx) (T : Nat) (p : List Int) (r : Nat) : Nat → Int
  | 0 => 0
  | t + 1 => rowN l T p r t + wBx l (pAt p (r * T + t))
def rowsW (l : List Bx) (T : Nat) (p : List Int) (R : Nat) : List Int := (List.range R).map fun r => rowN l T p r T
theorem rowsW_len (l : List Bx) (T : Nat) (p : List Int) (R : Nat) : (rowsW l T p R).length = R := by simp [rowsW]
theorem rowsW_next (l : List Bx) (T : Nat) (p : List Int) (R : Nat) : rowsW l T p (R + 1) = rowsW l T p R ++ [rowN l T p R T] := by
  unfold rowsW
  rw [List.range_succ, List.map_append]
  rfl
theorem rowsW_at {l : List Bx} {T : Nat} {p : List Int} {R r : Nat} (hr : r < R) : (rowsW l T p R).getD r 0 = rowN l T p r T := by
  unfold rowsW
  rw [List.getD_eq_getElem?_getD, List.getElem?_map, List.getElem?_range hr]
  rfl
/-- How many rows a plan has. -/
def rowsMany (h : Hl) (p : List Int) : Nat := p.length / h.t.toNat
/-- What RowWeights gives. -/
def rowO (h : Hl) (l : List Bx) (p : List Int) : List Int := if plOk h (bxsOk l) (bxIds l) p = true then rowsW l h.t.toNat p (rowsMany h p) else []
theorem rowsMany_eq {h : Hl} {p : List Int} {T R : Nat} (hT : h.t = (T : Int)) (hT0 : 0 < T) (hn : p.length = R * T) : rowsMany h p = R := by
  unfold rowsMany
  rw [hn, show h.t.toNat = T by omega, Nat.mul_div_cancel _ hT0]
theorem wsN_row {l : List Bx} {T : Nat} {p : List Int} (r : Nat) : ∀ t, wsN (wBx l) (fun _ => 1) p (r * T + t) = wsN (wBx l) (fun _ => 1) p (r * T) + rowN l T p r t
  | 0 => by rw [Nat.add_zero]; show _ = _ + 0; omega
  | t + 1 => by
    rw [← Nat.add_assoc, wsN_next, wsN_row r t, Int.mul_one]
    show _ = _ + (rowN l T p r t + _)
    omega
/-- The rows are together the load. -/
theorem rowsW_sum {l : List Bx} {T : Nat} {p : List Int} : ∀ R, (rowsW l T p R).sum = wsN (wBx l) (fun _ => 1) p (R * T)
  | 0 => by rw [Nat.zero_mul]; rfl
  | R + 1 => by
    rw [rowsW_next, List.sum_append, rowsW_sum R, Nat.succ_mul, wsN_row R T, List.sum_cons, List.sum_nil]
    omega
theorem rowO_sum {h : Hl} {l : List Bx} {p : List Int} (hk : plOk h (bxsOk l) (bxIds l) p = true) : (rowO h l p).sum = loadW h l p := by
  obtain ⟨R, q1, q2, q3⟩ := rows_pl hk
  have hR : rowsMany h p = R := by unfold rowsMany; rw [q3, Nat.mul_div_cancel _ q2]
  unfold rowO loadW
  rw [if_pos hk, if_pos hk, hR, rowsW_sum, ← q3, wsN_end]
theorem rowN_bd {h : Hl} {l : List Bx} {p : List Int} (hk : plOk h (bxsOk l) (bxIds l) p = true) {T r : Nat} (hr : r * T + T ≤ p.length) : ∀ t, t ≤ T → 0 ≤ rowN l T p r t ∧ rowN l T p r t ≤ 30 * t
  | 0, _ => by constructor <;> exact Int.le_refl _
  | t + 1, ht => by
    have h1 := rowN_bd hk hr t (by omega)
    have h2 := wBx_bd hk (k := r * T + t) (by omega)
    have e : rowN l T p r (t + 1) = rowN l T p r t + wBx l (pAt p (r * T + t)) := rfl
    rw [e]
    omega
/-- Whether all rows are at most so heavy. -/
def bearO (h : Hl) (l : List Bx) (p : List Int) (most : Int) : Bool := decide (plOk h (bxsOk l) (bxIds l) p = true ∧ ∀ r, r < rowsMany h p → rowN l h.t.toNat p r h.t.toNat ≤ most)
theorem bearO_iff {h : Hl} {l : List Bx} {p : List Int} {most : Int} : bearO h l p most = true ↔ plOk h (bxsOk l) (bxIds l) p = true ∧ ∀ r, r < rowsMany h p → rowN l h.t.toNat p r h.t.toNat ≤ most := decide_eq_true_iff
theorem bearO_more {h : Hl} {l : List Bx} {p : List Int} {most : Int} (hb : bearO h l p most = true) : bearO h l p (most + 1) = true := by
  obtain ⟨h1, h2⟩ := bearO_iff.1 hb
  exact bearO_iff.2 ⟨h1, fun r hr => by have := h2 r hr; omega⟩
theorem rowN_le {l : List Bx} {T : Nat} {p q : List Int} {r : Nat} : ∀ t, (∀ s, s < t → wBx l (pAt q (r * T + s)) ≤ wBx l (pAt p (r * T + s))) → rowN l T q r t ≤ rowN l T p r t
  | 0, _ => Int.le_refl _
  | t + 1, h => by
    have h1 := rowN_le t (fun s hs => h s (by omega))
    have h2 := h t (by omega)
    show rowN l T q r t + _ ≤ rowN l T p r t + _
    omega
theorem bearO_take {h : Hl} {l : List Bx} {p : List Int} {most : Int} {k : Nat} (hb : bearO h l p most = true) (hk : k < p.length) (hk2 : plOk h (bxsOk l) (bxIds l) (p.set k 0) = true) : bearO h l (p.set k 0) most = true := by
  obtain ⟨h1, h2⟩ := bearO_iff.1 hb
  obtain ⟨R, q1, q2, q3⟩ := rows_pl h1
  have hR : rowsMany h p = R := by unfold rowsMany; rw [q3, Nat.mul_div_cancel _ q2]
  have hR2 : rowsMany h (p.set k 0) = R := by unfold rowsMany; rw [List.length_set, q3, Nat.mul_div_cancel _ q2]
  rw [hR] at h2
  refine bearO_iff.2 ⟨hk2, fun r hr => ?_⟩
  rw [hR2] at hr
  refine Int.le_trans (rowN_le _ fun s hs => ?_) (h2 r hr)
  have hl := colT_own q3 hr hs
  by_cases e : k = r * h.t.toNat + s
  · rw [← e, pAt_set_self hk]
    have := (wBx_bd h1 hk).1
    unfold wBx
    rw [if_pos rfl]
    exact this
  · rw [pAt_set_ne e]
    exact Int.le_refl _
/-- Whether the box in a slot is heavier than the one directly below it. -/
def lightS (T : Nat) (w : Int → Int) (p : List Int) (k : Nat) : Bool := decide (k % T ≠ 0 ∧ pAt p k ≠ 0 ∧ w (pAt p (k - 1)) < w (pAt p k))
theorem lightS_iff {T : Nat} {w : Int → Int} {p : List Int} {k : Nat} : lightS T w p k = true ↔ k % T ≠ 0 ∧ pAt p k ≠ 0 ∧ w (pAt p (k - 1)) < w (pAt p k) := decide_eq_true_iff
/-- What OnLighter gives. -/
def lightO (h : Hl) (l : List Bx) (p : List Int) : List Int := if plOk h (bxsOk l) (bxIds l) p = true then ((List.range p.length).filter (lightS h.t.toNat (wBx l) p)).map Int.ofNat else []
/-- Two slots of a row exchanged. -/
def swapP (p : List Int) (k : Nat) : List Int := (p.set k (pAt p (k - 1))).set (k - 1) (pAt p k)
theorem swapP_len (p : List Int) (k : Nat) : (swapP p k).length = p.length := by unfold swapP; rw [List.length_set, List.length_set]
def swS (k j : Nat) : Nat := if j = k then k - 1 else if j = k - 1 then k else j
theorem swapP_at {p : List Int} {k j : Nat} (hk : k < p.length) (h0 : 0 < k) : pAt (swapP p k) j = pAt p (swS k j) := by
  unfold swapP swS
  by_cases h1 : j = k
  · subst h1
    rw [if_pos rfl, pAt_set_ne (by omega), pAt_set_self hk]
  · rw [if_neg h1]
    by_cases h2 : j = k - 1
    · subst h2
      rw [if_pos rfl, pAt_set_self (by rw [List.length_set]; omega)]
    · rw [if_neg h2, pAt_set_ne (fun e => h2 e.symm), pAt_set_ne (fun e => h1 e.symm)]
theorem swS_inj {k a b : Nat} (h0 : 0 < k) (h : swS k a = swS k b) : a = b := by
  unfold swS at h
  repeat' split at h
  all_goals omega
theorem swS_lt {k j n : Nat} (hk : k < n) (hj : j < n) : swS k j < n := by
  unfold swS
  repeat' split
  all_goals omega
/-- With two boxes of a row exchanged a valid plan is valid. -/
theorem swap_ok {h : Hl} {bok : Bool} {ids p : List Int} (hk : plOk h bok ids p = true) {k : Nat} (hl : k < p.length) (ht : ¬ (k : Int) % h.t = 0) (hz : pAt p k ≠ 0) : plOk h bok ids (swapP p k) = true := by
  obtain ⟨q1, q2, q3, q4⟩ := plOk_iff.1 hk
  have h0 : 0 < k := Nat.pos_of_ne_zero fun e => ht (by subst e; simp)
  have hz1 : pAt p (k - 1) ≠ 0 := (q4 k hl hz).2.2 ht
  have hzz : ∀ j, pAt (swapP p k) j ≠ 0 ↔ pAt p j ≠ 0 := fun j => by
    rw [swapP_at hl h0]
    unfold swS
    by_cases h1 : j = k
    · subst h1; rw [if_pos rfl]; exact ⟨fun _ => hz, fun _ => hz1⟩
    · rw [if_neg h1]
      by_cases h2 : j = k - 1
      · subst h2; rw [if_pos rfl]; exact ⟨fun _ => hz1, fun _ => hz⟩
      · rw [if_neg h2]
  refine plOk_iff.2 ⟨q1, q2, by rw [swapP_len]; exact q3, fun j hj hne => ?_⟩
  rw [swapP_len] at hj
  have hnj := (hzz j).1 hne
  have hne' := hne
  rw [swapP_at hl h0] at hne'
  refine ⟨?_, fun hm => ?_, fun htj => ?_⟩
  · rw [swapP_at hl h0]
    exact (q4 _ (swS_lt hl hj) hne').1
  · obtain ⟨i, h1, h2, h3⟩ := mem_take hm
    rw [swapP_len] at h2
    rw [swapP_at hl h0, swapP_at hl h0] at h3
    have := plOk_inj hk (swS_lt hl h2) (swS_lt hl hj) h3 (by rw [h3]; exact hne')
    have := swS_inj h0 this
    omega
  · exact (hzz (j - 1)).2 ((q4 j hj hnj).2.2 htj)
theorem swap_wsum {w : Int → Int} {f : Nat → Int} {p : List Int} {k : Nat} (hl : k < p.length) (h0 : 0 < k) (hf : f (k - 1) = f k) : wsum w f (swapP p k) = wsum w f p := by
  unfold swapP
  rw [wsum_set (by rw [List.length_set]; omega), wsum_set hl, pAt_set_ne (by omega), hf]
  omega
/-- One step of sorting, a pass over the slots, and several of them. -/
def stepS (T : Nat) (w : Int → Int) (k : Nat) (p : List Int) : List Int := if lightS T w p k = true then swapP p k else p
def passS (T : Nat) (w : Int → Int) (p : List Int) : Nat → List Int
  | 0 => p
  | k + 1 => stepS T w k (passS T w p k)
def sortS (T : Nat) (w : Int → Int) (p : List Int) : Nat → List Int
  | 0 => p
  | s + 1 => passS T w (sortS T w p s) p.length
/-- What SortRows gives. -/
def sortO (h : Hl) (l : List Bx) (p : List Int) : List Int := if plOk h (bxsOk l) (bxIds l) p = true then sortS h.t.toNat (wBx l) p h.t.toNat else []
theorem stepS_len (T : Nat) (w : Int → Int) (k : Nat) (p : List Int) : (stepS T w k p).length = p.length := by
  unfold stepS
  split
  · exact swapP_len p k
  · rfl
theorem passS_len (T : Nat) (w : Int → Int) (p : List Int) : ∀ k, (passS T w p k).length = p.length
  | 0 => rfl
  | k + 1 => by rw [passS, stepS_len, passS_len T w p k]
theorem sortS_len (T : Nat) (w : Int → Int) (p : List Int) : ∀ s, (sortS T w p s).length = p.length
  | 0 => rfl
  | s + 1 => by rw [sortS, passS_len, sortS_len T w p s]
/-- What every exchange within a row keeps, sorting keeps. -/
theorem sort_keep {h : Hl} {bok : Bool} {ids : List Int} {w : Int → Int} {T : Nat} (hTt : (T : Int) = h.t) {F : List Int → Prop} (hF : ∀ p k, plOk h bok ids p = true → k < p.length → ¬ (k : Int) % h.t = 0 → pAt p k ≠ 0 → F p → F (swapP p k)) :
    ∀ {p : List Int}, plOk h bok ids p = true → F p → ∀ s, plOk h bok ids (sortS T w p s) = true ∧ F (sortS T w p s) := by
  have hstep : ∀ (p : List Int) k, plOk h bok ids p = true → F p → k < p.length → plOk h bok ids (stepS T w k p) = true ∧ F (stepS T w k p) := fun p k hk hf hl => by
    unfold stepS
    split
    · next hc =>
      obtain ⟨h1, h2, h3⟩ := lightS_iff.1 hc
      have ht : ¬ (k : Int) % h.t = 0 := by rw [← hTt]; intro e; exact h1 (by omega)
      exact ⟨swap_ok hk hl ht h2, hF p k hk hl ht h2 hf⟩
    · exact ⟨hk, hf⟩
  have hpass : ∀ (p : List Int), plOk h bok ids p = true → F p → ∀ k, k ≤ p.length → plOk h bok ids (passS T w p k) = true ∧ F (passS T w p k) := fun p hk hf k => by
    induction k with
    | zero => intro _; exact ⟨hk, hf⟩
    | succ k ih =>
      intro hl
      obtain ⟨h1, h2⟩ := ih (by omega)
      exact hstep _ k h1 h2 (by rw [passS_len]; omega)
  intro p hk hf s
  induction s with
  | zero => exact ⟨hk, hf⟩
  | succ s ih =>
    have e : p.length = (sortS T w p s).length := (sortS_len T w p s).symm
    rw [sortS, e]
    exact hpass _ ih.1 ih.2 _ (Nat.le_refl _)
/-- A row of a plan, the lowest slot first. -/
def rowC (T : Nat) (p : List Int) (r : Nat) : List Int := (List.range T).map fun t => pAt p (r * T + t)
theorem rowC_len (T : Nat) (p : List Int) (r : Nat) : (rowC T p r).length = T := by simp [rowC]
theorem rowC_at {T : Nat} {p : List Int} {r t : Nat} (ht : t < T) : (rowC T p r).getD t 0 = pAt p (r * T + t) := by
  unfold rowC
  rw [List.getD_eq_getElem?_getD, List.getElem?_map, List.getElem?_range ht]
  rfl
def stepC (w : Int → Int) (t : Nat) (c : List Int) : List Int := if t ≠ 0 ∧ c.getD t 0 ≠ 0 ∧ w (c.getD (t - 1) 0) < w (c.getD t 0) then (c.set t (c.getD (t - 1) 0)).set (t - 1) (c.getD t 0) else c
def passC (w : Int → Int) (c : List Int) : Nat → List Int
  | 0 => c
  | t + 1 => stepC w t (passC w c t)
def sortC (w : Int → Int) (T : Nat) (c : List Int) : Nat → List Int
  | 0 => c
  | s + 1 => passC w (sortC w T c s) T
theorem rowC_ext {T : Nat} {p q : List Int} {r : Nat} (h : ∀ t, t < T → pAt p (r * T + t) = pAt q (r * T + t)) : rowC T p r = rowC T q r := by
  unfold rowC
  exact List.map_congr_left fun t ht => h t (List.mem_range.1 ht)
theorem step_row {T : Nat} {w : Int → Int} {p : List Int} {r k : Nat} (hT : 0 < T) (hk : k < p.length) : rowC T (stepS T w k p) r = if k / T = r then stepC w (k % T) (rowC T p r) else rowC T p r := by
  have hdm := Nat.div_add_mod k T
  rw [Nat.mul_comm] at hdm
  have hml := Nat.mod_lt k hT
  by_cases hc : lightS T w p k = true
  · obtain ⟨h1, h2, h3⟩ := lightS_iff.1 hc
    have h0 : 0 < k := Nat.pos_of_ne_zero fun e => h1 (by rw [e]; simp)
    have e0 : stepS T w k p = swapP p k := if_pos hc
    rw [e0]
    by_cases hr : k / T = r
    · rw [if_pos hr]
      rw [hr] at hdm
      obtain ⟨t, ht⟩ : ∃ t, t = k % T := ⟨_, rfl⟩
      rw [← ht] at h1 hdm hml ⊢
      have e1 : (rowC T p r).getD t 0 = pAt p k := by rw [rowC_at hml, hdm]
      have e2 : (rowC T p r).getD (t - 1) 0 = pAt p (k - 1) := by rw [rowC_at (by omega)]; congr 1; omega
      unfold stepC
      rw [e1, e2, if_pos ⟨h1, h2, h3⟩]
      refine List.ext_getElem (by rw [rowC_len, List.length_set, List.length_set, rowC_len]) fun i hi1 hi2 => ?_
      rw [rowC_len] at hi1
      have e3 : (rowC T (swapP p k) r)[i]'(by rw [rowC_len]; exact hi1) = pAt (swapP p k) (r * T + i) := by
        rw [← rowC_at hi1, List.getD_eq_getElem?_getD, List.getElem?_eq_getElem (by rw [rowC_len]; exact hi1), Option.getD_some]
      rw [e3, swapP_at hk h0]
      unfold swS
      by_cases i1 : i = t
      · subst i1
        rw [if_pos hdm, List.getElem_set_ne (by omega), List.getElem_set_self]
      · rw [if_neg (by omega)]
        by_cases i2 : i = t - 1
        · subst i2
          rw [if_pos (by omega), List.getElem_set_self]
        · rw [if_neg (by omega), List.getElem_set_ne (by omega), List.getElem_set_ne (by omega)]
          rw [← rowC_at hi1, List.getD_eq_getElem?_getD, List.getElem?_eq_getElem (by rw [rowC_len]; exact hi1), Option.getD_some]
    · rw [if_neg hr]
      refine rowC_ext fun t ht => ?_
      rw [swapP_at hk h0]
      have hd : (r * T + t) / T = r := row_div ht
      unfold swS
      rw [if_neg (fun e => hr (by rw [← e]; exact hd)), if_neg (fun e => hr ?_)]
      have e2 : k = r * T + (t + 1) := by omega
      have ht2 : t + 1 < T := by
        rcases Nat.lt_or_ge (t + 1) T with h | h
        · exact h
        · exfalso
          have : t + 1 = T := by omega
          rw [this] at e2
          exact h1 (by rw [e2, Nat.add_comm, Nat.add_mul_mod_self_right, Nat.mod_self])
      rw [e2]
      exact row_div ht2
  · have e0 : stepS T w k p = p := if_neg hc
    rw [e0]
    by_cases hr : k / T = r
    · rw [if_pos hr]
      rw [hr] at hdm
      unfold stepC
      rw [rowC_at hml, hdm, if_neg]
      rintro ⟨h1, h2, h3⟩
      rw [rowC_at (by omega)] at h3
      rw [show r * T + (k % T - 1) = k - 1 by omega] at h3
      exact hc (lightS_iff.2 ⟨h1, h2, h3⟩)
    · rw [if_neg hr]
theorem pass_row {T : Nat} {w : Int → Int} {p : List Int} {r : Nat} (hT : 0 < T) : ∀ k, k ≤ p.length → rowC T (passS T w p k) r = passC w (rowC T p r) (min (k - r * T) T)
  | 0, _ => by simp [passS, passC]
  | k + 1, hk => by
    have hdm := Nat.div_add_mod k T
    rw [Nat.mul_comm] at hdm
    have hml := Nat.mod_lt k hT
    rw [passS, step_row hT (by rw [passS_len]; omega), pass_row hT k (by omega)]
    by_cases hr : k / T = r
    · rw [if_pos hr]
      rw [hr] at hdm
      have e1 : min (k - r * T) T = k % T := by omega
      have e2 : min (k + 1 - r * T) T = k % T + 1 := by omega
      rw [e1, e2]
      rfl
    · rw [if_neg hr]
      rcases Nat.lt_or_ge (k / T) r with h1 | h1
      · have : (k / T + 1) * T ≤ r * T := Nat.mul_le_mul_right T h1
        rw [Nat.succ_mul] at this
        rw [show min (k - r * T) T = 0 by omega, show min (k + 1 - r * T) T = 0 by omega]
      · have : (r + 1) * T ≤ k / T * T := Nat.mul_le_mul_right T (by omega)
        rw [Nat.succ_mul] at this
        rw [show min (k - r * T) T = T by omega, show min (k + 1 - r * T) T = T by omega]
theorem sort_row {T : Nat} {w : Int → Int} {p : List Int} {R r : Nat} (hT : 0 < T) (hn : p.length = R * T) (hr : r < R) : ∀ s, rowC T (sortS T w p s) r = sortC w T (rowC T p r) s
  | 0 => rfl
  | s + 1 => by
    rw [sortS]
    have e : p.length = (sortS T w p s).length := (sortS_len T w p s).symm
    rw [pass_row hT _ (Nat.le_of_eq e), sort_row hT hn hr s]
    have : (r + 1) * T ≤ R * T := Nat.mul_le_mul_right T hr
    rw [Nat.succ_mul] at this
    rw [show min (p.length - r * T) T = T by omega]
    rfl
/-- A box laid into a row that is sorted: above all that are not lighter. -/
def insW (w : Int → Int) (x : Int) : List Int → List Int
  | [] => [x]
  | y :: c => if w y < w x then x :: y :: c else y :: insW w x c
def srtW (w : Int → Int) (m : List Int) : List Int := m.foldl (fun acc x => insW w x acc) []
theorem insW_len (w : Int → Int) (x : Int) : ∀ c, (insW w x c).length = c.length + 1
  | [] => rfl
  | y :: c => by
    unfold insW
    split
    · rfl
    · rw [List.length_cons, insW_len w x c, List.length_cons]
theorem insW_mem {w : Int → Int} {x z : Int} : ∀ {c}, z ∈ insW w x c ↔ z = x ∨ z ∈ c
  | [] => by simp [insW]
  | y :: c => by
    unfold insW
    split
    · rw [List.mem_cons]
    · rw [List.mem_cons, insW_mem, List.mem_cons]
      constructor
      · rintro (h | h | h)
        · exact .inr (.inl h)
        · exact .inl h
        · exact .inr (.inr h)
      · rintro (h | h | h)
        · exact .inr (.inl h)
        · exact .inl h
        · exact .inr (.inr h)
theorem insW_sorted {w : Int → Int} {x : Int} : ∀ {c : List Int}, c.Pairwise (fun a b => w b ≤ w a) → (insW w x c).Pairwise (fun a b => w b ≤ w a)
  | [], _ => by simp [insW]
  | y :: c, h => by
    have h' := List.pairwise_cons.1 h
    unfold insW
    by_cases hc : w y < w x
    · rw [if_pos hc]
      refine List.pairwise_cons.2 ⟨fun z hz => ?_, h⟩
      rcases List.mem_cons.1 hz with e | e
      · subst e; omega
      · have := h'.1 z e; omega
    · rw [if_neg hc]
      refine List.pairwise_cons.2 ⟨fun z hz => ?_, insW_sorted h'.2⟩
      rcases insW_mem.1 hz with e | e
      · subst e; omega
      · exact h'.1 z e
theorem fold_sorted {w : Int → Int} : ∀ (m acc : List Int), acc.Pairwise (fun a b => w b ≤ w a) → (m.foldl (fun acc x => insW w x acc) acc).Pairwise (fun a b => w b ≤ w a)
  | [], acc, h => h
  | x :: m, acc, h => fold_sorted m _ (insW_sorted h)
theorem srtW_sorted (w : Int → Int) (m : List Int) : (srtW w m).Pairwise (fun a b => w b ≤ w a) := fold_sorted m [] List.Pairwise.nil
theorem fold_len {w : Int → Int} : ∀ (m acc : List Int), (m.foldl (fun acc x => insW w x acc) acc).length = acc.length + m.length
  | [], acc => rfl
  | x :: m, acc => by
    rw [List.foldl_cons, fold_len m, insW_len, List.length_cons]
    omega
theorem srtW_len (w : Int → Int) (m : List Int) : (srtW w m).length = m.length := by unfold srtW; rw [fold_len]; exact Nat.zero_add _
/-- A row of at most three, with nothing between its boxes, is sorted behind as many passes. -/
theorem sortC_eq {w : Int → Int} {m : List Int} {z T : Nat} (hT : T = m.length + z) (h3 : T ≤ 3) (hm : ∀ x, x ∈ m → x ≠ 0) : sortC w T (m ++ List.replicate z 0) T = srtW w m ++ List.replicate z 0 := by
  subst hT
  match m, z, h3, hm with
  | [], 0, _, _ => rfl
  | [], 1, _, _ => rfl
  | [], 2, _, _ => simp [sortC, passC, stepC, srtW]
  | [], 3, _, _ => simp [sortC, passC, stepC, srtW, List.replicate]
  | [], z + 4, h, _ => simp at h
  | [a], 0, _, _ => simp [sortC, passC, stepC, srtW, insW]
  | [a], 1, _, _ => simp [sortC, passC, stepC, srtW, insW]
  | [a], 2, _, _ => simp [sortC, passC, stepC, srtW, insW, List.replicate]
  | [a], z + 3, h, _ => simp at h; omega
  | [a, b], 0, _, hm =>
    have hb : b ≠ 0 := hm b (by simp)
    have ha : a ≠ 0 := hm a (by simp)
    by_cases h1 : w a < w b
    · have h2 : ¬ w b < w a := by omega
      simp [sortC, passC, stepC, srtW, insW, ha, hb, h1, h2]
    · simp [sortC, passC, stepC, srtW, insW, ha, hb, h1]
  | [a, b], 1, _, hm =>
    have hb : b ≠ 0 := hm b (by simp)
    have ha : a ≠ 0 := hm a (by simp)
    by_cases h1 : w a < w b
    · have h2 : ¬ w b < w a := by omega
      simp [sortC, passC, stepC, srtW, insW, ha, hb, h1, h2]
    · simp [sortC, passC, stepC, srtW, insW, ha, hb, h1]
  | [a, b], z + 2, h, _ => simp at h; omega
  | [a, b, c], 0, _, hm =>
    have hb : b ≠ 0 := hm b (by simp)
    have ha : a ≠ 0 := hm a (by simp)
    have hc : c ≠ 0 := hm c (by simp)
    by_cases h1 : w a < w b
    · have h1' : ¬ w b < w a := by omega
      by_cases h2 : w a < w c
      · have h2' : ¬ w c < w a := by omega
        by_cases h3 : w b < w c
        · have h3' : ¬ w c < w b := by omega
          simp [sortC, passC, stepC, srtW, insW, ha, hb, hc, h1, h2, h3, h1', h3']
        · simp [sortC, passC, stepC, srtW, insW, ha, hb, hc, h1, h2, h3, h2']
      · have h3 : ¬ w b < w c := by omega
        simp [sortC, passC, stepC, srtW, insW, ha, hb, hc, h1, h2, h3, h1']
    · by_cases h2 : w b < w c
      · have h2' : ¬ w c < w b := by omega
        by_cases h3 : w a < w c
        · have h3' : ¬ w c < w a := by omega
          simp [sortC, passC, stepC, srtW, insW, ha, hb, hc, h1, h2, h3, h3']
        · simp [sortC, passC, stepC, srtW, insW, ha, hb, hc, h1, h2, h3, h2']
      · have h3 : ¬ w a < w c := by omega
        simp [sortC, passC, stepC, srtW, insW, ha, hb, hc, h1, h2, h3]
  | [a, b, c], z + 1, h, _ => simp at h; omega
  | a :: b :: c :: d :: m, z, h, _ => simp at h; omega
end Go.Proofs.Ytfeobdgdhgcgoaa
