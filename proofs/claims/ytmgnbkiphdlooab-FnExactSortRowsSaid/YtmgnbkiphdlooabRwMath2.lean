/-
  Plain mathematics of lashing, second part: what the laws ask of sorted rows, and of boxes of one weight. Nothing of the program.
-/
import Derived.Test.YtmgnbkiphdlooabRwMath
import Derived.Test.YtmgnbkiphdlooabGOm
namespace Go.Proofs.Ytmgnbkiphdlooab
set_option linter.unusedVariables false

/-- What lies in a row, the lowest box first. -/
def rowM (T : Nat) (p : List Int) (r : Nat) : List Int := (List.range (hgtR T p r)).map fun t => pAt p (r * T + t)
theorem rowM_len (T : Nat) (p : List Int) (r : Nat) : (rowM T p r).length = hgtR T p r := by simp [rowM]
theorem rowM_at {T : Nat} {p : List Int} {r t : Nat} (ht : t < hgtR T p r) : (rowM T p r).getD t 0 = pAt p (r * T + t) := by
  unfold rowM
  rw [List.getD_eq_getElem?_getD, List.getElem?_map, List.getElem?_range ht]
  rfl
theorem rowC_parts {h : Hl} {bok : Bool} {ids p : List Int} (hk : plOk h bok ids p = true) {T R : Nat} (hTt : (T : Int) = h.t) (hT : 0 < T) (hn : p.length = R * T) {r : Nat} (hr : r < R) :
    rowC T p r = rowM T p r ++ List.replicate (T - hgtR T p r) 0 ∧ hgtR T p r ≤ T ∧ ∀ x, x ∈ rowM T p r → x ≠ 0 := by
  obtain ⟨-, f2, f3, f4⟩ := row_form hk hTt hT hn hr
  refine ⟨?_, f2, fun x hx => ?_⟩
  · refine List.ext_getElem (by rw [rowC_len, List.length_append, rowM_len, List.length_replicate]; omega) fun i h1 h2 => ?_
    rw [rowC_len] at h1
    have e : (rowC T p r)[i]'(by rw [rowC_len]; exact h1) = pAt p (r * T + i) := by
      rw [← rowC_at h1, List.getD_eq_getElem?_getD, List.getElem?_eq_getElem (by rw [rowC_len]; exact h1), Option.getD_some]
    rw [e]
    by_cases hi : i < hgtR T p r
    · rw [List.getElem_append_left (by rw [rowM_len]; exact hi)]
      simp [rowM]
    · rw [List.getElem_append_right (by rw [rowM_len]; omega), List.getElem_replicate]
      exact f4 i (by omega) h1
  · obtain ⟨t, ht, rfl⟩ := List.mem_map.1 hx
    exact f3 t (List.mem_range.1 ht)
theorem hull_t3 {h : Hl} {bok : Bool} {ids p : List Int} (hk : plOk h bok ids p = true) {T : Nat} (hTt : (T : Int) = h.t) : T ≤ 3 := by
  have := hlOk_iff.1 (plOk_iff.1 hk).1
  omega
/-- What a row holds when it is sorted. -/
theorem sort_rowM {h : Hl} {bok : Bool} {ids p : List Int} {w : Int → Int} (hk : plOk h bok ids p = true) {T R : Nat} (hTt : (T : Int) = h.t) (hT : 0 < T) (hn : p.length = R * T) {r : Nat} (hr : r < R) :
    rowC T (sortS T w p T) r = srtW w (rowM T p r) ++ List.replicate (T - hgtR T p r) 0 := by
  obtain ⟨c1, c2, c3⟩ := rowC_parts hk hTt hT hn hr
  rw [sort_row hT hn hr, c1]
  exact sortC_eq (by rw [rowM_len]; omega) (hull_t3 hk hTt) c3
theorem sort_light {h : Hl} {bok : Bool} {ids p : List Int} {w : Int → Int} (hk : plOk h bok ids p = true) {T R : Nat} (hTt : (T : Int) = h.t) (hT : 0 < T) (hn : p.length = R * T) {k : Nat} (hl : k < p.length) : lightS T w (sortS T w p T) k = false := by
  cases he : lightS T w (sortS T w p T) k
  · rfl
  · exfalso
    obtain ⟨h1, h2, h3⟩ := lightS_iff.1 he
    obtain ⟨q1, q2, q3⟩ := slot_row hT (show k < R * T by omega)
    have hs := sort_rowM (w := w) hk hTt hT hn q1
    obtain ⟨t, ht⟩ : ∃ t, t = k % T := ⟨_, rfl⟩
    obtain ⟨r, hr⟩ : ∃ r, r = k / T := ⟨_, rfl⟩
    rw [← ht] at q2 q3 h1
    rw [← hr] at q1 q3 hs
    have e1 : pAt (sortS T w p T) k = (rowC T (sortS T w p T) r).getD t 0 := by rw [rowC_at q2, q3]
    have e2 : pAt (sortS T w p T) (k - 1) = (rowC T (sortS T w p T) r).getD (t - 1) 0 := by rw [rowC_at (by omega)]; congr 1; omega
    rw [e1] at h2 h3
    rw [e2] at h3
    rw [hs] at h2 h3
    obtain ⟨-, c2, -⟩ := rowC_parts hk hTt hT hn q1
    have hlen : (srtW w (rowM T p r)).length = hgtR T p r := by rw [srtW_len, rowM_len]
    have htl : t < (srtW w (rowM T p r)).length := by
      rcases Nat.lt_or_ge t (srtW w (rowM T p r)).length with h | h
      · exact h
      · exfalso
        apply h2
        rw [List.getD_eq_getElem?_getD, List.getElem?_append_right h, List.getElem?_replicate]
        split <;> rfl
    have hp := List.pairwise_iff_getElem.1 (srtW_sorted w (rowM T p r)) (t - 1) t (by omega) htl (by omega)
    rw [List.getD_eq_getElem?_getD, List.getElem?_append_left (by omega), List.getD_eq_getElem?_getD, List.getElem?_append_left htl, List.getElem?_eq_getElem (by omega), List.getElem?_eq_getElem htl, Option.getD_some, Option.getD_some] at h3
    omega
theorem stepS_none {T : Nat} {w : Int → Int} {p : List Int} {k : Nat} (h : lightS T w p k = false) : stepS T w k p = p := if_neg (by rw [h]; simp)
theorem sortS_none {T : Nat} {w : Int → Int} {p : List Int} (h : ∀ k, k < p.length → lightS T w p k = false) : ∀ s, sortS T w p s = p
  | 0 => rfl
  | s + 1 => by
    have hp : ∀ k, k ≤ p.length → passS T w p k = p := fun k => by
      induction k with
      | zero => intro _; rfl
      | succ k ih => intro hk; rw [passS, ih (by omega), stepS_none (h k (by omega))]
    rw [sortS, sortS_none h s]
    exact hp _ (Nat.le_refl _)
theorem wsN_swap {w : Int → Int} {p : List Int} {k : Nat} (hl : k < p.length) (h0 : 0 < k) : ∀ n, wsN w (fun _ => 1) (swapP p k) n = wsN w (fun _ => 1) p n + if n = k then w (pAt p k) - w (pAt p (k - 1)) else 0
  | 0 => by rw [if_neg (by omega)]; rfl
  | n + 1 => by
    rw [wsN_next, wsN_next, wsN_swap hl h0 n, swapP_at hl h0]
    unfold swS
    by_cases h1 : n = k
    · subst h1
      rw [if_pos rfl, if_pos rfl, if_neg (by omega)]
      omega
    · rw [if_neg h1, if_neg h1]
      by_cases h2 : n = k - 1
      · subst h2
        rw [if_pos rfl, if_pos (by omega)]
        have e : pAt p (k - 1) = pAt p (k - 1) := rfl
        omega
      · rw [if_neg h2, if_neg (by omega)]
        omega
theorem rowN_swap {l : List Bx} {T : Nat} {p : List Int} {k r : Nat} (hl : k < p.length) (h1 : k % T ≠ 0) : rowN l T (swapP p k) r T = rowN l T p r T := by
  have h0 : 0 < k := Nat.pos_of_ne_zero fun e => h1 (by rw [e]; simp)
  have hne : ∀ r, r * T ≠ k := fun r e => h1 (by rw [← e]; exact Nat.mul_mod_left r T)
  have a1 := wsN_row (l := l) (T := T) (p := swapP p k) r T
  have a2 := wsN_row (l := l) (T := T) (p := p) r T
  have e : r * T + T = (r + 1) * T := (Nat.succ_mul r T).symm
  rw [wsN_swap hl h0, wsN_swap hl h0, if_neg (by rw [e]; exact hne _), if_neg (hne _)] at a1
  omega
theorem heelC_below {h : Hl} (hk : hlOk h = true) {n k T : Nat} (hn : (n : Int) = slMany h) (hTt : (T : Int) = h.t) (hT : 0 < T) (hl : k < n) (h1 : k % T ≠ 0) : heelC h (k - 1) = heelC h k ∧ trimC h (k - 1) = trimC h k := by
  have hdm := Nat.div_add_mod k T
  have hml := Nat.mod_lt k hT
  have e : (k - 1) / T = k / T := by
    have e2 : k - 1 = k / T * T + (k % T - 1) := by rw [Nat.mul_comm]; omega
    rw [e2]
    exact row_div (by omega)
  obtain ⟨p1, p2⟩ := row_place hk hn hTt (show k - 1 < n by omega) hl e
  unfold heelC trimC
  rw [p1, p2]
  exact ⟨rfl, rfl⟩
/-- What the law on SortRows asks of the result. -/
theorem sortO_law {h : Hl} {l : List Bx} {p : List Int} (hk : plOk h (bxsOk l) (bxIds l) p = true) :
    (sortO h l p).length = p.length ∧ plOk h (bxsOk l) (bxIds l) (sortO h l p) = true ∧ heelW h l (sortO h l p) = heelW h l p ∧ trimW h l (sortO h l p) = trimW h l p ∧ rowO h l (sortO h l p) = rowO h l p ∧ lightO h l (sortO h l p) = [] ∧ sortO h l (sortO h l p) = sortO h l p := by
  obtain ⟨R, q1, q2, q3⟩ := rows_pl hk
  obtain ⟨T, hT⟩ : ∃ T, T = h.t.toNat := ⟨_, rfl⟩
  rw [← hT] at q1 q2 q3
  have hS : sortO h l p = sortS T (wBx l) p T := by unfold sortO; rw [if_pos hk, hT]
  obtain ⟨z1, z2, z3, -⟩ := plOk_iff.1 hk
  have hF := sort_keep (h := h) (bok := bxsOk l) (ids := bxIds l) (w := wBx l) (T := T) q1
    (F := fun q => q.length = p.length ∧ wsum (wBx l) (heelC h) q = wsum (wBx l) (heelC h) p ∧ wsum (wBx l) (trimC h) q = wsum (wBx l) (trimC h) p ∧ ∀ r, rowN l T q r T = rowN l T p r T)
    (fun q k hq hl ht hz hf => by
      obtain ⟨f1, f2, f3, f4⟩ := hf
      have h1 : k % T ≠ 0 := fun e => ht (by rw [← q1]; omega)
      have h0 : 0 < k := Nat.pos_of_ne_zero fun e => h1 (by rw [e]; simp)
      obtain ⟨c1, c2⟩ := heelC_below (n := q.length) z1 (by rw [f1]; exact z3) q1 q2 hl h1
      exact ⟨by rw [swapP_len]; exact f1, by rw [swap_wsum hl h0 c1]; exact f2, by rw [swap_wsum hl h0 c2]; exact f3, fun r => by rw [rowN_swap hl h1]; exact f4 r⟩)
    hk ⟨rfl, rfl, rfl, fun _ => rfl⟩ T
  obtain ⟨g1, g2, g3, g4, g5⟩ := hF
  rw [← hS] at g1 g2 g3 g4 g5
  have hlight : ∀ k, k < (sortO h l p).length → lightS T (wBx l) (sortO h l p) k = false := fun k hl => by
    rw [hS] at hl ⊢
    rw [sortS_len] at hl
    exact sort_light hk q1 q2 q3 hl
  refine ⟨g2, g1, ?_, ?_, ?_, ?_, ?_⟩
  · unfold heelW; rw [if_pos g1, if_pos hk, g3]
  · unfold trimW; rw [if_pos g1, if_pos hk, g4]
  · unfold rowO rowsMany rowsW
    rw [if_pos g1, if_pos hk, g2, ← hT]
    exact List.map_congr_left fun r _ => g5 r
  · unfold lightO
    rw [if_pos g1, ← hT, List.filter_eq_nil_iff.2 (fun k hk' => by rw [hlight k (List.mem_range.1 hk')]; simp)]
    rfl
  · have e : sortO h l (sortO h l p) = sortS T (wBx l) (sortO h l p) T := by
      rw [show sortO h l (sortO h l p) = if plOk h (bxsOk l) (bxIds l) (sortO h l p) = true then sortS h.t.toNat (wBx l) (sortO h l p) h.t.toNat else [] from rfl, if_pos g1, hT]
    rw [e]
    exact sortS_none hlight T
theorem pass_ok {h : Hl} {bok : Bool} {ids : List Int} {w : Int → Int} {T : Nat} (hTt : (T : Int) = h.t) {p : List Int} (hk : plOk h bok ids p = true) : ∀ k, k ≤ p.length → plOk h bok ids (passS T w p k) = true
  | 0, _ => hk
  | k + 1, hl => by
    have ih := pass_ok (w := w) hTt hk k (by omega)
    rw [passS]
    unfold stepS
    split
    · next hc =>
      obtain ⟨h1, h2, h3⟩ := lightS_iff.1 hc
      exact swap_ok ih (by rw [passS_len]; omega) (by rw [← hTt]; intro e; exact h1 (by omega)) h2
    · exact ih
theorem sortN_ok {h : Hl} {bok : Bool} {ids : List Int} {w : Int → Int} {T : Nat} (hTt : (T : Int) = h.t) {p : List Int} (hk : plOk h bok ids p = true) : ∀ s, plOk h bok ids (sortS T w p s) = true
  | 0 => hk
  | s + 1 => by
    rw [sortS, show p.length = (sortS T w p s).length from (sortS_len T w p s).symm]
    exact pass_ok hTt (sortN_ok hTt hk s) _ (Nat.le_refl _)
theorem sortO_bad {h : Hl} {l : List Bx} {p : List Int} (hk : plOk h (bxsOk l) (bxIds l) p = false) : sortO h l p = [] := by unfold sortO; rw [hk]; rfl
/-- Who lies on a lighter box is not in a lowest slot; the list ascends. -/
theorem lightO_law {h : Hl} {l : List Bx} {p : List Int} (hk : plOk h (bxsOk l) (bxIds l) p = true) : (∀ j, j < (lightO h l p).length → ∃ k : Nat, k < p.length ∧ k % h.t.toNat ≠ 0 ∧ (lightO h l p).getD j 0 = (k : Int)) ∧ (lightO h l p).Pairwise (· < ·) ∧ (lightO h l p).length ≤ p.length := by
  have e : lightO h l p = ((List.range p.length).filter (lightS h.t.toNat (wBx l) p)).map Int.ofNat := by unfold lightO; rw [if_pos hk]
  rw [e]
  refine ⟨fun j hj => ?_, ?_, ?_⟩
  · have hm := List.getElem_mem hj
    obtain ⟨k, h1, h2⟩ := List.mem_map.1 hm
    obtain ⟨h3, h4⟩ := List.mem_filter.1 h1
    refine ⟨k, List.mem_range.1 h3, (lightS_iff.1 h4).1, ?_⟩
    rw [List.getD_eq_getElem?_getD, List.getElem?_eq_getElem hj, Option.getD_some, ← h2]
    rfl
  · rw [List.pairwise_map]
    exact List.Pairwise.imp (fun hab => Int.ofNat_lt.2 hab) (List.Pairwise.filter _ List.pairwise_lt_range)
  · rw [List.length_map]
    exact Nat.le_trans (List.length_filter_le _ _) (by rw [List.length_range]; omega)
theorem lightO_bad {h : Hl} {l : List Bx} {p : List Int} (hk : plOk h (bxsOk l) (bxIds l) p = false) : lightO h l p = [] := by unfold lightO; rw [hk]; rfl
/-- Boxes of one weight. -/
def sameWt (l : List Bx) : List Bx := l.map fun b => { b with g := 9 }
theorem sameWt_len (l : List Bx) : (sameWt l).length = l.length := by simp [sameWt]
theorem sameWt_at {l : List Bx} {k : Nat} (hk : k < l.length) : (sameWt l)[k]'(by rw [sameWt_len]; exact hk) = { l[k] with g := 9 } := by simp [sameWt]
theorem sameWt_ids (l : List Bx) : bxIds (sameWt l) = bxIds l := by unfold bxIds sameWt; rw [List.map_map]; rfl
theorem sameWt_find : ∀ (l : List Bx) (x : Int), findB (sameWt l) x = findB l x
  | [], _ => rfl
  | b :: t, x => by
    have ih := sameWt_find t x
    show findB ({ b with g := 9 } :: sameWt t) x = findB (b :: t) x
    unfold findB
    rw [ih]
theorem sameWt_w {l : List Bx} {x : Int} (hf : 0 ≤ findB l x) : wAt (sameWt l) x = 9 := by
  have hbd := (findB_bd l x).2
  have hi : (findB l x).toNat < l.length := by omega
  unfold wAt
  rw [sameWt_find, getD_bx (by rw [sameWt_len]; exact hi), sameWt_at hi]
theorem lightO_same {h : Hl} {l : List Bx} {p : List Int} (hk : plOk h (bxsOk l) (bxIds l) p = true) : lightO h (sameWt l) p = [] := by
  unfold lightO
  split
  · rw [List.filter_eq_nil_iff.2 (fun k hk' => ?_)]
    · rfl
    · have hl := List.mem_range.1 hk'
      cases he : lightS h.t.toNat (wBx (sameWt l)) p k
      · simp
      · exfalso
        obtain ⟨h1, h2, h3⟩ := lightS_iff.1 he
        obtain ⟨R, q1, q2, q3⟩ := rows_pl hk
        have ht : ¬ (k : Int) % h.t = 0 := fun e => h1 (by rw [← q1] at e; omega)
        have hz := ((plOk_iff.1 hk).2.2.2 k hl h2).2.2 ht
        have h0 : 0 < k := Nat.pos_of_ne_zero fun e => ht (by rw [e]; simp)
        unfold wBx at h3
        rw [if_neg hz, if_neg h2, sameWt_w (pl_find hk hl h2), sameWt_w (pl_find hk (by omega) hz)] at h3
        omega
  · rfl
end Go.Proofs.Ytmgnbkiphdlooab
