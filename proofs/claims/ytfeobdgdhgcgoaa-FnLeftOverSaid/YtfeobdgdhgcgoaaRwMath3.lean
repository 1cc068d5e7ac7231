/-
  Plain mathematics of lashing, third part: the insertion sort as the library does it, the greatest of a list, rows that are sorted one after the other. Nothing of the program.
-/
import Derived.Test.YtfeobdgdhgcgoaaRwMath2
namespace Go.Proofs.Ytfeobdgdhgcgoaa
set_option linter.unusedVariables false

/-- One number goes down to its place; the first i numbers sorted. -/
def inI (lt : Int → Int → Bool) : Nat → List Int → List Int
  | 0, c => c
  | j + 1, c => if lt (pAt c (j + 1)) (pAt c j) = true then inI lt j (swapP c (j + 1)) else c
def isN (lt : Int → Int → Bool) (c : List Int) : Nat → List Int
  | 0 => c
  | i + 1 => inI lt i (isN lt c i)
theorem inI_len (lt : Int → Int → Bool) : ∀ j c, (inI lt j c).length = c.length
  | 0, c => rfl
  | j + 1, c => by
    unfold inI
    split
    · rw [inI_len lt j, swapP_len]
    · rfl
theorem isN_len (lt : Int → Int → Bool) (c : List Int) : ∀ i, (isN lt c i).length = c.length
  | 0 => rfl
  | i + 1 => by rw [isN, inI_len, isN_len lt c i]
theorem inI_go {lt : Int → Int → Bool} {j : Nat} {c : List Int} (h : lt (pAt c (j + 1)) (pAt c j) = true) : inI lt (j + 1) c = inI lt j ((c.set (j + 1) (pAt c j)).set j (pAt c (j + 1))) := by
  rw [inI, if_pos h]
  rfl
theorem inI_stop {lt : Int → Int → Bool} {j : Nat} {c : List Int} (h : lt (pAt c (j + 1)) (pAt c j) = false) : inI lt (j + 1) c = c := by
  rw [inI, if_neg (by rw [h]; simp)]
theorem swapP_mem {c : List Int} {k : Nat} (hk : k < c.length) {x : Int} (hx : x ∈ swapP c k) : x ∈ c := by
  unfold swapP at hx
  have h1 : k - 1 < c.length := by omega
  rcases List.mem_or_eq_of_mem_set hx with h | h
  · rcases List.mem_or_eq_of_mem_set h with h2 | h2
    · exact h2
    · rw [h2, pAt_get h1]; exact List.getElem_mem h1
  · rw [h, pAt_get hk]; exact List.getElem_mem hk
theorem inI_mem {lt : Int → Int → Bool} {x : Int} : ∀ j {c : List Int}, j < c.length → x ∈ inI lt j c → x ∈ c
  | 0, c, _, h => h
  | j + 1, c, hj, h => by
    unfold inI at h
    split at h
    · exact swapP_mem hj (inI_mem j (by rw [swapP_len]; omega) h)
    · exact h
theorem isN_mem {lt : Int → Int → Bool} {x : Int} {c : List Int} : ∀ i, i ≤ c.length → x ∈ isN lt c i → x ∈ c
  | 0, _, h => h
  | i + 1, hi, h => isN_mem i (by omega) (inI_mem i (by rw [isN_len]; omega) h)
/-- At most three numbers are sorted so, in the order of what weighs more. -/
theorem isN_srt {w f : Int → Int} {lt : Int → Int → Bool} {c : List Int} (h3 : c.length ≤ 3) (hlt : ∀ x y, x ∈ c → y ∈ c → lt x y = decide (w (f y) < w (f x))) : (isN lt c c.length).map f = srtW w (c.map f) := by
  match c, h3, hlt with
  | [], _, _ => rfl
  | [a], _, _ => simp [isN, inI, srtW, insW]
  | [a, b], _, hlt =>
    have e1 := hlt b a (by simp) (by simp)
    by_cases h1 : w (f a) < w (f b)
    · simp [isN, inI, srtW, insW, swapP, pAt, e1, h1]
    · simp [isN, inI, srtW, insW, pAt, e1, h1]
  | [a, b, d], _, hlt =>
    have e1 := hlt b a (by simp) (by simp)
    have e2 := hlt d a (by simp) (by simp)
    have e3 := hlt d b (by simp) (by simp)
    by_cases h1 : w (f a) < w (f b)
    · by_cases h2 : w (f a) < w (f d)
      · by_cases h3 : w (f b) < w (f d)
        · simp [isN, inI, srtW, insW, swapP, pAt, e1, e2, e3, h1, h2, h3]
        · simp [isN, inI, srtW, insW, swapP, pAt, e1, e2, e3, h1, h2, h3]
      · have h3 : ¬ w (f b) < w (f d) := by omega
        simp [isN, inI, srtW, insW, swapP, pAt, e1, e2, h1, h2, h3]
    · by_cases h2 : w (f b) < w (f d)
      · by_cases h3 : w (f a) < w (f d)
        · simp [isN, inI, srtW, insW, swapP, pAt, e1, e2, e3, h1, h2, h3]
        · simp [isN, inI, srtW, insW, swapP, pAt, e1, e2, e3, h1, h2, h3]
      · have h3 : ¬ w (f a) < w (f d) := by omega
        simp [isN, inI, srtW, insW, pAt, e1, e3, h1, h2, h3]
  | a :: b :: d :: e :: m, h, _ => simp at h
/-- The greatest of the first numbers. -/
def mxN (L : List Int) : Nat → Int
  | 0 => pAt L 0
  | k + 1 => max (mxN L k) (pAt L k)
theorem mxN_le {L : List Int} {m : Int} (h0 : 0 < L.length) : ∀ k, k ≤ L.length → (∀ j, j < L.length → pAt L j ≤ m) → mxN L k ≤ m
  | 0, _, h => h 0 h0
  | k + 1, hk, h => by
    have h1 := mxN_le h0 k (by omega) h
    have h2 := h k (by omega)
    show max _ _ ≤ m
    omega
theorem mxN_ge {L : List Int} : ∀ k j, j < k → pAt L j ≤ mxN L k
  | k + 1, j, hj => by
    show _ ≤ max _ _
    by_cases e : j = k
    · subst e; omega
    · have := mxN_ge (L := L) k j (by omega); omega
theorem mxN_one (L : List Int) : mxN L 1 = pAt L 0 := by
  show max (pAt L 0) (pAt L 0) = _
  omega
theorem bear_max {h : Hl} {l : List Bx} {p : List Int} {most : Int} (hk : plOk h (bxsOk l) (bxIds l) p = true) (hpos : 0 < rowsMany h p) : decide (mxN (rowO h l p) (rowO h l p).length ≤ most) = bearO h l p most := by
  have e0 : rowO h l p = rowsW l h.t.toNat p (rowsMany h p) := by unfold rowO; rw [if_pos hk]
  have hat : ∀ r, r < rowsMany h p → pAt (rowO h l p) r = rowN l h.t.toNat p r h.t.toNat := fun r hr => by rw [e0]; exact rowsW_at hr
  have hlen : (rowO h l p).length = rowsMany h p := by rw [e0, rowsW_len]
  unfold bearO
  refine decide_eq_decide.2 ⟨fun hm => ⟨hk, fun r hr => ?_⟩, fun ⟨_, hm⟩ => ?_⟩
  · rw [← hat r hr]
    exact Int.le_trans (mxN_ge _ r (by rw [hlen]; exact hr)) hm
  · refine mxN_le (by omega) _ (Nat.le_refl _) fun j hj => ?_
    rw [hat j (by omega)]
    exact hm j (by omega)
/-- What a row weighs above its highest box. -/
theorem rowN_rest {l : List Bx} {T : Nat} {p : List Int} {r m : Nat} (hm : m ≤ T) (hz : ∀ t, m ≤ t → t < T → pAt p (r * T + t) = 0) : rowN l T p r T = rowN l T p r m := by
  have : ∀ d, d ≤ T - m → rowN l T p r (m + d) = rowN l T p r m := by
    intro d
    induction d with
    | zero => intro _; rfl
    | succ d ih =>
      intro hd
      rw [← Nat.add_assoc, rowN, ih (by omega), show r * T + (m + d) = r * T + (m + d) from rfl, hz (m + d) (by omega) (by omega)]
      unfold wBx
      rw [if_pos rfl]
      omega
  have h1 := this (T - m) (Nat.le_refl _)
  rwa [show m + (T - m) = T by omega] at h1
/-- The slots that are not empty, and the sorted plan while it is written. -/
def lightJ (T : Nat) (w : Int → Int) (p : List Int) (j : Nat) : List Int := (((fullS p).take j).filter (lightS T w p)).map Int.ofNat
theorem lightJ_next {T : Nat} {w : Int → Int} {p : List Int} {j : Nat} (hj : j < (fullS p).length) : lightJ T w p (j + 1) = if lightS T w p (fAt p j) = true then lightJ T w p j ++ [(fAt p j : Int)] else lightJ T w p j := by
  have e : (fullS p)[j] = fAt p j := by unfold fAt; rw [List.getD_eq_getElem?_getD, List.getElem?_eq_getElem hj, Option.getD_some]
  unfold lightJ
  rw [← List.take_append_getElem hj, List.filter_append, List.map_append, e]
  by_cases hc : lightS T w p (fAt p j) = true
  · rw [if_pos hc]; simp [hc]
  · rw [if_neg hc]; simp [hc]
theorem lightJ_zero (T : Nat) (w : Int → Int) (p : List Int) : lightJ T w p 0 = [] := by simp [lightJ]
theorem lightJ_len (T : Nat) (w : Int → Int) (p : List Int) (j : Nat) : (lightJ T w p j).length ≤ j := by
  unfold lightJ
  rw [List.length_map]
  exact Nat.le_trans (List.length_filter_le _ _) (by rw [List.length_take]; omega)
theorem lightJ_end {h : Hl} {l : List Bx} {p : List Int} (hk : plOk h (bxsOk l) (bxIds l) p = true) : lightJ h.t.toNat (wBx l) p (fullS p).length = lightO h l p := by
  unfold lightJ lightO fullS
  rw [if_pos hk, List.take_length, List.filter_filter]
  congr 1
  refine List.filter_congr fun x _ => ?_
  cases hc : lightS h.t.toNat (wBx l) p x
  · rfl
  · simp only [Bool.true_and]
    exact decide_eq_true (lightS_iff.1 hc).2.1
def SrtAt (T : Nat) (w : Int → Int) (p : List Int) (r t : Nat) (out : List Int) : Prop :=
  out.length = p.length ∧ (∀ k, k < r * T + t → pAt out k = pAt (sortS T w p T) k) ∧ ∀ k, r * T + t ≤ k → pAt out k = 0
theorem SrtAt.zero (T : Nat) (w : Int → Int) (p : List Int) : SrtAt T w p 0 0 (List.replicate p.length 0) := by
  refine ⟨by simp, fun k hk => by omega, fun k _ => ?_⟩
  unfold pAt
  rw [List.getD_eq_getElem?_getD, List.getElem?_replicate]
  split <;> rfl
theorem SrtAt.next {T : Nat} {w : Int → Int} {p : List Int} {r t : Nat} {out : List Int} (h : SrtAt T w p r t out) (hl : r * T + t < p.length) {x : Int} (hx : x = pAt (sortS T w p T) (r * T + t)) : SrtAt T w p r (t + 1) (out.set (r * T + t) x) := by
  refine ⟨by rw [List.length_set]; exact h.1, fun k hk => ?_, fun k hk => ?_⟩
  · by_cases e : r * T + t = k
    · rw [← e, pAt_set_self (by rw [h.1]; exact hl), hx]
    · rw [pAt_set_ne e]
      exact h.2.1 k (by omega)
  · rw [pAt_set_ne (by omega)]
    exact h.2.2 k (by omega)
theorem SrtAt.rest {T : Nat} {w : Int → Int} {p : List Int} {r m : Nat} {out : List Int} (h : SrtAt T w p r m out) (hm : m ≤ T) (hz : ∀ t, m ≤ t → t < T → pAt (sortS T w p T) (r * T + t) = 0) : SrtAt T w p (r + 1) 0 out := by
  have e : (r + 1) * T + 0 = r * T + T := by rw [Nat.succ_mul]; omega
  refine ⟨h.1, fun k hk => ?_, fun k hk => h.2.2 k (by omega)⟩
  rw [e] at hk
  rcases Nat.lt_or_ge k (r * T + m) with h1 | h1
  · exact h.2.1 k h1
  · have := hz (k - r * T) (by omega) (by omega)
    rw [show r * T + (k - r * T) = k by omega] at this
    rw [h.2.2 k h1, this]
theorem SrtAt.end_ {T : Nat} {w : Int → Int} {p : List Int} {R : Nat} {out : List Int} (hn : p.length = R * T) (h : SrtAt T w p R 0 out) : out = sortS T w p T := by
  refine List.ext_getElem (by rw [sortS_len]; exact h.1) fun k h1 h2 => ?_
  rw [← pAt_get h1, ← pAt_get h2]
  exact h.2.1 k (by rw [h.1] at h1; omega)
/-- What the sorted plan holds, by a row's slots sorted as the library sorts them. -/
theorem sort_at {h : Hl} {l : List Bx} {p : List Int} (hk : plOk h (bxsOk l) (bxIds l) p = true) {T R : Nat} (hT : h.t = (T : Int)) (hT0 : 0 < T) (hn : p.length = R * T) {r : Nat} (hr : r < R) {c : List Int} {lt : Int → Int → Bool}
    (hc : c.length = hgtR T p r) (hg : ∀ t, t < hgtR T p r → c.getD t 0 = ((r * T + t : Nat) : Int)) (hlt : ∀ x y, x ∈ c → y ∈ c → lt x y = decide (wBx l (pAt p y.toNat) < wBx l (pAt p x.toNat))) :
    (∀ t, t < hgtR T p r → pAt p ((isN lt c c.length).getD t 0).toNat = pAt (sortS T (wBx l) p T) (r * T + t)) ∧ (∀ t, hgtR T p r ≤ t → t < T → pAt (sortS T (wBx l) p T) (r * T + t) = 0) := by
  obtain ⟨c1, c2, c3⟩ := rowC_parts hk hT.symm hT0 hn hr
  have hs := sort_rowM (w := wBx l) hk hT.symm hT0 hn hr
  have hcm : c.map (fun x => pAt p x.toNat) = rowM T p r := by
    refine List.ext_getElem (by rw [List.length_map, rowM_len, hc]) fun t h1 h2 => ?_
    rw [rowM_len] at h2
    have e1 := hg t h2
    rw [List.getD_eq_getElem?_getD, List.getElem?_eq_getElem (by omega), Option.getD_some] at e1
    have e2 := rowM_at (p := p) h2
    rw [List.getD_eq_getElem?_getD, List.getElem?_eq_getElem (by rw [rowM_len]; exact h2), Option.getD_some] at e2
    rw [List.getElem_map, e1, e2, Int.toNat_natCast]
  have h3 := isN_srt (w := wBx l) (f := fun x => pAt p x.toNat) (lt := lt) (c := c) (by rw [hc]; have := hull_t3 hk hT.symm; omega) hlt
  rw [hcm] at h3
  have hlen : (srtW (wBx l) (rowM T p r)).length = hgtR T p r := by rw [srtW_len, rowM_len]
  refine ⟨fun t ht => ?_, fun t h1 h2 => ?_⟩
  · rw [← rowC_at (by omega : t < T), hs, List.getD_eq_getElem?_getD (l := srtW _ _ ++ _), List.getElem?_append_left (by omega), ← h3, List.getElem?_map]
    have hl : t < (isN lt c c.length).length := by rw [isN_len, hc]; exact ht
    rw [List.getElem?_eq_getElem hl, List.getD_eq_getElem?_getD, List.getElem?_eq_getElem hl]
    rfl
  · rw [← rowC_at h2, hs, List.getD_eq_getElem?_getD, List.getElem?_append_right (by omega), List.getElem?_replicate]
    split <;> rfl
end Go.Proofs.Ytfeobdgdhgcgoaa
