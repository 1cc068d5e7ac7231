/-
  Plain mathematics of dangerous boxes as the program finds them: the slots whose boxes are too near to a box in a slot. Nothing of the program.
-/
import Derived.Test.YtlccmgdmfchmnaaDaMath
import Derived.Test.YtlccmgdmfchmnaaGLm
namespace Go.Proofs.Ytlccmgdmfchmnaa
set_option linter.unusedVariables false

/-- Whether the box of slot k is too near to one of class c in slot s. -/
def nrG (h : Hl) (l : List Bx) (p : List Int) (s c : Int) (k : Nat) : Bool := decide (apartS h s (k : Int) < needC c (clsB l (pAt p k)))
/-- The slots whose boxes are too near, as numbers; those of the first j loaded slots. -/
def nrI (h : Hl) (l : List Bx) (p : List Int) (s c : Int) : List Int := ((fullS p).filter (nrG h l p s c)).map Int.ofNat
def nrJ (g : Nat → Bool) (p : List Int) (j : Nat) : List Int := (((fullS p).take j).filter g).map Int.ofNat
theorem nrJ_end (h : Hl) (l : List Bx) (p : List Int) (s c : Int) : nrJ (nrG h l p s c) p (fullS p).length = nrI h l p s c := by unfold nrJ nrI; rw [List.take_length]
theorem nrJ_next {g : Nat → Bool} {p : List Int} {j : Nat} (hj : j < (fullS p).length) : nrJ g p (j + 1) = if g (fAt p j) = true then nrJ g p j ++ [(fAt p j : Int)] else nrJ g p j := by
  have e : (fullS p)[j] = fAt p j := by unfold fAt; rw [List.getD_eq_getElem?_getD, List.getElem?_eq_getElem hj, Option.getD_some]
  unfold nrJ
  rw [← List.take_append_getElem hj, List.filter_append, List.map_append, e]
  by_cases hc : g (fAt p j) = true
  · rw [if_pos hc]; simp [hc]
  · rw [if_neg hc]; simp [hc]
theorem nrJ_le (g : Nat → Bool) (p : List Int) (j : Nat) : (nrJ g p j).length ≤ p.length := by
  have h2 : (((fullS p).take j).filter g).length ≤ (fullS p).length := Nat.le_trans (List.length_filter_le _ _) (by rw [List.length_take]; omega)
  have h3 := fullS_le p
  unfold nrJ
  rw [List.length_map]
  omega
theorem nrI_le (h : Hl) (l : List Bx) (p : List Int) (s c : Int) : (nrI h l p s c).length ≤ p.length := by rw [← nrJ_end]; exact nrJ_le _ _ _
/-- A slot is safe where there are none. -/
theorem nrI_safe (h : Hl) (l : List Bx) (p : List Int) (s c : Int) : decide ((nrI h l p s c).length = 0) = safeS h l p c s := by
  unfold safeS nrI
  rw [List.length_map]
  cases hs : (List.range p.length).all fun j => decide (pAt p j = 0) || decide (needC c (clsB l (pAt p j)) ≤ apartS h s (j : Int))
  · refine decide_eq_false fun hz => ?_
    have hn := List.eq_nil_of_length_eq_zero hz
    rw [List.filter_eq_nil_iff] at hn
    have : ((List.range p.length).all fun j => decide (pAt p j = 0) || decide (needC c (clsB l (pAt p j)) ≤ apartS h s (j : Int))) = true := by
      rw [List.all_eq_true]
      intro j hj
      rw [Bool.or_eq_true, decide_eq_true_eq, decide_eq_true_eq]
      by_cases h0 : pAt p j = 0
      · exact .inl h0
      · have h1 := hn j (fullS_mem.2 ⟨List.mem_range.1 hj, h0⟩)
        unfold nrG at h1
        rw [decide_eq_true_eq] at h1
        exact .inr (by omega)
    rw [hs] at this
    cases this
  · rw [List.all_eq_true] at hs
    refine decide_eq_true ?_
    rw [List.length_eq_zero_iff, List.filter_eq_nil_iff]
    intro j hj
    obtain ⟨h1, h2⟩ := fullS_mem.1 hj
    have h3 := hs j (List.mem_range.2 h1)
    rw [Bool.or_eq_true, decide_eq_true_eq, decide_eq_true_eq] at h3
    unfold nrG
    rw [decide_eq_true_eq]
    rcases h3 with h3 | h3
    · exact absurd h3 h2
    · omega
theorem filt_step {l : List Int} (f : Int → Bool) {k : Nat} (h : k < l.length) : (l.take (k + 1)).filter f = if f (l.getD k 0) = true then (l.take k).filter f ++ [l.getD k 0] else (l.take k).filter f := by
  have e : l.getD k 0 = l[k] := by rw [List.getD_eq_getElem?_getD, List.getElem?_eq_getElem h]; rfl
  rw [e, List.take_succ_eq_append_getElem h, List.filter_append]
  by_cases hc : f l[k] = true
  · rw [if_pos hc, List.filter_cons_of_pos hc]; rfl
  · rw [if_neg hc, List.filter_cons_of_neg hc]; simp
/-- The pairs of slot a with those of a list of slots that lie behind it; those of the first j. -/
def prJ (a : Int) (r : List Int) (j : Nat) : List (Int × Int) := ((r.take j).filter fun x => decide (a < x)).map fun x => (a, x)
theorem prJ_zero (a : Int) (r : List Int) : prJ a r 0 = [] := by simp [prJ]
theorem prJ_next {a : Int} {r : List Int} {j : Nat} (hj : j < r.length) : prJ a r (j + 1) = if a < r.getD j 0 then prJ a r j ++ [(a, r.getD j 0)] else prJ a r j := by
  have e : r[j] = r.getD j 0 := by rw [List.getD_eq_getElem?_getD, List.getElem?_eq_getElem hj, Option.getD_some]
  unfold prJ
  rw [← List.take_append_getElem hj, List.filter_append, List.map_append, e]
  generalize r.getD j 0 = x
  by_cases hc : a < x
  · rw [if_pos hc]; simp [hc]
  · rw [if_neg hc]; simp [hc]
theorem prJ_le (a : Int) (r : List Int) (j : Nat) : (prJ a r j).length ≤ r.length := by
  unfold prJ
  rw [List.length_map]
  exact Nat.le_trans (List.length_filter_le _ _) (by rw [List.length_take]; omega)
/-- All pairs of the first m loaded slots. -/
def tnN (g : Nat → Nat → Bool) (p : List Int) : Nat → List (Int × Int)
  | 0 => []
  | m + 1 => tnN g p m ++ nearA g p.length (fAt p m)
theorem tnN_le (g : Nat → Nat → Bool) (p : List Int) : ∀ m, (tnN g p m).length ≤ p.length * m
  | 0 => Nat.le_refl 0
  | m + 1 => by
    have h1 := tnN_le g p m
    have h2 := cnt_le (fun b => decide (fAt p m < b) && g (fAt p m) b) p.length
    rw [tnN, List.length_append, nearA_len, Nat.mul_succ]
    omega
theorem tnN_flat (g : Nat → Nat → Bool) (p : List Int) : ∀ m, m ≤ (fullS p).length → tnN g p m = ((fullS p).take m).flatMap (nearA g p.length)
  | 0, _ => by simp [tnN]
  | m + 1, h => by
    have hj : m < (fullS p).length := h
    have e : (fullS p)[m] = fAt p m := by unfold fAt; rw [List.getD_eq_getElem?_getD, List.getElem?_eq_getElem hj, Option.getD_some]
    rw [tnN, tnN_flat g p m (by omega), ← List.take_append_getElem hj, List.flatMap_append, e]
    simp
theorem nearN_flat {g : Nat → Nat → Bool} {p : List Int} (h0 : ∀ a, a < p.length → pAt p a = 0 → nearA g p.length a = []) : ∀ m, m ≤ p.length → nearN g p.length m = ((List.range m).filter fun k => decide (pAt p k ≠ 0)).flatMap (nearA g p.length)
  | 0, _ => rfl
  | m + 1, h => by
    rw [nearN, nearN_flat h0 m (by omega), List.range_succ, List.filter_append, List.flatMap_append]
    congr 1
    by_cases hz : pAt p m = 0
    · rw [h0 m h hz, List.filter_cons_of_neg (by simpa using hz)]; rfl
    · rw [List.filter_cons_of_pos (by simpa using hz)]; simp
theorem tnN_end {g : Nat → Nat → Bool} {p : List Int} (h0 : ∀ a, a < p.length → pAt p a = 0 → nearA g p.length a = []) : tnN g p (fullS p).length = nearN g p.length p.length := by
  rw [tnN_flat g p _ (Nat.le_refl _), List.take_length, nearN_flat h0 _ (Nat.le_refl _)]
  rfl
/-- What is in an empty slot is near to nothing. -/
theorem near_empty {h : Hl} {l : List Bx} {p : List Int} (hk : plOk h (bxsOk l) (bxIds l) p = true) {a b : Nat} (ha : a < p.length) (hb : b < p.length) (hz : pAt p a = 0 ∨ pAt p b = 0) : nearG h (fun k => clsB l (pAt p k)) a b = false := by
  obtain ⟨q1, q2, q3, q4⟩ := plOk_iff.1 hk
  have h1 := apartS_in q1 q3 ha hb
  refine decide_eq_false ?_
  simp only []
  rcases hz with hz | hz
  · have : clsB l (pAt p a) = 0 := by unfold clsB; rw [if_pos hz]
    have := needC_low (clsB l (pAt p b)) this
    omega
  · have : clsB l (pAt p b) = 0 := by unfold clsB; rw [if_pos hz]
    have h3 := needC_low (clsB l (pAt p a)) this
    rw [needC_comm] at h3
    omega
theorem near_none {h : Hl} {l : List Bx} {p : List Int} (hk : plOk h (bxsOk l) (bxIds l) p = true) : ∀ a, a < p.length → pAt p a = 0 → nearA (nearG h fun k => clsB l (pAt p k)) p.length a = [] := fun a ha hz => by
  unfold nearA
  rw [List.map_eq_nil_iff, List.filter_eq_nil_iff]
  intro b hb
  rw [near_empty hk ha (List.mem_range.1 hb) (.inl hz), Bool.and_false]
  simp
/-- The pairs of a loaded slot are those of the slots that are too near to it. -/
theorem prJ_near {h : Hl} {l : List Bx} {p : List Int} (hk : plOk h (bxsOk l) (bxIds l) p = true) {a : Nat} (ha : a < p.length) : prJ (a : Int) (nrI h l p (a : Int) (clsB l (pAt p a))) (nrI h l p (a : Int) (clsB l (pAt p a))).length = nearA (nearG h fun k => clsB l (pAt p k)) p.length a := by
  unfold prJ nrI nearA fullS
  rw [List.take_length, List.filter_map, List.filter_filter, List.map_map, List.filter_filter]
  rw [show ((fun x : Int => (((a : Int), x) : Int × Int)) ∘ Int.ofNat) = fun (b : Nat) => (((a : Int), (b : Int)) : Int × Int) from rfl]
  congr 1
  refine List.filter_congr fun b hb => ?_
  have hb' := List.mem_range.1 hb
  have e : nrG h l p (a : Int) (clsB l (pAt p a)) b = nearG h (fun k => clsB l (pAt p k)) a b := rfl
  by_cases hz : pAt p b = 0
  · rw [near_empty hk ha hb' (.inr hz), e, near_empty hk ha hb' (.inr hz)]
    simp
  · rw [e]
    simp [hz]
end Go.Proofs.Ytlccmgdmfchmnaa
