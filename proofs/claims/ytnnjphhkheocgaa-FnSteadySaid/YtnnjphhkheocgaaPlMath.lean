/-
  Plain mathematics of plans of a ship. Nothing of the program.
-/
import Derived.Test.YtnnjphhkheocgaaSlMath
namespace Go.Proofs.Ytnnjphhkheocgaa
set_option linter.unusedVariables false

/-- Below a slot of the ship is the one before it, but for the lowest ones. -/
theorem slBelow_val {h : Hl} {s : Int} (hk : hlOk h = true) (h0 : 0 ≤ s) (h1 : s ≤ slMany h - 1) : slBelow h s = if s % h.t = 0 then -1 else s - 1 := by
  obtain ⟨p1, p2, p3, p4⟩ := plOf_in hk h0 h1
  unfold slBelow
  rw [plOf_yes hk h0 h1]
  simp only []
  by_cases hz : s % h.t = 0
  · rw [if_pos hz, slOf_no (fun hc => by have := hc.2.2.2.1; omega)]
  · rw [if_neg hz, slOf_yes hk p1 p2 (by omega)]
    omega
/-- The id in a slot. -/
def pAt (p : List Int) (k : Nat) : Int := p.getD k 0
theorem pAt_set_self {p : List Int} {k : Nat} (h : k < p.length) (x : Int) : pAt (p.set k x) k = x := by
  unfold pAt
  rw [List.getD_eq_getElem?_getD, List.getElem?_set_self h, Option.getD_some]
theorem pAt_set_ne {p : List Int} {k j : Nat} (h : k ≠ j) (x : Int) : pAt (p.set k x) j = pAt p j := by
  unfold pAt
  rw [List.getD_eq_getElem?_getD, List.getD_eq_getElem?_getD, List.getElem?_set_ne h]
theorem pAt_get {p : List Int} {k : Nat} (h : k < p.length) : pAt p k = p[k] := getD_i h
theorem pAt_self {p : List Int} {k : Nat} (h : k < p.length) : p.set k (pAt p k) = p := by rw [pAt_get h, List.set_getElem_self]
theorem mem_take {p : List Int} {k : Nat} {x : Int} (h : x ∈ p.take k) : ∃ j, j < k ∧ j < p.length ∧ pAt p j = x := by
  obtain ⟨j, hj, rfl⟩ := List.getElem_of_mem h
  rw [List.length_take] at hj
  exact ⟨j, by omega, by omega, by rw [pAt_get (by omega), List.getElem_take]⟩
theorem take_mem {p : List Int} {k j : Nat} (hj : j < k) (hl : j < p.length) : pAt p j ∈ p.take k := by
  rw [pAt_get hl]
  have : (p.take k)[j]? = some p[j] := by rw [List.getElem?_take, if_pos hj, List.getElem?_eq_getElem hl]
  exact List.mem_of_getElem? this
/-- What a plan asks of one slot. -/
def slotOk (h : Hl) (ids : List Int) (p : List Int) (k : Nat) : Prop := pAt p k ≠ 0 → pAt p k ∈ ids ∧ pAt p k ∉ p.take k ∧ (¬ (k : Int) % h.t = 0 → pAt p (k - 1) ≠ 0)
instance (h : Hl) (ids : List Int) (p : List Int) (k : Nat) : Decidable (slotOk h ids p k) := by unfold slotOk; infer_instance
/-- Whether a plan is valid (ids: those of the boxes; bok: whether these are valid). -/
def plOk (h : Hl) (bok : Bool) (ids : List Int) (p : List Int) : Bool := decide (hlOk h = true ∧ bok = true ∧ (p.length : Int) = slMany h ∧ ∀ k, k < p.length → slotOk h ids p k)
theorem plOk_iff {h : Hl} {bok : Bool} {ids p : List Int} : plOk h bok ids p = true ↔ hlOk h = true ∧ bok = true ∧ (p.length : Int) = slMany h ∧ ∀ k, k < p.length → slotOk h ids p k := decide_eq_true_iff
theorem plOk_no {h : Hl} {bok : Bool} {ids p : List Int} (hc : ¬ (hlOk h = true ∧ bok = true ∧ (p.length : Int) = slMany h)) : plOk h bok ids p = false := by
  cases he : plOk h bok ids p
  · rfl
  · obtain ⟨h1, h2, h3, _⟩ := plOk_iff.1 he
    exact absurd ⟨h1, h2, h3⟩ hc
theorem plOk_slot {h : Hl} {bok : Bool} {ids p : List Int} {k : Nat} (hk : k < p.length) (hc : ¬ slotOk h ids p k) : plOk h bok ids p = false := by
  cases he : plOk h bok ids p
  · rfl
  · exact absurd ((plOk_iff.1 he).2.2.2 k hk) hc
/-- The plan without boxes. -/
theorem plOk_zero {h : Hl} {ids : List Int} {n : Nat} (hk : hlOk h = true) (hn : (n : Int) = slMany h) : plOk h true ids (List.replicate n 0) = true := by
  refine plOk_iff.2 ⟨hk, rfl, by simpa using hn, fun k hkl hne => ?_⟩
  rw [List.length_replicate] at hkl
  exact absurd (by rw [pAt_get (by simpa using hkl)]; simp) hne
/-- Two slots have no box in common. -/
theorem plOk_inj {h : Hl} {bok : Bool} {ids p : List Int} (hk : plOk h bok ids p = true) {i j : Nat} (hi : i < p.length) (hj : j < p.length) (he : pAt p i = pAt p j) (hz : pAt p i ≠ 0) : i = j := by
  have hs := (plOk_iff.1 hk).2.2.2
  rcases Nat.lt_trichotomy i j with h1 | h1 | h1
  · exact absurd (he ▸ take_mem h1 hi) (hs j hj (he ▸ hz)).2.1
  · exact h1
  · exact absurd (he.symm ▸ take_mem h1 hj) (hs i hi hz).2.1

/-- What PlanPut gives. -/
def putP (h : Hl) (bok : Bool) (ids p : List Int) (s id : Int) : List Int × Bool :=
  if plOk h bok ids p = true then (if (0 ≤ s ∧ s < (p.length : Int)) ∧ pAt p s.toNat = 0 ∧ id ≠ 0 ∧ plOk h bok ids (p.set s.toNat id) = true then (p.set s.toNat id, true) else (p, false)) else ([], false)
/-- What PlanTake gives. -/
def takeP (h : Hl) (bok : Bool) (ids p : List Int) (s : Int) : List Int × Int :=
  if plOk h bok ids p = true then (if (0 ≤ s ∧ s < (p.length : Int)) ∧ pAt p s.toNat ≠ 0 ∧ plOk h bok ids (p.set s.toNat 0) = true then (p.set s.toNat 0, pAt p s.toNat) else (p, -1)) else ([], -1)
theorem putP_cases (h : Hl) (bok : Bool) (ids p : List Int) (s id : Int) : (plOk h bok ids p = false ∧ putP h bok ids p s id = ([], false)) ∨ (plOk h bok ids p = true ∧ putP h bok ids p s id = (p, false)) ∨
    (plOk h bok ids p = true ∧ 0 ≤ s ∧ s < (p.length : Int) ∧ pAt p s.toNat = 0 ∧ id ≠ 0 ∧ plOk h bok ids (p.set s.toNat id) = true ∧ putP h bok ids p s id = (p.set s.toNat id, true)) := by
  cases hk : plOk h bok ids p
  · exact .inl ⟨rfl, by unfold putP; rw [hk]; rfl⟩
  · by_cases hc : (0 ≤ s ∧ s < (p.length : Int)) ∧ pAt p s.toNat = 0 ∧ id ≠ 0 ∧ plOk h bok ids (p.set s.toNat id) = true
    · exact .inr (.inr ⟨rfl, hc.1.1, hc.1.2, hc.2.1, hc.2.2.1, hc.2.2.2, by unfold putP; rw [if_pos hk, if_pos hc]⟩)
    · exact .inr (.inl ⟨rfl, by unfold putP; rw [if_pos hk, if_neg hc]⟩)
theorem takeP_cases (h : Hl) (bok : Bool) (ids p : List Int) (s : Int) : (plOk h bok ids p = false ∧ takeP h bok ids p s = ([], -1)) ∨ (plOk h bok ids p = true ∧ takeP h bok ids p s = (p, -1)) ∨
    (plOk h bok ids p = true ∧ 0 ≤ s ∧ s < (p.length : Int) ∧ pAt p s.toNat ≠ 0 ∧ pAt p s.toNat ∈ ids ∧ plOk h bok ids (p.set s.toNat 0) = true ∧ takeP h bok ids p s = (p.set s.toNat 0, pAt p s.toNat)) := by
  cases hk : plOk h bok ids p
  · exact .inl ⟨rfl, by unfold takeP; rw [hk]; rfl⟩
  · by_cases hc : (0 ≤ s ∧ s < (p.length : Int)) ∧ pAt p s.toNat ≠ 0 ∧ plOk h bok ids (p.set s.toNat 0) = true
    · exact .inr (.inr ⟨rfl, hc.1.1, hc.1.2, hc.2.1, ((plOk_iff.1 hk).2.2.2 s.toNat (by omega) hc.2.1).1, hc.2.2, by unfold takeP; rw [if_pos hk, if_pos hc]⟩)
    · exact .inr (.inl ⟨rfl, by unfold takeP; rw [if_pos hk, if_neg hc]⟩)
/-- What was put can be taken. -/
theorem takeP_put {h : Hl} {bok : Bool} {ids p : List Int} {s id : Int} (hk : plOk h bok ids p = true) (h0 : 0 ≤ s) (h1 : s < (p.length : Int)) (hz : pAt p s.toNat = 0) (hid : id ≠ 0) (hk2 : plOk h bok ids (p.set s.toNat id) = true) : takeP h bok ids (p.set s.toNat id) s = (p, id) := by
  have hl : s.toNat < p.length := by omega
  have e : (p.set s.toNat id).set s.toNat 0 = p := by rw [List.set_set, ← hz, pAt_self hl]
  unfold takeP
  rw [if_pos hk2, pAt_set_self hl, e, if_pos ⟨⟨h0, by rw [List.length_set]; exact h1⟩, hid, hk⟩]
/-- What was taken can be put back. -/
theorem putP_take {h : Hl} {bok : Bool} {ids p : List Int} {s : Int} (hk : plOk h bok ids p = true) (h0 : 0 ≤ s) (h1 : s < (p.length : Int)) (hz : pAt p s.toNat ≠ 0) (hk2 : plOk h bok ids (p.set s.toNat 0) = true) : putP h bok ids (p.set s.toNat 0) s (pAt p s.toNat) = (p, true) := by
  have hl : s.toNat < p.length := by omega
  have e : (p.set s.toNat 0).set s.toNat (pAt p s.toNat) = p := by rw [List.set_set, pAt_self hl]
  unfold putP
  rw [if_pos hk2, pAt_set_self hl, e, if_pos ⟨⟨h0, by rw [List.length_set]; exact h1⟩, rfl, hz, hk⟩]

/-- The slots into which a box can be put. -/
def nextOk (h : Hl) (p : List Int) (k : Nat) : Bool := decide (pAt p k = 0 ∧ ((k : Int) % h.t = 0 ∨ 0 < pAt p (k - 1)))
def nextP (h : Hl) (bok : Bool) (ids p : List Int) : List Nat := if plOk h bok ids p = true then (List.range p.length).filter (nextOk h p) else []
/-- Above an empty slot there is none in the row. -/
theorem empty_above {h : Hl} {bok : Bool} {ids p : List Int} (hk : plOk h bok ids p = true) {k : Nat} (hl : k + 1 < p.length) (hz : pAt p k = 0) (ht : ¬ ((k + 1 : Nat) : Int) % h.t = 0) : pAt p (k + 1) = 0 := by
  by_cases hc : pAt p (k + 1) = 0
  · exact hc
  · exact absurd hz (((plOk_iff.1 hk).2.2.2 (k + 1) hl hc).2.2 ht)
/-- Into these slots a box that is not on the ship can be put, and into no others. -/
theorem putP_next {h : Hl} {bok : Bool} {ids p : List Int} (hpos : ∀ x ∈ ids, 1 ≤ x) (hk : plOk h bok ids p = true) {id : Int} (hid : id ∈ ids) (hn : id ∉ p) {k : Nat} (hl : k < p.length) : (putP h bok ids p (k : Int) id).2 = nextOk h p k := by
  have h1 := hpos id hid
  have hs := (plOk_iff.1 hk).2.2.2
  by_cases hc : nextOk h p k = true
  · obtain ⟨hz, hb⟩ := of_decide_eq_true hc
    have hok : plOk h bok ids (p.set k id) = true := by
      obtain ⟨q1, q2, q3, _⟩ := plOk_iff.1 hk
      refine plOk_iff.2 ⟨q1, q2, by rw [List.length_set]; exact q3, fun j hj hne => ?_⟩
      rw [List.length_set] at hj
      by_cases hjk : j = k
      · subst hjk
        rw [pAt_set_self hl] at hne ⊢
        refine ⟨hid, fun hm => ?_, fun ht => ?_⟩
        · obtain ⟨i, hi, hil, he⟩ := mem_take hm
          rw [pAt_set_ne (by omega)] at he
          rw [List.length_set] at hil
          exact hn (he ▸ (pAt_get hil ▸ List.getElem_mem hil))
        · rw [pAt_set_ne (by have : j ≠ 0 := fun e => ht (by subst e; simp); omega)]
          rcases hb with hb | hb
          · exact absurd hb ht
          · omega
      · rw [pAt_set_ne (Ne.symm hjk)] at hne ⊢
        obtain ⟨r1, r2, r3⟩ := hs j hj hne
        refine ⟨r1, fun hm => ?_, fun ht => ?_⟩
        · obtain ⟨i, hi, hil, he⟩ := mem_take hm
          rw [List.length_set] at hil
          by_cases hik : i = k
          · subst hik
            rw [pAt_set_self hl] at he
            exact hn (he ▸ (pAt_get hj ▸ List.getElem_mem hj))
          · rw [pAt_set_ne (Ne.symm hik)] at he
            exact r2 (he ▸ take_mem hi hil)
        · by_cases hjk1 : j - 1 = k
          · rw [← hjk1, pAt_set_self (by omega)]; omega
          · rw [pAt_set_ne (Ne.symm hjk1)]; exact r3 ht
    unfold putP
    rw [if_pos hk, Int.toNat_natCast, if_pos ⟨⟨by omega, by omega⟩, hz, by omega, hok⟩, hc]
  · have hcf : nextOk h p k = false := by simpa using hc
    rw [hcf]
    unfold putP
    rw [if_pos hk, Int.toNat_natCast, if_neg]
    rintro ⟨_, hz, _, hok⟩
    refine hc (decide_eq_true ⟨hz, ?_⟩)
    by_cases ht : (k : Int) % h.t = 0
    · exact .inl ht
    · right
      have := ((plOk_iff.1 hok).2.2.2 k (by rw [List.length_set]; exact hl) (by rw [pAt_set_self hl]; omega)).2.2 ht
      have hk0 : k ≠ 0 := fun e => ht (by subst e; simp)
      rw [pAt_set_ne (by omega)] at this
      have hm := (hs (k - 1) (by omega) this).1
      have := hpos _ hm
      omega
end Go.Proofs.Ytnnjphhkheocgaa
