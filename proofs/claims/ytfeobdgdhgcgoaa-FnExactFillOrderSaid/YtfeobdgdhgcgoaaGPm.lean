/-
  Plain mathematics of plans of a ship. Nothing of the program.
  Plain mathematics of plans, second part: how many next slots there are; finding; all ids. Nothing of the program.
  Plans of boxes: what PlanValid's loop finds at a slot. Nothing of the program.
-/
import Derived.Test.YtfeobdgdhgcgoaaGSl
import Derived.Test.YtfeobdgdhgcgoaaGBx
namespace Go.Proofs.Ytfeobdgdhgcgoaa
set_option linter.unusedVariables false

/-- Below a slot of the ship is the one before it, but for the lowest ones. -/
theorem slBelow_val {h : Hl} {s : Int} (hk : hlOk h = true) (h0 : 0 ≤ s) (h1 : s ≤ slMany h - 1) : slBelow h s = if s % h.t = 0 then -1 else s - 1 := by
  obtain ⟨p1, p2, p3, p4⟩ := plOf_in hk h0 h1
  unfold slBelow
  rw [plOf_yes hk h0 h1]
  simp only []
  by_cases hz : s % h.t = 0
  · rw [if_pos hz, slOf_no (fun hc => by have := hc.2.2.2.1; omega)]
  · rw [if_neg hz, slOf_yes hk p1 p2 (by omega)]
    omega
/-- The id in a slot. -/
def pAt (p : List Int) (k : Nat) : Int := p.getD k 0
theorem pAt_set_self {p : List Int} {k : Nat} (h : k < p.length) (x : Int) : pAt (p.set k x) k = x := by
  unfold pAt
  rw [List.getD_eq_getElem?_getD, List.getElem?_set_self h, Option.getD_some]
theorem pAt_set_ne {p : List Int} {k j : Nat} (h : k ≠ j) (x : Int) : pAt (p.set k x) j = pAt p j := by
  unfold pAt
  rw [List.getD_eq_getElem?_getD, List.getD_eq_getElem?_getD, List.getElem?_set_ne h]
theorem pAt_get {p : List Int} {k : Nat} (h : k < p.length) : pAt p k = p[k] := getD_i h
theorem pAt_self {p : List Int} {k : Nat} (h : k < p.length) : p.set k (pAt p k) = p := by rw [pAt_get h, List.set_getElem_self]
theorem mem_take {p : List Int} {k : Nat} {x : Int} (h : x ∈ p.take k) : ∃ j, j < k ∧ j < p.length ∧ pAt p j = x := by
  obtain ⟨j, hj, rfl⟩ := List.getElem_of_mem h
  rw [List.length_take] at hj
  exact ⟨j, by omega, by omega, by rw [pAt_get (by omega), List.getElem_take]⟩
theorem take_mem {p : List Int} {k j : Nat} (hj : j < k) (hl : j < p.length) : pAt p j ∈ p.take k := by
  rw [pAt_get hl]
  have : (p.take k)[j]? = some p[j] := by rw [List.getElem?_take, if_pos hj, List.getElem?_eq_getElem hl]
  exact List.mem_of_getElem? this
/-- What a plan asks of one slot. -/
def slotOk (h : Hl) (ids : List Int) (p : List Int) (k : Nat) : Prop := pAt p k ≠ 0 → pAt p k ∈ ids ∧ pAt p k ∉ p.take k ∧ (¬ (k : Int) % h.t = 0 → pAt p (k - 1) ≠ 0)
instance (h : Hl) (ids : List Int) (p : List Int) (k : Nat) : Decidable (slotOk h ids p k) := by unfold slotOk; infer_instance
/-- Whether a plan is valid (ids: those of the boxes; bok: whether these are valid). -/
def plOk (h : Hl) (bok : Bool) (ids : List Int) (p : List Int) : Bool := decide (hlOk h = true ∧ bok = true ∧ (p.length : Int) = slMany h ∧ ∀ k, k < p.length → slotOk h ids p k)
theorem plOk_iff {h : Hl} {bok : Bool} {ids p : List Int} : plOk h bok ids p = true ↔ hlOk h = true ∧ bok = true ∧ (p.length : Int) = slMany h ∧ ∀ k, k < p.length → slotOk h ids p k := decide_eq_true_iff
theorem plOk_no {h : Hl} {bok : Bool} {ids p : List Int} (hc : ¬ (hlOk h = true ∧ bok = true ∧ (p.length : Int) = slMany h)) : plOk h bok ids p = false := by
  cases he : plOk h bok ids p
  · rfl
  · obtain ⟨h1, h2, h3, _⟩ := plOk_iff.1 he
    exact absurd ⟨h1, h2, h3⟩ hc
theorem plOk_slot {h : Hl} {bok : Bool} {ids p : List Int} {k : Nat} (hk : k < p.length) (hc : ¬ slotOk h ids p k) : plOk h bok ids p = false := by
  cases he : plOk h bok ids p
  · rfl
  · exact absurd ((plOk_iff.1 he).2.2.2 k hk) hc
/-- The plan without boxes. -/
theorem plOk_zero {h : Hl} {ids : List Int} {n : Nat} (hk : hlOk h = true) (hn : (n : Int) = slMany h) : plOk h true ids (List.replicate n 0) = true := by
  refine plOk_iff.2 ⟨hk, rfl, by simpa using hn, fun k hkl hne => ?_⟩
  rw [List.length_replicate] at hkl
  exact absurd (by rw [pAt_get (by simpa using hkl)]; simp) hne
/-- Two slots have no box in common. -/
theorem plOk_inj {h : Hl} {bok : Bool} {ids p : List Int} (hk : plOk h bok ids p = true) {i j : Nat} (hi : i < p.length) (hj : j < p.length) (he : pAt p i = pAt p j) (hz : pAt p i ≠ 0) : i = j := by
  have hs := (plOk_iff.1 hk).2.2.2
  rcases Nat.lt_trichotomy i j with h1 | h1 | h1
  · exact absurd (he ▸ take_mem h1 hi) (hs j hj (he ▸ hz)).2.1
  · exact h1
  · exact absurd (he.symm ▸ take_mem h1 hj) (hs i hi hz).2.1

/-- What PlanPut gives. -/
def putP (h : Hl) (bok : Bool) (ids p : List Int) (s id : Int) : List Int × Bool :=
  if plOk h bok ids p = true then (if (0 ≤ s ∧ s < (p.length : Int)) ∧ pAt p s.toNat = 0 ∧ id ≠ 0 ∧ plOk h bok ids (p.set s.toNat id) = true then (p.set s.toNat id, true) else (p, false)) else ([], false)
/-- What PlanTake gives. -/
def takeP (h : Hl) (bok : Bool) (ids p : List Int) (s : Int) : List Int × Int :=
  if plOk h bok ids p = true then (if (0 ≤ s ∧ s < (p.length : Int)) ∧ pAt p s.toNat ≠ 0 ∧ plOk h bok ids (p.set s.toNat 0) = true then (p.set s.toNat 0, pAt p s.toNat) else (p, -1)) else ([], -1)
theorem putP_cases (h : Hl) (bok : Bool) (ids p : List Int) (s id : Int) : (plOk h bok ids p = false ∧ putP h bok ids p s id = ([], false)) ∨ (plOk h bok ids p = true ∧ putP h bok ids p s id = (p, false)) ∨
    (plOk h bok ids p = true ∧ 0 ≤ s ∧ s < (p.length : Int) ∧ pAt p s.toNat = 0 ∧ id ≠ 0 ∧ plOk h bok ids (p.set s.toNat id) = true ∧ putP h bok ids p s id = (p.set s.toNat id, true)) := by
  cases hk : plOk h bok ids p
  · exact .inl ⟨rfl, by unfold putP; rw [hk]; rfl⟩
  · by_cases hc : (0 ≤ s ∧ s < (p.length : Int)) ∧ pAt p s.toNat = 0 ∧ id ≠ 0 ∧ plOk h bok ids (p.set s.toNat id) = true
    · exact .inr (.inr ⟨rfl, hc.1.1, hc.1.2, hc.2.1, hc.2.2.1, hc.2.2.2, by unfold putP; rw [if_pos hk, if_pos hc]⟩)
    · exact .inr (.inl ⟨rfl, by unfold putP; rw [if_pos hk, if_neg hc]⟩)
theorem takeP_cases (h : Hl) (bok : Bool) (ids p : List Int) (s : Int) : (plOk h bok ids p = false ∧ takeP h bok ids p s = ([], -1)) ∨ (plOk h bok ids p = true ∧ takeP h bok ids p s = (p, -1)) ∨
    (plOk h bok ids p = true ∧ 0 ≤ s ∧ s < (p.length : Int) ∧ pAt p s.toNat ≠ 0 ∧ pAt p s.toNat ∈ ids ∧ plOk h bok ids (p.set s.toNat 0) = true ∧ takeP h bok ids p s = (p.set s.toNat 0, pAt p s.toNat)) := by
  cases hk : plOk h bok ids p
  · exact .inl ⟨rfl, by unfold takeP; rw [hk]; rfl⟩
  · by_cases hc : (0 ≤ s ∧ s < (p.length : Int)) ∧ pAt p s.toNat ≠ 0 ∧ plOk h bok ids (p.set s.toNat 0) = true
    · exact .inr (.inr ⟨rfl, hc.1.1, hc.1.2, hc.2.1, ((plOk_iff.1 hk).2.2.2 s.toNat (by omega) hc.2.1).1, hc.2.2, by unfold takeP; rw [if_pos hk, if_pos hc]⟩)
    · exact .inr (.inl ⟨rfl, by unfold takeP; rw [if_pos hk, if_neg hc]⟩)
/-- What was put can be taken. -/
theorem takeP_put {h : Hl} {bok : Bool} {ids p : List Int} {s id : Int} (hk : plOk h bok ids p = true) (h0 : 0 ≤ s) (h1 : s < (p.length : Int)) (hz : pAt p s.toNat = 0) (hid : id ≠ 0) (hk2 : plOk h bok ids (p.set s.toNat id) = true) : takeP h bok ids (p.set s.toNat id) s = (p, id) := by
  have hl : s.toNat < p.length := by omega
  have e : (p.set s.toNat id).set s.toNat 0 = p := by rw [List.set_set, ← hz, pAt_self hl]
  unfold takeP
  rw [if_pos hk2, pAt_set_self hl, e, if_pos ⟨⟨h0, by rw [List.length_set]; exact h1⟩, hid, hk⟩]
/-- What was taken can be put back. -/
theorem putP_take {h : Hl} {bok : Bool} {ids p : List Int} {s : Int} (hk : plOk h bok ids p = true) (h0 : 0 ≤ s) (h1 : s < (p.length : Int)) (hz : pAt p s.toNat ≠ 0) (hk2 : plOk h bok ids (p.set s.toNat 0) = true) : putP h bok ids (p.set s.toNat 0) s (pAt p s.toNat) = (p, true) := by
  have hl : s.toNat < p.length := by omega
  have e : (p.set s.toNat 0).set s.toNat (pAt p s.toNat) = p := by rw [List.set_set, pAt_self hl]
  unfold putP
  rw [if_pos hk2, pAt_set_self hl, e, if_pos ⟨⟨h0, by rw [List.length_set]; exact h1⟩, rfl, hz, hk⟩]

/-- The slots into which a box can be put. -/
def nextOk (h : Hl) (p : List Int) (k : Nat) : Bool := decide (pAt p k = 0 ∧ ((k : Int) % h.t = 0 ∨ 0 < pAt p (k - 1)))
def nextP (h : Hl) (bok : Bool) (ids p : List Int) : List Nat := if plOk h bok ids p = true then (List.range p.length).filter (nextOk h p) else []
/-- Above an empty slot there is none in the row. -/
theorem empty_above {h : Hl} {bok : Bool} {ids p : List Int} (hk : plOk h bok ids p = true) {k : Nat} (hl : k + 1 < p.length) (hz : pAt p k = 0) (ht : ¬ ((k + 1 : Nat) : Int) % h.t = 0) : pAt p (k + 1) = 0 := by
  by_cases hc : pAt p (k + 1) = 0
  · exact hc
  · exact absurd hz (((plOk_iff.1 hk).2.2.2 (k + 1) hl hc).2.2 ht)
/-- Into these slots a box that is not on the ship can be put, and into no others. -/
theorem putP_next {h : Hl} {bok : Bool} {ids p : List Int} (hpos : ∀ x ∈ ids, 1 ≤ x) (hk : plOk h bok ids p = true) {id : Int} (hid : id ∈ ids) (hn : id ∉ p) {k : Nat} (hl : k < p.length) : (putP h bok ids p (k : Int) id).2 = nextOk h p k := by
  have h1 := hpos id hid
  have hs := (plOk_iff.1 hk).2.2.2
  by_cases hc : nextOk h p k = true
  · obtain ⟨hz, hb⟩ := of_decide_eq_true hc
    have hok : plOk h bok ids (p.set k id) = true := by
      obtain ⟨q1, q2, q3, _⟩ := plOk_iff.1 hk
      refine plOk_iff.2 ⟨q1, q2, by rw [List.length_set]; exact q3, fun j hj hne => ?_⟩
      rw [List.length_set] at hj
      by_cases hjk : j = k
      · subst hjk
        rw [pAt_set_self hl] at hne ⊢
        refine ⟨hid, fun hm => ?_, fun ht => ?_⟩
        · obtain ⟨i, hi, hil, he⟩ := mem_take hm
          rw [pAt_set_ne (by omega)] at he
          rw [List.length_set] at hil
          exact hn (he ▸ (pAt_get hil ▸ List.getElem_mem hil))
        · rw [pAt_set_ne (by have : j ≠ 0 := fun e => ht (by subst e; simp); omega)]
          rcases hb with hb | hb
          · exact absurd hb ht
          · omega
      · rw [pAt_set_ne (Ne.symm hjk)] at hne ⊢
        obtain ⟨r1, r2, r3⟩ := hs j hj hne
        refine ⟨r1, fun hm => ?_, fun ht => ?_⟩
        · obtain ⟨i, hi, hil, he⟩ := mem_take hm
          rw [List.length_set] at hil
          by_cases hik : i = k
          · subst hik
            rw [pAt_set_self hl] at he
            exact hn (he ▸ (pAt_get hj ▸ List.getElem_mem hj))
          · rw [pAt_set_ne (Ne.symm hik)] at he
            exact r2 (he ▸ take_mem hi hil)
        · by_cases hjk1 : j - 1 = k
          · rw [← hjk1, pAt_set_self (by omega)]; omega
          · rw [pAt_set_ne (Ne.symm hjk1)]; exact r3 ht
    unfold putP
    rw [if_pos hk, Int.toNat_natCast, if_pos ⟨⟨by omega, by omega⟩, hz, by omega, hok⟩, hc]
  · have hcf : nextOk h p k = false := by simpa using hc
    rw [hcf]
    unfold putP
    rw [if_pos hk, Int.toNat_natCast, if_neg]
    rintro ⟨_, hz, _, hok⟩
    refine hc (decide_eq_true ⟨hz, ?_⟩)
    by_cases ht : (k : Int) % h.t = 0
    · exact .inl ht
    · right
      have := ((plOk_iff.1 hok).2.2.2 k (by rw [List.length_set]; exact hl) (by rw [pAt_set_self hl]; omega)).2.2 ht
      have hk0 : k ≠ 0 := fun e => ht (by subst e; simp)
      rw [pAt_set_ne (by omega)] at this
      have hm := (hs (k - 1) (by omega) this).1
      have := hpos _ hm
      omega
end Go.Proofs.Ytfeobdgdhgcgoaa
namespace Go.Proofs.Ytfeobdgdhgcgoaa
set_option linter.unusedVariables false

theorem pAt_pos {h : Hl} {bok : Bool} {ids p : List Int} (hpos : ∀ x ∈ ids, 1 ≤ x) (hk : plOk h bok ids p = true) {k : Nat} (hl : k < p.length) : 0 ≤ pAt p k ∧ (pAt p k ≠ 0 → 0 < pAt p k) := by
  by_cases hz : pAt p k = 0
  · exact ⟨by omega, fun hc => absurd hz hc⟩
  · have := hpos _ ((plOk_iff.1 hk).2.2.2 k hl hz).1
    exact ⟨by omega, fun _ => by omega⟩
/-- The rows whose highest slot is empty, of the first n. -/
def roomRows (T : Nat) (p : List Int) (n : Nat) : Nat := ((List.range n).filter fun i => decide (pAt p (i * T + (T - 1)) = 0)).length
theorem filter_snoc (f : Nat → Bool) (l : List Nat) (x : Nat) : ((l ++ [x]).filter f).length = (l.filter f).length + if f x = true then 1 else 0 := by
  rw [List.filter_append, List.length_append]
  congr 1
  cases hf : f x <;> simp [hf]
theorem roomRows_next (T : Nat) (p : List Int) (n : Nat) : roomRows T p (n + 1) = roomRows T p n + if pAt p (n * T + (T - 1)) = 0 then 1 else 0 := by
  unfold roomRows
  rw [List.range_succ, filter_snoc]
  congr 1
  by_cases hc : pAt p (n * T + (T - 1)) = 0
  · rw [if_pos hc, if_pos (decide_eq_true hc)]
  · rw [if_neg hc, if_neg (by simpa using hc)]
theorem next_row {h : Hl} {bok : Bool} {ids p : List Int} (hpos : ∀ x ∈ ids, 1 ≤ x) (hk : plOk h bok ids p = true) {T : Nat} (hT : (T : Int) = h.t) {n : Nat} (hn : (n + 1) * T ≤ p.length) :
    ((List.range ((n + 1) * T)).filter (nextOk h p)).length = ((List.range (n * T)).filter (nextOk h p)).length + if pAt p (n * T + (T - 1)) = 0 then 1 else 0 := by
  obtain ⟨_, _, _, _, g5, g6⟩ := hlOk_iff.1 (plOk_iff.1 hk).1
  have nx : ∀ k, nextOk h p k = decide (pAt p k = 0 ∧ ((k : Int) % h.t = 0 ∨ 0 < pAt p (k - 1))) := fun k => rfl
  rcases (by omega : T = 1 ∨ T = 2 ∨ T = 3) with rfl | rfl | rfl
  · have e : (n + 1) * 1 = n * 1 + 1 := by omega
    rw [e, List.range_succ, filter_snoc]
    congr 1
    have hm : ((n * 1 : Nat) : Int) % h.t = 0 := by rw [← hT]; omega
    rw [nx, show n * 1 + (1 - 1) = n * 1 from rfl]
    by_cases hz : pAt p (n * 1) = 0
    · rw [if_pos (decide_eq_true ⟨hz, .inl hm⟩), if_pos hz]
    · rw [if_neg (fun hc => hz (of_decide_eq_true hc).1), if_neg hz]
  · have e : (n + 1) * 2 = n * 2 + 1 + 1 := by omega
    rw [e] at hn
    rw [e, List.range_succ, filter_snoc, List.range_succ, filter_snoc]
    have m0 : ((n * 2 : Nat) : Int) % h.t = 0 := by rw [← hT]; omega
    have m1 : ¬ ((n * 2 + 1 : Nat) : Int) % h.t = 0 := by rw [← hT]; omega
    have p0 := pAt_pos hpos hk (k := n * 2) (by omega)
    have u1 := empty_above hk (k := n * 2) (by omega)
    rw [nx, nx, show n * 2 + (2 - 1) = n * 2 + 1 from rfl, show n * 2 + 1 - 1 = n * 2 by omega]
    by_cases hz : pAt p (n * 2) = 0
    · have hz1 := u1 hz m1
      rw [if_pos (decide_eq_true ⟨hz, .inl m0⟩), if_neg (fun hc => (of_decide_eq_true hc).2.elim m1 fun hx => by omega), if_pos hz1]
    · have h0 := p0.2 hz
      rw [if_neg (fun hc => hz (of_decide_eq_true hc).1)]
      by_cases hz1 : pAt p (n * 2 + 1) = 0
      · rw [if_pos (decide_eq_true ⟨hz1, .inr h0⟩), if_pos hz1]
      · rw [if_neg (fun hc => hz1 (of_decide_eq_true hc).1), if_neg hz1]
  · have e : (n + 1) * 3 = n * 3 + 1 + 1 + 1 := by omega
    rw [e] at hn
    rw [e, List.range_succ, filter_snoc, List.range_succ, filter_snoc, List.range_succ, filter_snoc]
    have m0 : ((n * 3 : Nat) : Int) % h.t = 0 := by rw [← hT]; omega
    have m1 : ¬ ((n * 3 + 1 : Nat) : Int) % h.t = 0 := by rw [← hT]; omega
    have m2 : ¬ ((n * 3 + 1 + 1 : Nat) : Int) % h.t = 0 := by rw [← hT]; omega
    have p0 := pAt_pos hpos hk (k := n * 3) (by omega)
    have p1 := pAt_pos hpos hk (k := n * 3 + 1) (by omega)
    have u1 := empty_above hk (k := n * 3) (by omega)
    have u2 := empty_above hk (k := n * 3 + 1) (by omega)
    rw [nx, nx, nx]
    have c1 : (n * 3 + 1) - 1 = n * 3 := by omega
    have c2 : (n * 3 + 1 + 1) - 1 = n * 3 + 1 := by omega
    have c3 : n * 3 + (3 - 1) = n * 3 + 1 + 1 := by omega
    rw [c1, c2, c3]
    by_cases hz : pAt p (n * 3) = 0
    · have hz1 := u1 hz m1
      have hz2 := u2 hz1 m2
      rw [if_pos (decide_eq_true ⟨hz, .inl m0⟩), if_neg (fun hc => (of_decide_eq_true hc).2.elim m1 fun hx => by omega), if_neg (fun hc => (of_decide_eq_true hc).2.elim m2 fun hx => by omega), if_pos hz2]
    · have h0 := p0.2 hz
      rw [if_neg (fun hc => hz (of_decide_eq_true hc).1)]
      by_cases hz1 : pAt p (n * 3 + 1) = 0
      · have hz2 := u2 hz1 m2
        rw [if_pos (decide_eq_true ⟨hz1, .inr h0⟩), if_neg (fun hc => (of_decide_eq_true hc).2.elim m2 fun hx => by omega), if_pos hz2]
      · have h1 := p1.2 hz1
        rw [if_neg (fun hc => hz1 (of_decide_eq_true hc).1)]
        by_cases hz2 : pAt p (n * 3 + 1 + 1) = 0
        · rw [if_pos (decide_eq_true ⟨hz2, .inr h1⟩), if_pos hz2]
        · rw [if_neg (fun hc => hz2 (of_decide_eq_true hc).1), if_neg hz2]
/-- There are as many next slots as rows that have room. -/
theorem next_count {h : Hl} {bok : Bool} {ids p : List Int} (hpos : ∀ x ∈ ids, 1 ≤ x) (hk : plOk h bok ids p = true) {T : Nat} (hT : (T : Int) = h.t) : ∀ n, n * T ≤ p.length → ((List.range (n * T)).filter (nextOk h p)).length = roomRows T p n
  | 0, _ => by rw [Nat.zero_mul]; rfl
  | n + 1, hn => by
    rw [next_row hpos hk hT hn, next_count hpos hk hT n (by rw [Nat.add_mul] at hn; omega), roomRows_next]
/-- Where a box is. -/
def findP (h : Hl) (bok : Bool) (ids p : List Int) (id : Int) : Int := if 0 < id ∧ plOk h bok ids p = true ∧ id ∈ p then (p.idxOf id : Int) else -1
theorem findP_hit {h : Hl} {bok : Bool} {ids p : List Int} {id : Int} (h0 : 0 < id) (hk : plOk h bok ids p = true) {k : Nat} (hl : k < p.length) (he : pAt p k = id) : findP h bok ids p id = (k : Int) := by
  have hm : id ∈ p := he ▸ (pAt_get hl ▸ List.getElem_mem hl)
  unfold findP
  rw [if_pos ⟨h0, hk, hm⟩]
  have hlt := List.idxOf_lt_length_of_mem hm
  have hg : pAt p (p.idxOf id) = id := by rw [pAt_get hlt]; exact List.getElem_idxOf hlt
  have := plOk_inj hk hlt hl (by rw [hg, he]) (by rw [hg]; omega)
  rw [this]
theorem findP_none {h : Hl} {bok : Bool} {ids p : List Int} {id : Int} (hc : ¬ (0 < id ∧ plOk h bok ids p = true ∧ id ∈ p)) : findP h bok ids p id = -1 := by unfold findP; rw [if_neg hc]
/-- All ids of a plan. -/
def idsP (h : Hl) (bok : Bool) (ids p : List Int) : List Int := if plOk h bok ids p = true then p.filter (fun x => decide (0 < x)) else []
theorem idsP_mem {h : Hl} {bok : Bool} {ids p : List Int} {x : Int} (hm : x ∈ idsP h bok ids p) : plOk h bok ids p = true ∧ x ∈ p ∧ 0 < x := by
  unfold idsP at hm
  split at hm
  · next hk =>
    obtain ⟨h1, h2⟩ := List.mem_filter.1 hm
    exact ⟨hk, h1, of_decide_eq_true h2⟩
  · cases hm
theorem idsP_nodup (h : Hl) (bok : Bool) (ids p : List Int) : (idsP h bok ids p).Nodup := by
  unfold idsP
  split
  · next hk =>
    rw [List.nodup_iff_pairwise_ne] at *
    rw [List.pairwise_filter]
    refine List.pairwise_iff_getElem.2 fun i j hi hj hij h1 h2 e => ?_
    have hp : 0 < p[i] := of_decide_eq_true h1
    have := plOk_inj hk hi hj (by rw [pAt_get hi, pAt_get hj, e]) (by rw [pAt_get hi]; omega)
    omega
  · exact List.Pairwise.nil
end Go.Proofs.Ytfeobdgdhgcgoaa
namespace Go.Proofs.Ytfeobdgdhgcgoaa
set_option linter.unusedVariables false

/-- The ids of boxes. -/
def bxIds (l : List Bx) : List Int := l.map (·.i)
theorem findB_mem : ∀ (l : List Bx) (id : Int), 0 ≤ findB l id ↔ id ∈ bxIds l
  | [], id => by
    show (0 : Int) ≤ -1 ↔ id ∈ ([] : List Int)
    simp
  | b :: l, id => by
    have ih := findB_mem l id
    have e : bxIds (b :: l) = b.i :: bxIds l := rfl
    rw [e, findB, List.mem_cons]
    by_cases h : b.i = id
    · rw [if_pos h]; simp [h]
    · rw [if_neg h]
      have h2 : ¬ id = b.i := fun e => h e.symm
      by_cases h3 : findB l id < 0
      · rw [if_pos h3]
        have : ¬ id ∈ bxIds l := fun hc => by have := ih.2 hc; omega
        simp [h2, this]
      · rw [if_neg h3]
        have : id ∈ bxIds l := ih.1 (by omega)
        simp only [h2, this, or_true, iff_true]
        omega
theorem hasI_iffP {l : List Int} {n : Int} : hasI l n = true ↔ n ∈ l := decide_eq_true_iff
theorem pl_bad1 {h : Hl} {bok : Bool} {l : List Bx} {p : List Int} {k : Nat} (hk : k < p.length) (hz : pAt p k ≠ 0) (hf : findB l (pAt p k) < 0) : plOk h bok (bxIds l) p = false :=
  plOk_slot hk fun hc => by
    have := (findB_mem l (pAt p k)).2 (hc hz).1
    omega
theorem pl_bad2 {h : Hl} {bok : Bool} {ids p : List Int} {k : Nat} (hk : k < p.length) (hz : pAt p k ≠ 0) (hf : hasI (p.take k) (pAt p k) = true) : plOk h bok ids p = false :=
  plOk_slot hk fun hc => (hc hz).2.1 (hasI_iffP.1 hf)
theorem pl_bad3 {h : Hl} {bok : Bool} {ids p : List Int} {k : Nat} (hk : k < p.length) (hz : pAt p k ≠ 0) (ht : ¬ (k : Int) % h.t = 0) (hf : pAt p (k - 1) = 0) : plOk h bok ids p = false :=
  plOk_slot hk fun hc => (hc hz).2.2 ht hf
theorem pl_good {h : Hl} {l : List Bx} {p : List Int} {k : Nat} (hf : ¬ findB l (pAt p k) < 0) (hh : hasI (p.take k) (pAt p k) = false) (hb : (k : Int) % h.t = 0 ∨ pAt p (k - 1) ≠ 0) : slotOk h (bxIds l) p k := fun _ =>
  ⟨(findB_mem l _).1 (by omega), (fun hm => by rw [hasI_iffP.2 hm] at hh; exact Bool.noConfusion hh), fun ht => hb.resolve_left ht⟩
theorem pl_zero {h : Hl} {ids p : List Int} {k : Nat} (hz : pAt p k = 0) : slotOk h ids p k := fun hc => absurd hz hc
theorem pl_end {h : Hl} {ids p : List Int} (hk : hlOk h = true) (hn : (p.length : Int) = slMany h) (ha : ∀ k, k < p.length → slotOk h ids p k) : plOk h true ids p = true := plOk_iff.2 ⟨hk, rfl, hn, ha⟩
theorem pl_below {h : Hl} {p : List Int} {k : Nat} (hk : hlOk h = true) (hn : (p.length : Int) = slMany h) (hl : k < p.length) : (slBelow h k = -1 ∧ (k : Int) % h.t = 0) ∨ (∃ j, k = j + 1 ∧ slBelow h k = (j : Int) ∧ ¬ (k : Int) % h.t = 0) := by
  have e := slBelow_val (s := (k : Int)) hk (by omega) (by omega)
  by_cases ht : (k : Int) % h.t = 0
  · rw [if_pos ht] at e; exact .inl ⟨e, ht⟩
  · rw [if_neg ht] at e
    have hk0 : k ≠ 0 := fun e => ht (by rw [e]; simp)
    exact .inr ⟨k - 1, by omega, by rw [e]; omega, ht⟩
end Go.Proofs.Ytfeobdgdhgcgoaa
