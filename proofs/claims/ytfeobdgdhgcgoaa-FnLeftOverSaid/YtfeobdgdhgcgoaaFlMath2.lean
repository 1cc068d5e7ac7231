/-
  Plain mathematics of filling, second part: a ship that is filled has no overstowage; who is left over. Nothing of the program.
-/
import Derived.Test.YtfeobdgdhgcgoaaFlMath
import Derived.Test.YtfeobdgdhgcgoaaRwMath
import Derived.Test.YtfeobdgdhgcgoaaGOm
import Derived.Test.YtfeobdgdhgcgoaaGPl
namespace Go.Proofs.Ytfeobdgdhgcgoaa
set_option linter.unusedVariables false

/-- The next slot, of the first k, of the row that is lightest; -1 if there is none. -/
def lgtN (T : Nat) (rows nx : List Int) : Nat → Int
  | 0 => -1
  | k + 1 => if lgtN T rows nx k < 0 ∨ rows.getD ((nx.getD k 0).toNat / T) 0 < rows.getD ((lgtN T rows nx k).toNat / T) 0 then nx.getD k 0 else lgtN T rows nx k
def lgtO (h : Hl) (l : List Bx) (p : List Int) : Int := lgtN h.t.toNat (rowO h l p) (nextI h (bxsOk l) (bxIds l) p) (nextI h (bxsOk l) (bxIds l) p).length
theorem lgtN_mem {T : Nat} {rows nx : List Int} : ∀ k, k ≤ nx.length → (k = 0 ∧ lgtN T rows nx k = -1) ∨ lgtN T rows nx k ∈ nx
  | 0, _ => .inl ⟨rfl, rfl⟩
  | k + 1, hk => by
    have hm : nx.getD k 0 ∈ nx := by rw [List.getD_eq_getElem?_getD, List.getElem?_eq_getElem (show k < nx.length by omega), Option.getD_some]; exact List.getElem_mem _
    right
    unfold lgtN
    split
    · exact hm
    · next hc =>
      rcases lgtN_mem (T := T) (rows := rows) (nx := nx) k (by omega) with ⟨h1, h2⟩ | h1
      · exact absurd (.inl (by rw [h2]; omega)) hc
      · exact h1
/-- The plan behind the first k boxes of an order. -/
def fillN (h : Hl) (l : List Bx) (ord : List Int) : Nat → List Int
  | 0 => emptyP h
  | k + 1 => if 0 ≤ lgtO h l (fillN h l ord k) then (fillN h l ord k).set (lgtO h l (fillN h l ord k)).toNat (ord.getD k 0) else fillN h l ord k
/-- What FillPlan gives. -/
def fillP (h : Hl) (l : List Bx) : List Int := if bxsOk l = true then fillN h l (fillO l) l.length else []
theorem next_mem {h : Hl} {l : List Bx} {p : List Int} (hk : plOk h (bxsOk l) (bxIds l) p = true) {x : Int} (hx : x ∈ nextI h (bxsOk l) (bxIds l) p) : ∃ k : Nat, x = (k : Int) ∧ k < p.length ∧ nextOk h p k = true := by
  rw [nxtP_end hk] at hx
  obtain ⟨k, h1, h2⟩ := List.mem_map.1 hx
  obtain ⟨h3, h4⟩ := List.mem_filter.1 h1
  exact ⟨k, h2.symm, List.mem_range.1 h3, h4⟩
/-- The search finds a next slot, or the ship is full. -/
theorem lgtO_cases {h : Hl} {l : List Bx} {p : List Int} (hk : plOk h (bxsOk l) (bxIds l) p = true) : (lgtO h l p = -1 ∧ ∀ k, k < p.length → pAt p k ≠ 0) ∨ ∃ k : Nat, lgtO h l p = (k : Int) ∧ k < p.length ∧ nextOk h p k = true := by
  rcases lgtN_mem (T := h.t.toNat) (rows := rowO h l p) (nx := nextI h (bxsOk l) (bxIds l) p) _ (Nat.le_refl _) with ⟨h1, h2⟩ | h1
  · refine .inl ⟨h2, fun k hl hz => ?_⟩
    obtain ⟨R, q1, q2, q3⟩ := rows_pl hk
    obtain ⟨T, hT⟩ : ∃ T, T = h.t.toNat := ⟨_, rfl⟩
    rw [← hT] at q1 q2 q3
    obtain ⟨r1, r2, r3⟩ := slot_row q2 (show k < R * T by omega)
    obtain ⟨-, f2, f3, f4⟩ := row_form hk q1 q2 q3 r1
    have hH : hgtR T p (k / T) ≤ k % T := by
      rcases Nat.lt_or_ge (k % T) (hgtR T p (k / T)) with h9 | h9
      · exact absurd (by rw [r3]; exact hz) (f3 _ h9)
      · exact h9
    obtain ⟨r, hr⟩ : ∃ r, r = k / T := ⟨_, rfl⟩
    obtain ⟨H, hHe⟩ : ∃ H, H = hgtR T p r := ⟨_, rfl⟩
    rw [← hr] at r1 f2 f3 f4 hH
    rw [← hHe] at f2 f3 f4 hH
    have hlt : H < T := by omega
    have hsl := colT_own q3 r1 hlt
    have hno : nextOk h p (r * T + H) = true := by
      refine decide_eq_true ⟨f4 H (Nat.le_refl _) hlt, ?_⟩
      by_cases h0 : H = 0
      · left
        subst h0
        rw [← q1]
        have h5 : (r * T + 0) % T = 0 := by rw [Nat.add_zero]; exact Nat.mul_mod_left r _
        have e5 : ((r * T + 0 : Nat) : Int) % (T : Int) = (((r * T + 0) % T : Nat) : Int) := rfl
        rw [e5, h5]
        rfl
      · right
        have := f3 (H - 1) (by omega)
        have e : r * T + H - 1 = r * T + (H - 1) := by omega
        rw [e]
        exact plOk_posX hk (by omega) this
    have := nextI_has hk hsl
    rw [hno] at this
    have hm := hasI_iffP.1 this
    have : nextI h (bxsOk l) (bxIds l) p = [] := List.eq_nil_of_length_eq_zero h1
    rw [this] at hm
    cases hm
  · obtain ⟨k, e1, e2, e3⟩ := next_mem hk h1
    exact .inr ⟨k, e1, e2, e3⟩
theorem cnt_set {p : List Int} {j : Nat} {x : Int} (hj : j < p.length) (hz : pAt p j = 0) (hx : x ≠ 0) : ∀ n, cnt (fun k => decide (pAt (p.set j x) k ≠ 0)) n = cnt (fun k => decide (pAt p k ≠ 0)) n + if j < n then 1 else 0
  | 0 => by simp [cnt]
  | n + 1 => by
    rw [cnt_next, cnt_next, cnt_set hj hz hx n]
    by_cases e : j = n
    · subst e
      rw [pAt_set_self hj, hz]
      simp [hx]
    · rw [pAt_set_ne e]
      by_cases hlt : j < n
      · have h2 : j < n + 1 := by omega
        simp only [hlt, h2, if_true]
        omega
      · have h2 : ¬ j < n + 1 := by omega
        simp only [hlt, h2, if_false]
        omega
theorem cnt_all {g : Nat → Bool} : ∀ n, (∀ k, k < n → g k = true) → cnt g n = n
  | 0, _ => rfl
  | n + 1, h => by rw [cnt_next, cnt_all n (fun k hk => h k (by omega)), if_pos (h n (by omega))]
theorem cnt_none {g : Nat → Bool} : ∀ n, (∀ k, k < n → g k = false) → cnt g n = 0
  | 0, _ => rfl
  | n + 1, h => by rw [cnt_next, cnt_none n (fun k hk => h k (by omega)), if_neg (by rw [h n (by omega)]; simp)]
theorem key_port {l : List Bx} (hb : bxsOk l = true) {x y : Int} (hx : x ∈ bxIds l) (hy : y ∈ bxIds l) (hk : keyI l x < keyI l y) : ptB l y ≤ ptB l x ∧ (ptB l y = ptB l x → wAt l y ≤ wAt l x) := by
  obtain ⟨i, hi, rfl⟩ := mem_ids.1 hx
  obtain ⟨j, hj, rfl⟩ := mem_ids.1 hy
  rw [keyI_at hb hi, keyI_at hb hj] at hk
  have h1 := Bx.ok_bd (bxsOk_ok hb hi)
  have h2 := Bx.ok_bd (bxsOk_ok hb hj)
  have e1 : ptB l (bxAt l i).i = (bxAt l i).p := by unfold ptB; rw [find_at hb hi]; rfl
  have e2 : ptB l (bxAt l j).i = (bxAt l j).p := by unfold ptB; rw [find_at hb hj]; rfl
  have e3 : wAt l (bxAt l i).i = (bxAt l i).g := by unfold wAt; rw [find_at hb hi]; rfl
  have e4 : wAt l (bxAt l j).i = (bxAt l j).g := by unfold wAt; rw [find_at hb hj]; rfl
  rw [e1, e2, e3, e4]
  unfold keyB at hk
  omega
/-- What the ship holds behind the first k boxes. -/
theorem fillN_law {h : Hl} {l : List Bx} (hh : hlOk h = true) (hb : bxsOk l = true) : ∀ k, k ≤ l.length →
    plOk h true (bxIds l) (fillN h l (fillO l) k) = true ∧ (fillN h l (fillO l) k).length = (slMany h).toNat ∧ (∀ x, x ∈ fillN h l (fillO l) k → x ≠ 0 → x ∈ (fillO l).take k) ∧
    cnt (fun j => decide (pAt (fillN h l (fillO l) k) j ≠ 0)) (slMany h).toNat = min k (slMany h).toNat ∧
    ∀ a b, a < b → b < (slMany h).toNat → a / h.t.toNat = b / h.t.toNat → pAt (fillN h l (fillO l) k) a ≠ 0 → pAt (fillN h l (fillO l) k) b ≠ 0 → ptB l (pAt (fillN h l (fillO l) k) b) ≤ ptB l (pAt (fillN h l (fillO l) k) a)
  | 0, _ => by
    obtain ⟨m1, m2, -⟩ := slMany_bd hh
    have e : fillN h l (fillO l) 0 = List.replicate (slMany h).toNat 0 := by unfold fillN emptyP; rw [if_pos hh]
    have hz : ∀ j, pAt (List.replicate (slMany h).toNat (0 : Int)) j = 0 := fun j => by
      unfold pAt
      rw [List.getD_eq_getElem?_getD, List.getElem?_replicate]
      split <;> rfl
    rw [e]
    refine ⟨plOk_zero hh (by omega), by simp, fun x hx hne => absurd (List.mem_replicate.1 hx).2 hne, ?_, fun a b _ _ _ ha => absurd (hz a) ha⟩
    rw [cnt_none _ (fun k _ => by rw [hz]; rfl)]
    omega
  | k + 1, hk => by
    obtain ⟨a1, a2, a3, a4, a5⟩ := fillN_law hh hb k (by omega)
    obtain ⟨o1, o2, o3, o4⟩ := fillO_law hb
    obtain ⟨m1, m2, m3⟩ := slMany_bd hh
    obtain ⟨n, hn⟩ : ∃ n, n = (slMany h).toNat := ⟨_, rfl⟩
    rw [← hn] at a2 a4 a5 ⊢
    obtain ⟨p, hp⟩ : ∃ p, p = fillN h l (fillO l) k := ⟨_, rfl⟩
    have e : fillN h l (fillO l) (k + 1) = if 0 ≤ lgtO h l p then p.set (lgtO h l p).toNat ((fillO l).getD k 0) else p := by rw [fillN, ← hp]
    rw [← hp] at a1 a2 a3 a4 a5
    have a1' : plOk h (bxsOk l) (bxIds l) p = true := by rw [hb]; exact a1
    rcases lgtO_cases a1' with ⟨c1, c2⟩ | ⟨j, c1, c2, c3⟩
    · rw [e, c1, if_neg (by omega)]
      have hfull := cnt_all (g := fun j => decide (pAt p j ≠ 0)) n (fun j hj => decide_eq_true (c2 j (by omega)))
      refine ⟨a1, a2, fun x hx hne => ?_, by omega, a5⟩
      exact List.mem_of_mem_take (i := k) (by rw [List.take_take, Nat.min_eq_left (by omega)]; exact a3 x hx hne)
    · rw [e, c1, if_pos (by omega), Int.toNat_natCast]
      have hkl : k < (fillO l).length := by omega
      obtain ⟨id, hid⟩ : ∃ id, id = (fillO l).getD k 0 := ⟨_, rfl⟩
      have hidg : (fillO l)[k] = id := by rw [hid, List.getD_eq_getElem?_getD, List.getElem?_eq_getElem hkl, Option.getD_some]
      rw [← hid]
      have hidm : id ∈ bxIds l := o3 _ (by rw [← hidg]; exact List.getElem_mem hkl)
      have hid1 := bxIds_pos hb id hidm
      have hnt : id ∉ (fillO l).take k := fun hm => by
        obtain ⟨i, hi, he⟩ := List.getElem_of_mem hm
        rw [List.length_take] at hi
        rw [List.getElem_take] at he
        exact List.pairwise_iff_getElem.1 (List.nodup_iff_pairwise_ne.1 o2) i k (by omega) hkl (by omega) (by rw [he, hidg])
      have hnp : id ∉ p := fun hm => hnt (a3 id hm (by omega))
      obtain ⟨d1, d2⟩ := of_decide_eq_true c3
      have hput := putP_next (bok := bxsOk l) (bxIds_pos hb) a1' hidm hnp c2
      rw [c3] at hput
      have hok : plOk h true (bxIds l) (p.set j id) = true := by
        rcases putP_cases h (bxsOk l) (bxIds l) p (j : Int) id with ⟨h1, h2⟩ | ⟨h1, h2⟩ | h9
        · rw [h2] at hput; cases hput
        · rw [h2] at hput; cases hput
        · obtain ⟨-, -, -, -, -, hk2, -⟩ := h9
          rw [Int.toNat_natCast, hb] at hk2
          exact hk2
      have hord : ∀ x, x ∈ (fillO l).take k → ptB l id ≤ ptB l x := fun x hx => by
        obtain ⟨i, hi, he⟩ := List.getElem_of_mem hx
        rw [List.length_take] at hi
        rw [List.getElem_take] at he
        have := List.pairwise_iff_getElem.1 o4 i k (by omega) hkl (by omega)
        rw [he, hidg] at this
        exact (key_port hb (o3 x (by rw [← he]; exact List.getElem_mem _)) hidm this).1
      refine ⟨hok, by rw [List.length_set]; exact a2, fun x hx hne => ?_, ?_, fun a b hab hbn hrow hza hzb => ?_⟩
      · rw [← List.take_append_getElem hkl, hidg]
        rcases List.mem_or_eq_of_mem_set hx with h1 | h1
        · exact List.mem_append_left _ (a3 x h1 hne)
        · exact List.mem_append_right _ (by rw [h1]; exact List.mem_singleton_self _)
      · rw [cnt_set c2 d1 (by omega), if_pos (by omega), a4]
        have hc : cnt (fun i => decide (pAt p i ≠ 0)) n < n := by
          rcases Nat.lt_or_ge (cnt (fun i => decide (pAt p i ≠ 0)) n) n with h1 | h1
          · exact h1
          · exfalso
            have h2 := cnt_set (x := id) c2 d1 (by omega) n
            rw [if_pos (by omega)] at h2
            have h3 := cnt_le (fun k => decide (pAt (p.set j id) k ≠ 0)) n
            omega
        omega
      · by_cases ea : a = j
        · subst ea
          exfalso
          rw [pAt_set_ne (by omega)] at hzb
          obtain ⟨R, q1, q2, q3⟩ := rows_pl a1'
          obtain ⟨T, hT⟩ : ∃ T, T = h.t.toNat := ⟨_, rfl⟩
          rw [← hT] at q1 q2 q3 hrow
          obtain ⟨r1, r2, r3⟩ := slot_row q2 (show a < R * T by omega)
          obtain ⟨s1, s2, s3⟩ := slot_row q2 (show b < R * T by omega)
          obtain ⟨-, f2, f3, f4⟩ := row_form a1' q1 q2 q3 r1
          rw [← hrow] at s3
          have hH : hgtR T p (a / T) ≤ a % T := by
            rcases Nat.lt_or_ge (a % T) (hgtR T p (a / T)) with h9 | h9
            · exact absurd (by rw [r3]; exact d1) (f3 _ h9)
            · exact h9
          have := f4 (b % T) (by omega) s2
          rw [s3] at this
          exact hzb this
        · rw [pAt_set_ne (fun h9 => ea h9.symm)] at hza ⊢
          by_cases eb : b = j
          · subst eb
            rw [pAt_set_self c2]
            exact hord _ (a3 _ (by rw [pAt_get (by omega)]; exact List.getElem_mem _) hza)
          · rw [pAt_set_ne (fun h9 => eb h9.symm)] at hzb ⊢
            exact a5 a b hab hbn hrow hza hzb
/-- A ship that was filled: nothing is overstowed, and it is full or has all boxes. -/
theorem fillP_law {h : Hl} {l : List Bx} (hh : hlOk h = true) (hb : bxsOk l = true) : plOk h (bxsOk l) (bxIds l) (fillP h l) = true ∧ overO h l (fillP h l) = 0 ∧ (((idsP h (bxsOk l) (bxIds l) (fillP h l)).length : Nat) : Int) = min (l.length : Int) (slMany h) ∧ (fillP h l).length = (slMany h).toNat := by
  obtain ⟨a1, a2, a3, a4, a5⟩ := fillN_law hh hb l.length (Nat.le_refl _)
  obtain ⟨m1, m2, m3⟩ := slMany_bd hh
  have e : fillP h l = fillN h l (fillO l) l.length := by unfold fillP; rw [if_pos hb]
  rw [e]
  have a1' : plOk h (bxsOk l) (bxIds l) (fillN h l (fillO l) l.length) = true := by rw [hb]; exact a1
  refine ⟨a1', ?_, ?_, a2⟩
  · unfold overO
    rw [if_pos a1', cnt_none _ (fun b hbl => ?_)]
    · rfl
    · cases ho : overS h.t.toNat (ptB l) (fillN h l (fillO l) l.length) b
      · rfl
      · exfalso
        unfold overS at ho
        rw [Bool.and_eq_true, List.any_eq_true] at ho
        obtain ⟨hz, j, hj, hc⟩ := ho
        have hj := List.mem_range.1 hj
        obtain ⟨c1, c2, c3⟩ := of_decide_eq_true hc
        have := a5 j b hj (by omega) c2.symm c1 (of_decide_eq_true hz)
        omega
  · rw [idsP_cnt a1', a2, a4]
    omega
theorem fillP_bad {h : Hl} {l : List Bx} (hc : ¬ (hlOk h = true ∧ bxsOk l = true)) : fillP h l = [] := by
  unfold fillP
  split
  · next hb =>
    have hh : hlOk h = false := by
      cases he : hlOk h
      · rfl
      · exact absurd ⟨he, hb⟩ hc
    have e0 : emptyP h = [] := by unfold emptyP; rw [hh]; rfl
    have hbad : plOk h (bxsOk l) (bxIds l) [] = false := plOk_no fun h9 => by rw [hh] at h9; cases h9.1
    have hl : lgtO h l [] = -1 := by unfold lgtO; rw [nextI_bad hbad]; rfl
    have : ∀ k, fillN h l (fillO l) k = [] := fun k => by
      induction k with
      | zero => exact e0
      | succ k ih => rw [fillN, ih, hl, if_neg (by omega)]
    exact this _
  · rfl
/-- Who is left over. -/
def leftO (h : Hl) (l : List Bx) (p : List Int) : List Int := if plOk h (bxsOk l) (bxIds l) p = true then (bxIds l).filter (fun x => !hasI p x) else []
theorem leftO_bad {h : Hl} {l : List Bx} {p : List Int} (hk : plOk h (bxsOk l) (bxIds l) p = false) : leftO h l p = [] := by unfold leftO; rw [hk]; rfl
theorem same_len {a b : List Int} (ha : a.Nodup) (hb : b.Nodup) (h : ∀ x, x ∈ a ↔ x ∈ b) : a.length = b.length := by
  have h1 := List.Nodup.length_le_of_subset ha (fun x hx => (h x).1 hx)
  have h2 := List.Nodup.length_le_of_subset hb (fun x hx => (h x).2 hx)
  omega
theorem part_len (g : Int → Bool) : ∀ (l : List Int), (l.filter g).length + (l.filter fun x => !g x).length = l.length
  | [] => rfl
  | x :: l => by
    have ih := part_len g l
    cases hg : g x
    · rw [List.filter_cons_of_neg (by rw [hg]; simp), List.filter_cons_of_pos (by rw [hg]; rfl), List.length_cons, List.length_cons]; omega
    · rw [List.filter_cons_of_pos hg, List.filter_cons_of_neg (by rw [hg]; simp), List.length_cons, List.length_cons]; omega
theorem leftO_law {h : Hl} {l : List Bx} {p : List Int} (hk : plOk h (bxsOk l) (bxIds l) p = true) : (idsP h (bxsOk l) (bxIds l) p).length + (leftO h l p).length = l.length ∧ ∀ x, x ∈ leftO h l p → 0 ≤ findB l x ∧ x ∉ idsP h (bxsOk l) (bxIds l) p := by
  have hb := plOk_bok hk
  have e : leftO h l p = (bxIds l).filter (fun x => !hasI p x) := by unfold leftO; rw [if_pos hk]
  rw [e]
  constructor
  · have h1 := part_len (fun x => hasI p x) (bxIds l)
    have h2 : (idsP h (bxsOk l) (bxIds l) p).length = ((bxIds l).filter fun x => hasI p x).length := by
      refine same_len (idsP_nodup _ _ _ _) (List.Nodup.sublist List.filter_sublist (bxIds_nodup hb)) fun x => ?_
      rw [List.mem_filter, hasI_iffP]
      constructor
      · intro hx
        obtain ⟨-, h3, h4⟩ := idsP_mem hx
        obtain ⟨k, hkl, rfl⟩ := List.getElem_of_mem h3
        have hne : pAt p k ≠ 0 := by rw [pAt_get hkl]; omega
        have := ((plOk_iff.1 hk).2.2.2 k hkl hne).1
        rw [pAt_get hkl] at this
        exact ⟨this, h3⟩
      · rintro ⟨h3, h4⟩
        unfold idsP
        rw [if_pos hk, List.mem_filter]
        exact ⟨h4, decide_eq_true (by have := bxIds_pos hb x h3; omega)⟩
    have h3 : (bxIds l).length = l.length := by simp [bxIds]
    omega
  · intro x hx
    obtain ⟨h1, h2⟩ := List.mem_filter.1 hx
    refine ⟨(findB_mem l x).2 h1, fun hm => ?_⟩
    obtain ⟨-, h3, -⟩ := idsP_mem hm
    rw [hasI_iffP.2 h3] at h2
    cases h2
end Go.Proofs.Ytfeobdgdhgcgoaa
