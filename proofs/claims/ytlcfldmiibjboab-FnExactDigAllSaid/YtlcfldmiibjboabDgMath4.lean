/-
  Plain mathematics of digging, fourth part: the lowest other stack; what stands while boxes are dug out, counted, and leave. Nothing of the program.
-/
import Derived.Test.YtlcfldmiibjboabGDg
import Derived.Test.YtlcfldmiibjboabGStk
namespace Go.Proofs.Ytlcfldmiibjboab
set_option linter.unusedVariables false

/-- The first of the stacks with the fewest boxes, other than one, among the first k. -/
def lowN (ss : List (List Int)) (but : Nat) : Nat → Option Nat
  | 0 => none
  | k + 1 => if k ≠ but ∧ (∀ b, lowN ss but k = some b → (rowAt ss k).length < (rowAt ss b).length) then some k else lowN ss but k
theorem lowN_lt {ss : List (List Int)} {but : Nat} : ∀ {k b : Nat}, lowN ss but k = some b → b < k ∧ b ≠ but
  | 0, b, e => by cases e
  | k + 1, b, e => by
    rw [lowN] at e
    split at e
    · next hc => cases e; exact ⟨by omega, hc.1⟩
    · have := lowN_lt e
      exact ⟨by omega, this.2⟩
theorem lowN_take {ss : List (List Int)} {but k : Nat} (hne : k ≠ but) (hs : ∀ b, lowN ss but k = some b → (rowAt ss k).length < (rowAt ss b).length) : lowN ss but (k + 1) = some k := by
  rw [lowN, if_pos ⟨hne, hs⟩]
theorem lowN_but {ss : List (List Int)} {but : Nat} : lowN ss but (but + 1) = lowN ss but but := by
  rw [lowN, if_neg (fun h => h.1 rfl)]
theorem lowN_keep {ss : List (List Int)} {but k b : Nat} (hb : lowN ss but k = some b) (hs : ¬ (rowAt ss k).length < (rowAt ss b).length) : lowN ss but (k + 1) = some b := by
  rw [lowN, if_neg (fun h => hs (h.2 b hb)), hb]
theorem roomN_take {h : Int} {ss : List (List Int)} {but k : Nat} (hne : k ≠ but) (hr : ((rowAt ss k).length : Int) < h) (hs : ∀ b, roomN h ss but k = some b → (rowAt ss k).length < (rowAt ss b).length) : roomN h ss but (k + 1) = some k := by
  rw [roomN, if_pos ⟨hne, hr, hs⟩]
theorem roomN_skip {h : Int} {ss : List (List Int)} {but k : Nat} (hn : k = but ∨ ¬ ((rowAt ss k).length : Int) < h) : roomN h ss but (k + 1) = roomN h ss but k := by
  rw [roomN, if_neg (fun hc => hn.elim hc.1 (fun h => h hc.2.1))]
theorem roomN_keep {h : Int} {ss : List (List Int)} {but k b : Nat} (hb : roomN h ss but k = some b) (hs : ¬ (rowAt ss k).length < (rowAt ss b).length) : roomN h ss but (k + 1) = some b := by
  rw [roomN, if_neg (fun hc => hs (hc.2.2 b hb)), hb]
/-- The lowest one has room, or none has. -/
theorem lowN_room {h : Int} {ss : List (List Int)} {but : Nat} (hl : ∀ k, ((rowAt ss k).length : Int) ≤ h) : ∀ k, (lowN ss but k = none → roomN h ss but k = none) ∧ ∀ b, lowN ss but k = some b → (((rowAt ss b).length : Int) < h → roomN h ss but k = some b) ∧ (¬ ((rowAt ss b).length : Int) < h → roomN h ss but k = none)
  | 0 => ⟨fun _ => rfl, fun b e => by cases e⟩
  | k + 1 => by
    obtain ⟨i1, i2⟩ := lowN_room (but := but) hl k
    by_cases hkb : k = but
    · subst hkb
      rw [lowN_but, roomN_skip (.inl rfl)]
      exact ⟨i1, i2⟩
    · by_cases hs : ∀ b, lowN ss but k = some b → (rowAt ss k).length < (rowAt ss b).length
      · rw [lowN_take hkb hs]
        refine ⟨fun e => (by cases e), fun b e => ?_⟩
        cases e
        refine ⟨fun hr => roomN_take hkb hr fun b hb => ?_, fun hr => ?_⟩
        · cases hL : lowN ss but k with
          | none => rw [i1 hL] at hb; cases hb
          | some b' =>
            obtain ⟨j1, j2⟩ := i2 b' hL
            by_cases hb' : ((rowAt ss b').length : Int) < h
            · rw [j1 hb'] at hb; cases hb; exact hs _ hL
            · rw [j2 hb'] at hb; cases hb
        · rw [roomN_skip (.inr hr)]
          cases hL : lowN ss but k with
          | none => exact i1 hL
          | some b' =>
            have h1 := hs b' hL
            have h2 := hl b'
            omega
      · obtain ⟨b, hb⟩ : ∃ b, lowN ss but k = some b := by
          cases hL : lowN ss but k with
          | none => exact absurd (fun b e => by rw [hL] at e; cases e) hs
          | some b => exact ⟨b, rfl⟩
        have hlt : ¬ (rowAt ss k).length < (rowAt ss b).length := fun hc => hs fun b' e => by rw [hb] at e; cases e; exact hc
        rw [lowN_keep hb hlt]
        refine ⟨fun e => (by cases e), fun b' e => ?_⟩
        cases e
        obtain ⟨j1, j2⟩ := i2 b hb
        refine ⟨fun hr => roomN_keep (j1 hr) hlt, fun hr => ?_⟩
        rw [roomN_skip (.inr (by omega))]
        exact j2 hr
/-- A number for a place, -1 for none. -/
def optI : Option Nat → Int
  | some b => (b : Int)
  | none => -1
theorem row_le {h : Int} {ss : List (List Int)} (hk : ydOk h ss = true) (k : Nat) : ((rowAt ss k).length : Int) ≤ h := by
  rcases Nat.lt_or_ge k ss.length with hl | hl
  · exact (stOk_iff.1 (ydOk_row hk hl)).2.2.2.2
  · rw [rowAt_out hl]
    have := (ydOk_iff.1 hk).2.2.2.2
    simp; omega
/-- A move to a stack that is full, or to none, is not done. -/
theorem move_full {h : Int} {ss : List (List Int)} {f : Int} {b : Nat} (hk : ydOk h ss = true) (hb : ¬ ((rowAt ss b).length : Int) < h) : moveY h ss f (b : Int) = ((h, ss), false) := by
  rcases moveY_cases h ss f b with ⟨hc, _⟩ | ⟨_, e⟩ | ⟨_, uu, e, hok, _⟩
  · rw [hk] at hc; cases hc
  · exact e
  · exfalso
    obtain ⟨_, _, f0, f1, t0, t1, hne, m, x, hr, hu, _⟩ := moveY_form e
    rw [Int.toNat_natCast] at hne hu
    have h1 := row_le hok b
    rw [hu, rowAt_set_self (by rw [List.length_set]; omega), List.length_append, List.length_singleton] at h1
    omega
theorem move_out {h : Int} {ss : List (List Int)} {f t : Int} (hk : ydOk h ss = true) (ht : t < 0) : moveY h ss f t = ((h, ss), false) := by
  rcases moveY_cases h ss f t with ⟨hc, _⟩ | ⟨_, e⟩ | ⟨_, uu, e, _⟩
  · rw [hk] at hc; cases hc
  · exact e
  · obtain ⟨_, _, f0, f1, t0, _⟩ := moveY_form e
    omega
/-- What the program's way of digging does: it tries the lowest other stack. -/
theorem move_low {h : Int} {ss : List (List Int)} {f : Nat} {m : List Int} {x : Int} (hk : ydOk h ss = true) (hf : f < ss.length) (hr : rowAt ss f = m ++ [x]) :
    (roomN h ss f ss.length = none ∧ moveY h ss (f : Int) (optI (lowN ss f ss.length)) = ((h, ss), false)) ∨
    ∃ to, roomN h ss f ss.length = some to ∧ optI (lowN ss f ss.length) = (to : Int) ∧ moveY h ss (f : Int) (to : Int) = ((h, (ss.set f m).set to (rowAt ss to ++ [x])), true) := by
  obtain ⟨i1, i2⟩ := lowN_room (but := f) (row_le hk) ss.length
  cases hL : lowN ss f ss.length with
  | none => exact .inl ⟨i1 hL, move_out hk (by simp [optI])⟩
  | some b =>
    obtain ⟨j1, j2⟩ := i2 b hL
    by_cases hb : ((rowAt ss b).length : Int) < h
    · obtain ⟨q1, q2, q3⟩ := roomN_some (j1 hb)
      exact .inr ⟨b, j1 hb, rfl, dig_step hk hf hr q1 q2 q3⟩
    · exact .inl ⟨j2 hb, move_full hk hb⟩

/-- What stands while boxes are dug out: i of a were moved. -/
structure DigSt (h : Int) (ss : List (List Int)) (id : Int) (f a i : Nat) (tt : List (List Int)) (l : List (Int × Int)) (lo up : List Int) : Prop where
  ok : ydOk h tt = true
  lt : f < tt.length
  row : rowAt tt f = lo ++ [id] ++ up
  new : id ∉ lo
  len : up.length + i = a
  many : l.length = i
  four : a ≤ 4
  all : dig h f a ss = (dig h f up.length tt).map fun p => (l ++ p.1, p.2)
  find : findY h ss id = (f : Int)
  above : aboveS (rowAt ss f) h id = (a : Int)
theorem DigSt.start {h : Int} {ss : List (List Int)} {id : Int} (hf : 0 ≤ findY h ss id) : ∃ (f a : Nat) (lo up : List Int), findY h ss id = (f : Int) ∧ DigSt h ss id f a 0 ss [] lo up := by
  obtain ⟨hm, hk⟩ := findY_mem hf
  obtain ⟨f, lo, up, h1, h2, h3, h4, h5, h6⟩ := find_row hk hm
  refine ⟨f, up.length, lo, up, h2, hk, h1, h3, h4, rfl, rfl, h6, ?_, h2, h5⟩
  cases dig h f up.length ss <;> simp
theorem DigSt.left {h : Int} {ss tt : List (List Int)} {id : Int} {f a i : Nat} {l : List (Int × Int)} {lo up : List Int} (s : DigSt h ss id f a i tt l lo up) : aboveS (rowAt tt f) h id = (up.length : Int) := by
  have := ydOk_row s.ok s.lt
  rw [s.row] at this ⊢
  exact above_of this s.new
theorem DigSt.digM_ {h : Int} {ss tt : List (List Int)} {id : Int} {f a i : Nat} {l : List (Int × Int)} {lo up : List Int} (s : DigSt h ss id f a i tt l lo up) : digM h ss id = (match dig h f a ss with | some p => (p.1, true) | none => ([], false)) := by
  unfold digM
  rw [if_neg (by have := s.find; omega), s.find, Int.toNat_natCast, s.above, Int.toNat_natCast]
  rfl
/-- Nothing is above it any longer. -/
theorem DigSt.bare {h : Int} {ss tt : List (List Int)} {id : Int} {f a i : Nat} {l : List (Int × Int)} {lo up : List Int} (s : DigSt h ss id f a i tt l lo up) (h0 : up.length = 0) : digM h ss id = (l, true) := by
  rw [s.digM_, s.all, h0]
  simp [dig]
theorem DigSt.stuck {h : Int} {ss tt : List (List Int)} {id : Int} {f a i : Nat} {l : List (Int × Int)} {lo up : List Int} (s : DigSt h ss id f a i tt l lo up) (h0 : 0 < up.length) (hr : roomN h tt f tt.length = none) : digM h ss id = ([], false) := by
  rw [s.digM_, s.all]
  obtain ⟨n, hn⟩ : ∃ n, up.length = n + 1 := ⟨up.length - 1, by omega⟩
  rw [hn, dig, hr]
  rfl
theorem DigSt.top {h : Int} {ss tt : List (List Int)} {id : Int} {f a i : Nat} {l : List (Int × Int)} {lo up : List Int} (s : DigSt h ss id f a i tt l lo up) (h0 : 0 < up.length) : rowAt tt f = (lo ++ [id] ++ up.take (up.length - 1)) ++ [up.getD (up.length - 1) 0] := by
  rw [s.row, List.append_assoc (lo ++ [id]), ← row_top h0]
theorem dig_succ {h : Int} {f a to : Nat} {ss uu : List (List Int)} (hr : roomN h ss f ss.length = some to) (hmv : moveY h ss (f : Int) (to : Int) = ((h, uu), true)) : dig h f (a + 1) ss = (dig h f a uu).map fun p => (((f : Int), (to : Int)) :: p.1, p.2) := by
  rw [dig, hr]
  simp only [hmv]
theorem DigSt.step {h : Int} {ss tt : List (List Int)} {id : Int} {f a i to : Nat} {l : List (Int × Int)} {lo up : List Int} (s : DigSt h ss id f a i tt l lo up) (h0 : 0 < up.length) (hr : roomN h tt f tt.length = some to) :
    ∃ uu, moveY h tt (f : Int) (to : Int) = ((h, uu), true) ∧ DigSt h ss id f a (i + 1) uu (l ++ [((f : Int), (to : Int))]) lo (up.take (up.length - 1)) := by
  obtain ⟨q1, q2, q3⟩ := roomN_some hr
  have hmv := dig_step s.ok s.lt (s.top h0) q1 q2 q3
  obtain ⟨_, _, _, _, hok⟩ := (moveY_form hmv).2.2.2.2.2.2.2
  have hl := s.len
  refine ⟨_, hmv, hok, by rw [List.length_set, List.length_set]; exact s.lt, ?_, s.new, by rw [List.length_take]; omega, by rw [List.length_append, s.many]; rfl, s.four, ?_, s.find, s.above⟩
  · rw [rowAt_set_ne q2, rowAt_set_self s.lt]
  · have e : up.length = (up.take (up.length - 1)).length + 1 := by rw [List.length_take]; omega
    have e2 : dig h f up.length tt = _ := (congrArg (fun n => dig h f n tt) e).trans (dig_succ hr hmv)
    rw [s.all, e2]
    clear e2
    generalize dig h f (up.take (up.length - 1)).length _ = D
    cases D <;> simp

theorem blk_le (os : List Int) : ∀ (s : List Int) (m : Nat), blk os m s ≤ s.length
  | [], m => Nat.le_refl _
  | x :: s, m => by
    have := blk_le os s (min m (turn os x))
    show (if m < turn os x then 1 else 0) + _ ≤ s.length + 1
    split <;> omega
theorem blk_take {os : List Int} {m j : Nat} {s : List Int} (hj : j < s.length) : blk os m (s.take (j + 1)) = blk os m (s.take j) + (if leastT os m (s.take j) < turn os (s.getD j 0) then 1 else 0) ∧ leastT os m (s.take (j + 1)) = min (leastT os m (s.take j)) (turn os (s.getD j 0)) := by
  rw [getD_i hj, ← List.take_append_getElem hj, blk_snoc, leastT_snoc]
  exact ⟨rfl, rfl⟩
/-- How many of the first k rows are in the way. -/
def blkN (os : List Int) (ss : List (List Int)) (k : Nat) : Nat := blkY os (ss.take k)
theorem blkN_zero (os : List Int) (ss : List (List Int)) : blkN os ss 0 = 0 := by simp [blkN, blkY]
theorem blkN_next {os : List Int} {ss : List (List Int)} {k : Nat} (hk : k < ss.length) : blkN os ss (k + 1) = blkN os ss k + blk os os.length (rowAt ss k) := by
  unfold blkN blkY
  rw [rowAt_get hk, ← List.take_append_getElem hk, List.map_append, List.sum_append]
  simp
theorem blkN_end (os : List Int) (ss : List (List Int)) : blkN os ss ss.length = blkY os ss := by simp [blkN]
theorem blkN_le {os : List Int} {ss : List (List Int)} : ∀ k, blkN os ss k ≤ (ss.take k).flatten.length := by
  intro k
  unfold blkN blkY
  generalize ss.take k = tt
  induction tt with
  | nil => simp
  | cons s tt ih =>
    have := blk_le os s os.length
    rw [List.map_cons, List.sum_cons, List.flatten_cons, List.length_append]
    omega
theorem blkN_25 {h : Int} {os : List Int} {ss : List (List Int)} (hk : ydOk h ss = true) (k : Nat) : blkN os ss k ≤ 25 := by
  have h1 := blkN_le (os := os) (ss := ss) k
  have h2 := ydOk_size hk
  have h3 : (ss.take k).flatten.length ≤ ss.flatten.length := by
    have : ss.flatten = (ss.take k).flatten ++ (ss.drop k).flatten := by rw [← List.flatten_append, List.take_append_drop]
    rw [this, List.length_append]; omega
  omega
theorem turn_le (os : List Int) (x : Int) : turn os x ≤ os.length := List.idxOf_le_length
theorem leastT_le (os : List Int) : ∀ (s : List Int) (m : Nat), leastT os m s ≤ m
  | [], m => Nat.le_refl _
  | x :: s, m => Nat.le_trans (leastT_le os s _) (Nat.min_le_left _ _)
theorem turn_hit {os : List Int} {x : Int} {k : Nat} (hk : k < os.length) (hn : ∀ j (hj : j < os.length), j < k → os[j] ≠ x) (h : os[k] = x) : turn os x = k := by
  subst h
  show List.findIdx (· == os[k]) os = k
  exact (List.findIdx_eq hk).2 ⟨by simp, fun j hj => by simpa using hn j (by omega) hj⟩
theorem turn_none {os : List Int} {x : Int} (hn : ∀ j (hj : j < os.length), os[j] ≠ x) : turn os x = os.length := by
  unfold turn
  refine List.idxOf_eq_length fun hm => ?_
  obtain ⟨k, hk, he⟩ := List.getElem_of_mem hm
  exact hn k hk he
theorem turn_idx (os : List Int) (x : Int) : (turn os x : Int) = if idxI os x < 0 then (os.length : Int) else idxI os x := by
  by_cases hm : x ∈ os
  · have hk : turn os x < os.length := List.idxOf_lt_length_of_mem hm
    have he : os[turn os x] = x := List.getElem_idxOf hk
    have hn : ∀ j (hj : j < os.length), j < turn os x → os[j] ≠ x := fun j hj hjk => by
      have := List.not_of_lt_findIdx (p := (· == x)) (xs := os) (i := j) hjk
      simpa using this
    rw [idxI_hit hk hn he, if_neg (by omega)]
  · have hn : ∀ j (hj : j < os.length), os[j] ≠ x := fun j hj he => hm (he ▸ List.getElem_mem hj)
    rw [idxI_none hn, if_pos (by omega), turn_none hn]

/-- What stands while boxes leave: k of the order have left, n moves were made. -/
structure AllSt (h : Int) (ss : List (List Int)) (os : List Int) (k n : Nat) (tt : List (List Int)) : Prop where
  ok : ydOk h tt = true
  few : n ≤ 4 * k
  all : dgA h os ss = (dgA h (os.drop k) tt).map (· + n)
theorem AllSt.start {h : Int} {ss : List (List Int)} {os : List Int} (hk : ydOk h ss = true) : AllSt h ss os 0 0 ss :=
  ⟨hk, by omega, by rw [List.drop_zero]; cases dgA h os ss <;> simp⟩
theorem AllSt.last {h : Int} {ss tt : List (List Int)} {os : List Int} {n : Nat} (s : AllSt h ss os os.length n tt) (ho : ordOk h ss os = true) : digA h ss os = ((n : Int), true) := by
  unfold digA
  rw [if_pos ho, s.all, List.drop_length]
  simp [dgA]
theorem AllSt.stuck {h : Int} {ss tt : List (List Int)} {os : List Int} {k n : Nat} (s : AllSt h ss os k n tt) (ho : ordOk h ss os = true) (hk : k < os.length) (hd : digM h tt (os.getD k 0) = ([], false)) : digA h ss os = (-1, false) := by
  unfold digA
  rw [getD_i hk] at hd
  rw [if_pos ho, s.all, List.drop_eq_getElem_cons hk, dgA, hd]
  simp
theorem AllSt.next {h : Int} {ss tt : List (List Int)} {os : List Int} {k n : Nat} (s : AllSt h ss os k n tt) (hk : k < os.length) {l : List (Int × Int)} (hd : digM h tt (os.getD k 0) = (l, true)) :
    ∃ (f : Nat) (vv uu : List (List Int)), runY h tt l = ((h, vv), (l.length : Int)) ∧ ydOk h vv = true ∧ findY h vv (os.getD k 0) = (f : Int) ∧ takeY h vv (f : Int) = ((h, uu), os.getD k 0) ∧ l.length ≤ 4 ∧ AllSt h ss os (k + 1) (n + l.length) uu := by
  rcases digM_cases h tt (os.getD k 0) with e | ⟨_, hm, f, lo, up, l', vv, h1, h2, h3, h4, e, h5, h6, h7, h8, h9, h10, h11, h12, h13, h14, h15, h16⟩
  · rw [e] at hd; cases hd
  · rw [e] at hd
    cases hd
    refine ⟨f, vv, _, h9, h10, h14, h15, h6, h16, by have := s.few; omega, ?_⟩
    rw [s.all, List.drop_eq_getElem_cons hk, dgA]
    rw [getD_i hk] at e h14 h15
    rw [e]
    simp only [if_true, h9, h14, h15]
    cases dgA h (os.drop (k + 1)) (vv.set f lo) with
    | none => rfl
    | some q => simp; omega
theorem ord_len {h : Int} {ss : List (List Int)} {os : List Int} (ho : ordOk h ss os = true) : os.length ≤ 25 := by
  obtain ⟨h1, h2, h3⟩ := ordOk_iff.1 ho
  have := ydOk_size h1
  have h4 : os.length ≤ ss.flatten.length := List.Nodup.length_le_of_subset h2 fun x hx => h3 x hx
  omega
end Go.Proofs.Ytlcfldmiibjboab
