/-
  Plain mathematics of digging, first part: how many boxes lie in the way, and that each has to be moved. Nothing of the program.
  Plain mathematics of digging, second part: laying a box bare, and letting boxes leave. Nothing of the program.
  Plain mathematics of digging, third part: orders, laying bare by an id, and all boxes of an order. Nothing of the program.
-/
import Derived.Test.YtlcfldmiibjboabGYd
import Derived.Test.YtlcfldmiibjboabYmM
namespace Go.Proofs.Ytlcfldmiibjboab
set_option linter.unusedVariables false

/-- When a box leaves: its place in the order, or one behind all. -/
def turn (os : List Int) (x : Int) : Nat := os.idxOf x
/-- How many of a row lie above one that leaves earlier (m: the least turn below them). -/
def blk (os : List Int) : Nat → List Int → Nat
  | _, [] => 0
  | m, x :: t => (if m < turn os x then 1 else 0) + blk os (min m (turn os x)) t
/-- The least turn of a row. -/
def leastT (os : List Int) : Nat → List Int → Nat
  | m, [] => m
  | m, x :: t => leastT os (min m (turn os x)) t
theorem blk_snoc (os : List Int) : ∀ (s : List Int) (m : Nat) (x : Int), blk os m (s ++ [x]) = blk os m s + if leastT os m s < turn os x then 1 else 0
  | [], m, x => by
    show (if m < turn os x then 1 else 0) + 0 = 0 + (if m < turn os x then 1 else 0)
    omega
  | y :: s, m, x => by
    show (if m < turn os y then 1 else 0) + blk os (min m (turn os y)) (s ++ [x]) = ((if m < turn os y then 1 else 0) + blk os (min m (turn os y)) s) + _
    rw [blk_snoc os s]
    show _ = _ + if leastT os (min m (turn os y)) s < turn os x then 1 else 0
    omega
theorem leastT_snoc (os : List Int) : ∀ (s : List Int) (m : Nat) (x : Int), leastT os m (s ++ [x]) = min (leastT os m s) (turn os x)
  | [], m, x => rfl
  | y :: s, m, x => leastT_snoc os s _ x
theorem blk_up (os : List Int) (m : Nat) (s : List Int) (x : Int) : blk os m s ≤ blk os m (s ++ [x]) ∧ blk os m (s ++ [x]) ≤ blk os m s + 1 := by
  rw [blk_snoc]; split <;> omega
theorem blk_first (os : List Int) (m : Nat) (s : List Int) (x : Int) : blk (x :: os) m (s ++ [x]) = blk (x :: os) m s := by
  rw [blk_snoc]
  have : turn (x :: os) x = 0 := by unfold turn; simp
  rw [this, if_neg (by omega)]; rfl
theorem turn_shift {os : List Int} {x y : Int} (h : y ≠ x) : turn (x :: os) y = turn os y + 1 := by
  unfold turn
  rw [List.idxOf_cons]
  have : (x == y) = false := by simp; exact fun e => h e.symm
  rw [this]; rfl
theorem blk_shift (os : List Int) (x : Int) : ∀ (s : List Int) (m : Nat), x ∉ s → blk (x :: os) (m + 1) s = blk os m s
  | [], _, _ => rfl
  | y :: s, m, h => by
    have hy : y ≠ x := fun e => h (by simp [e])
    have hs : x ∉ s := fun e => h (by simp [e])
    show (if m + 1 < turn (x :: os) y then 1 else 0) + blk (x :: os) (min (m + 1) (turn (x :: os) y)) s = (if m < turn os y then 1 else 0) + blk os (min m (turn os y)) s
    rw [turn_shift hy, show min (m + 1) (turn os y + 1) = min m (turn os y) + 1 by omega, blk_shift os x s _ hs]
    congr 1
    by_cases hc : m < turn os y
    · rw [if_pos hc, if_pos (by omega)]
    · rw [if_neg hc, if_neg (by omega)]
theorem blk_none : ∀ (s : List Int) (m : Nat), blk [] m s = 0
  | [], _ => rfl
  | y :: s, m => by
    show (if m < turn [] y then 1 else 0) + blk [] (min m (turn [] y)) s = 0
    rw [blk_none s, show turn [] y = 0 from rfl, if_neg (by omega)]
/-- How many boxes of all rows are in the way. -/
def blkY (os : List Int) (ss : List (List Int)) : Nat := (ss.map (blk os os.length)).sum
theorem sum_set (f : List Int → Nat) : ∀ (ss : List (List Int)) (k : Nat) (r : List Int), k < ss.length → ((ss.set k r).map f).sum + f (rowAt ss k) = (ss.map f).sum + f r
  | s :: ss, 0, r, _ => by
    show (f r + (ss.map f).sum) + f s = (f s + (ss.map f).sum) + f r
    omega
  | s :: ss, k + 1, r, h => by
    have ih := sum_set f ss k r (by simpa using h)
    show (f s + ((ss.set k r).map f).sum) + f (rowAt ss k) = (f s + (ss.map f).sum) + f r
    omega
theorem blkY_none (ss : List (List Int)) : blkY [] ss = 0 := by
  unfold blkY
  induction ss with
  | nil => rfl
  | cons s ss ih =>
    show blk [] 0 s + (ss.map (blk [] 0)).sum = 0
    rw [blk_none]
    have : (ss.map (blk [] ([] : List Int).length)).sum = 0 := ih
    simpa using this
theorem blkY_shift {os : List Int} {x : Int} {ss : List (List Int)} (h : x ∉ ss.flatten) : blkY (x :: os) ss = blkY os ss := by
  unfold blkY
  induction ss with
  | nil => rfl
  | cons s ss ih =>
    rw [List.flatten_cons, List.mem_append] at h
    have i2 := ih fun hm => h (.inr hm)
    show blk (x :: os) (os.length + 1) s + (ss.map (blk (x :: os) (x :: os).length)).sum = blk os os.length s + _
    rw [blk_shift os x s os.length fun hm => h (.inl hm), i2]
    rfl

/-- What a move that is done does. -/
theorem moveY_form {h h' : Int} {ss tt : List (List Int)} {f t : Int} (he : moveY h ss f t = ((h', tt), true)) :
    ydOk h ss = true ∧ h' = h ∧ 0 ≤ f ∧ f < (ss.length : Int) ∧ 0 ≤ t ∧ t < (ss.length : Int) ∧ f.toNat ≠ t.toNat ∧ ∃ m x, rowAt ss f.toNat = m ++ [x] ∧ tt = (ss.set f.toNat m).set t.toNat (rowAt ss t.toNat ++ [x]) ∧ ydOk h tt = true := by
  rcases takeY_cases h ss f with ⟨hk, e⟩ | ⟨hk, _, e⟩ | ⟨hk, f0, f1, m, x, hr, x0, x1, e⟩
  · rw [moveY_bad hk] at he; simp at he
  · unfold moveY at he
    rw [if_pos hk, e, if_pos (.inl (show ((-1 : Int) < 0) by omega))] at he
    simp at he
  · unfold moveY at he
    rw [if_pos hk, e] at he
    by_cases hno : x < 0 ∨ f = t
    · rw [if_pos hno] at he; simp at he
    · rw [if_neg hno] at he
      have hfl : f.toNat < ss.length := by omega
      rcases putY_cases h (ss.set f.toNat m) t x with ⟨hk2, e2⟩ | ⟨_, e2⟩ | ⟨hk2, t0, t1, hk3, e2⟩
      · simp only [e2] at he
        rw [if_neg (by simp)] at he
        simp at he
      · simp only [e2] at he
        rw [if_neg (by simp)] at he
        simp at he
      · simp only [e2, if_true, Prod.mk.injEq, and_true] at he
        rw [List.length_set] at t1
        have hne : f.toNat ≠ t.toNat := fun e => hno (.inr (by omega))
        have hrt : rowAt (ss.set f.toNat m) t.toNat = rowAt ss t.toNat := rowAt_set_ne hne m
        rw [hrt] at he hk3
        exact ⟨hk, he.1.symm, f0, f1, t0, t1, hne, m, x, hr, he.2.symm, by rw [← he.2]; exact hk3⟩
/-- A move takes at most one box out of the way. -/
theorem blkY_move {h h' : Int} {ss tt : List (List Int)} {f t : Int} (os : List Int) (he : moveY h ss f t = ((h', tt), true)) : blkY os ss ≤ blkY os tt + 1 := by
  obtain ⟨hk, _, f0, f1, t0, t1, hne, m, x, hr, rfl, _⟩ := moveY_form he
  have hrt : rowAt (ss.set f.toNat m) t.toNat = rowAt ss t.toNat := rowAt_set_ne hne m
  have s1 := sum_set (blk os os.length) ss f.toNat m (by omega)
  have s2 := sum_set (blk os os.length) (ss.set f.toNat m) t.toNat (rowAt ss t.toNat ++ [x]) (by rw [List.length_set]; omega)
  rw [hrt] at s2
  rw [hr] at s1
  have u1 := blk_up os os.length m x
  have u2 := blk_up os os.length (rowAt ss t.toNat) x
  unfold blkY
  omega
/-- Who leaves first is in nobody's way. -/
theorem blkY_take {h : Int} {ss : List (List Int)} {k : Nat} {os : List Int} {m : List Int} {x : Int} (hk : ydOk h ss = true) (hl : k < ss.length) (hr : rowAt ss k = m ++ [x]) : blkY (x :: os) ss = blkY os (ss.set k m) := by
  rw [← blkY_shift (ydOk_take hk hl hr).2.2.2]
  have s1 := sum_set (blk (x :: os) (x :: os).length) ss k m hl
  rw [hr, blk_first] at s1
  unfold blkY
  omega
theorem blkY_done {h : Int} {ss tt : List (List Int)} {ms : List (Int × Int)} (os : List Int) (hd : Done h ss ms tt) : blkY os ss ≤ blkY os tt + ms.length := by
  induction hd with
  | nil ss => exact Nat.le_add_right _ _
  | cons ss m tt ms uu he _ ih =>
    have := blkY_move os he
    rw [List.length_cons]
    omega

/-- Moves one after the other, and boxes that leave in an order (a move onto a stack below 0): how many moves, and whether all could be done. -/
def lv (h : Int) : List (Int × Int) → List (List Int) → List Int → Nat × Bool
  | [], _, os => (0, os.isEmpty)
  | m :: l, ss, os =>
    if 0 ≤ m.2 then (if (moveY h ss m.1 m.2).2 = true then ((lv h l (moveY h ss m.1 m.2).1.2 os).1 + 1, (lv h l (moveY h ss m.1 m.2).1.2 os).2) else (0, false))
    else (match os with
      | [] => (0, false)
      | id :: os' => if 0 ≤ (takeY h ss m.1).2 ∧ (takeY h ss m.1).2 = id then lv h l (takeY h ss m.1).1.2 os' else (0, false))
/-- What is in the way has to be moved: however boxes are moved, at least so many moves are made. -/
theorem lv_ge {h : Int} : ∀ (l : List (Int × Int)) (ss : List (List Int)) (os : List Int), ydOk h ss = true → (lv h l ss os).2 = true → blkY os ss ≤ (lv h l ss os).1
  | [], ss, os, _, he => by
    have : os = [] := by
      cases os with
      | nil => rfl
      | cons a t => simp [lv] at he
    subst this
    rw [blkY_none]; exact Nat.zero_le _
  | m :: l, ss, os, hk, he => by
    unfold lv at he ⊢
    by_cases h0 : 0 ≤ m.2
    · rw [if_pos h0] at he ⊢
      by_cases hm : (moveY h ss m.1 m.2).2 = true
      · rw [if_pos hm] at he ⊢
        have hmv : moveY h ss m.1 m.2 = (((moveY h ss m.1 m.2).1.1, (moveY h ss m.1 m.2).1.2), true) := by rw [← hm]
        have hok := (moveY_form hmv).2.2.2.2.2.2.2
        obtain ⟨_, _, _, _, hok⟩ := hok
        have ih := lv_ge l _ os hok he
        have := blkY_move os hmv
        show blkY os ss ≤ (lv h l (moveY h ss m.1 m.2).1.2 os).1 + 1
        omega
      · rw [if_neg hm] at he; simp at he
    · rw [if_neg h0] at he ⊢
      cases os with
      | nil => simp at he
      | cons id os' =>
        simp only [] at he ⊢
        by_cases hc : 0 ≤ (takeY h ss m.1).2 ∧ (takeY h ss m.1).2 = id
        · rw [if_pos hc] at he ⊢
          rcases takeY_cases h ss m.1 with ⟨_, e⟩ | ⟨_, _, e⟩ | ⟨_, f0, f1, u, x, hr, _, _, e⟩
          · rw [e] at hc; have := hc.1; simp at this
          · rw [e] at hc; have := hc.1; simp at this
          · rw [e] at hc he ⊢
            obtain ⟨_, rfl⟩ := hc
            have ih := lv_ge l _ os' (ydOk_take hk (k := m.1.toNat) (by omega) hr).1 he
            rw [blkY_take hk (k := m.1.toNat) (by omega) hr]
            exact ih
        · rw [if_neg hc] at he; simp at he
end Go.Proofs.Ytlcfldmiibjboab
namespace Go.Proofs.Ytlcfldmiibjboab
set_option linter.unusedVariables false

/-- The best of the first k stacks, other than one, that have room: the first one with the fewest boxes. -/
def roomN (h : Int) (ss : List (List Int)) (but : Nat) : Nat → Option Nat
  | 0 => none
  | k + 1 => if k ≠ but ∧ ((rowAt ss k).length : Int) < h ∧ (∀ b, roomN h ss but k = some b → (rowAt ss k).length < (rowAt ss b).length) then some k else roomN h ss but k
theorem roomN_some {h : Int} {ss : List (List Int)} {but : Nat} : ∀ {k b : Nat}, roomN h ss but k = some b → b < k ∧ b ≠ but ∧ ((rowAt ss b).length : Int) < h
  | 0, b, e => by cases e
  | k + 1, b, e => by
    rw [roomN] at e
    split at e
    · next hc => cases e; exact ⟨by omega, hc.1, hc.2.1⟩
    · have := roomN_some e
      exact ⟨by omega, this.2⟩
theorem roomN_none {h : Int} {ss : List (List Int)} {but : Nat} : ∀ {k : Nat}, roomN h ss but k = none → ∀ j, j < k → j ≠ but → h ≤ ((rowAt ss j).length : Int)
  | 0, _, j, hj, _ => by omega
  | k + 1, e, j, hj, hb => by
    rw [roomN] at e
    split at e
    · cases e
    · next hc =>
      by_cases hjk : j = k
      · subst hjk
        rcases Int.lt_or_le ((rowAt ss j).length : Int) h with hlt | hle
        · exact absurd ⟨hb, hlt, fun b hb' => by rw [e] at hb'; cases hb'⟩ hc
        · exact hle
      · exact roomN_none e j (by omega) hb
/-- Digging: so many boxes moved away from a stack, each to the one with the fewest. -/
def dig (h : Int) (from_ : Nat) : Nat → List (List Int) → Option (List (Int × Int) × List (List Int))
  | 0, ss => some ([], ss)
  | a + 1, ss => match roomN h ss from_ ss.length with
    | none => none
    | some to => (dig h from_ a (moveY h ss from_ to).1.2).map fun p => (((from_ : Int), (to : Int)) :: p.1, p.2)
/-- A box can be put onto a stack that has room. -/
theorem dig_step {h : Int} {ss : List (List Int)} {f to : Nat} {m : List Int} {x : Int} (hk : ydOk h ss = true) (hf : f < ss.length) (hr : rowAt ss f = m ++ [x]) (ht : to < ss.length) (hne : to ≠ f) (hroom : ((rowAt ss to).length : Int) < h) :
    moveY h ss (f : Int) (to : Int) = ((h, (ss.set f m).set to (rowAt ss to ++ [x])), true) := by
  have htk := ydOk_take hk hf hr
  have e1 : takeY h ss (f : Int) = ((h, ss.set f m), x) := takeY_yes hk (by omega) (by omega) (by rw [Int.toNat_natCast]; exact hr)
  have hrt : rowAt (ss.set f m) to = rowAt ss to := rowAt_set_ne (Ne.symm hne) m
  have hl2 : to < (ss.set f m).length := by rw [List.length_set]; exact ht
  have hrow := ydOk_row htk.1 hl2
  rw [hrt] at hrow
  have hxn : x ∉ rowAt ss to := fun hm => htk.2.2.2 (List.mem_flatten.2 ⟨_, rowAt_mem hl2, by rw [hrt]; exact hm⟩)
  obtain ⟨q1, q2, q3, q4, q5⟩ := stOk_iff.1 hrow
  have hst : stOk (rowAt (ss.set f m) to ++ [x]) h = true := by
    rw [hrt]
    refine stOk_iff.2 ⟨fun k hk' => ?_, List.nodup_append.2 ⟨q2, by simp, fun a ha b hb => ?_⟩, q3, q4, by rw [List.length_append, List.length_singleton]; omega⟩
    · by_cases hkl : k < (rowAt ss to).length
      · rw [List.getElem_append_left hkl]; exact q1 k hkl
      · have : k = (rowAt ss to).length := by rw [List.length_append, List.length_singleton] at hk'; omega
        subst this
        rw [List.getElem_concat_length rfl]
        exact ⟨htk.2.1, htk.2.2.1⟩
    · rw [List.mem_singleton] at hb
      subst hb
      exact fun e => hxn (e ▸ ha)
  have hfy : findY h (ss.set f m) x < 0 := by rw [findY_flat htk.2.2.2]; omega
  have hp : putY h (ss.set f m) (to : Int) x = ((h, (ss.set f m).set to (rowAt (ss.set f m) to ++ [x])), true) := by
    have := putY_yes (t := (to : Int)) (id := x) htk.1 (by omega) (by omega) (by rw [Int.toNat_natCast]; exact ydOk_put htk.1 hl2 hfy hst)
    rwa [Int.toNat_natCast] at this
  unfold moveY
  have hno : ¬ ((((h, ss.set f m), x) : Yd × Int).2 < 0 ∨ (f : Int) = (to : Int)) := by
    intro hc
    rcases hc with hc | hc
    · simp only [] at hc; omega
    · omega
  rw [if_pos hk, e1, if_neg hno]
  simp only [hp, if_true, hrt]
/-- When digging ends well: all was moved, one after the other, and the box is the highest one. -/
theorem dig_some {h : Int} {f : Nat} : ∀ (a : Nat) (ss : List (List Int)) (lo up : List Int) (l : List (Int × Int)) (tt : List (List Int)), ydOk h ss = true → f < ss.length → rowAt ss f = lo ++ up → up.length = a → dig h f a ss = some (l, tt) →
    Done h ss l tt ∧ l.length = a ∧ rowAt tt f = lo ∧ tt.length = ss.length ∧ ∀ m ∈ l, 0 ≤ m.2
  | 0, ss, lo, up, l, tt, hk, hf, hr, hu, hd => by
    rw [dig] at hd
    simp only [Option.some.injEq, Prod.mk.injEq] at hd
    obtain ⟨rfl, rfl⟩ := hd
    have : up = [] := List.eq_nil_of_length_eq_zero hu
    subst this
    exact ⟨.nil _, rfl, by rw [hr, List.append_nil], rfl, fun m hm => by cases hm⟩
  | a + 1, ss, lo, up, l, tt, hk, hf, hr, hu, hd => by
    rw [dig] at hd
    cases hro : roomN h ss f ss.length with
    | none => rw [hro] at hd; cases hd
    | some to =>
      rw [hro] at hd
      obtain ⟨hto, hne, hroom⟩ := roomN_some hro
      have hux : up = up.take a ++ [up.getD a 0] := by
        have := row_top (l := up) (by omega)
        rwa [hu] at this
      have hrm : rowAt ss f = (lo ++ up.take a) ++ [up.getD a 0] := by rw [hr, List.append_assoc, ← hux]
      have hmv := dig_step hk hf hrm hto hne hroom
      simp only [hmv] at hd
      obtain ⟨⟨l', tt'⟩, hd', he⟩ := Option.map_eq_some_iff.1 hd
      simp only [Prod.mk.injEq] at he
      obtain ⟨rfl, rfl⟩ := he
      have hok := (moveY_form hmv).2.2.2.2.2.2.2
      obtain ⟨_, _, _, _, hok⟩ := hok
      have hrow : rowAt ((ss.set f (lo ++ up.take a)).set to (rowAt ss to ++ [up.getD a 0])) f = lo ++ up.take a := by
        rw [rowAt_set_ne hne, rowAt_set_self hf]
      obtain ⟨i1, i2, i3, i4, i5⟩ := dig_some a _ lo (up.take a) l' tt' hok (by rw [List.length_set, List.length_set]; exact hf) hrow (by rw [List.length_take]; omega) hd'
      refine ⟨.cons _ _ _ _ _ hmv i1, by rw [List.length_cons, i2], i3, by rw [i4, List.length_set, List.length_set], fun m hm => ?_⟩
      rcases List.mem_cons.1 hm with rfl | hm
      · show (0 : Int) ≤ (to : Int); omega
      · exact i5 m hm
/-- For how many boxes more there is room. -/
def freeY (h : Int) (ss : List (List Int)) : Int := (ss.length : Int) * h - (ss.flatten.length : Int)
theorem flat_sum (ss : List (List Int)) : ss.flatten.length = (ss.map List.length).sum := by rw [List.length_flatten]
theorem all_full (hn : Nat) : ∀ (ss : List (List Int)) (f : Nat), f < ss.length → (∀ j, j < ss.length → j ≠ f → hn ≤ (rowAt ss j).length) → (ss.length - 1) * hn + (rowAt ss f).length ≤ (ss.map List.length).sum
  | s :: ss, 0, _, hj => by
    have : ∀ (tt : List (List Int)), (∀ j, j < tt.length → hn ≤ (rowAt tt j).length) → tt.length * hn ≤ (tt.map List.length).sum := by
      intro tt
      induction tt with
      | nil => intro _; simp
      | cons t tt ih =>
        intro hx
        have h0 : hn ≤ t.length := hx 0 (by simp)
        have h1 := ih fun j hj => hx (j + 1) (by simp; omega)
        rw [List.map_cons, List.sum_cons, List.length_cons, Nat.add_mul]
        omega
    have := this ss fun j hl => hj (j + 1) (by simp; omega) (by omega)
    show (ss.length + 1 - 1) * hn + s.length ≤ s.length + (ss.map List.length).sum
    rw [Nat.add_sub_cancel]
    omega
  | s :: ss, f + 1, hf, hj => by
    have h0 : hn ≤ s.length := hj 0 (by simp) (by omega)
    have hf' : f < ss.length := by simpa using hf
    have ih := all_full hn ss f hf' fun j hl hne => hj (j + 1) (by simp; omega) (by omega)
    show (ss.length + 1 - 1) * hn + (rowAt ss f).length ≤ s.length + (ss.map List.length).sum
    rw [Nat.add_sub_cancel, show ss.length * hn = (ss.length - 1) * hn + hn by rw [← Nat.succ_mul]; congr 1; omega]
    omega
/-- With room for as many boxes as a stack may be high, less one, digging doesn't fail. -/
theorem dig_room {h : Int} {f : Nat} : ∀ (a : Nat) (ss : List (List Int)) (lo up : List Int), ydOk h ss = true → f < ss.length → rowAt ss f = lo ++ up → up.length = a → 0 < lo.length → h - 1 ≤ freeY h ss → dig h f a ss ≠ none
  | 0, ss, lo, up, _, _, _, _, _, _ => by rw [dig]; simp
  | a + 1, ss, lo, up, hk, hf, hr, hu, hlo, hfree => by
    rw [dig]
    cases hro : roomN h ss f ss.length with
    | none =>
      exfalso
      have h1 := (ydOk_iff.1 hk).2.2.2.2
      obtain ⟨hn, hhn⟩ : ∃ hn : Nat, (hn : Int) = h := ⟨h.toNat, by omega⟩
      have hfull := all_full hn ss f hf fun j hl hne => by have := roomN_none hro j hl hne; omega
      rw [← flat_sum] at hfull
      have hlen : (rowAt ss f).length = lo.length + (a + 1) := by rw [hr, List.length_append, hu]
      unfold freeY at hfree
      rw [← hhn] at hfree
      have e : (ss.length : Int) * (hn : Int) = ((ss.length - 1) * hn : Nat) + (hn : Int) := by
        have : ss.length * hn = (ss.length - 1) * hn + hn := by rw [← Nat.succ_mul]; congr 1; omega
        rw [← Int.natCast_mul, this]; simp
      rw [e] at hfree
      omega
    | some to =>
      obtain ⟨hto, hne, hroom⟩ := roomN_some hro
      have hux : up = up.take a ++ [up.getD a 0] := by
        have := row_top (l := up) (by omega)
        rwa [hu] at this
      have hrm : rowAt ss f = (lo ++ up.take a) ++ [up.getD a 0] := by rw [hr, List.append_assoc, ← hux]
      have hmv := dig_step hk hf hrm hto hne hroom
      have hok := (moveY_form hmv).2.2.2.2.2.2.2
      obtain ⟨_, _, _, _, hok⟩ := hok
      have hrow : rowAt ((ss.set f (lo ++ up.take a)).set to (rowAt ss to ++ [up.getD a 0])) f = lo ++ up.take a := by
        rw [rowAt_set_ne hne, rowAt_set_self hf]
      have hperm : ((ss.set f (lo ++ up.take a)).set to (rowAt ss to ++ [up.getD a 0])).flatten.Perm ss.flatten := by
        rcases moveY_cases h ss f to with ⟨hc, _⟩ | ⟨_, e⟩ | ⟨_, uu, e, _, _, hp, _⟩
        · rw [hk] at hc; cases hc
        · rw [e] at hmv; simp at hmv
        · rw [e] at hmv
          simp only [Prod.mk.injEq, true_and, and_true] at hmv
          rw [← hmv]; exact hp
      have ih := dig_room a _ lo (up.take a) hok (by rw [List.length_set, List.length_set]; exact hf) hrow (by rw [List.length_take]; omega) hlo (by unfold freeY at hfree ⊢; rw [hperm.length_eq, List.length_set, List.length_set]; exact hfree)
      simp only [hmv]
      intro hc
      exact ih (Option.map_eq_none_iff.1 hc)
end Go.Proofs.Ytlcfldmiibjboab
namespace Go.Proofs.Ytlcfldmiibjboab
set_option linter.unusedVariables false

/-- Whether an order has boxes of a valid yard, no two equal. -/
def ordOk (h : Int) (ss : List (List Int)) (os : List Int) : Bool := decide (ydOk h ss = true ∧ os.Nodup ∧ ∀ id ∈ os, id ∈ ss.flatten)
theorem ordOk_iff {h : Int} {ss : List (List Int)} {os : List Int} : ordOk h ss os = true ↔ ydOk h ss = true ∧ os.Nodup ∧ ∀ id ∈ os, id ∈ ss.flatten := decide_eq_true_iff
theorem ordOk_yd {h : Int} {ss : List (List Int)} {os : List Int} (hk : ydOk h ss = false) : ordOk h ss os = false := by
  cases hc : ordOk h ss os
  · rfl
  · rw [(ordOk_iff.1 hc).1] at hk; cases hk
/-- One is not in the yard, or comes once more. -/
theorem ordOk_at {h : Int} {ss : List (List Int)} {os : List Int} {k : Nat} (hk : k < os.length) (hb : findY h ss (os.getD k 0) < 0 ∨ hasI (os.take k) (os.getD k 0) = true) : ordOk h ss os = false := by
  cases hc : ordOk h ss os
  · rfl
  · exfalso
    obtain ⟨h1, h2, h3⟩ := ordOk_iff.1 hc
    rw [getD_i hk] at hb
    rcases hb with hb | hb
    · have := findY_in h1 (h3 _ (List.getElem_mem hk))
      omega
    · have hm : os[k] ∈ os.take k := of_decide_eq_true hb
      have e : os.take (k + 1) = os.take k ++ [os[k]] := (List.take_append_getElem hk).symm
      have hn : (os.take (k + 1)).Nodup := h2.sublist (List.take_sublist _ _)
      rw [e] at hn
      exact absurd rfl ((List.nodup_append.1 hn).2.2 _ hm _ (by simp))
theorem findY_mem {h : Int} {ss : List (List Int)} {n : Int} (hf : 0 ≤ findY h ss n) : n ∈ ss.flatten ∧ ydOk h ss = true := by
  unfold findY at hf
  split at hf
  · next hk =>
    refine ⟨?_, hk⟩
    cases hr : rowOf ss n with
    | none => rw [hr] at hf; simp only [] at hf; omega
    | some k =>
      obtain ⟨h1, h2⟩ := rowOf_some ss n k hr
      exact List.mem_flatten.2 ⟨_, rowAt_mem h1, of_decide_eq_true h2⟩
  · omega
theorem ordOk_end {h : Int} {ss : List (List Int)} {os : List Int} (hg : ∀ k, k < os.length → 0 ≤ findY h ss (os.getD k 0) ∧ hasI (os.take k) (os.getD k 0) = false) : ordOk h ss os = ydOk h ss := by
  cases hk : ydOk h ss
  · exact ordOk_yd hk
  · refine ordOk_iff.2 ⟨hk, ?_, fun id hm => ?_⟩
    · have : ∀ k, k ≤ os.length → (os.take k).Nodup := by
        intro k
        induction k with
        | zero => intro _; simp
        | succ k ih =>
          intro hkl
          have hlt : k < os.length := hkl
          rw [← List.take_append_getElem hlt]
          refine List.nodup_append.2 ⟨ih (by omega), by simp, fun a ha b hb => ?_⟩
          rw [List.mem_singleton] at hb
          subst hb
          intro e
          subst e
          have h2 := (hg k hlt).2
          rw [getD_i hlt] at h2
          exact of_decide_eq_false h2 ha
      have := this os.length (Nat.le_refl _)
      rwa [List.take_length] at this
    · obtain ⟨k, hkl, rfl⟩ := List.getElem_of_mem hm
      have := (hg k hkl).1
      rw [getD_i hkl] at this
      exact (findY_mem this).1
/-- Orders may be shorter. -/
theorem ordOk_take {h : Int} {ss : List (List Int)} {os : List Int} (n : Nat) (ho : ordOk h ss os = true) : ordOk h ss (os.take n) = true := by
  obtain ⟨h1, h2, h3⟩ := ordOk_iff.1 ho
  exact ordOk_iff.2 ⟨h1, h2.sublist (List.take_sublist _ _), fun id hm => h3 id (List.mem_of_mem_take hm)⟩
theorem ordOk_twice {h : Int} {ss : List (List Int)} {os : List Int} {id : Int} (hm : id ∈ os) : ordOk h ss (os ++ [id]) = false := by
  cases hc : ordOk h ss (os ++ [id])
  · rfl
  · exact absurd rfl ((List.nodup_append.1 (ordOk_iff.1 hc).2.1).2.2 _ hm _ (by simp))
/-- What Blocking gives. -/
def blocking (h : Int) (ss : List (List Int)) (os : List Int) : Int := if ordOk h ss os = true then (blkY os ss : Int) else -1

/-- What DigMoves gives. -/
def digM (h : Int) (ss : List (List Int)) (id : Int) : List (Int × Int) × Bool :=
  if findY h ss id < 0 then ([], false) else match dig h (findY h ss id).toNat (aboveS (rowAt ss (findY h ss id).toNat) h id).toNat ss with
    | some p => (p.1, true)
    | none => ([], false)
/-- A row about one of its boxes. -/
theorem row_about {l : List Int} {id : Int} (hm : id ∈ l) (hn : l.Nodup) : ∃ lo up, l = lo ++ [id] ++ up ∧ id ∉ lo := by
  obtain ⟨lo, up, rfl⟩ := List.append_of_mem hm
  refine ⟨lo, up, by simp, fun hc => ?_⟩
  exact absurd rfl ((List.nodup_append.1 hn).2.2 _ hc _ (by simp))
theorem above_of {h : Int} {lo up : List Int} {id : Int} (hs : stOk (lo ++ [id] ++ up) h = true) (hn : id ∉ lo) : aboveS (lo ++ [id] ++ up) h id = (up.length : Int) := by
  have h1 : ∀ j (hj : j < (lo ++ [id] ++ up).length), j < lo.length → (lo ++ [id] ++ up)[j] ≠ id := by
    intro j hj hjl he
    have e2 : (lo ++ [id] ++ up)[j]? = some id := by rw [List.getElem?_eq_getElem hj, he]
    rw [List.append_assoc, List.getElem?_append_left hjl] at e2
    exact hn (List.mem_of_getElem? e2)
  have h2 : ∃ hk : lo.length < (lo ++ [id] ++ up).length, (lo ++ [id] ++ up)[lo.length] = id := by
    refine ⟨by simp, ?_⟩
    have e2 : (lo ++ [id] ++ up)[lo.length]? = some id := by
      rw [List.append_assoc, List.getElem?_append_right (Nat.le_refl _), Nat.sub_self]; rfl
    rw [List.getElem?_eq_getElem (by simp)] at e2
    exact Option.some.inj e2
  obtain ⟨hk, he⟩ := h2
  rw [aboveS_hit hs hk h1 he]
  simp only [List.length_append, List.length_singleton]; omega
/-- Where a box of a valid yard is. -/
theorem find_row {h : Int} {ss : List (List Int)} {id : Int} (hk : ydOk h ss = true) (hm : id ∈ ss.flatten) : ∃ (f : Nat) (lo up : List Int), f < ss.length ∧ findY h ss id = (f : Int) ∧ rowAt ss f = lo ++ [id] ++ up ∧ id ∉ lo ∧ aboveS (rowAt ss f) h id = (up.length : Int) ∧ up.length ≤ 4 := by
  have h0 := findY_in hk hm
  unfold findY at h0
  rw [if_pos hk] at h0
  cases hr : rowOf ss id with
  | none => rw [hr] at h0; simp only [] at h0; omega
  | some f =>
    obtain ⟨h1, h2⟩ := rowOf_some ss id f hr
    have hst := ydOk_row hk h1
    obtain ⟨lo, up, he, hn⟩ := row_about (of_decide_eq_true h2) (stOk_iff.1 hst).2.1
    have hl := stOk_len hst
    refine ⟨f, lo, up, h1, ?_, he, hn, ?_, ?_⟩
    · unfold findY; rw [if_pos hk, hr]
    · rw [he] at hst ⊢; exact above_of hst hn
    · rw [he] at hl; simp only [List.length_append, List.length_singleton] at hl; omega
theorem digM_no {h : Int} {ss : List (List Int)} {id : Int} (hf : findY h ss id < 0) : digM h ss id = ([], false) := by unfold digM; rw [if_pos hf]
/-- The ways of digging. -/
theorem digM_cases (h : Int) (ss : List (List Int)) (id : Int) : digM h ss id = ([], false) ∨
    (ydOk h ss = true ∧ id ∈ ss.flatten ∧ ∃ (f : Nat) (lo up : List Int) (l : List (Int × Int)) (tt : List (List Int)), f < ss.length ∧ findY h ss id = (f : Int) ∧ rowAt ss f = lo ++ [id] ++ up ∧ aboveS (rowAt ss f) h id = (up.length : Int) ∧ digM h ss id = (l, true) ∧ l.length = up.length ∧ l.length ≤ 4 ∧
      Done h ss l tt ∧ (∀ m ∈ l, 0 ≤ m.2) ∧ runY h ss l = ((h, tt), (l.length : Int)) ∧ ydOk h tt = true ∧ tt.flatten.Perm ss.flatten ∧ tt.length = ss.length ∧ rowAt tt f = lo ++ [id] ∧ findY h tt id = (f : Int) ∧ takeY h tt (f : Int) = ((h, tt.set f lo), id) ∧ ydOk h (tt.set f lo) = true) := by
  by_cases hf : findY h ss id < 0
  · exact .inl (digM_no hf)
  · obtain ⟨hm, hk⟩ := findY_mem (h := h) (ss := ss) (n := id) (by omega)
    obtain ⟨f, lo, up, h1, h2, h3, h4, h5, h6⟩ := find_row hk hm
    have hd0 : digM h ss id = (match dig h f up.length ss with | some p => (p.1, true) | none => ([], false)) := by
      unfold digM
      rw [if_neg hf, h2, Int.toNat_natCast, h5, Int.toNat_natCast]
    cases hd : dig h f up.length ss with
    | none => rw [hd] at hd0; exact .inl hd0
    | some p =>
      obtain ⟨l, tt⟩ := p
      rw [hd] at hd0
      obtain ⟨i1, i2, i3, i4, i5⟩ := dig_some up.length ss (lo ++ [id]) up l tt hk h1 h3 rfl hd
      have hok := i1.ok hk
      have hfl : f < tt.length := by omega
      have hft : findY h tt id = (f : Int) := by
        have := findY_law hok.1 (n := id) hfl
        rw [i3, show hasI (lo ++ [id]) id = true from decide_eq_true (by simp)] at this
        exact (of_decide_eq_true this.symm).symm
      have htk := takeY_yes (f := (f : Int)) hok.1 (by omega) (by omega) (by rw [Int.toNat_natCast]; exact i3)
      rw [Int.toNat_natCast] at htk
      exact .inr ⟨hk, hm, f, lo, up, l, tt, h1, h2, h3, h5, hd0, i2, by omega, i1, i5, runY_full hk (by omega) i1, hok.1, hok.2, i4, i3, hft, htk, (ydOk_take hok.1 hfl i3).1⟩
/-- With enough room digging doesn't fail. -/
theorem digM_room {h : Int} {ss : List (List Int)} {id : Int} (hk : ydOk h ss = true) (hm : id ∈ ss.flatten) (hfree : h - 1 ≤ freeY h ss) : (digM h ss id).2 = true := by
  obtain ⟨f, lo, up, h1, h2, h3, h4, h5, h6⟩ := find_row hk hm
  have hd0 : digM h ss id = (match dig h f up.length ss with | some p => (p.1, true) | none => ([], false)) := by
    unfold digM
    rw [if_neg (by omega), h2, Int.toNat_natCast, h5, Int.toNat_natCast]
  cases hd : dig h f up.length ss with
  | none => exact absurd hd (dig_room up.length ss (lo ++ [id]) up hk h1 h3 rfl (by simp) hfree)
  | some p => rw [hd0, hd]

/-- What DigAll counts, if it doesn't fail. -/
def dgA (h : Int) : List Int → List (List Int) → Option Nat
  | [], _ => some 0
  | id :: os, ss => if (digM h ss id).2 = true then (dgA h os (takeY h (runY h ss (digM h ss id).1).1.2 (findY h (runY h ss (digM h ss id).1).1.2 id)).1.2).map (· + (digM h ss id).1.length) else none
/-- What DigAll gives. -/
def digA (h : Int) (ss : List (List Int)) (os : List Int) : Int × Bool := if ordOk h ss os = true then (match dgA h os ss with | some n => ((n : Int), true) | none => (-1, false)) else (-1, false)
/-- At least Blocking moves are made. -/
theorem dgA_ge {h : Int} : ∀ (os : List Int) (ss : List (List Int)) (n : Nat), dgA h os ss = some n → blkY os ss ≤ n
  | [], ss, n, _ => by rw [blkY_none]; exact Nat.zero_le _
  | id :: os, ss, n, he => by
    rw [dgA] at he
    rcases digM_cases h ss id with e | ⟨hk, hm, f, lo, up, l, tt, h1, h2, h3, h4, e, h5, h6, h7, h8, h9, h10, h11, h12, h13, h14, h15, h16⟩
    · rw [e] at he; simp at he
    · rw [e] at he
      simp only [if_true, h9, h14, h15] at he
      obtain ⟨n', hn', rfl⟩ := Option.map_eq_some_iff.1 he
      have ih := dgA_ge os _ n' hn'
      have := blkY_done (id :: os) h7
      rw [blkY_take h10 (by omega) h13] at this
      omega
/-- It doesn't fail whenever the yard has room for as many boxes as the stacks may be high, less one. -/
theorem dgA_room {h : Int} : ∀ (os : List Int) (ss : List (List Int)), ydOk h ss = true → os.Nodup → (∀ id ∈ os, id ∈ ss.flatten) → h - 1 ≤ freeY h ss → dgA h os ss ≠ none
  | [], ss, _, _, _, _ => by rw [dgA]; simp
  | id :: os, ss, hk, hn, ha, hfree => by
    have hr := digM_room hk (ha id (by simp)) hfree
    rcases digM_cases h ss id with e | ⟨_, hm, f, lo, up, l, tt, h1, h2, h3, h4, e, h5, h6, h7, h8, h9, h10, h11, h12, h13, h14, h15, h16⟩
    · rw [e] at hr; cases hr
    · rw [dgA, e]
      simp only [if_true, h9, h14, h15]
      have hft := flat_take (k := f) (by omega) h13
      rw [List.nodup_cons] at hn
      have hz := hft.length_eq
      rw [List.length_cons] at hz
      have ih := dgA_room os (tt.set f lo) h16 hn.2 (fun x hx => ?_) ?_
      · intro hc; exact ih (Option.map_eq_none_iff.1 hc)
      · have h1 := h11.mem_iff.2 (ha x (by simp [hx]))
        rcases List.mem_cons.1 (hft.mem_iff.1 h1) with rfl | h2
        · exact absurd hx hn.1
        · exact h2
      · unfold freeY at hfree ⊢
        have := h11.length_eq
        rw [List.length_set, h12]
        omega
/-- Moves that are done, and what follows them. -/
theorem lv_done {h : Int} {ss tt : List (List Int)} {l : List (Int × Int)} (r : List (Int × Int)) (os : List Int) (hd : Done h ss l tt) : lv h (l ++ r) ss os = ((lv h r tt os).1 + l.length, (lv h r tt os).2) := by
  induction hd with
  | nil ss => rfl
  | cons ss m tt ms uu he _ ih =>
    have ht := (moveY_form he).2.2.2.2.1
    show lv h (m :: (ms ++ r)) ss os = _
    rw [lv.eq_def]
    simp only [ht, if_true, he, ih, List.length_cons]
    rw [Nat.add_assoc]
theorem lv_take {h : Int} {ss z : List (List Int)} {f id : Int} (r : List (Int × Int)) (os : List Int) (he : takeY h ss f = ((h, z), id)) (h0 : 0 ≤ id) : lv h ((f, -1) :: r) ss (id :: os) = lv h r z os := by
  show (if (0 : Int) ≤ -1 then _ else (if 0 ≤ (takeY h ss f).2 ∧ (takeY h ss f).2 = id then lv h r (takeY h ss f).1.2 os else (0, false))) = _
  rw [if_neg (by simp), he, if_pos ⟨h0, rfl⟩]
end Go.Proofs.Ytlcfldmiibjboab
