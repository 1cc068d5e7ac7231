/-
  Plain mathematics of yards: what putting, taking and moving give, and what undoes them. Nothing of the program.
-/
import Derived.Test.YtdmbahpifbidlaaYiMath
namespace Go.Proofs.Ytdmbahpifbidlaa
set_option linter.unusedVariables false

abbrev Yd := Int × List (List Int)
/-- What YardTake gives. -/
def takeY (h : Int) (ss : List (List Int)) (f : Int) : Yd × Int :=
  if ydOk h ss = true then
    (if 0 ≤ f ∧ f < (ss.length : Int) ∧ 0 < (rowAt ss f.toNat).length then ((h, ss.set f.toNat ((rowAt ss f.toNat).take ((rowAt ss f.toNat).length - 1))), (rowAt ss f.toNat).getD ((rowAt ss f.toNat).length - 1) 0) else ((h, ss), -1))
  else ((0, []), -1)
/-- What YardPut gives. -/
def putY (h : Int) (ss : List (List Int)) (t id : Int) : Yd × Bool :=
  if ydOk h ss = true then
    (if 0 ≤ t ∧ t < (ss.length : Int) ∧ ydOk h (ss.set t.toNat (rowAt ss t.toNat ++ [id])) = true then ((h, ss.set t.toNat (rowAt ss t.toNat ++ [id])), true) else ((h, ss), false))
  else ((0, []), false)
/-- What YardMove gives. -/
def moveY (h : Int) (ss : List (List Int)) (f t : Int) : Yd × Bool :=
  if ydOk h ss = true then
    (if (takeY h ss f).2 < 0 ∨ f = t then ((h, ss), false)
     else if (putY (takeY h ss f).1.1 (takeY h ss f).1.2 t (takeY h ss f).2).2 = true then ((putY (takeY h ss f).1.1 (takeY h ss f).1.2 t (takeY h ss f).2).1, true) else ((h, ss), false))
  else ((0, []), false)

theorem takeY_bad {h : Int} {ss : List (List Int)} {f : Int} (hk : ydOk h ss = false) : takeY h ss f = ((0, []), -1) := by unfold takeY; rw [hk]; rfl
theorem putY_bad {h : Int} {ss : List (List Int)} {t id : Int} (hk : ydOk h ss = false) : putY h ss t id = ((0, []), false) := by unfold putY; rw [hk]; rfl
theorem moveY_bad {h : Int} {ss : List (List Int)} {f t : Int} (hk : ydOk h ss = false) : moveY h ss f t = ((0, []), false) := by unfold moveY; rw [hk]; rfl
theorem takeY_no {h : Int} {ss : List (List Int)} {f : Int} (hk : ydOk h ss = true) (hf : ¬ (0 ≤ f ∧ f < (ss.length : Int) ∧ 0 < (rowAt ss f.toNat).length)) : takeY h ss f = ((h, ss), -1) := by unfold takeY; rw [if_pos hk, if_neg hf]
theorem putY_no {h : Int} {ss : List (List Int)} {t id : Int} (hk : ydOk h ss = true) (hf : ¬ (0 ≤ t ∧ t < (ss.length : Int) ∧ ydOk h (ss.set t.toNat (rowAt ss t.toNat ++ [id])) = true)) : putY h ss t id = ((h, ss), false) := by unfold putY; rw [if_pos hk, if_neg hf]
theorem putY_yes {h : Int} {ss : List (List Int)} {t id : Int} (hk : ydOk h ss = true) (h0 : 0 ≤ t) (h1 : t < (ss.length : Int)) (h2 : ydOk h (ss.set t.toNat (rowAt ss t.toNat ++ [id])) = true) : putY h ss t id = ((h, ss.set t.toNat (rowAt ss t.toNat ++ [id])), true) := by unfold putY; rw [if_pos hk, if_pos ⟨h0, h1, h2⟩]
theorem takeY_yes {h : Int} {ss : List (List Int)} {f : Int} (hk : ydOk h ss = true) (h0 : 0 ≤ f) (h1 : f < (ss.length : Int)) {m : List Int} {x : Int} (h2 : rowAt ss f.toNat = m ++ [x]) : takeY h ss f = ((h, ss.set f.toNat m), x) := by
  unfold takeY
  have hl : (rowAt ss f.toNat).length = m.length + 1 := by rw [h2]; simp
  rw [if_pos hk, if_pos ⟨h0, h1, by omega⟩, h2]
  simp [List.getD_eq_getElem?_getD]

theorem flat_put : ∀ (ss : List (List Int)) (k : Nat) (x : Int), k < ss.length → (ss.set k (rowAt ss k ++ [x])).flatten.Perm (x :: ss.flatten)
  | s :: ss, 0, x, _ => by
    show ((s ++ [x]) ++ ss.flatten).Perm (x :: (s ++ ss.flatten))
    rw [List.append_assoc]
    exact List.perm_middle
  | s :: ss, k + 1, x, h => by
    show (s ++ (ss.set k (rowAt ss k ++ [x])).flatten).Perm (x :: (s ++ ss.flatten))
    exact ((flat_put ss k x (by simpa using h)).append_left s).trans List.perm_middle
/-- A row is a lower one and its highest box. -/
theorem row_top {l : List Int} (h : 0 < l.length) : l = l.take (l.length - 1) ++ [l.getD (l.length - 1) 0] := by
  have := List.take_append_getElem (l := l) (i := l.length - 1) (by omega)
  rw [getD_i (by omega), this, show l.length - 1 + 1 = l.length by omega, List.take_length]
theorem flat_take {ss : List (List Int)} {k : Nat} {m : List Int} {x : Int} (hk : k < ss.length) (hr : rowAt ss k = m ++ [x]) : ss.flatten.Perm (x :: (ss.set k m).flatten) := by
  have e : (ss.set k m).set k (rowAt (ss.set k m) k ++ [x]) = ss := by
    rw [rowAt_set_self hk, List.set_set, ← hr, set_rowAt hk]
  have := flat_put (ss.set k m) k x (by rw [List.length_set]; exact hk)
  rwa [e] at this
theorem ydOk_take {h : Int} {ss : List (List Int)} {k : Nat} {m : List Int} {x : Int} (hk : ydOk h ss = true) (hl : k < ss.length) (hr : rowAt ss k = m ++ [x]) : ydOk h (ss.set k m) = true ∧ 1 ≤ x ∧ x ≤ 999 ∧ x ∉ (ss.set k m).flatten := by
  obtain ⟨h1, h2, h3, h4, h5, h6⟩ := ydOk_iff.1 hk
  have hn := (flat_take hl hr).nodup_iff.1 h2
  rw [List.nodup_cons] at hn
  have hrow := h1 _ (rowAt_mem hl)
  rw [hr] at hrow
  obtain ⟨q1, q2, q3, q4, q5⟩ := stOk_iff.1 hrow
  have hx := q1 m.length (by simp)
  rw [List.getElem_concat_length rfl] at hx
  refine ⟨ydOk_iff.2 ⟨fun s hs => ?_, hn.2, by rw [List.length_set]; exact h3, by rw [List.length_set]; exact h4, h5, h6⟩, hx.1, hx.2, hn.1⟩
  rcases List.mem_or_eq_of_mem_set hs with hs | hs
  · exact h1 s hs
  · subst hs
    refine stOk_iff.2 ⟨fun j hj => ?_, (List.nodup_append.1 q2).1, q3, q4, by simp at q5; omega⟩
    have := q1 j (by simp; omega)
    rwa [List.getElem_append_left hj] at this
/-- What was taken can be put back. -/
theorem put_back {h : Int} {ss : List (List Int)} {f : Int} {m : List Int} {x : Int} (hk : ydOk h ss = true) (h0 : 0 ≤ f) (h1 : f < (ss.length : Int)) (hr : rowAt ss f.toNat = m ++ [x]) : putY h (ss.set f.toNat m) f x = ((h, ss), true) := by
  have hl : f.toNat < ss.length := by omega
  have e : (ss.set f.toNat m).set f.toNat (rowAt (ss.set f.toNat m) f.toNat ++ [x]) = ss := by
    rw [rowAt_set_self hl, List.set_set, ← hr, set_rowAt hl]
  rw [putY_yes (ydOk_take hk hl hr).1 h0 (by rw [List.length_set]; exact h1) (by rw [e]; exact hk), e]
/-- What was put can be taken. -/
theorem take_back {h : Int} {ss : List (List Int)} {t id : Int} (h0 : 0 ≤ t) (h1 : t < (ss.length : Int)) (h2 : ydOk h (ss.set t.toNat (rowAt ss t.toNat ++ [id])) = true) : takeY h (ss.set t.toNat (rowAt ss t.toNat ++ [id])) t = ((h, ss), id) := by
  have hl : t.toNat < ss.length := by omega
  rw [takeY_yes h2 h0 (by rw [List.length_set]; exact h1) (rowAt_set_self hl _), List.set_set, set_rowAt hl]
theorem put_len {h : Int} {ss : List (List Int)} {k : Nat} {id : Int} (hk : ydOk h ss = true) (hl : k < ss.length) (h2 : ydOk h (ss.set k (rowAt ss k ++ [id])) = true) : (idsY h (ss.set k (rowAt ss k ++ [id]))).length = (idsY h ss).length + 1 := by
  rw [idsY_len hk, idsY_len h2, (flat_put ss k id hl).length_eq, List.length_cons]

/-- The ways of a take. -/
theorem takeY_cases (h : Int) (ss : List (List Int)) (f : Int) : (ydOk h ss = false ∧ takeY h ss f = ((0, []), -1)) ∨ (ydOk h ss = true ∧ ¬ (0 ≤ f ∧ f < (ss.length : Int) ∧ 0 < (rowAt ss f.toNat).length) ∧ takeY h ss f = ((h, ss), -1)) ∨
    (ydOk h ss = true ∧ 0 ≤ f ∧ f < (ss.length : Int) ∧ ∃ m x, rowAt ss f.toNat = m ++ [x] ∧ 1 ≤ x ∧ x ≤ 999 ∧ takeY h ss f = ((h, ss.set f.toNat m), x)) := by
  cases hk : ydOk h ss
  · exact .inl ⟨rfl, takeY_bad hk⟩
  · by_cases hf : 0 ≤ f ∧ f < (ss.length : Int) ∧ 0 < (rowAt ss f.toNat).length
    · have hr := row_top hf.2.2
      have := ydOk_take hk (k := f.toNat) (by omega) hr
      exact .inr (.inr ⟨rfl, hf.1, hf.2.1, _, _, hr, this.2.1, this.2.2.1, takeY_yes hk hf.1 hf.2.1 hr⟩)
    · exact .inr (.inl ⟨rfl, hf, takeY_no hk hf⟩)
/-- The ways of a put. -/
theorem putY_cases (h : Int) (ss : List (List Int)) (t id : Int) : (ydOk h ss = false ∧ putY h ss t id = ((0, []), false)) ∨ (ydOk h ss = true ∧ putY h ss t id = ((h, ss), false)) ∨
    (ydOk h ss = true ∧ 0 ≤ t ∧ t < (ss.length : Int) ∧ ydOk h (ss.set t.toNat (rowAt ss t.toNat ++ [id])) = true ∧ putY h ss t id = ((h, ss.set t.toNat (rowAt ss t.toNat ++ [id])), true)) := by
  cases hk : ydOk h ss
  · exact .inl ⟨rfl, putY_bad hk⟩
  · by_cases hf : 0 ≤ t ∧ t < (ss.length : Int) ∧ ydOk h (ss.set t.toNat (rowAt ss t.toNat ++ [id])) = true
    · exact .inr (.inr ⟨rfl, hf.1, hf.2.1, hf.2.2, putY_yes hk hf.1 hf.2.1 hf.2.2⟩)
    · exact .inr (.inl ⟨rfl, putY_no hk hf⟩)
/-- The ways of a move, and what undoes one. -/
theorem moveY_cases (h : Int) (ss : List (List Int)) (f t : Int) : (ydOk h ss = false ∧ moveY h ss f t = ((0, []), false)) ∨ (ydOk h ss = true ∧ moveY h ss f t = ((h, ss), false)) ∨
    (ydOk h ss = true ∧ ∃ tt, moveY h ss f t = ((h, tt), true) ∧ ydOk h tt = true ∧ moveY h tt t f = ((h, ss), true) ∧ tt.flatten.Perm ss.flatten ∧ tt ≠ ss) := by
  rcases takeY_cases h ss f with ⟨hk, e⟩ | ⟨hk, _, e⟩ | ⟨hk, f0, f1, m, x, hr, x0, x1, e⟩
  · exact .inl ⟨hk, moveY_bad hk⟩
  · refine .inr (.inl ⟨hk, ?_⟩)
    unfold moveY
    rw [if_pos hk, e, if_pos (.inl (show ((-1 : Int) < 0) by omega))]
  · by_cases hft : f = t
    · refine .inr (.inl ⟨hk, ?_⟩)
      unfold moveY
      rw [if_pos hk, if_pos (.inr hft)]
    have hfl : f.toNat < ss.length := by omega
    have hno : ¬ ((takeY h ss f).2 < 0 ∨ f = t) := by
      rw [e]
      intro hc
      rcases hc with hc | hc
      · simp only [] at hc; omega
      · exact hft hc
    rcases putY_cases h (ss.set f.toNat m) t x with ⟨hk2, _⟩ | ⟨_, e2⟩ | ⟨hk2, t0, t1, hk3, e2⟩
    · rw [(ydOk_take hk hfl hr).1] at hk2; cases hk2
    · refine .inr (.inl ⟨hk, ?_⟩)
      unfold moveY
      rw [if_pos hk, if_neg hno, e]
      simp only [e2]
      rw [if_neg (by simp)]
    · have tl : t.toNat < ss.length := by rw [List.length_set] at t1; omega
      have hne : f.toNat ≠ t.toNat := by omega
      have hrt : rowAt (ss.set f.toNat m) t.toNat = rowAt ss t.toNat := rowAt_set_ne hne m
      rw [hrt] at hk3 e2
      have em : moveY h ss f t = ((h, (ss.set f.toNat m).set t.toNat (rowAt ss t.toNat ++ [x])), true) := by
        unfold moveY
        rw [if_pos hk, if_neg hno, e]
        simp only [e2, if_true]
      have hl2 : t.toNat < (ss.set f.toNat m).length := by rw [List.length_set]; exact tl
      have et : takeY h ((ss.set f.toNat m).set t.toNat (rowAt ss t.toNat ++ [x])) t = ((h, ss.set f.toNat m), x) := by
        have := take_back (h := h) (ss := ss.set f.toNat m) (t := t) (id := x) t0 t1 (by rw [hrt]; exact hk3)
        rwa [hrt] at this
      have hno2 : ¬ ((takeY h ((ss.set f.toNat m).set t.toNat (rowAt ss t.toNat ++ [x])) t).2 < 0 ∨ t = f) := by
        rw [et]; intro hc; rcases hc with hc | hc
        · simp only [] at hc; omega
        · exact hft hc.symm
      refine .inr (.inr ⟨hk, _, em, hk3, ?_, ?_, ?_⟩)
      · unfold moveY
        rw [if_pos hk3, if_neg hno2, et]
        simp only [put_back hk f0 f1 hr, if_true]
      · have p1 := flat_put (ss.set f.toNat m) t.toNat x hl2
        rw [hrt] at p1
        exact p1.trans (flat_take hfl hr).symm
      · intro hc
        have h1 : rowAt ((ss.set f.toNat m).set t.toNat (rowAt ss t.toNat ++ [x])) f.toNat = m := by
          rw [rowAt_set_ne (Ne.symm hne), rowAt_set_self hfl]
        rw [hc, hr] at h1
        have := congrArg List.length h1
        simp at this
/-- Moves one after the other, up to the first that cannot be done: the stacks, and how many were done. -/
def runS (h : Int) : List (List Int) → List (Int × Int) → List (List Int) × Nat
  | ss, [] => (ss, 0)
  | ss, m :: ms => if (moveY h ss m.1 m.2).2 = true then ((runS h (moveY h ss m.1 m.2).1.2 ms).1, (runS h (moveY h ss m.1 m.2).1.2 ms).2 + 1) else (ss, 0)
/-- What YardRun gives. -/
def runY (h : Int) (ss : List (List Int)) (ms : List (Int × Int)) : Yd × Int := if ydOk h ss = true ∧ ms.length ≤ 40 then ((h, (runS h ss ms).1), ((runS h ss ms).2 : Int)) else ((0, []), 0)
/-- All moves of a list, one after the other, each done. -/
inductive Done (h : Int) : List (List Int) → List (Int × Int) → List (List Int) → Prop
  | nil (ss) : Done h ss [] ss
  | cons (ss) (m : Int × Int) (tt) (ms) (uu) : moveY h ss m.1 m.2 = ((h, tt), true) → Done h tt ms uu → Done h ss (m :: ms) uu
theorem Done.ok {h : Int} {ss : List (List Int)} {ms : List (Int × Int)} {tt : List (List Int)} (hd : Done h ss ms tt) : ydOk h ss = true → ydOk h tt = true ∧ tt.flatten.Perm ss.flatten := by
  induction hd with
  | nil ss => exact fun hk => ⟨hk, List.Perm.refl _⟩
  | cons ss m tt ms uu he _ ih =>
    intro hk
    rcases moveY_cases h ss m.1 m.2 with ⟨hk', _⟩ | ⟨_, e⟩ | ⟨_, tt', e, hk2, _, hp, _⟩
    · rw [hk] at hk'; cases hk'
    · rw [e] at he; simp at he
    · rw [e] at he
      simp only [Prod.mk.injEq, true_and, and_true] at he
      subst he
      exact ⟨(ih hk2).1, (ih hk2).2.trans hp⟩
theorem Done.snoc {h : Int} {ss : List (List Int)} {ms : List (Int × Int)} {tt uu : List (List Int)} {m : Int × Int} (hd : Done h ss ms tt) (hm : moveY h tt m.1 m.2 = ((h, uu), true)) : Done h ss (ms ++ [m]) uu := by
  induction hd with
  | nil ss => exact .cons _ _ _ _ _ hm (.nil _)
  | cons ss m' tt ms uu' he _ ih => exact .cons _ _ _ _ _ he (ih hm)
theorem Done.back {h : Int} {ss : List (List Int)} {ms : List (Int × Int)} {tt : List (List Int)} (hd : Done h ss ms tt) : ydOk h ss = true → Done h tt (ms.reverse.map fun m => (m.2, m.1)) ss := by
  induction hd with
  | nil ss => exact fun _ => .nil _
  | cons ss m tt ms uu he _ ih =>
    intro hk
    rcases moveY_cases h ss m.1 m.2 with ⟨hk', _⟩ | ⟨_, e⟩ | ⟨_, tt', e, hk2, hb, _, _⟩
    · rw [hk] at hk'; cases hk'
    · rw [e] at he; simp at he
    · rw [e] at he
      simp only [Prod.mk.injEq, true_and, and_true] at he
      subst he
      rw [List.reverse_cons, List.map_append]
      exact (ih hk2).snoc hb
theorem Done.run {h : Int} {ss : List (List Int)} {ms : List (Int × Int)} {tt : List (List Int)} (hd : Done h ss ms tt) : runS h ss ms = (tt, ms.length) := by
  induction hd with
  | nil ss => rfl
  | cons ss m tt ms uu he _ ih => rw [runS, he]; simp only [if_true, ih]; rfl
theorem runS_done {h : Int} : ∀ (ms : List (Int × Int)) (ss : List (List Int)), (runS h ss ms).2 ≤ ms.length ∧ (ydOk h ss = true → Done h ss (ms.take (runS h ss ms).2) (runS h ss ms).1)
  | [], ss => ⟨Nat.le_refl _, fun _ => .nil _⟩
  | m :: ms, ss => by
    rw [runS]
    split
    · next he =>
      have ih := runS_done (h := h) ms (moveY h ss m.1 m.2).1.2
      refine ⟨by simp only [List.length_cons]; omega, fun hk => ?_⟩
      rcases moveY_cases h ss m.1 m.2 with ⟨hk', _⟩ | ⟨_, e⟩ | ⟨_, tt', e, hk2, _, _, _⟩
      · rw [hk] at hk'; cases hk'
      · rw [e] at he; simp at he
      · rw [e] at ih ⊢
        simp only [List.take_succ_cons]
        exact .cons _ _ _ _ _ e (ih.2 hk2)
    · exact ⟨Nat.zero_le _, fun _ => .nil _⟩
end Go.Proofs.Ytdmbahpifbidlaa
