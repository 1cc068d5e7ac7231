/-
  Plain mathematics of overstowage, first part: one row of a bay, its highest slot first. Nothing of the program.
  Plain mathematics of overstowage, second part: plans. Nothing of the program.
  Plain mathematics of overstowage, third part: valid plans behind a port; what the program's four functions give. Nothing of the program.
  Plain mathematics of overstowage, fifth part: the rows of a plan from the lowest box up, as the program looks at them.
-/
import Derived.Test.YtmgnbkiphdlooabGWm
import Derived.Test.YtmgnbkiphdlooabGPn
import Derived.Test.YtmgnbkiphdlooabGLm
namespace Go.Proofs.Ytmgnbkiphdlooab
set_option linter.unusedVariables false

/-- How many are above one of a lesser port; how many are moved at a port; how many there are; what stays behind a port, and behind all ports below one. -/
def ovR (f : Int → Int) : List Int → Nat
  | [] => 0
  | x :: b => ovR f b + if x ≠ 0 ∧ b.any (fun y => decide (y ≠ 0 ∧ f y < f x)) = true then 1 else 0
def pmR (f : Int → Int) (q : Int) : List Int → Nat
  | [] => 0
  | x :: b => pmR f q b + if x ≠ 0 ∧ (f x = q ∨ b.any (fun y => decide (y ≠ 0 ∧ f y = q)) = true) then 1 else 0
def numR : List Int → Nat
  | [] => 0
  | x :: b => numR b + if x ≠ 0 then 1 else 0
def kpR (f : Int → Int) (q : Int) (c : List Int) : List Int := c.filter fun x => decide (x ≠ 0 ∧ f x ≠ q)
def geR (f : Int → Int) (P : Int) (c : List Int) : List Int := c.filter fun x => decide (x ≠ 0 ∧ P ≤ f x)

theorem ovR_cons (f : Int → Int) (x : Int) (b : List Int) : ovR f (x :: b) = ovR f b + if x ≠ 0 ∧ b.any (fun y => decide (y ≠ 0 ∧ f y < f x)) = true then 1 else 0 := rfl
theorem pmR_cons (f : Int → Int) (q x : Int) (b : List Int) : pmR f q (x :: b) = pmR f q b + if x ≠ 0 ∧ (f x = q ∨ b.any (fun y => decide (y ≠ 0 ∧ f y = q)) = true) then 1 else 0 := rfl
theorem numR_cons (x : Int) (b : List Int) : numR (x :: b) = numR b + if x ≠ 0 then 1 else 0 := rfl
theorem any_filter_le {c : List Int} {g h : Int → Bool} (ha : (c.filter g).any h = true) : c.any h = true := by
  rw [List.any_eq_true] at ha ⊢
  obtain ⟨x, hx, h1⟩ := ha
  exact ⟨x, (List.mem_filter.1 hx).1, h1⟩
theorem ovR_filter (f : Int → Int) (g : Int → Bool) : ∀ c, ovR f (c.filter g) ≤ ovR f c
  | [] => Nat.le_refl 0
  | x :: b => by
    have ih := ovR_filter f g b
    by_cases hg : g x = true
    · rw [List.filter_cons_of_pos hg, ovR_cons, ovR_cons]
      by_cases h1 : x ≠ 0 ∧ (b.filter g).any (fun y => decide (y ≠ 0 ∧ f y < f x)) = true
      · rw [if_pos h1, if_pos ⟨h1.1, any_filter_le h1.2⟩]; omega
      · rw [if_neg h1]; omega
    · rw [List.filter_cons_of_neg hg]
      have : ovR f (x :: b) = ovR f b + if x ≠ 0 ∧ b.any (fun y => decide (y ≠ 0 ∧ f y < f x)) = true then 1 else 0 := rfl
      omega
theorem ovR_zeros (f : Int → Int) (c : List Int) : ∀ m, ovR f (List.replicate m 0 ++ c) = ovR f c
  | 0 => rfl
  | m + 1 => by
    rw [List.replicate_succ, List.cons_append, ovR_cons, ovR_zeros f c m, if_neg (fun h => h.1 rfl), Nat.add_zero]
theorem pmR_zeros (f : Int → Int) (q : Int) (c : List Int) : ∀ m, pmR f q (List.replicate m 0 ++ c) = pmR f q c
  | 0 => rfl
  | m + 1 => by
    rw [List.replicate_succ, List.cons_append, pmR_cons, pmR_zeros f q c m, if_neg (fun h => h.1 rfl), Nat.add_zero]
theorem kpR_zeros (f : Int → Int) (q : Int) (c : List Int) (m : Nat) : kpR f q (List.replicate m 0 ++ c) = kpR f q c := by
  unfold kpR
  rw [List.filter_append]
  have : (List.replicate m (0 : Int)).filter (fun x => decide (x ≠ 0 ∧ f x ≠ q)) = [] := by
    rw [List.filter_eq_nil_iff]
    intro x hx
    rw [(List.mem_replicate.1 hx).2]
    simp
  rw [this, List.nil_append]
theorem kpR_ge (f : Int → Int) (P : Int) (c : List Int) : kpR f P (geR f P c) = geR f (P + 1) c := by
  unfold kpR geR
  rw [List.filter_filter]
  apply List.filter_congr
  intro x _
  rw [← Bool.decide_and]
  apply decide_eq_decide.2
  constructor
  · rintro ⟨⟨h1, h2⟩, h3, h4⟩; exact ⟨h1, by omega⟩
  · rintro ⟨h1, h2⟩; exact ⟨⟨h1, by omega⟩, h1, by omega⟩
theorem pmR_ge (f : Int → Int) (P : Int) (x : Int) (b : List Int) : pmR f P (geR f P (x :: b)) = pmR f P (geR f P b) + if x ≠ 0 ∧ P ≤ f x ∧ (f x = P ∨ b.any (fun y => decide (y ≠ 0 ∧ f y = P)) = true) then 1 else 0 := by
  have hany : (geR f P b).any (fun y => decide (y ≠ 0 ∧ f y = P)) = b.any (fun y => decide (y ≠ 0 ∧ f y = P)) := by
    apply Bool.eq_iff_iff.2
    rw [List.any_eq_true, List.any_eq_true]
    constructor
    · rintro ⟨y, hy, h1⟩; exact ⟨y, (List.mem_filter.1 hy).1, h1⟩
    · rintro ⟨y, hy, h1⟩
      have h2 := of_decide_eq_true h1
      exact ⟨y, List.mem_filter.2 ⟨hy, decide_eq_true ⟨h2.1, by omega⟩⟩, h1⟩
  by_cases hg : x ≠ 0 ∧ P ≤ f x
  · have e : geR f P (x :: b) = x :: geR f P b := List.filter_cons_of_pos (by simpa using hg)
    rw [e]
    have e2 : pmR f P (x :: geR f P b) = pmR f P (geR f P b) + if x ≠ 0 ∧ (f x = P ∨ (geR f P b).any (fun y => decide (y ≠ 0 ∧ f y = P)) = true) then 1 else 0 := rfl
    rw [e2, hany]
    by_cases h1 : f x = P ∨ b.any (fun y => decide (y ≠ 0 ∧ f y = P)) = true
    · rw [if_pos ⟨hg.1, h1⟩, if_pos ⟨hg.1, hg.2, h1⟩]
    · rw [if_neg (fun h => h1 h.2), if_neg (fun h => h1 h.2.2)]
  · have e : geR f P (x :: b) = geR f P b := List.filter_cons_of_neg (by simpa using hg)
    rw [e, if_neg (fun h => hg ⟨h.1, h.2.1⟩)]
    rfl
/-- The sum over the ports from 0 to 6. -/
def sum7 (g : Int → Nat) : Nat := g 0 + g 1 + g 2 + g 3 + g 4 + g 5 + g 6
theorem sum7_add (g h : Int → Nat) : sum7 (fun P => g P + h P) = sum7 g + sum7 h := by unfold sum7; dsimp only; omega
theorem sum7_zero : sum7 (fun _ => 0) = 0 := rfl
theorem sum7_one (a : Int) (h0 : 0 ≤ a) (h6 : a ≤ 6) : sum7 (fun P => if P = a then 1 else 0) = 1 := by
  rcases (by omega : a = 0 ∨ a = 1 ∨ a = 2 ∨ a = 3 ∨ a = 4 ∨ a = 5 ∨ a = 6) with rfl | rfl | rfl | rfl | rfl | rfl | rfl <;> rfl
theorem sum7_le {g h : Int → Nat} (hl : ∀ P, g P ≤ h P) : sum7 g ≤ sum7 h := by
  unfold sum7
  have := hl 0; have := hl 1; have := hl 2; have := hl 3; have := hl 4; have := hl 5; have := hl 6
  omega
theorem sum7_congr {g h : Int → Nat} (hl : ∀ P, g P = h P) : sum7 g = sum7 h := by rw [show g = h from funext hl]
/-- How many moves a row needs on the whole voyage. -/
def vyR (f : Int → Int) (c : List Int) : Nat := sum7 fun P => pmR f P (geR f P c)
theorem vyR_cons (f : Int → Int) (x : Int) (b : List Int) : vyR f (x :: b) = vyR f b + sum7 fun P => if x ≠ 0 ∧ P ≤ f x ∧ (f x = P ∨ b.any (fun y => decide (y ≠ 0 ∧ f y = P)) = true) then 1 else 0 := by
  unfold vyR
  rw [← sum7_add]
  exact sum7_congr fun P => pmR_ge f P x b
theorem vyR_ge {f : Int → Int} : ∀ c : List Int, (∀ x ∈ c, x ≠ 0 → 0 ≤ f x ∧ f x ≤ 6) → numR c + ovR f c ≤ vyR f c
  | [], _ => Nat.zero_le _
  | x :: b, hc => by
    have ih := vyR_ge b fun y hy => hc y (List.mem_cons_of_mem _ hy)
    rw [vyR_cons, numR_cons, ovR_cons]
    by_cases hx : x = 0
    · rw [if_neg (fun h => h hx), if_neg (fun h => h.1 hx)]; omega
    · have hb := hc x (List.mem_cons_self ..) hx
      rw [if_pos hx]
      by_cases hv : b.any (fun y => decide (y ≠ 0 ∧ f y < f x)) = true
      · rw [if_pos ⟨hx, hv⟩]
        obtain ⟨y, hy, h1⟩ := List.any_eq_true.1 hv
        have h2 := of_decide_eq_true h1
        have hyb := hc y (List.mem_cons_of_mem _ hy) h2.1
        have : 2 ≤ sum7 fun P => if x ≠ 0 ∧ P ≤ f x ∧ (f x = P ∨ b.any (fun y => decide (y ≠ 0 ∧ f y = P)) = true) then 1 else 0 := by
          have e1 := sum7_one (f x) hb.1 hb.2
          have e2 := sum7_one (f y) hyb.1 hyb.2
          have e3 := sum7_add (fun P => if P = f x then 1 else 0) (fun P => if P = f y then 1 else 0)
          have : sum7 (fun P => (if P = f x then 1 else 0) + (if P = f y then 1 else 0)) ≤ sum7 fun P => if x ≠ 0 ∧ P ≤ f x ∧ (f x = P ∨ b.any (fun y => decide (y ≠ 0 ∧ f y = P)) = true) then 1 else 0 := by
            refine sum7_le fun P => ?_
            by_cases p1 : P = f x
            · rw [if_pos p1, if_neg (by omega), if_pos ⟨hx, by omega, .inl p1.symm⟩]; exact Nat.le_refl _
            · rw [if_neg p1]
              by_cases p2 : P = f y
              · rw [if_pos p2, if_pos ⟨hx, by omega, .inr (List.any_eq_true.2 ⟨y, hy, decide_eq_true ⟨h2.1, p2.symm⟩⟩)⟩]; exact Nat.le_refl _
              · rw [if_neg p2]; exact Nat.zero_le _
          omega
        omega
      · rw [if_neg (fun h => hv h.2)]
        have : 1 ≤ sum7 fun P => if x ≠ 0 ∧ P ≤ f x ∧ (f x = P ∨ b.any (fun y => decide (y ≠ 0 ∧ f y = P)) = true) then 1 else 0 := by
          have e1 := sum7_one (f x) hb.1 hb.2
          have : sum7 (fun P => if P = f x then 1 else 0) ≤ sum7 fun P => if x ≠ 0 ∧ P ≤ f x ∧ (f x = P ∨ b.any (fun y => decide (y ≠ 0 ∧ f y = P)) = true) then 1 else 0 := by
            refine sum7_le fun P => ?_
            by_cases p1 : P = f x
            · rw [if_pos p1, if_pos ⟨hx, by omega, .inl p1.symm⟩]; exact Nat.le_refl _
            · rw [if_neg p1]; exact Nat.zero_le _
          omega
        omega
theorem vyR_eq {f : Int → Int} : ∀ c : List Int, (∀ x ∈ c, x ≠ 0 → 0 ≤ f x ∧ f x ≤ 6) → ovR f c = 0 → vyR f c = numR c
  | [], _, _ => rfl
  | x :: b, hc, ho => by
    rw [ovR_cons] at ho
    have ih := vyR_eq b (fun y hy => hc y (List.mem_cons_of_mem _ hy)) (by omega)
    rw [vyR_cons, ih, numR_cons]
    by_cases hx : x = 0
    · rw [if_neg (fun h => h hx)]
      rw [show (fun P => if x ≠ 0 ∧ P ≤ f x ∧ (f x = P ∨ b.any (fun y => decide (y ≠ 0 ∧ f y = P)) = true) then 1 else 0) = fun _ => 0 from funext fun P => if_neg fun h => h.1 hx]
      rfl
    · have hb := hc x (List.mem_cons_self ..) hx
      rw [if_pos hx]
      have hv : ¬ b.any (fun y => decide (y ≠ 0 ∧ f y < f x)) = true := fun hv => by rw [if_pos ⟨hx, hv⟩] at ho; omega
      rw [show (fun P => if x ≠ 0 ∧ P ≤ f x ∧ (f x = P ∨ b.any (fun y => decide (y ≠ 0 ∧ f y = P)) = true) then 1 else 0) = fun P => if P = f x then 1 else 0 from funext fun P => by
        by_cases p1 : P = f x
        · rw [if_pos p1, if_pos ⟨hx, by omega, .inl p1.symm⟩]
        · rw [if_neg p1, if_neg]
          rintro ⟨_, h2, h3 | h3⟩
          · exact p1 h3.symm
          · obtain ⟨y, hy, h4⟩ := List.any_eq_true.1 h3
            have h5 := of_decide_eq_true h4
            exact hv (List.any_eq_true.2 ⟨y, hy, decide_eq_true ⟨h5.1, by omega⟩⟩)]
      rw [sum7_one _ hb.1 hb.2]
end Go.Proofs.Ytmgnbkiphdlooab
namespace Go.Proofs.Ytmgnbkiphdlooab
set_option linter.unusedVariables false

/-- The port of what has an id. -/
def ptB (l : List Bx) (x : Int) : Int := (l.getD (findB l x).toNat Bx.zero).p
/-- The first t slots of row r of all rows, the highest first (T slots a row). -/
def colT (T : Nat) (p : List Int) (r : Nat) : Nat → List Int
  | 0 => []
  | t + 1 => pAt p (r * T + t) :: colT T p r t
theorem colT_len (T : Nat) (p : List Int) (r : Nat) : ∀ t, (colT T p r t).length = t
  | 0 => rfl
  | t + 1 => by rw [colT, List.length_cons, colT_len T p r t]
theorem colT_mem {T : Nat} {p : List Int} {r : Nat} {x : Int} : ∀ {t : Nat}, x ∈ colT T p r t ↔ ∃ s, s < t ∧ pAt p (r * T + s) = x
  | 0 => ⟨fun h => (by cases h), fun ⟨_, h, _⟩ => (by omega)⟩
  | t + 1 => by
    rw [colT, List.mem_cons, colT_mem]
    constructor
    · rintro (h | ⟨s, hs, h⟩)
      · exact ⟨t, by omega, h.symm⟩
      · exact ⟨s, by omega, h⟩
    · rintro ⟨s, hs, h⟩
      by_cases e : s = t
      · subst e; exact .inl h.symm
      · exact .inr ⟨s, by omega, h⟩
/-- Whether the box in a slot is above one of a lesser port; whether it is moved at a port. -/
def overS (T : Nat) (f : Int → Int) (p : List Int) (k : Nat) : Bool := decide (pAt p k ≠ 0) && (List.range k).any fun j => decide (pAt p j ≠ 0 ∧ k / T = j / T ∧ f (pAt p j) < f (pAt p k))
def moveS (T : Nat) (f : Int → Int) (q : Int) (p : List Int) (k : Nat) : Bool := decide (pAt p k ≠ 0) && (decide (f (pAt p k) = q) || (List.range k).any fun j => decide (pAt p j ≠ 0 ∧ k / T = j / T ∧ f (pAt p j) = q))
/-- How many of the first n slots. -/
def cnt (g : Nat → Bool) (n : Nat) : Nat := ((List.range n).filter g).length
theorem cnt_next (g : Nat → Bool) (n : Nat) : cnt g (n + 1) = cnt g n + if g n = true then 1 else 0 := by
  unfold cnt
  rw [List.range_succ, List.filter_append, List.length_append]
  by_cases h : g n = true
  · rw [List.filter_cons_of_pos h, if_pos h]; simp
  · rw [List.filter_cons_of_neg h, if_neg h]; simp
theorem cnt_le (g : Nat → Bool) : ∀ n, cnt g n ≤ n
  | 0 => Nat.le_refl 0
  | n + 1 => by rw [cnt_next]; have := cnt_le g n; split <;> omega
theorem cnt_add (g : Nat → Bool) (a : Nat) : ∀ b, cnt g (a + b) = cnt g a + cnt (fun t => g (a + t)) b
  | 0 => rfl
  | b + 1 => by rw [← Nat.add_assoc, cnt_next, cnt_add g a b, cnt_next]; omega
/-- The sum over the rows. -/
def sumR (g : Nat → Nat) : Nat → Nat
  | 0 => 0
  | r + 1 => sumR g r + g r
theorem sumR_le {g h : Nat → Nat} : ∀ {R : Nat}, (∀ r, r < R → g r ≤ h r) → sumR g R ≤ sumR h R
  | 0, _ => Nat.le_refl 0
  | R + 1, hl => by
    have := sumR_le (R := R) fun r hr => hl r (by omega)
    have := hl R (by omega)
    unfold sumR; omega
theorem sumR_congr {g h : Nat → Nat} : ∀ {R : Nat}, (∀ r, r < R → g r = h r) → sumR g R = sumR h R
  | 0, _ => rfl
  | R + 1, hl => by unfold sumR; rw [sumR_congr (R := R) fun r hr => hl r (by omega), hl R (by omega)]
theorem sumR_add (g h : Nat → Nat) : ∀ R, sumR (fun r => g r + h r) R = sumR g R + sumR h R
  | 0 => rfl
  | R + 1 => by unfold sumR; rw [sumR_add g h R]; omega
theorem sumR_zero {g : Nat → Nat} : ∀ {R : Nat}, sumR g R = 0 → ∀ r, r < R → g r = 0
  | 0, _, r, hr => by omega
  | R + 1, h0, r, hr => by
    unfold sumR at h0
    by_cases e : r = R
    · subst e; omega
    · exact sumR_zero (R := R) (by omega) r (by omega)
theorem cnt_rows (g : Nat → Bool) (T : Nat) : ∀ R, cnt g (R * T) = sumR (fun r => cnt (fun t => g (r * T + t)) T) R
  | 0 => by rw [Nat.zero_mul]; rfl
  | R + 1 => by rw [Nat.succ_mul, cnt_add, cnt_rows g T R]; rfl
theorem row_div {T r t : Nat} (ht : t < T) : (r * T + t) / T = r := by
  rw [Nat.add_comm, Nat.add_mul_div_right _ _ (by omega), Nat.div_eq_of_lt ht, Nat.zero_add]
/-- What is below in the same row. -/
theorem same_row {T r t : Nat} (ht : t < T) (F : Nat → Prop) : (∃ j, j < r * T + t ∧ (r * T + t) / T = j / T ∧ F j) ↔ ∃ s, s < t ∧ F (r * T + s) := by
  rw [row_div ht]
  constructor
  · rintro ⟨j, hj, hr, hF⟩
    have h1 := Nat.div_add_mod j T
    have h2 := Nat.mod_lt j (show 0 < T by omega)
    rw [← hr, Nat.mul_comm] at h1
    refine ⟨j % T, by omega, ?_⟩
    rw [h1]; exact hF
  · rintro ⟨s, hs, hF⟩
    exact ⟨r * T + s, by omega, (row_div (by omega)).symm, hF⟩
theorem overS_col {T : Nat} {f : Int → Int} {p : List Int} {r t : Nat} (ht : t < T) : overS T f p (r * T + t) = true ↔ pAt p (r * T + t) ≠ 0 ∧ (colT T p r t).any (fun y => decide (y ≠ 0 ∧ f y < f (pAt p (r * T + t)))) = true := by
  unfold overS
  rw [Bool.and_eq_true, decide_eq_true_eq, List.any_eq_true, List.any_eq_true]
  refine and_congr Iff.rfl ?_
  have := same_row (r := r) ht fun j => pAt p j ≠ 0 ∧ f (pAt p j) < f (pAt p (r * T + t))
  constructor
  · rintro ⟨j, hj, h1⟩
    have h2 := of_decide_eq_true h1
    obtain ⟨s, hs, h3⟩ := this.1 ⟨j, List.mem_range.1 hj, h2.2.1, h2.1, h2.2.2⟩
    exact ⟨_, colT_mem.2 ⟨s, hs, rfl⟩, decide_eq_true h3⟩
  · rintro ⟨y, hy, h1⟩
    obtain ⟨s, hs, rfl⟩ := colT_mem.1 hy
    obtain ⟨j, hj, h2, h3, h4⟩ := this.2 ⟨s, hs, of_decide_eq_true h1⟩
    exact ⟨j, List.mem_range.2 hj, decide_eq_true ⟨h3, h2, h4⟩⟩
theorem moveS_col {T : Nat} {f : Int → Int} {q : Int} {p : List Int} {r t : Nat} (ht : t < T) : moveS T f q p (r * T + t) = true ↔ pAt p (r * T + t) ≠ 0 ∧ (f (pAt p (r * T + t)) = q ∨ (colT T p r t).any (fun y => decide (y ≠ 0 ∧ f y = q)) = true) := by
  unfold moveS
  rw [Bool.and_eq_true, Bool.or_eq_true, decide_eq_true_eq, decide_eq_true_eq, List.any_eq_true, List.any_eq_true]
  refine and_congr Iff.rfl (or_congr Iff.rfl ?_)
  have := same_row (r := r) ht fun j => pAt p j ≠ 0 ∧ f (pAt p j) = q
  constructor
  · rintro ⟨j, hj, h1⟩
    have h2 := of_decide_eq_true h1
    obtain ⟨s, hs, h3⟩ := this.1 ⟨j, List.mem_range.1 hj, h2.2.1, h2.1, h2.2.2⟩
    exact ⟨_, colT_mem.2 ⟨s, hs, rfl⟩, decide_eq_true h3⟩
  · rintro ⟨y, hy, h1⟩
    obtain ⟨s, hs, rfl⟩ := colT_mem.1 hy
    obtain ⟨j, hj, h2, h3, h4⟩ := this.2 ⟨s, hs, of_decide_eq_true h1⟩
    exact ⟨j, List.mem_range.2 hj, decide_eq_true ⟨h3, h2, h4⟩⟩
theorem cnt_over {T : Nat} {f : Int → Int} {p : List Int} {r : Nat} : ∀ t, t ≤ T → cnt (fun t => overS T f p (r * T + t)) t = ovR f (colT T p r t)
  | 0, _ => rfl
  | t + 1, ht => by
    rw [cnt_next, cnt_over t (by omega), colT, ovR_cons]
    congr 1
    by_cases h : overS T f p (r * T + t) = true
    · rw [if_pos h, if_pos ((overS_col (by omega)).1 h)]
    · rw [if_neg h, if_neg fun hc => h ((overS_col (by omega)).2 hc)]
theorem cnt_move {T : Nat} {f : Int → Int} {q : Int} {p : List Int} {r : Nat} : ∀ t, t ≤ T → cnt (fun t => moveS T f q p (r * T + t)) t = pmR f q (colT T p r t)
  | 0, _ => rfl
  | t + 1, ht => by
    rw [cnt_next, cnt_move t (by omega), colT, pmR_cons]
    congr 1
    by_cases h : moveS T f q p (r * T + t) = true
    · rw [if_pos h, if_pos ((moveS_col (by omega)).1 h)]
    · rw [if_neg h, if_neg fun hc => h ((moveS_col (by omega)).2 hc)]
theorem cnt_num {T : Nat} {p : List Int} {r : Nat} : ∀ t, cnt (fun t => decide (pAt p (r * T + t) ≠ 0)) t = numR (colT T p r t)
  | 0 => rfl
  | t + 1 => by
    rw [cnt_next, cnt_num t, colT, numR_cons]
    congr 1
    by_cases h : pAt p (r * T + t) ≠ 0
    · rw [if_pos (decide_eq_true h), if_pos h]
    · rw [if_neg (by simpa using h), if_neg h]
theorem overs_sum (T : Nat) (f : Int → Int) (p : List Int) (R : Nat) : cnt (overS T f p) (R * T) = sumR (fun r => ovR f (colT T p r T)) R := by
  rw [cnt_rows]; exact sumR_congr fun r _ => cnt_over T (Nat.le_refl _)
theorem moves_sum (T : Nat) (f : Int → Int) (q : Int) (p : List Int) (R : Nat) : cnt (moveS T f q p) (R * T) = sumR (fun r => pmR f q (colT T p r T)) R := by
  rw [cnt_rows]; exact sumR_congr fun r _ => cnt_move T (Nat.le_refl _)
theorem num_sum (T : Nat) (p : List Int) (R : Nat) : cnt (fun k => decide (pAt p k ≠ 0)) (R * T) = sumR (fun r => numR (colT T p r T)) R := by
  rw [cnt_rows]; exact sumR_congr fun r _ => cnt_num T
/-- What stays behind a port: in every row, lower. -/
def aftP (T : Nat) (f : Int → Int) (q : Int) (p : List Int) : List Int := (List.range p.length).map fun k => (kpR f q (colT T p (k / T) T)).reverse.getD (k % T) 0
theorem aftP_len (T : Nat) (f : Int → Int) (q : Int) (p : List Int) : (aftP T f q p).length = p.length := by simp [aftP]
theorem aftP_at {T : Nat} {f : Int → Int} {q : Int} {p : List Int} {k : Nat} (hk : k < p.length) : pAt (aftP T f q p) k = (kpR f q (colT T p (k / T) T)).reverse.getD (k % T) 0 := by
  rw [pAt_get (by rw [aftP_len]; exact hk)]
  simp [aftP]
theorem kpR_len (f : Int → Int) (q : Int) (c : List Int) : (kpR f q c).length ≤ c.length := List.length_filter_le _ _
/-- The row behind the port: zeros on top of what stays. -/
theorem colT_list {T : Nat} {p : List Int} {r : Nat} {c : List Int} (hT : c.length ≤ T) (hp : ∀ t, t < T → pAt p (r * T + t) = c.reverse.getD t 0) : colT T p r T = List.replicate (T - c.length) 0 ++ c := by
  have key : ∀ t, t ≤ T → colT T p r t = List.replicate (t - c.length) 0 ++ c.drop (c.length - t) := by
    intro t
    induction t with
    | zero => intro _; rw [colT, Nat.zero_sub, List.replicate_zero, Nat.sub_zero, List.drop_length]; rfl
    | succ t ih =>
      intro ht
      rw [colT, ih (by omega), hp t (by omega)]
      by_cases h : t < c.length
      · have e1 : t - c.length = 0 := by omega
        have e2 : t + 1 - c.length = 0 := by omega
        rw [e1, e2, List.replicate_zero, List.nil_append, List.nil_append]
        have e3 : c.length - t = (c.length - (t + 1)) + 1 := by omega
        have hi : c.length - (t + 1) < c.length := by omega
        rw [List.drop_eq_getElem_cons hi, ← e3]
        congr 1
        rw [List.getD_eq_getElem?_getD, List.getElem?_reverse (by omega)]
        have e4 : c.length - 1 - t = c.length - (t + 1) := by omega
        rw [e4, List.getElem?_eq_getElem hi, Option.getD_some]
      · have e1 : c.length - t = 0 := by omega
        have e2 : c.length - (t + 1) = 0 := by omega
        have e3 : t + 1 - c.length = (t - c.length) + 1 := by omega
        rw [e1, e2, List.drop_zero, e3, List.replicate_succ, List.cons_append]
        congr 1
        rw [List.getD_eq_getElem?_getD, List.getElem?_eq_none (by rw [List.length_reverse]; omega)]
        rfl
  have := key T (Nat.le_refl _)
  have e : c.length - T = 0 := by omega
  rw [e, List.drop_zero] at this
  exact this
theorem colT_aft {T : Nat} {f : Int → Int} {q : Int} {p : List Int} {R : Nat} (hT : 0 < T) (hn : p.length = R * T) {r : Nat} (hr : r < R) : colT T (aftP T f q p) r T = List.replicate (T - (kpR f q (colT T p r T)).length) 0 ++ kpR f q (colT T p r T) := by
  have hl : (kpR f q (colT T p r T)).length ≤ T := by have := kpR_len f q (colT T p r T); rw [colT_len] at this; exact this
  refine colT_list hl fun t ht => ?_
  have hk : r * T + t < p.length := by
    rw [hn]
    have : (r + 1) * T ≤ R * T := Nat.mul_le_mul_right T hr
    rw [Nat.succ_mul] at this
    omega
  rw [aftP_at hk, row_div ht]
  have e : (r * T + t) % T = t := by rw [Nat.add_comm, Nat.add_mul_mod_self_right, Nat.mod_eq_of_lt ht]
  rw [e]
/-- Behind a port there are no more overstowed boxes than before. -/
theorem over_aft {T : Nat} {f : Int → Int} {q : Int} {p : List Int} {R : Nat} (hT : 0 < T) (hn : p.length = R * T) : cnt (overS T f (aftP T f q p)) (R * T) ≤ cnt (overS T f p) (R * T) := by
  rw [overs_sum, overs_sum]
  refine sumR_le fun r hr => ?_
  rw [colT_aft hT hn hr, ovR_zeros]
  exact ovR_filter f _ _
/-- Behind a port nothing is moved at it any more. -/
theorem pmR_kp (f : Int → Int) (q : Int) : ∀ c, pmR f q (kpR f q c) = 0
  | [] => rfl
  | x :: b => by
    have ih := pmR_kp f q b
    unfold kpR at ih ⊢
    by_cases hg : x ≠ 0 ∧ f x ≠ q
    · rw [List.filter_cons_of_pos (by simpa using hg), pmR_cons, ih, if_neg]
      rintro ⟨_, h1 | h1⟩
      · exact hg.2 h1
      · obtain ⟨y, hy, h2⟩ := List.any_eq_true.1 h1
        have h3 := of_decide_eq_true (List.mem_filter.1 hy).2
        exact h3.2 (of_decide_eq_true h2).2
    · rw [List.filter_cons_of_neg (by simpa using hg)]
      exact ih
theorem move_aft {T : Nat} {f : Int → Int} {q : Int} {p : List Int} {R : Nat} (hT : 0 < T) (hn : p.length = R * T) : cnt (moveS T f q (aftP T f q p)) (R * T) = 0 := by
  rw [moves_sum]
  have : ∀ {g : Nat → Nat} {R : Nat}, (∀ r, r < R → g r = 0) → sumR g R = 0 := by
    intro g R h
    induction R with
    | zero => rfl
    | succ R ih => unfold sumR; rw [ih fun r hr => h r (by omega), h R (by omega)]
  refine this fun r hr => ?_
  rw [colT_aft hT hn hr, pmR_zeros]
  exact pmR_kp f q _
/-- The plan behind the ports below P, and the moves at them. -/
def aftN (T : Nat) (f : Int → Int) (p : List Int) : Nat → List Int
  | 0 => p
  | P + 1 => aftP T f (P : Int) (aftN T f p P)
def vyN (T : Nat) (f : Int → Int) (p : List Int) : Nat → Nat
  | 0 => 0
  | P + 1 => vyN T f p P + cnt (moveS T f (P : Int) (aftN T f p P)) p.length
theorem aftN_len (T : Nat) (f : Int → Int) (p : List Int) : ∀ P, (aftN T f p P).length = p.length
  | 0 => rfl
  | P + 1 => by rw [aftN, aftP_len, aftN_len T f p P]
theorem geR_len (f : Int → Int) (P : Int) (c : List Int) : (geR f P c).length ≤ c.length := List.length_filter_le _ _
theorem colT_aftN {T : Nat} {f : Int → Int} {p : List Int} {R : Nat} (hT : 0 < T) (hn : p.length = R * T) {r : Nat} (hr : r < R) (hf : ∀ x ∈ colT T p r T, x ≠ 0 → 0 ≤ f x) : ∀ P, 0 < P → colT T (aftN T f p P) r T = List.replicate (T - (geR f (P : Int) (colT T p r T)).length) 0 ++ geR f (P : Int) (colT T p r T)
  | 0, h => by omega
  | 1, _ => by
    rw [aftN, aftN]
    rw [colT_aft hT hn hr]
    have e : kpR f ((0 : Nat) : Int) (colT T p r T) = geR f ((1 : Nat) : Int) (colT T p r T) := by
      unfold kpR geR
      apply List.filter_congr
      intro x hx
      apply decide_eq_decide.2
      constructor
      · rintro ⟨h1, h2⟩; have := hf x hx h1; exact ⟨h1, by omega⟩
      · rintro ⟨h1, h2⟩; exact ⟨h1, by omega⟩
    rw [e]
  | P + 2, _ => by
    rw [aftN]
    rw [colT_aft hT (by rw [aftN_len]; exact hn) hr, colT_aftN hT hn hr hf (P + 1) (by omega), kpR_zeros, kpR_ge]
    rfl
theorem vyN_sum {T : Nat} {f : Int → Int} {p : List Int} {R : Nat} (hT : 0 < T) (hn : p.length = R * T) (hf : ∀ r, r < R → ∀ x ∈ colT T p r T, x ≠ 0 → 0 ≤ f x) (P : Nat) : cnt (moveS T f (P : Int) (aftN T f p P)) p.length = sumR (fun r => pmR f (P : Int) (geR f (P : Int) (colT T p r T))) R := by
  rw [hn, moves_sum]
  refine sumR_congr fun r hr => ?_
  rcases Nat.eq_zero_or_pos P with h0 | h0
  · subst h0
    rw [aftN]
    -- nothing has gone yet
    have key : ∀ c : List Int, (∀ x ∈ c, x ≠ 0 → 0 ≤ f x) → pmR f ((0 : Nat) : Int) c = pmR f ((0 : Nat) : Int) (geR f ((0 : Nat) : Int) c) := by
      intro c
      induction c with
      | nil => intro _; rfl
      | cons x b ih =>
        intro hc
        rw [pmR_ge, ← ih fun y hy => hc y (List.mem_cons_of_mem _ hy)]
        have e : pmR f ((0 : Nat) : Int) (x :: b) = pmR f ((0 : Nat) : Int) b + if x ≠ 0 ∧ (f x = ((0 : Nat) : Int) ∨ b.any (fun y => decide (y ≠ 0 ∧ f y = ((0 : Nat) : Int))) = true) then 1 else 0 := rfl
        rw [e]
        by_cases hx : x = 0
        · rw [if_neg (fun h => h.1 hx), if_neg (fun h => h.1 hx)]
        · have h0 := hc x (List.mem_cons_self ..) hx
          by_cases h1 : f x = ((0 : Nat) : Int) ∨ b.any (fun y => decide (y ≠ 0 ∧ f y = ((0 : Nat) : Int))) = true
          · rw [if_pos ⟨hx, h1⟩, if_pos ⟨hx, h0, h1⟩]
          · rw [if_neg (fun h => h1 h.2), if_neg (fun h => h1 h.2.2)]
    exact key _ (hf r hr)
  · rw [colT_aftN hT hn hr (hf r hr) P h0, pmR_zeros]
theorem vyN_rows {T : Nat} {f : Int → Int} {p : List Int} {R : Nat} (hT : 0 < T) (hn : p.length = R * T) (hf : ∀ r, r < R → ∀ x ∈ colT T p r T, x ≠ 0 → 0 ≤ f x) : vyN T f p 7 = sumR (fun r => vyR f (colT T p r T)) R := by
  have h := vyN_sum hT hn hf
  unfold vyR sum7
  simp only [sumR_add]
  have h0 := h 0; have h1 := h 1; have h2 := h 2; have h3 := h 3; have h4 := h 4; have h5 := h 5; have h6 := h 6
  simp only [vyN]
  rw [h0, h1, h2, h3, h4, h5, h6]
  simp
/-- Every box is taken off once at least, and once more if it is above one of a lesser port; with none of these, once exactly. -/
theorem voyage_ge {T : Nat} {f : Int → Int} {p : List Int} {R : Nat} (hT : 0 < T) (hn : p.length = R * T) (hf : ∀ r, r < R → ∀ x ∈ colT T p r T, x ≠ 0 → 0 ≤ f x ∧ f x ≤ 6) :
    cnt (fun k => decide (pAt p k ≠ 0)) p.length + cnt (overS T f p) p.length ≤ vyN T f p 7 ∧ (cnt (overS T f p) p.length = 0 → vyN T f p 7 = cnt (fun k => decide (pAt p k ≠ 0)) p.length) := by
  rw [vyN_rows hT hn fun r hr x hx hz => (hf r hr x hx hz).1, hn, num_sum, overs_sum]
  refine ⟨?_, fun h0 => ?_⟩
  · rw [← sumR_add]
    exact sumR_le fun r hr => vyR_ge _ (hf r hr)
  · exact sumR_congr fun r hr => vyR_eq _ (hf r hr) (sumR_zero h0 r hr)
end Go.Proofs.Ytmgnbkiphdlooab
namespace Go.Proofs.Ytmgnbkiphdlooab
set_option linter.unusedVariables false

theorem colT_own {T : Nat} {p : List Int} {R : Nat} (hn : p.length = R * T) {r : Nat} (hr : r < R) {s : Nat} (hs : s < T) : r * T + s < p.length := by
  rw [hn]
  have : (r + 1) * T ≤ R * T := Nat.mul_le_mul_right T hr
  rw [Nat.succ_mul] at this
  omega
theorem slot_row {T R k : Nat} (hT : 0 < T) (hk : k < R * T) : k / T < R ∧ k % T < T ∧ k / T * T + k % T = k := by
  refine ⟨Nat.div_lt_of_lt_mul (by rw [Nat.mul_comm]; exact hk), Nat.mod_lt _ hT, ?_⟩
  rw [Nat.mul_comm]; exact Nat.div_add_mod k T
/-- What lies in a slot behind the port lay in the same row before. -/
theorem aft_src {T : Nat} {f : Int → Int} {q : Int} {p : List Int} {R : Nat} (hT : 0 < T) (hn : p.length = R * T) {k : Nat} (hk : k < p.length) (hz : pAt (aftP T f q p) k ≠ 0) :
    ∃ s, s < T ∧ pAt p (k / T * T + s) = pAt (aftP T f q p) k ∧ f (pAt (aftP T f q p) k) ≠ q := by
  rw [aftP_at hk] at hz ⊢
  have hl : k % T < (kpR f q (colT T p (k / T) T)).reverse.length := by
    rcases Nat.lt_or_ge (k % T) (kpR f q (colT T p (k / T) T)).reverse.length with h | h
    · exact h
    · rw [List.getD_eq_getElem?_getD, List.getElem?_eq_none h] at hz
      exact absurd rfl hz
  rw [List.getD_eq_getElem?_getD, List.getElem?_eq_getElem hl, Option.getD_some]
  have hm := List.mem_reverse.1 (List.getElem_mem hl)
  obtain ⟨h1, h2⟩ := List.mem_filter.1 hm
  obtain ⟨s, hs, h3⟩ := colT_mem.1 h1
  exact ⟨s, hs, h3, (of_decide_eq_true h2).2⟩
theorem colT_nodup {h : Hl} {bok : Bool} {ids p : List Int} (hk : plOk h bok ids p = true) {T R : Nat} (hT : 0 < T) (hn : p.length = R * T) {r : Nat} (hr : r < R) (g : Int → Bool) (hg : ∀ x, g x = true → x ≠ 0) : ∀ t, t ≤ T → ((colT T p r t).filter g).Nodup
  | 0, _ => List.nodup_nil
  | t + 1, ht => by
    have ih := colT_nodup hk hT hn hr g hg t (by omega)
    rw [colT]
    by_cases h1 : g (pAt p (r * T + t)) = true
    · rw [List.filter_cons_of_pos h1]
      refine List.nodup_cons.2 ⟨fun hm => ?_, ih⟩
      obtain ⟨s, hs, h2⟩ := colT_mem.1 (List.mem_filter.1 hm).1
      have := plOk_inj hk (colT_own hn hr (by omega)) (colT_own hn hr (by omega)) h2 (by rw [h2]; exact hg _ h1)
      omega
    · rw [List.filter_cons_of_neg h1]
      exact ih
theorem aft_inj {h : Hl} {bok : Bool} {ids p : List Int} {f : Int → Int} {q : Int} (hk : plOk h bok ids p = true) {T R : Nat} (hT : 0 < T) (hn : p.length = R * T) {a b : Nat} (ha : a < p.length) (hb : b < p.length) (he : pAt (aftP T f q p) a = pAt (aftP T f q p) b) (hz : pAt (aftP T f q p) a ≠ 0) : a = b := by
  obtain ⟨sa, hsa, ea, _⟩ := aft_src hT hn ha hz
  obtain ⟨sb, hsb, eb, _⟩ := aft_src hT hn hb (he ▸ hz)
  obtain ⟨ra, ta, ia⟩ := slot_row hT (show a < R * T by omega)
  obtain ⟨rb, tb, ib⟩ := slot_row hT (show b < R * T by omega)
  have h1 := plOk_inj hk (colT_own hn ra hsa) (colT_own hn rb hsb) (by rw [ea, eb, he]) (by rw [ea]; exact hz)
  have h2 : a / T = b / T := by
    have h3 : (a / T * T + sa) / T = (b / T * T + sb) / T := by rw [h1]
    rw [row_div hsa, row_div hsb] at h3
    exact h3
  rw [aftP_at ha] at he hz
  rw [aftP_at hb, ← h2] at he
  have hnd : (kpR f q (colT T p (a / T) T)).reverse.Nodup := by
    have h9 := List.nodup_iff_pairwise_ne.1 (colT_nodup hk hT hn ra (fun x => decide (x ≠ 0 ∧ f x ≠ q)) (fun x hx => (of_decide_eq_true hx).1) T (Nat.le_refl _))
    exact List.nodup_iff_pairwise_ne.2 (List.pairwise_reverse.2 (h9.imp fun hne => hne.symm))
  generalize (kpR f q (colT T p (a / T) T)).reverse = L at he hz hnd
  have hla : a % T < L.length := by
    rcases Nat.lt_or_ge (a % T) L.length with h | h
    · exact h
    · rw [List.getD_eq_getElem?_getD, List.getElem?_eq_none h] at hz
      exact absurd rfl hz
  have hlb : b % T < L.length := by
    rcases Nat.lt_or_ge (b % T) L.length with h | h
    · exact h
    · rw [he, List.getD_eq_getElem?_getD, List.getElem?_eq_none h] at hz
      exact absurd rfl hz
  rw [List.getD_eq_getElem?_getD, List.getD_eq_getElem?_getD, List.getElem?_eq_getElem hla, List.getElem?_eq_getElem hlb, Option.getD_some, Option.getD_some] at he
  have hpw := List.pairwise_iff_getElem.1 (List.nodup_iff_pairwise_ne.1 hnd)
  have h4 : a % T = b % T := by
    rcases Nat.lt_trichotomy (a % T) (b % T) with h | h | h
    · exact absurd he (hpw _ _ hla hlb h)
    · exact h
    · exact absurd he.symm (hpw _ _ hlb hla h)
  rw [h2, h4] at ia
  omega
/-- Behind a port the plan is valid. -/
theorem aft_ok {h : Hl} {bok : Bool} {ids p : List Int} (f : Int → Int) (q : Int) (hk : plOk h bok ids p = true) {T R : Nat} (hTt : (T : Int) = h.t) (hT : 0 < T) (hn : p.length = R * T) : plOk h bok ids (aftP T f q p) = true := by
  obtain ⟨h1, h2, h3, h4⟩ := plOk_iff.1 hk
  refine plOk_iff.2 ⟨h1, h2, by rw [aftP_len]; exact h3, fun k hl hz => ?_⟩
  rw [aftP_len] at hl
  obtain ⟨s, hs, e, _⟩ := aft_src hT hn hl hz
  obtain ⟨rk, tk, ik⟩ := slot_row hT (show k < R * T by omega)
  have hsl := colT_own hn rk hs
  refine ⟨by rw [← e]; exact (h4 _ hsl (by rw [e]; exact hz)).1, fun hm => ?_, fun ht => ?_⟩
  · obtain ⟨j, hj, hjl, he⟩ := mem_take hm
    rw [aftP_len] at hjl
    have := aft_inj hk hT hn hjl hl he (by rw [he]; exact hz)
    omega
  · have ht2 : k % T ≠ 0 := fun e0 => ht (by rw [← hTt, ← Int.natCast_emod, e0]; rfl)
    have e1 : (k - 1) / T = k / T ∧ (k - 1) % T = k % T - 1 := by
      have hk1 : k - 1 = k / T * T + (k % T - 1) := by omega
      refine ⟨by rw [hk1]; exact row_div (by omega), ?_⟩
      rw [hk1, Nat.add_comm, Nat.add_mul_mod_self_right, Nat.mod_eq_of_lt (by omega)]
    rw [aftP_at hl] at hz
    rw [aftP_at (by omega), e1.1, e1.2]
    have hall : ∀ x ∈ (kpR f q (colT T p (k / T) T)).reverse, x ≠ 0 := fun x hx => (of_decide_eq_true (List.mem_filter.1 (List.mem_reverse.1 hx)).2).1
    generalize (kpR f q (colT T p (k / T) T)).reverse = L at hz hall ⊢
    have hla : k % T < L.length := by
      rcases Nat.lt_or_ge (k % T) L.length with h | h
      · exact h
      · rw [List.getD_eq_getElem?_getD, List.getElem?_eq_none h] at hz
        exact absurd rfl hz
    rw [List.getD_eq_getElem?_getD, List.getElem?_eq_getElem (show k % T - 1 < L.length by omega), Option.getD_some]
    exact hall _ (List.getElem_mem _)
/-- A box for another port is behind the port in the same row. -/
theorem aft_stays {T : Nat} {f : Int → Int} {q : Int} {p : List Int} {R : Nat} (hT : 0 < T) (hn : p.length = R * T) {k : Nat} (hk : k < p.length) (hz : pAt p k ≠ 0) (hf : f (pAt p k) ≠ q) : ∃ a, a < p.length ∧ a / T = k / T ∧ pAt (aftP T f q p) a = pAt p k := by
  obtain ⟨rk, tk, ik⟩ := slot_row hT (show k < R * T by omega)
  have hm : pAt p k ∈ (kpR f q (colT T p (k / T) T)).reverse := List.mem_reverse.2 (List.mem_filter.2 ⟨colT_mem.2 ⟨k % T, tk, by rw [ik]⟩, decide_eq_true ⟨hz, hf⟩⟩)
  obtain ⟨t, ht, e⟩ := List.getElem_of_mem hm
  have htT : t < T := by
    have h1 := kpR_len f q (colT T p (k / T) T)
    rw [colT_len] at h1
    rw [List.length_reverse] at ht
    omega
  have hal := colT_own hn rk htT
  refine ⟨k / T * T + t, hal, row_div htT, ?_⟩
  rw [aftP_at hal, row_div htT]
  have e2 : (k / T * T + t) % T = t := by rw [Nat.add_comm, Nat.add_mul_mod_self_right, Nat.mod_eq_of_lt htT]
  rw [e2, List.getD_eq_getElem?_getD, List.getElem?_eq_getElem ht, Option.getD_some]
  exact e
/-- Where a box is behind the port. -/
theorem aft_find {h : Hl} {l : List Bx} {p : List Int} {f : Int → Int} {q : Int} (hk : plOk h (bxsOk l) (bxIds l) p = true) {T R : Nat} (hTt : (T : Int) = h.t) (hT : 0 < T) (hn : p.length = R * T) {k : Nat} (hl : k < p.length) (hz : pAt p k ≠ 0) :
    (f (pAt p k) = q ∧ findP h (bxsOk l) (bxIds l) (aftP T f q p) (pAt p k) = -1) ∨ (f (pAt p k) ≠ q ∧ ∃ a, a < p.length ∧ a / T = k / T ∧ findP h (bxsOk l) (bxIds l) (aftP T f q p) (pAt p k) = (a : Int)) := by
  have hok := aft_ok f q hk hTt hT hn
  have hpos := plOk_posX hk hl hz
  by_cases hf : f (pAt p k) = q
  · refine .inl ⟨hf, findP_none fun hc => ?_⟩
    obtain ⟨j, hj, e⟩ := List.getElem_of_mem hc.2.2
    rw [← pAt_get hj] at e
    rw [aftP_len] at hj
    obtain ⟨s, _, _, h3⟩ := aft_src hT hn hj (by rw [e]; exact hz)
    rw [e] at h3
    exact h3 hf
  · obtain ⟨a, ha, h1, h2⟩ := aft_stays hT hn hl hz hf
    exact .inr ⟨hf, a, ha, h1, findP_hit hpos hok (by rw [aftP_len]; exact ha) h2⟩
theorem row_place {h : Hl} (hk : hlOk h = true) {n a k T : Nat} (hn : (n : Int) = slMany h) (hTt : (T : Int) = h.t) (ha : a < n) (hl : k < n) (he : a / T = k / T) : (plOf h (a : Int)).1 = (plOf h (k : Int)).1 ∧ (plOf h (a : Int)).2.1 = (plOf h (k : Int)).2.1 := by
  rw [plOf_yes hk (by omega) (by omega), plOf_yes hk (by omega) (by omega), ← hTt]
  have : (a : Int) / (T : Int) = (k : Int) / (T : Int) := by rw [← Int.natCast_ediv, ← Int.natCast_ediv, he]
  simp only []
  rw [this]
  exact ⟨rfl, rfl⟩
/-- What Overstows, PortMoves, AfterPort, VoyageMoves give. -/
def overO (h : Hl) (l : List Bx) (p : List Int) : Int := if plOk h (bxsOk l) (bxIds l) p = true then (cnt (overS h.t.toNat (ptB l) p) p.length : Int) else -1
def moveO (h : Hl) (l : List Bx) (p : List Int) (q : Int) : List Int := if plOk h (bxsOk l) (bxIds l) p = true ∧ 0 ≤ q ∧ q ≤ 6 then ((List.range p.length).filter (moveS h.t.toNat (ptB l) q p)).map Int.ofNat else []
def aftO (h : Hl) (l : List Bx) (p : List Int) (q : Int) : List Int := if plOk h (bxsOk l) (bxIds l) p = true ∧ 0 ≤ q ∧ q ≤ 6 then aftP h.t.toNat (ptB l) q p else []
def vyO (h : Hl) (l : List Bx) (p : List Int) : Int := if plOk h (bxsOk l) (bxIds l) p = true then (vyN h.t.toNat (ptB l) p 7 : Int) else -1
theorem rows_pl {h : Hl} {bok : Bool} {ids p : List Int} (hk : plOk h bok ids p = true) : ∃ R, (h.t.toNat : Int) = h.t ∧ 0 < h.t.toNat ∧ p.length = R * h.t.toNat := by
  obtain ⟨h1, h2, h3, h4⟩ := plOk_iff.1 hk
  obtain ⟨R, T, q1, q2, q3, q4⟩ := rows_of h1 h3
  have e : h.t.toNat = T := by omega
  rw [e]
  exact ⟨R, q1, by omega, q4.symm⟩
theorem ptB_at {l : List Bx} {x : Int} (hb : bxsOk l = true) (hf : 0 ≤ findB l x) : 0 ≤ ptB l x ∧ ptB l x ≤ 6 := by
  have hbd := (findB_bd l x).2
  have hi : (findB l x).toNat < l.length := by omega
  unfold ptB
  rw [getD_bx hi]
  have := bxsOk_box hb hi
  have h2 := of_decide_eq_true this
  omega
theorem ptB_pl {h : Hl} {l : List Bx} {p : List Int} (hk : plOk h (bxsOk l) (bxIds l) p = true) {k : Nat} (hl : k < p.length) (hz : pAt p k ≠ 0) : 0 ≤ ptB l (pAt p k) ∧ ptB l (pAt p k) ≤ 6 := ptB_at (plOk_bok hk) (pl_find hk hl hz)
theorem aftO_ok {h : Hl} {l : List Bx} {p : List Int} {q : Int} (hk : plOk h (bxsOk l) (bxIds l) p = true) (h0 : 0 ≤ q) (h6 : q ≤ 6) : aftO h l p q = aftP h.t.toNat (ptB l) q p ∧ plOk h (bxsOk l) (bxIds l) (aftO h l p q) = true ∧ overO h l (aftO h l p q) ≤ overO h l p ∧ 0 ≤ overO h l (aftO h l p q) ∧ moveO h l (aftO h l p q) q = [] := by
  obtain ⟨R, q1, q2, q3⟩ := rows_pl hk
  have e : aftO h l p q = aftP h.t.toNat (ptB l) q p := by unfold aftO; rw [if_pos ⟨hk, h0, h6⟩]
  have hok := aft_ok (ptB l) q hk q1 q2 q3
  rw [e]
  refine ⟨rfl, hok, ?_, ?_, ?_⟩
  · unfold overO
    rw [if_pos hok, if_pos hk, aftP_len]
    have := over_aft (f := ptB l) (q := q) q2 q3
    rw [← q3] at this
    exact Int.ofNat_le.2 this
  · unfold overO; rw [if_pos hok]; exact Int.natCast_nonneg _
  · unfold moveO
    rw [if_pos ⟨hok, h0, h6⟩, aftP_len]
    have := move_aft (f := ptB l) (q := q) q2 q3
    rw [← q3] at this
    unfold cnt at this
    rw [List.eq_nil_of_length_eq_zero this]
    rfl
theorem idsP_cnt {h : Hl} {l : List Bx} {p : List Int} (hk : plOk h (bxsOk l) (bxIds l) p = true) : (idsP h (bxsOk l) (bxIds l) p).length = cnt (fun k => decide (pAt p k ≠ 0)) p.length := by
  rw [filP_end hk]
  have key : ∀ n, n ≤ p.length → (filP p n).length = cnt (fun k => decide (pAt p k ≠ 0)) n := by
    intro n
    induction n with
    | zero => intro _; rfl
    | succ n ih =>
      intro hn
      rw [filP_next (show n < p.length by omega), cnt_next, ← ih (by omega)]
      have hp := pAt_pos (bxIds_pos (plOk_bok hk)) hk (show n < p.length by omega)
      by_cases hz : pAt p n = 0
      · rw [if_neg (by omega), if_neg (by rw [decide_eq_true_eq]; exact fun hc => hc hz)]; rfl
      · rw [if_pos (hp.2 hz), if_pos (decide_eq_true hz)]; simp
  exact key _ (Nat.le_refl _)
theorem vyO_law {h : Hl} {l : List Bx} {p : List Int} (hk : plOk h (bxsOk l) (bxIds l) p = true) : (((idsP h (bxsOk l) (bxIds l) p).length : Nat) : Int) + overO h l p ≤ vyO h l p ∧ (overO h l p = 0 → vyO h l p = (((idsP h (bxsOk l) (bxIds l) p).length : Nat) : Int)) ∧ 0 ≤ overO h l p ∧ 0 ≤ vyO h l p := by
  obtain ⟨R, q1, q2, q3⟩ := rows_pl hk
  obtain ⟨v1, v2⟩ := voyage_ge (f := ptB l) q2 q3 fun r hr x hx hz => by
    obtain ⟨s, hs, e⟩ := colT_mem.1 hx
    rw [← e] at hz ⊢
    exact ptB_pl hk (colT_own q3 hr hs) hz
  rw [idsP_cnt hk]
  unfold overO vyO
  rw [if_pos hk, if_pos hk]
  refine ⟨by omega, fun h0 => ?_, by omega, by omega⟩
  rw [v2 (by omega)]
theorem aftN_ok {h : Hl} {l : List Bx} {p : List Int} (hk : plOk h (bxsOk l) (bxIds l) p = true) : ∀ P, plOk h (bxsOk l) (bxIds l) (aftN h.t.toNat (ptB l) p P) = true
  | 0 => hk
  | P + 1 => by
    have ih := aftN_ok hk P
    obtain ⟨R, q1, q2, q3⟩ := rows_pl ih
    exact aft_ok (ptB l) (P : Int) ih q1 q2 q3
theorem moveO_len {h : Hl} {l : List Bx} {p : List Int} (hk : plOk h (bxsOk l) (bxIds l) p = true) {P : Nat} (hP : P ≤ 6) : (moveO h l (aftN h.t.toNat (ptB l) p P) (P : Int)).length = cnt (moveS h.t.toNat (ptB l) (P : Int) (aftN h.t.toNat (ptB l) p P)) p.length := by
  unfold moveO
  rw [if_pos ⟨aftN_ok hk P, by omega, by omega⟩, List.length_map, aftN_len]
  rfl
theorem aftO_next {h : Hl} {l : List Bx} {p : List Int} (hk : plOk h (bxsOk l) (bxIds l) p = true) {P : Nat} (hP : P ≤ 6) : aftO h l (aftN h.t.toNat (ptB l) p P) (P : Int) = aftN h.t.toNat (ptB l) p (P + 1) := by
  unfold aftO
  rw [if_pos ⟨aftN_ok hk P, by omega, by omega⟩]
  rfl
/-- Boxes that all have one port. -/
def samePt (l : List Bx) : List Bx := l.map fun b => { b with p := 2 }
theorem samePt_len (l : List Bx) : (samePt l).length = l.length := by simp [samePt]
theorem samePt_at {l : List Bx} {k : Nat} (hk : k < l.length) : (samePt l)[k]'(by rw [samePt_len]; exact hk) = { l[k] with p := 2 } := by simp [samePt]
theorem samePt_ids (l : List Bx) : bxIds (samePt l) = bxIds l := by unfold samePt bxIds; rw [List.map_map]; rfl
theorem samePt_find : ∀ (l : List Bx) (x : Int), findB (samePt l) x = findB l x
  | [], _ => rfl
  | b :: t, x => by
    have ih := samePt_find t x
    show findB ({ b with p := 2 } :: samePt t) x = findB (b :: t) x
    unfold findB
    rw [ih]
theorem overS_same {l : List Bx} {p : List Int} {T : Nat} (hf : ∀ k, k < p.length → pAt p k ≠ 0 → 0 ≤ findB l (pAt p k)) {k : Nat} (hk : k < p.length) : overS T (ptB (samePt l)) p k = false := by
  have two : ∀ j, j < p.length → pAt p j ≠ 0 → ptB (samePt l) (pAt p j) = 2 := fun j hj hz => by
    have h0 := hf j hj hz
    have hbd := (findB_bd l (pAt p j)).2
    unfold ptB
    rw [samePt_find, getD_bx (show (findB l (pAt p j)).toNat < (samePt l).length by rw [samePt_len]; omega), samePt_at (by omega)]
  cases he : overS T (ptB (samePt l)) p k
  · rfl
  · unfold overS at he
    rw [Bool.and_eq_true, decide_eq_true_eq, List.any_eq_true] at he
    obtain ⟨hz, j, hj, h1⟩ := he
    have hjk := List.mem_range.1 hj
    have h2 := of_decide_eq_true h1
    have := two j (by omega) h2.1
    have := two k hk hz
    omega
theorem overO_same {h : Hl} {l : List Bx} {p : List Int} (hb : bxsOk (samePt l) = true) (hk : plOk h (bxsOk l) (bxIds l) p = true) : overO h (samePt l) p = 0 := by
  have hok : plOk h (bxsOk (samePt l)) (bxIds (samePt l)) p = true := by rw [hb, samePt_ids]; rw [plOk_bok hk] at hk; exact hk
  unfold overO
  rw [if_pos hok]
  have : cnt (overS h.t.toNat (ptB (samePt l)) p) p.length = 0 := by
    unfold cnt
    rw [List.length_eq_zero_iff, List.filter_eq_nil_iff]
    intro k hm
    rw [overS_same (fun k hl hz => pl_find hk hl hz) (List.mem_range.1 hm)]
    simp
  rw [this]
  rfl
/-- At the least port on the ship nothing else is moved where nothing is overstowed. -/
theorem move_least {T : Nat} {f : Int → Int} {p : List Int} {m : Int} (hm : ∀ k, k < p.length → pAt p k ≠ 0 → m ≤ f (pAt p k)) (ho : cnt (overS T f p) p.length = 0) {k : Nat} (hk : k < p.length) (hmv : moveS T f m p k = true) : pAt p k ≠ 0 ∧ f (pAt p k) = m := by
  have hno : overS T f p k = false := by
    unfold cnt at ho
    have := List.eq_nil_of_length_eq_zero ho
    cases he : overS T f p k
    · rfl
    · exact absurd he (List.filter_eq_nil_iff.1 this k (List.mem_range.2 hk))
  unfold moveS at hmv
  rw [Bool.and_eq_true, Bool.or_eq_true, decide_eq_true_eq, decide_eq_true_eq, List.any_eq_true] at hmv
  obtain ⟨hz, h1 | ⟨j, hj, h1⟩⟩ := hmv
  · exact ⟨hz, h1⟩
  · refine ⟨hz, ?_⟩
    have h2 := of_decide_eq_true h1
    have hge := hm k hk hz
    rcases Int.lt_or_eq_of_le hge with h3 | h3
    · exfalso
      unfold overS at hno
      rw [decide_eq_true hz, Bool.true_and] at hno
      have : ((List.range k).any fun j => decide (pAt p j ≠ 0 ∧ k / T = j / T ∧ f (pAt p j) < f (pAt p k))) = true := List.any_eq_true.2 ⟨j, hj, decide_eq_true ⟨h2.1, h2.2.1, by omega⟩⟩
      rw [this] at hno
      cases hno
    · exact h3.symm
theorem moveO_le (h : Hl) (l : List Bx) (p : List Int) (q : Int) : (moveO h l p q).length ≤ p.length := by
  unfold moveO
  split
  · rw [List.length_map]; exact cnt_le _ _
  · exact Nat.zero_le _
theorem aftO_le (h : Hl) (l : List Bx) (p : List Int) (q : Int) : (aftO h l p q).length ≤ p.length := by
  unfold aftO
  split
  · rw [aftP_len]; exact Nat.le_refl _
  · exact Nat.zero_le _
end Go.Proofs.Ytmgnbkiphdlooab
namespace Go.Proofs.Ytmgnbkiphdlooab
set_option linter.unusedVariables false

/-- Whether one of the first j says yes. -/
def anyN (g : Nat → Bool) (j : Nat) : Bool := (List.range j).any g
theorem anyN_zero (g : Nat → Bool) : anyN g 0 = false := rfl
theorem anyN_next (g : Nat → Bool) (j : Nat) : anyN g (j + 1) = (anyN g j || g j) := by unfold anyN; rw [List.range_succ, List.any_append]; simp
/-- The first n that say yes, as numbers. -/
def filI (g : Nat → Bool) (n : Nat) : List Int := ((List.range n).filter g).map Int.ofNat
theorem filI_next (g : Nat → Bool) (n : Nat) : filI g (n + 1) = if g n = true then filI g n ++ [(n : Int)] else filI g n := by
  unfold filI
  rw [List.range_succ, List.filter_append]
  by_cases h : g n = true
  · rw [if_pos h]; simp [h]
  · rw [if_neg h]; simp [h]
theorem filI_len (g : Nat → Bool) (n : Nat) : (filI g n).length ≤ n := by
  unfold filI
  rw [List.length_map]
  exact Nat.le_trans (List.length_filter_le _ _) (by rw [List.length_range]; omega)
/-- Two ascending lists with the same members are equal. -/
theorem asc_eq : ∀ {a b : List Nat}, a.Pairwise (· < ·) → b.Pairwise (· < ·) → (∀ x, x ∈ a ↔ x ∈ b) → a = b
  | [], [], _, _, _ => rfl
  | [], y :: b, _, _, h => absurd ((h y).2 List.mem_cons_self) (by simp)
  | x :: a, [], _, _, h => absurd ((h x).1 List.mem_cons_self) (by simp)
  | x :: a, y :: b, ha, hb, h => by
    have ha' := List.pairwise_cons.1 ha
    have hb' := List.pairwise_cons.1 hb
    have hxy : x = y := by
      rcases List.mem_cons.1 ((h x).1 List.mem_cons_self) with e | e
      · exact e
      · rcases List.mem_cons.1 ((h y).2 List.mem_cons_self) with e2 | e2
        · exact e2.symm
        · have h1 := hb'.1 x e
          have h2 := ha'.1 y e2
          omega
    subst hxy
    rw [asc_eq ha'.2 hb'.2 (fun z => ?_)]
    constructor
    · intro hz
      rcases List.mem_cons.1 ((h z).1 (List.mem_cons_of_mem _ hz)) with e | e
      · subst e; exact absurd (ha'.1 z hz) (Nat.lt_irrefl _)
      · exact e
    · intro hz
      rcases List.mem_cons.1 ((h z).2 (List.mem_cons_of_mem _ hz)) with e | e
      · subst e; exact absurd (hb'.1 z hz) (Nat.lt_irrefl _)
      · exact e
theorem down_closed {S : Nat → Prop} : ∀ T, (∀ t, t + 1 < T → S (t + 1) → S t) → ∃ m, m ≤ T ∧ ∀ t, t < T → (S t ↔ t < m)
  | 0, _ => ⟨0, Nat.le_refl _, fun t h => by omega⟩
  | T + 1, h => by
    obtain ⟨m, hm, hs⟩ := down_closed T (fun t ht => h t (by omega))
    rcases Classical.em (S T) with hc | hc
    · refine ⟨T + 1, Nat.le_refl _, fun t ht => ⟨fun _ => ht, fun _ => ?_⟩⟩
      have all : ∀ d, d ≤ T → S (T - d) := by
        intro d
        induction d with
        | zero => intro _; exact hc
        | succ d ih =>
          intro hd
          have h1 := ih (by omega)
          have e : T - d = (T - (d + 1)) + 1 := by omega
          rw [e] at h1
          exact h _ (by omega) h1
      have h2 := all (T - t) (by omega)
      rwa [show T - (T - t) = t by omega] at h2
    · refine ⟨m, by omega, fun t ht => ?_⟩
      by_cases e : t = T
      · subst e; exact ⟨fun h9 => absurd h9 hc, fun h9 => absurd h9 (by omega)⟩
      · exact hs t (by omega)
/-- How many boxes lie in a row; the slots of a row that are not empty, the first j slots of the plan looked at. -/
def hgtR (T : Nat) (p : List Int) (r : Nat) : Nat := ((fullS p).filter fun k => decide (k / T = r)).length
def rowJ (T : Nat) (p : List Int) (r j : Nat) : List Int := (((fullS p).take j).filter fun k => decide (k / T = r)).map Int.ofNat
def rowsL (T : Nat) (p : List Int) (R : Nat) : List (List Int) := (List.range R).map fun r => rowJ T p r (fullS p).length
theorem rowJ_zero (T : Nat) (p : List Int) (r : Nat) : rowJ T p r 0 = [] := by simp [rowJ]
theorem rowJ_next {T : Nat} {p : List Int} {r j : Nat} (hj : j < (fullS p).length) : rowJ T p r (j + 1) = if fAt p j / T = r then rowJ T p r j ++ [(fAt p j : Int)] else rowJ T p r j := by
  have e : (fullS p)[j] = fAt p j := by unfold fAt; rw [List.getD_eq_getElem?_getD, List.getElem?_eq_getElem hj, Option.getD_some]
  unfold rowJ
  rw [← List.take_append_getElem hj, List.filter_append, List.map_append, e]
  by_cases hc : fAt p j / T = r
  · rw [if_pos hc]; simp [hc]
  · rw [if_neg hc]; simp [hc]
theorem rowJ_le (T : Nat) (p : List Int) (r j : Nat) : (rowJ T p r j).length ≤ p.length := by
  unfold rowJ
  rw [List.length_map]
  have h1 : (((fullS p).take j).filter fun k => decide (k / T = r)).length ≤ ((fullS p).take j).length := List.length_filter_le _ _
  have h2 : (fullS p).length ≤ p.length := by
    unfold fullS
    exact Nat.le_trans (List.length_filter_le _ _) (by rw [List.length_range]; omega)
  rw [List.length_take] at h1
  omega
theorem rowsL_len (T : Nat) (p : List Int) (R : Nat) : (rowsL T p R).length = R := by simp [rowsL]
theorem rowsL_at {T : Nat} {p : List Int} {R r : Nat} (hr : r < R) : rowAt (rowsL T p R) r = rowJ T p r (fullS p).length := by
  unfold rowAt rowsL
  rw [List.getD_eq_getElem?_getD, List.getElem?_map, List.getElem?_range hr]
  rfl
theorem rowJ_len (T : Nat) (p : List Int) (r : Nat) : (rowJ T p r (fullS p).length).length = hgtR T p r := by
  unfold rowJ hgtR
  rw [List.take_length, List.length_map]
/-- In a plan in which nothing floats a row is full up to its height, and empty above. -/
theorem row_form {h : Hl} {bok : Bool} {ids p : List Int} (hk : plOk h bok ids p = true) {T R : Nat} (hTt : (T : Int) = h.t) (hT : 0 < T) (hn : p.length = R * T) {r : Nat} (hr : r < R) :
    rowJ T p r (fullS p).length = (List.range (hgtR T p r)).map (fun t => ((r * T + t : Nat) : Int)) ∧ hgtR T p r ≤ T ∧ (∀ t, t < hgtR T p r → pAt p (r * T + t) ≠ 0) ∧ ∀ t, hgtR T p r ≤ t → t < T → pAt p (r * T + t) = 0 := by
  obtain ⟨m, hm, hs⟩ := down_closed (S := fun t => pAt p (r * T + t) ≠ 0) T (fun t ht hz => by
    have hl := colT_own hn hr (s := t + 1) ht
    have h3 := ((plOk_iff.1 hk).2.2.2 (r * T + (t + 1)) hl hz).2.2 (by
      rw [← hTt]
      have h4 : (r * T + (t + 1)) % T = t + 1 := by rw [Nat.add_comm, Nat.add_mul_mod_self_right, Nat.mod_eq_of_lt ht]
      have e2 : ((r * T + (t + 1) : Nat) : Int) % (T : Int) = (((r * T + (t + 1)) % T : Nat) : Int) := rfl
      rw [e2, h4]
      omega)
    have e : r * T + (t + 1) - 1 = r * T + t := by omega
    rw [e] at h3
    exact h3)
  have he : (fullS p).filter (fun k => decide (k / T = r)) = (List.range m).map (fun t => r * T + t) := by
    refine asc_eq (List.Pairwise.filter _ (List.Pairwise.filter _ List.pairwise_lt_range)) ?_ (fun x => ?_)
    · rw [List.pairwise_map]
      exact List.Pairwise.imp (fun hab => by omega) List.pairwise_lt_range
    · rw [List.mem_filter, fullS_mem, List.mem_map]
      constructor
      · rintro ⟨⟨h1, h2⟩, h3⟩
        have h3 := of_decide_eq_true h3
        obtain ⟨q1, q2, q3⟩ := slot_row hT (show x < R * T by omega)
        rw [h3] at q3
        refine ⟨x % T, List.mem_range.2 ((hs _ q2).1 ?_), q3⟩
        show pAt p (r * T + x % T) ≠ 0
        rw [q3]; exact h2
      · rintro ⟨t, ht, rfl⟩
        have ht := List.mem_range.1 ht
        exact ⟨⟨colT_own hn hr (by omega), (hs t (by omega)).2 ht⟩, decide_eq_true (row_div (by omega))⟩
  have hg : hgtR T p r = m := by unfold hgtR; rw [he]; simp
  rw [hg]
  refine ⟨?_, hm, fun t ht => (hs t (by omega)).2 ht, fun t h1 h2 => Classical.byContradiction fun hc => absurd ((hs t h2).1 hc) (by omega)⟩
  unfold rowJ
  rw [List.take_length, he, List.map_map]
  rfl
theorem rowJ_get {h : Hl} {bok : Bool} {ids p : List Int} (hk : plOk h bok ids p = true) {T R : Nat} (hTt : (T : Int) = h.t) (hT : 0 < T) (hn : p.length = R * T) {r t : Nat} (hr : r < R) (ht : t < hgtR T p r) : (rowJ T p r (fullS p).length).getD t 0 = ((r * T + t : Nat) : Int) := by
  rw [(row_form hk hTt hT hn hr).1, List.getD_eq_getElem?_getD, List.getElem?_map, List.getElem?_range ht]
  rfl
/-- Slots that say no are passed over. -/
theorem cnt_skip {g : Nat → Bool} {a : Nat} : ∀ {d : Nat}, (∀ k, a ≤ k → k < a + d → g k = false) → cnt g (a + d) = cnt g a
  | 0, _ => rfl
  | d + 1, h => by
    rw [← Nat.add_assoc, cnt_next, h (a + d) (by omega) (by omega), cnt_skip (fun k h1 h2 => h k h1 (by omega))]
    rfl
/-- The least port of what lies in a row; 6 if there is nothing. -/
def lowR (f : Int → Int) : List Int → Int
  | [] => 6
  | x :: b => min (lowR f b) (f x)
theorem low_lt {f : Int → Int} {v : Int} (hv : v ≤ 6) : ∀ {c : List Int}, (∀ y ∈ c, y ≠ 0) → (lowR f c < v ↔ c.any (fun y => decide (y ≠ 0 ∧ f y < v)) = true)
  | [], _ => by
    constructor
    · intro h; exact absurd (show (6 : Int) < v from h) (by omega)
    · intro h; cases h
  | x :: b, h => by
    have ih := low_lt (f := f) hv (c := b) (fun y hy => h y (List.mem_cons_of_mem _ hy))
    have hx := h x List.mem_cons_self
    rw [List.any_cons, Bool.or_eq_true, ← ih, decide_eq_true_eq]
    show min (lowR f b) (f x) < v ↔ _
    constructor
    · intro h1
      by_cases h2 : f x < v
      · exact .inl ⟨hx, h2⟩
      · exact .inr (by omega)
    · rintro (⟨-, h1⟩ | h1) <;> omega
theorem low_le (f : Int → Int) : ∀ c, lowR f c ≤ 6
  | [] => Int.le_refl _
  | x :: b => by have := low_le f b; show min (lowR f b) (f x) ≤ 6; omega
theorem col_full {T : Nat} {p : List Int} {r m t : Nat} (hf : ∀ s, s < m → pAt p (r * T + s) ≠ 0) (ht : t ≤ m) : ∀ y ∈ colT T p r t, y ≠ 0 := by
  intro y hy
  obtain ⟨s, hs, rfl⟩ := colT_mem.1 hy
  exact hf s (by omega)
/-- The box in the next slot of a row is above one of a lesser port. -/
theorem over_low {T : Nat} {f : Int → Int} {p : List Int} {r m t : Nat} (hf : ∀ s, s < m → pAt p (r * T + s) ≠ 0) (ht : t < m) (hm : m ≤ T) (h6 : f (pAt p (r * T + t)) ≤ 6) : overS T f p (r * T + t) = decide (lowR f (colT T p r t) < f (pAt p (r * T + t))) := by
  have h1 := overS_col (T := T) (f := f) (p := p) (r := r) (t := t) (by omega)
  have h2 := low_lt (f := f) (v := f (pAt p (r * T + t))) h6 (c := colT T p r t) (col_full hf (by omega))
  cases hd : decide (lowR f (colT T p r t) < f (pAt p (r * T + t)))
  · cases ho : overS T f p (r * T + t)
    · rfl
    · exact absurd (h2.2 (h1.1 ho).2) (of_decide_eq_false hd)
  · exact h1.2 ⟨hf t ht, h2.1 (of_decide_eq_true hd)⟩
/-- Whether one of a row is for a port. -/
def offR (f : Int → Int) (q : Int) (c : List Int) : Bool := c.any fun y => decide (y ≠ 0 ∧ f y = q)
theorem off_next {T : Nat} {f : Int → Int} {q : Int} {p : List Int} {r m t : Nat} (hf : ∀ s, s < m → pAt p (r * T + s) ≠ 0) (ht : t < m) (hm : m ≤ T) :
    offR f q (colT T p r (t + 1)) = (offR f q (colT T p r t) || decide (f (pAt p (r * T + t)) = q)) ∧ moveS T f q p (r * T + t) = offR f q (colT T p r (t + 1)) := by
  have hx := hf t ht
  have e : offR f q (colT T p r (t + 1)) = (offR f q (colT T p r t) || decide (f (pAt p (r * T + t)) = q)) := by
    unfold offR
    rw [colT, List.any_cons, Bool.or_comm]
    congr 1
    exact decide_eq_decide.2 ⟨fun h => h.2, fun h => ⟨hx, h⟩⟩
  refine ⟨e, ?_⟩
  rw [e]
  have h1 := moveS_col (T := T) (f := f) (q := q) (p := p) (r := r) (t := t) (by omega)
  cases hd : (offR f q (colT T p r t) || decide (f (pAt p (r * T + t)) = q))
  · rw [Bool.or_eq_false_iff] at hd
    cases ho : moveS T f q p (r * T + t)
    · rfl
    · rcases (h1.1 ho).2 with h2 | h2
      · exact absurd h2 (of_decide_eq_false hd.2)
      · have : offR f q (colT T p r t) = true := h2
        rw [this] at hd
        cases hd.1
  · rcases (Bool.or_eq_true_iff).1 hd with h2 | h2
    · exact h1.2 ⟨hx, .inr h2⟩
    · exact h1.2 ⟨hx, .inl (of_decide_eq_true h2)⟩
end Go.Proofs.Ytmgnbkiphdlooab
