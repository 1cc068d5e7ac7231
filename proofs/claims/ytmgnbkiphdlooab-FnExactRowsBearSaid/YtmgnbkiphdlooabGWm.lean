/-
  Plain mathematics of weights: sums over slots, and the mirror image of a plan. Nothing of the program.
  Plain mathematics of weights, second part: images of valid plans are valid; what a box weighs that is taken. Nothing of the program.
  Plain mathematics of weights, third part: load, heel, trim and steadiness of a plan; their bounds and laws. Nothing of the program.
-/
import Derived.Test.YtmgnbkiphdlooabGPm
import Derived.Test.YtmgnbkiphdlooabGPn
import Derived.Test.YtmgnbkiphdlooabGNo
namespace Go.Proofs.Ytmgnbkiphdlooab
set_option linter.unusedVariables false

theorem sum_perm {l m : List Int} (hp : l.Perm m) : l.sum = m.sum := by
  induction hp with
  | nil => rfl
  | cons a _ ih => rw [List.sum_cons, List.sum_cons, ih]
  | swap a b l => rw [List.sum_cons, List.sum_cons, List.sum_cons, List.sum_cons]; omega
  | trans _ _ h1 h2 => exact h1.trans h2
/-- A turn of the slots that is its own way back. -/
structure Inv (n : Nat) (s : Nat → Nat) : Prop where
  lt : ∀ k, k < n → s k < n
  inv : ∀ k, k < n → s (s k) = k
theorem Inv.perm {n : Nat} {s : Nat → Nat} (h : Inv n s) : ((List.range n).map s).Perm (List.range n) := by
  refine (List.perm_ext_iff_of_nodup ?_ List.nodup_range).2 fun a => ⟨fun hm => ?_, fun hm => ?_⟩
  · rw [List.nodup_iff_pairwise_ne, List.pairwise_map]
    refine List.Pairwise.imp_of_mem (fun {a b} ha hb hab => ?_) (List.nodup_iff_pairwise_ne.1 List.nodup_range)
    intro e
    rw [List.mem_range] at ha hb
    exact hab (by rw [← h.inv a ha, e, h.inv b hb])
  · obtain ⟨k, hk, rfl⟩ := List.mem_map.1 hm
    exact List.mem_range.2 (h.lt k (List.mem_range.1 hk))
  · have ha := List.mem_range.1 hm
    exact List.mem_map.2 ⟨s a, List.mem_range.2 (h.lt a ha), h.inv a ha⟩
/-- The image of a plan. -/
def img (s : Nat → Nat) (p : List Int) : List Int := (List.range p.length).map fun k => pAt p (s k)
theorem img_len (s : Nat → Nat) (p : List Int) : (img s p).length = p.length := by simp [img]
theorem img_at {s : Nat → Nat} {p : List Int} {k : Nat} (h : k < p.length) : pAt (img s p) k = pAt p (s k) := by
  rw [pAt_get (by rw [img_len]; exact h)]
  simp [img]
/-- The sum over all slots of the weight times a number of the slot. -/
def wsum (w : Int → Int) (f : Nat → Int) (p : List Int) : Int := ((List.range p.length).map fun k => w (pAt p k) * f k).sum
theorem wsum_congr {w : Int → Int} {f g : Nat → Int} {p : List Int} (h : ∀ k, k < p.length → f k = g k) : wsum w f p = wsum w g p := by
  unfold wsum
  congr 1
  refine List.map_congr_left fun k hk => ?_
  rw [h k (List.mem_range.1 hk)]
theorem wsum_img {w : Int → Int} {f : Nat → Int} {p : List Int} {s : Nat → Nat} (h : Inv p.length s) : wsum w f (img s p) = wsum w (fun k => f (s k)) p := by
  unfold wsum
  rw [img_len]
  have e1 : ((List.range p.length).map fun k => w (pAt (img s p) k) * f k) = ((List.range p.length).map s).map fun j => w (pAt p j) * f (s j) := by
    rw [List.map_map]
    refine List.map_congr_left fun k hk => ?_
    have hk' := List.mem_range.1 hk
    show _ = w (pAt p (s k)) * f (s (s k))
    rw [img_at hk', h.inv k hk']
  rw [e1]
  exact sum_perm (h.perm.map _)
theorem sum_neg (l : List Nat) (g : Nat → Int) : (l.map fun k => -(g k)).sum = -((l.map g).sum) := by
  induction l with
  | nil => rfl
  | cons a l ih => rw [List.map_cons, List.map_cons, List.sum_cons, List.sum_cons, ih]; omega
theorem wsum_neg (w : Int → Int) (f : Nat → Int) (p : List Int) : wsum w (fun k => -(f k)) p = -(wsum w f p) := by
  unfold wsum
  rw [← sum_neg]
  congr 1
  refine List.map_congr_left fun k _ => ?_
  rw [Int.mul_neg]
/-- No sum is greater than that of all weights times a bound of the numbers. -/
theorem wsum_le {w : Int → Int} {f : Nat → Int} {p : List Int} {c : Int} (hw : ∀ k, k < p.length → 0 ≤ w (pAt p k)) (hf : ∀ k, k < p.length → f k ≤ c) : wsum w f p ≤ wsum w (fun _ => 1) p * c := by
  have : ∀ (l : List Nat), (∀ k ∈ l, k < p.length) → (l.map fun k => w (pAt p k) * f k).sum ≤ (l.map fun k => w (pAt p k) * 1).sum * c := by
    intro l
    induction l with
    | nil => intro _; simp
    | cons a l ih =>
      intro ha
      have h1 := ih fun k hk => ha k (by simp [hk])
      have h2 : w (pAt p a) * f a ≤ w (pAt p a) * c := Int.mul_le_mul_of_nonneg_left (hf a (ha a (by simp))) (hw a (ha a (by simp)))
      rw [List.map_cons, List.map_cons, List.sum_cons, List.sum_cons, Int.add_mul, Int.mul_one]
      omega
  exact this _ fun k hk => List.mem_range.1 hk
/-- The mirror image of a slot: the rows of its bay in the other order. -/
def mirS (h : Hl) (k : Nat) : Nat := (slOf h (plOf h k).1 (h.r - 1 - (plOf h k).2.1) (plOf h k).2.2).toNat
/-- Turned round: the bays in the other order. -/
def trnS (h : Hl) (k : Nat) : Nat := (slOf h (h.b - 1 - (plOf h k).1) (plOf h k).2.1 (plOf h k).2.2).toNat
theorem mirS_law {h : Hl} (hk : hlOk h = true) {n k : Nat} (hn : (n : Int) = slMany h) (hl : k < n) : mirS h k < n ∧ plOf h (mirS h k : Nat) = ((plOf h k).1, h.r - 1 - (plOf h k).2.1, (plOf h k).2.2) := by
  obtain ⟨p1, p2, p3, p4⟩ := plOf_in (s := (k : Int)) hk (by omega) (by omega)
  have e := plOf_yes (s := (k : Int)) hk (by omega) (by omega)
  have hs : slOf h (plOf h k).1 (h.r - 1 - (plOf h k).2.1) (plOf h k).2.2 = ((plOf h k).1 * h.r + (h.r - 1 - (plOf h k).2.1)) * h.t + (plOf h k).2.2 := by
    rw [e]; exact slOf_yes hk p1 (by simp only []; omega) p3
  have h0 : 0 ≤ slOf h (plOf h k).1 (h.r - 1 - (plOf h k).2.1) (plOf h k).2.2 := by
    rw [hs, e]
    simp only []
    obtain ⟨g1, g2, g3, g4, g5, g6⟩ := hlOk_iff.1 hk
    have m1 : 0 ≤ (k : Int) / h.t / h.r * h.r := Int.mul_nonneg p1.1 (by omega)
    have m2 : 0 ≤ ((k : Int) / h.t / h.r * h.r + (h.r - 1 - (k : Int) / h.t % h.r)) * h.t := Int.mul_nonneg (by omega) (by omega)
    omega
  have hpl := pl_sl h0
  have hc : ((mirS h k : Nat) : Int) = slOf h (plOf h k).1 (h.r - 1 - (plOf h k).2.1) (plOf h k).2.2 := by unfold mirS; omega
  rw [← hc] at hpl
  exact ⟨by omega, hpl.1⟩
theorem trnS_law {h : Hl} (hk : hlOk h = true) {n k : Nat} (hn : (n : Int) = slMany h) (hl : k < n) : trnS h k < n ∧ plOf h (trnS h k : Nat) = (h.b - 1 - (plOf h k).1, (plOf h k).2.1, (plOf h k).2.2) := by
  obtain ⟨p1, p2, p3, p4⟩ := plOf_in (s := (k : Int)) hk (by omega) (by omega)
  have e := plOf_yes (s := (k : Int)) hk (by omega) (by omega)
  have hs : slOf h (h.b - 1 - (plOf h k).1) (plOf h k).2.1 (plOf h k).2.2 = ((h.b - 1 - (plOf h k).1) * h.r + (plOf h k).2.1) * h.t + (plOf h k).2.2 := by
    rw [e]; exact slOf_yes hk (by simp only []; omega) p2 p3
  have h0 : 0 ≤ slOf h (h.b - 1 - (plOf h k).1) (plOf h k).2.1 (plOf h k).2.2 := by
    rw [hs, e]
    simp only []
    obtain ⟨g1, g2, g3, g4, g5, g6⟩ := hlOk_iff.1 hk
    have m1 : 0 ≤ (h.b - 1 - (k : Int) / h.t / h.r) * h.r := Int.mul_nonneg (by omega) (by omega)
    have m2 : 0 ≤ ((h.b - 1 - (k : Int) / h.t / h.r) * h.r + (k : Int) / h.t % h.r) * h.t := Int.mul_nonneg (by omega) (by omega)
    omega
  have hpl := pl_sl h0
  have hc : ((trnS h k : Nat) : Int) = slOf h (h.b - 1 - (plOf h k).1) (plOf h k).2.1 (plOf h k).2.2 := by unfold trnS; omega
  rw [← hc] at hpl
  exact ⟨by omega, hpl.1⟩
theorem place_inj {h : Hl} (hk : hlOk h = true) {n a b : Nat} (hn : (n : Int) = slMany h) (ha : a < n) (hb : b < n) (he : plOf h a = plOf h b) : a = b := by
  have h1 := sl_pl (s := (a : Int)) hk (by omega) (by omega)
  have h2 := sl_pl (s := (b : Int)) hk (by omega) (by omega)
  rw [he] at h1
  omega
theorem mir_inv {h : Hl} (hk : hlOk h = true) {n : Nat} (hn : (n : Int) = slMany h) : Inv n (mirS h) := by
  refine ⟨fun k hl => (mirS_law hk hn hl).1, fun k hl => ?_⟩
  obtain ⟨h1, h2⟩ := mirS_law hk hn hl
  obtain ⟨h3, h4⟩ := mirS_law hk hn h1
  refine place_inj hk hn h3 hl ?_
  rw [h4, h2]
  simp only []
  rw [show h.r - 1 - (h.r - 1 - (plOf h (k : Int)).2.1) = (plOf h (k : Int)).2.1 by omega]
theorem trn_inv {h : Hl} (hk : hlOk h = true) {n : Nat} (hn : (n : Int) = slMany h) : Inv n (trnS h) := by
  refine ⟨fun k hl => (trnS_law hk hn hl).1, fun k hl => ?_⟩
  obtain ⟨h1, h2⟩ := trnS_law hk hn hl
  obtain ⟨h3, h4⟩ := trnS_law hk hn h1
  refine place_inj hk hn h3 hl ?_
  rw [h4, h2]
  simp only []
  rw [show h.b - 1 - (h.b - 1 - (plOf h (k : Int)).1) = (plOf h (k : Int)).1 by omega]
/-- What a weight of 1 heels and trims. -/
def heelC (h : Hl) (k : Nat) : Int := 2 * (plOf h k).2.1 - (h.r - 1)
def trimC (h : Hl) (k : Nat) : Int := 2 * (plOf h k).1 - (h.b - 1)
/-- The mirror image heels to the other side, and trims the same. -/
theorem mir_heel {h : Hl} (hk : hlOk h = true) {p : List Int} (hn : (p.length : Int) = slMany h) (w : Int → Int) : wsum w (heelC h) (img (mirS h) p) = -(wsum w (heelC h) p) ∧ wsum w (trimC h) (img (mirS h) p) = wsum w (trimC h) p := by
  have hi := mir_inv hk hn
  rw [wsum_img hi, wsum_img hi, ← wsum_neg]
  refine ⟨wsum_congr fun k hl => ?_, wsum_congr fun k hl => ?_⟩
  · unfold heelC; rw [(mirS_law hk hn hl).2]; simp only []; omega
  · unfold trimC; rw [(mirS_law hk hn hl).2]
/-- Turned round it trims to the other end, and heels the same. -/
theorem trn_trim {h : Hl} (hk : hlOk h = true) {p : List Int} (hn : (p.length : Int) = slMany h) (w : Int → Int) : wsum w (trimC h) (img (trnS h) p) = -(wsum w (trimC h) p) ∧ wsum w (heelC h) (img (trnS h) p) = wsum w (heelC h) p := by
  have hi := trn_inv hk hn
  rw [wsum_img hi, wsum_img hi, ← wsum_neg]
  refine ⟨wsum_congr fun k hl => ?_, wsum_congr fun k hl => ?_⟩
  · unfold trimC; rw [(trnS_law hk hn hl).2]; simp only []; omega
  · unfold heelC; rw [(trnS_law hk hn hl).2]
end Go.Proofs.Ytmgnbkiphdlooab
namespace Go.Proofs.Ytmgnbkiphdlooab
set_option linter.unusedVariables false

/-- A turn of the slots that keeps what is below what. -/
structure Rows (h : Hl) (n : Nat) (s : Nat → Nat) : Prop where
  inv : Inv n s
  tier : ∀ k, k < n → ((s k : Nat) : Int) % h.t = (k : Int) % h.t
  below : ∀ k, k < n → ¬ (k : Int) % h.t = 0 → s (k - 1) = s k - 1
theorem img_take {s : Nat → Nat} {p : List Int} (hi : Inv p.length s) {x : Int} {k : Nat} (hm : x ∈ (img s p).take k) : ∃ j, j < k ∧ j < p.length ∧ pAt p (s j) = x := by
  obtain ⟨j, h1, h2, h3⟩ := mem_take hm
  rw [img_len] at h2
  exact ⟨j, h1, h2, by rw [← img_at h2]; exact h3⟩
/-- The image of a valid plan is valid. -/
theorem img_ok {h : Hl} {bok : Bool} {ids p : List Int} {s : Nat → Nat} (hr : Rows h p.length s) (hk : plOk h bok ids p = true) : plOk h bok ids (img s p) = true := by
  obtain ⟨q1, q2, q3, q4⟩ := plOk_iff.1 hk
  refine plOk_iff.2 ⟨q1, q2, by rw [img_len]; exact q3, fun k hl hne => ?_⟩
  rw [img_len] at hl
  rw [img_at hl] at hne ⊢
  have hsl := hr.inv.lt k hl
  obtain ⟨r1, r2, r3⟩ := q4 (s k) hsl hne
  refine ⟨r1, fun hm => ?_, fun ht => ?_⟩
  · obtain ⟨j, h1, h2, h3⟩ := img_take hr.inv hm
    have := plOk_inj hk (hr.inv.lt j h2) hsl h3 (by rw [h3]; exact hne)
    have e : j = k := by rw [← hr.inv.inv j h2, this, hr.inv.inv k hl]
    omega
  · have hk0 : k ≠ 0 := fun e => ht (by subst e; simp)
    rw [img_at (by omega), hr.below k hl ht]
    exact r3 (by rw [hr.tier k hl]; exact ht)
theorem below_parts {h : Hl} (hk : hlOk h = true) {k : Nat} (ht : ¬ (k : Int) % h.t = 0) : ((k - 1 : Nat) : Int) / h.t = (k : Int) / h.t ∧ ((k - 1 : Nat) : Int) % h.t = (k : Int) % h.t - 1 := by
  obtain ⟨g1, g2, g3, g4, g5, g6⟩ := hlOk_iff.1 hk
  obtain ⟨b, r, t⟩ := h
  simp only [] at *
  clear hk
  rcases (by omega : t = 1 ∨ t = 2 ∨ t = 3) with rfl | rfl | rfl <;> constructor <;> omega
theorem mir_rows {h : Hl} (hk : hlOk h = true) {n : Nat} (hn : (n : Int) = slMany h) : Rows h n (mirS h) := by
  refine ⟨mir_inv hk hn, fun k hl => ?_, fun k hl ht => ?_⟩
  · obtain ⟨h1, h2⟩ := mirS_law hk hn hl
    rw [plOf_yes (s := ((mirS h k : Nat) : Int)) hk (by omega) (by omega), plOf_yes (s := (k : Int)) hk (by omega) (by omega)] at h2
    simp only [Prod.mk.injEq] at h2
    exact h2.2.2
  · have hk0 : k ≠ 0 := fun e => ht (by subst e; simp)
    obtain ⟨d1, d2⟩ := below_parts hk ht
    obtain ⟨p1, p2, p3, p4⟩ := plOf_in (s := (k : Int)) hk (by omega) (by omega)
    have e1 := plOf_yes (s := (k : Int)) hk (by omega) (by omega)
    have e2 := plOf_yes (s := ((k - 1 : Nat) : Int)) hk (by omega) (by omega)
    unfold mirS
    rw [e1, e2]
    simp only []
    rw [d1, d2, slOf_yes hk p1 (by omega) p3, slOf_yes hk p1 (by omega) (by omega)]
    omega
theorem trn_rows {h : Hl} (hk : hlOk h = true) {n : Nat} (hn : (n : Int) = slMany h) : Rows h n (trnS h) := by
  refine ⟨trn_inv hk hn, fun k hl => ?_, fun k hl ht => ?_⟩
  · obtain ⟨h1, h2⟩ := trnS_law hk hn hl
    rw [plOf_yes (s := ((trnS h k : Nat) : Int)) hk (by omega) (by omega), plOf_yes (s := (k : Int)) hk (by omega) (by omega)] at h2
    simp only [Prod.mk.injEq] at h2
    exact h2.2.2
  · have hk0 : k ≠ 0 := fun e => ht (by subst e; simp)
    obtain ⟨d1, d2⟩ := below_parts hk ht
    obtain ⟨p1, p2, p3, p4⟩ := plOf_in (s := (k : Int)) hk (by omega) (by omega)
    have e1 := plOf_yes (s := (k : Int)) hk (by omega) (by omega)
    have e2 := plOf_yes (s := ((k - 1 : Nat) : Int)) hk (by omega) (by omega)
    unfold trnS
    rw [e1, e2]
    simp only []
    rw [d1, d2, slOf_yes hk (by omega) p2 p3, slOf_yes hk (by omega) p2 (by omega)]
    omega
/-- With one slot changed the sum changes by that slot's part. -/
theorem wsum_set {w : Int → Int} {f : Nat → Int} {p : List Int} {k : Nat} (hl : k < p.length) (x : Int) : wsum w f (p.set k x) = wsum w f p - w (pAt p k) * f k + w x * f k := by
  unfold wsum
  rw [List.length_set]
  have : ∀ n, n ≤ p.length → ((List.range n).map fun j => w (pAt (p.set k x) j) * f j).sum = ((List.range n).map fun j => w (pAt p j) * f j).sum + if k < n then w x * f k - w (pAt p k) * f k else 0 := by
    intro n
    induction n with
    | zero => intro _; simp
    | succ n ih =>
      intro hn
      rw [List.range_succ, List.map_append, List.map_append, List.sum_append, List.sum_append, ih (by omega)]
      simp only [List.map_cons, List.map_nil, List.sum_cons, List.sum_nil]
      by_cases hkn : k = n
      · subst hkn
        rw [pAt_set_self hl, if_neg (by omega), if_pos (by omega)]
        omega
      · rw [pAt_set_ne hkn]
        by_cases hlt : k < n
        · rw [if_pos hlt, if_pos (by omega)]; omega
        · rw [if_neg hlt, if_neg (by omega)]; omega
  rw [this p.length (Nat.le_refl _), if_pos hl]
  omega
end Go.Proofs.Ytmgnbkiphdlooab
namespace Go.Proofs.Ytmgnbkiphdlooab
set_option linter.unusedVariables false

/-- The weight of what has an id; of nothing, 0. -/
def wBx (l : List Bx) (x : Int) : Int := if x = 0 then 0 else wAt l x
/-- The sum over the first n slots. -/
def wsN (w : Int → Int) (f : Nat → Int) (p : List Int) (n : Nat) : Int := ((List.range n).map fun k => w (pAt p k) * f k).sum
theorem wsN_zero (w : Int → Int) (f : Nat → Int) (p : List Int) : wsN w f p 0 = 0 := rfl
theorem wsN_next (w : Int → Int) (f : Nat → Int) (p : List Int) (n : Nat) : wsN w f p (n + 1) = wsN w f p n + w (pAt p n) * f n := by
  unfold wsN
  rw [List.range_succ, List.map_append, List.sum_append]
  simp
theorem wsN_end (w : Int → Int) (f : Nat → Int) (p : List Int) : wsN w f p p.length = wsum w f p := rfl
theorem pl_find {h : Hl} {l : List Bx} {p : List Int} (hk : plOk h (bxsOk l) (bxIds l) p = true) {k : Nat} (hl : k < p.length) (hz : pAt p k ≠ 0) : 0 ≤ findB l (pAt p k) :=
  (findB_mem l _).2 ((plOk_iff.1 hk).2.2.2 k hl hz).1
theorem wBx_bd {h : Hl} {l : List Bx} {p : List Int} (hk : plOk h (bxsOk l) (bxIds l) p = true) {k : Nat} (hl : k < p.length) : 0 ≤ wBx l (pAt p k) ∧ wBx l (pAt p k) ≤ 30 := by
  unfold wBx
  by_cases hz : pAt p k = 0
  · rw [if_pos hz]; omega
  · rw [if_neg hz]
    have := wAt_bd (plOk_bok hk) (pAt p k) (pl_find hk hl hz)
    omega
theorem mulW_bd {a b c : Int} (ha : 0 ≤ a ∧ a ≤ 30) (hb : -c ≤ b ∧ b ≤ c) : -(30 * c) ≤ a * b ∧ a * b ≤ 30 * c := by
  have hc : 0 ≤ c := by omega
  have h1 : a * b ≤ a * c := Int.mul_le_mul_of_nonneg_left hb.2 ha.1
  have h2 : a * (-c) ≤ a * b := Int.mul_le_mul_of_nonneg_left hb.1 ha.1
  have h3 : a * c ≤ 30 * c := Int.mul_le_mul_of_nonneg_right ha.2 hc
  rw [Int.mul_neg] at h2
  omega
theorem wsN_bd {h : Hl} {l : List Bx} {p : List Int} (hk : plOk h (bxsOk l) (bxIds l) p = true) {f : Nat → Int} {c : Int} (hf : ∀ k, k < p.length → -c ≤ f k ∧ f k ≤ c) : ∀ n, n ≤ p.length → -(30 * c * n) ≤ wsN (wBx l) f p n ∧ wsN (wBx l) f p n ≤ 30 * c * n
  | 0, _ => by rw [wsN_zero]; simp
  | n + 1, hn => by
    have h1 := wsN_bd hk hf n (by omega)
    have h2 := mulW_bd (wBx_bd hk (k := n) (by omega)) (hf n (by omega))
    rw [wsN_next]
    have e : 30 * c * ((n + 1 : Nat) : Int) = 30 * c * (n : Int) + 30 * c := by rw [Int.natCast_add, Int.mul_add]; simp
    rw [e]
    omega
theorem heelC_bd {h : Hl} (hk : hlOk h = true) {n k : Nat} (hn : (n : Int) = slMany h) (hl : k < n) : -2 ≤ heelC h k ∧ heelC h k ≤ 2 := by
  obtain ⟨p1, p2, p3, p4⟩ := plOf_in (s := (k : Int)) hk (by omega) (by omega)
  have e := plOf_yes (s := (k : Int)) hk (by omega) (by omega)
  obtain ⟨g1, g2, g3, g4, g5, g6⟩ := hlOk_iff.1 hk
  unfold heelC
  rw [e]
  simp only []
  omega
theorem trimC_bd {h : Hl} (hk : hlOk h = true) {n k : Nat} (hn : (n : Int) = slMany h) (hl : k < n) : -(h.b - 1) ≤ trimC h k ∧ trimC h k ≤ h.b - 1 := by
  obtain ⟨p1, p2, p3, p4⟩ := plOf_in (s := (k : Int)) hk (by omega) (by omega)
  have e := plOf_yes (s := (k : Int)) hk (by omega) (by omega)
  obtain ⟨g1, g2, g3, g4, g5, g6⟩ := hlOk_iff.1 hk
  unfold trimC
  rw [e]
  simp only []
  omega
theorem trimC_bd3 {h : Hl} (hk : hlOk h = true) {n k : Nat} (hn : (n : Int) = slMany h) (hl : k < n) : -3 ≤ trimC h k ∧ trimC h k ≤ 3 := by
  have := trimC_bd hk hn hl
  obtain ⟨g1, g2, g3, g4, g5, g6⟩ := hlOk_iff.1 hk
  omega
/-- What LoadOf, HeelOf, TrimOf give. -/
def loadW (h : Hl) (l : List Bx) (p : List Int) : Int := if plOk h (bxsOk l) (bxIds l) p = true then wsum (wBx l) (fun _ => 1) p else -1
def heelW (h : Hl) (l : List Bx) (p : List Int) : Int × Bool := if plOk h (bxsOk l) (bxIds l) p = true then (wsum (wBx l) (heelC h) p, true) else (0, false)
def trimW (h : Hl) (l : List Bx) (p : List Int) : Int × Bool := if plOk h (bxsOk l) (bxIds l) p = true then (wsum (wBx l) (trimC h) p, true) else (0, false)
def steadyW (h : Hl) (l : List Bx) (p : List Int) (a b : Int) : Bool :=
  decide (plOk h (bxsOk l) (bxIds l) p = true ∧ max (heelW h l p).1 (-(heelW h l p).1) ≤ a ∧ max (trimW h l p).1 (-(trimW h l p).1) ≤ b)
theorem pl_len {h : Hl} {bok : Bool} {ids p : List Int} (hk : plOk h bok ids p = true) : 1 ≤ p.length ∧ p.length ≤ 36 := by
  obtain ⟨q1, _, q3, _⟩ := plOk_iff.1 hk
  obtain ⟨m1, m2, _⟩ := slMany_bd q1
  omega
theorem loadW_bd {h : Hl} {l : List Bx} {p : List Int} (hk : plOk h (bxsOk l) (bxIds l) p = true) : 0 ≤ loadW h l p ∧ loadW h l p ≤ 1080 := by
  unfold loadW
  rw [if_pos hk, ← wsN_end]
  have h1 := wsN_bd hk (f := fun _ => 1) (c := 1) (fun k _ => by simp) p.length (Nat.le_refl _)
  have h2 : 0 ≤ wsN (wBx l) (fun _ => 1) p p.length := by
    have : ∀ n, n ≤ p.length → 0 ≤ wsN (wBx l) (fun _ => 1) p n := by
      intro n
      induction n with
      | zero => intro _; rw [wsN_zero]; omega
      | succ n ih =>
        intro hn
        have := (wBx_bd hk (k := n) (by omega)).1
        have := ih (by omega)
        rw [wsN_next, Int.mul_one]
        omega
    exact this _ (Nat.le_refl _)
  have := pl_len hk
  omega
theorem heelW_bd {h : Hl} {l : List Bx} {p : List Int} : -3000 ≤ (heelW h l p).1 ∧ (heelW h l p).1 ≤ 3000 := by
  unfold heelW
  split
  · next hk =>
    have h1 := wsN_bd hk (f := heelC h) (c := 2) (fun k hl => heelC_bd (plOk_iff.1 hk).1 (plOk_iff.1 hk).2.2.1 hl) p.length (Nat.le_refl _)
    rw [wsN_end] at h1
    have := pl_len hk
    simp only []
    omega
  · simp
theorem trimW_bd {h : Hl} {l : List Bx} {p : List Int} : -4000 ≤ (trimW h l p).1 ∧ (trimW h l p).1 ≤ 4000 := by
  unfold trimW
  split
  · next hk =>
    have h1 := wsN_bd hk (f := trimC h) (c := 3) (fun k hl => trimC_bd3 (plOk_iff.1 hk).1 (plOk_iff.1 hk).2.2.1 hl) p.length (Nat.le_refl _)
    rw [wsN_end] at h1
    have := pl_len hk
    simp only []
    omega
  · simp
theorem heelW_ok (h : Hl) (l : List Bx) (p : List Int) : (heelW h l p).2 = plOk h (bxsOk l) (bxIds l) p := by
  unfold heelW
  cases plOk h (bxsOk l) (bxIds l) p <;> rfl
theorem trimW_ok (h : Hl) (l : List Bx) (p : List Int) : (trimW h l p).2 = plOk h (bxsOk l) (bxIds l) p := by
  unfold trimW
  cases plOk h (bxsOk l) (bxIds l) p <;> rfl
/-- A box less, its weight less. -/
theorem loadW_take {h : Hl} {l : List Bx} {p : List Int} (hk : plOk h (bxsOk l) (bxIds l) p = true) {k : Nat} (hl : k < p.length) (hz : pAt p k ≠ 0) (hk2 : plOk h (bxsOk l) (bxIds l) (p.set k 0) = true) :
    loadW h l (p.set k 0) = loadW h l p - weighS l [pAt p k] := by
  have hw : weighS l [pAt p k] = wAt l (pAt p k) := by
    rw [weighS_sum (plOk_bok hk) (fun j hj => by
      obtain rfl : j = 0 := by simp at hj; exact hj
      exact pl_find hk hl hz)]
    show 0 + wAt l (pAt p k) = _
    omega
  unfold loadW
  rw [if_pos hk, if_pos hk2, wsum_set hl, hw]
  unfold wBx
  rw [if_neg hz, if_pos rfl]
  omega
theorem sumT_map (l : List Bx) (ids : List Int) : ∀ k, k ≤ ids.length → sumT l ids k = ((ids.take k).map (wAt l)).sum
  | 0, _ => by simp [sumT]
  | k + 1, hk => by
    rw [sumT, sumT_map l ids k (by omega), List.take_add_one, List.getElem?_eq_getElem (by omega), List.map_append, List.sum_append]
    have : ids.getD k 0 = ids[k] := by rw [List.getD_eq_getElem?_getD, List.getElem?_eq_getElem (by omega), Option.getD_some]
    rw [this]
    simp
theorem wsum_map (w : Int → Int) (p : List Int) : wsum w (fun _ => 1) p = (p.map w).sum := by
  unfold wsum
  congr 1
  apply List.ext_getElem
  · simp
  · intro i h1 h2
    simp only [List.length_map, List.length_range] at h1
    simp [pAt_get h1]
theorem sum_filter (l : List Bx) : ∀ (p : List Int), (∀ x ∈ p, x = 0 ∨ 0 < x) → (p.map (wBx l)).sum = ((p.filter (fun x => decide (0 < x))).map (wAt l)).sum
  | [], _ => rfl
  | a :: t, hx => by
    have ih := sum_filter l t fun x hm => hx x (List.mem_cons_of_mem _ hm)
    rw [List.map_cons, List.sum_cons, ih]
    rcases hx a (List.mem_cons_self ..) with rfl | h
    · rw [List.filter_cons_of_neg (by simp)]
      show wBx l 0 + _ = _
      have : wBx l 0 = 0 := by unfold wBx; rw [if_pos rfl]
      rw [this]; omega
    · rw [List.filter_cons_of_pos (by simpa using h), List.map_cons, List.sum_cons]
      have : wBx l a = wAt l a := by unfold wBx; rw [if_neg (by omega)]
      rw [this]
/-- All boxes weigh. -/
theorem loadW_ids {h : Hl} {l : List Bx} {p : List Int} (hk : plOk h (bxsOk l) (bxIds l) p = true) : loadW h l p = weighS l (idsP h (bxsOk l) (bxIds l) p) := by
  have hf : ∀ j, j < (idsP h (bxsOk l) (bxIds l) p).length → 0 ≤ findB l ((idsP h (bxsOk l) (bxIds l) p).getD j 0) := fun j hj => by
    have hm : (idsP h (bxsOk l) (bxIds l) p).getD j 0 ∈ idsP h (bxsOk l) (bxIds l) p := by
      rw [List.getD_eq_getElem?_getD, List.getElem?_eq_getElem hj, Option.getD_some]
      exact List.getElem_mem hj
    obtain ⟨_, h2, h3⟩ := idsP_mem hm
    obtain ⟨k, hl, he⟩ := List.getElem_of_mem h2
    rw [← he, ← pAt_get hl]
    exact pl_find hk hl (by rw [pAt_get hl, he]; omega)
  rw [weighS_sum (plOk_bok hk) hf, sumT_map l _ _ (Nat.le_refl _), List.take_length]
  unfold loadW idsP
  rw [if_pos hk, if_pos hk, wsum_map]
  refine sum_filter l p fun x hm => ?_
  obtain ⟨k, hl, he⟩ := List.getElem_of_mem hm
  have := pAt_pos (bxIds_pos (plOk_bok hk)) hk hl
  rw [pAt_get hl, he] at this
  rcases Classical.em (x = 0) with h | h
  · exact .inl h
  · exact .inr (this.2 h)
/-- The laws of the images. -/
theorem mir_ok {h : Hl} {bok : Bool} {ids p : List Int} (hk : plOk h bok ids p = true) : plOk h bok ids (img (mirS h) p) = true := img_ok (mir_rows (plOk_iff.1 hk).1 (plOk_iff.1 hk).2.2.1) hk
theorem trn_ok {h : Hl} {bok : Bool} {ids p : List Int} (hk : plOk h bok ids p = true) : plOk h bok ids (img (trnS h) p) = true := img_ok (trn_rows (plOk_iff.1 hk).1 (plOk_iff.1 hk).2.2.1) hk
theorem heelW_mir {h : Hl} {l : List Bx} {p : List Int} (hk : plOk h (bxsOk l) (bxIds l) p = true) : heelW h l (img (mirS h) p) = (-(heelW h l p).1, true) ∧ trimW h l (img (mirS h) p) = trimW h l p := by
  unfold heelW trimW
  rw [if_pos hk, if_pos hk, if_pos (mir_ok hk), if_pos (mir_ok hk)]
  have := mir_heel (plOk_iff.1 hk).1 (plOk_iff.1 hk).2.2.1 (wBx l)
  rw [this.1, this.2]
  exact ⟨rfl, rfl⟩
theorem trimW_trn {h : Hl} {l : List Bx} {p : List Int} (hk : plOk h (bxsOk l) (bxIds l) p = true) : trimW h l (img (trnS h) p) = (-(trimW h l p).1, true) ∧ heelW h l (img (trnS h) p) = heelW h l p := by
  unfold heelW trimW
  rw [if_pos hk, if_pos hk, if_pos (trn_ok hk), if_pos (trn_ok hk)]
  have := trn_trim (plOk_iff.1 hk).1 (plOk_iff.1 hk).2.2.1 (wBx l)
  rw [this.1, this.2]
  exact ⟨rfl, rfl⟩
/-- No trim is greater than the load times the number of bays less 1. -/
theorem trimW_most {h : Hl} {l : List Bx} {p : List Int} (hk : plOk h (bxsOk l) (bxIds l) p = true) : (trimW h l p).1 ≤ loadW h l p * (h.b - 1) ∧ -(trimW h l p).1 ≤ loadW h l p * (h.b - 1) := by
  unfold trimW loadW
  rw [if_pos hk, if_pos hk]
  have hb := fun k hl => trimC_bd (plOk_iff.1 hk).1 (plOk_iff.1 hk).2.2.1 (k := k) hl
  refine ⟨wsum_le (fun k hl => (wBx_bd hk hl).1) (fun k hl => (hb k hl).2), ?_⟩
  show -(wsum (wBx l) (trimC h) p) ≤ _
  rw [← wsum_neg]
  exact wsum_le (fun k hl => (wBx_bd hk hl).1) (fun k hl => by have := (hb k hl).1; omega)
theorem steadyW_more {h : Hl} {l : List Bx} {p : List Int} {a b : Int} (hs : steadyW h l p a b = true) : steadyW h l p (a + 1) (b + 1) = true := by
  have := of_decide_eq_true hs
  exact decide_eq_true ⟨this.1, by omega, by omega⟩
theorem steadyW_mir {h : Hl} {l : List Bx} {p : List Int} (hk : plOk h (bxsOk l) (bxIds l) p = true) (a b : Int) : steadyW h l (img (mirS h) p) a b = steadyW h l p a b := by
  unfold steadyW
  obtain ⟨e1, e2⟩ := heelW_mir hk
  rw [e1, e2, mir_ok hk, hk]
  apply decide_eq_decide.2
  simp only [Int.neg_neg]
  rw [Int.max_comm (-(heelW h l p).1)]
theorem steadyW_bad {h : Hl} {l : List Bx} {p : List Int} (hk : plOk h (bxsOk l) (bxIds l) p = false) (a b : Int) : steadyW h l p a b = false := by
  unfold steadyW
  rw [hk]
  exact decide_eq_false fun hc => by cases hc.1
theorem mulL_bd {a c : Int} (ha : 0 ≤ a ∧ a ≤ 1080) (hc : 0 ≤ c ∧ c ≤ 3) : 0 ≤ a * c ∧ a * c ≤ 3240 := by
  have h1 : a * c ≤ a * 3 := Int.mul_le_mul_of_nonneg_left hc.2 ha.1
  have h2 : 0 ≤ a * c := Int.mul_nonneg ha.1 hc.1
  omega
/-- What is taken from a plan, and what it weighed. -/
theorem takeP_load {h : Hl} {l : List Bx} {p : List Int} (hk : plOk h (bxsOk l) (bxIds l) p = true) {k : Nat} (hl : k < p.length) : takeP h (bxsOk l) (bxIds l) p (k : Int) = (p, -1) ∨
    ∃ x q, takeP h (bxsOk l) (bxIds l) p (k : Int) = (q, x) ∧ 0 < x ∧ loadW h l q = loadW h l p - weighS l [x] ∧ 0 ≤ weighS l [x] ∧ weighS l [x] ≤ 30 := by
  rcases takeP_cases h (bxsOk l) (bxIds l) p (k : Int) with ⟨h1, _⟩ | ⟨_, h1⟩ | ⟨_, h2, h3, h4, _, h5, h6⟩
  · rw [hk] at h1; cases h1
  · exact .inl h1
  · rw [Int.toNat_natCast] at h4 h5 h6
    have hw : weighS l [pAt p k] = wAt l (pAt p k) := by
      rw [weighS_sum (plOk_bok hk) (fun j hj => by
        obtain rfl : j = 0 := by simp at hj; exact hj
        exact pl_find hk hl h4)]
      show 0 + wAt l (pAt p k) = _
      omega
    have hb := wAt_bd (plOk_bok hk) (pAt p k) (pl_find hk hl h4)
    exact .inr ⟨pAt p k, p.set k 0, h6, plOk_posX hk hl h4, loadW_take hk hl h4 h5, by omega, by omega⟩
end Go.Proofs.Ytmgnbkiphdlooab
