/-
  Plain mathematics of weights: sums over slots, and the mirror image of a plan. Nothing of the program.
-/
import Derived.Test.YtnnjphhkheocgaaPlMath2
namespace Go.Proofs.Ytnnjphhkheocgaa
set_option linter.unusedVariables false

theorem sum_perm {l m : List Int} (hp : l.Perm m) : l.sum = m.sum := by
  induction hp with
  | nil => rfl
  | cons a _ ih => rw [List.sum_cons, List.sum_cons, ih]
  | swap a b l => rw [List.sum_cons, List.sum_cons, List.sum_cons, List.sum_cons]; omega
  | trans _ _ h1 h2 => exact h1.trans h2
/-- A turn of the slots that is its own way back. -/
structure Inv (n : Nat) (s : Nat → Nat) : Prop where
  lt : ∀ k, k < n → s k < n
  inv : ∀ k, k < n → s (s k) = k
theorem Inv.perm {n : Nat} {s : Nat → Nat} (h : Inv n s) : ((List.range n).map s).Perm (List.range n) := by
  refine (List.perm_ext_iff_of_nodup ?_ List.nodup_range).2 fun a => ⟨fun hm => ?_, fun hm => ?_⟩
  · rw [List.nodup_iff_pairwise_ne, List.pairwise_map]
    refine List.Pairwise.imp_of_mem (fun {a b} ha hb hab => ?_) (List.nodup_iff_pairwise_ne.1 List.nodup_range)
    intro e
    rw [List.mem_range] at ha hb
    exact hab (by rw [← h.inv a ha, e, h.inv b hb])
  · obtain ⟨k, hk, rfl⟩ := List.mem_map.1 hm
    exact List.mem_range.2 (h.lt k (List.mem_range.1 hk))
  · have ha := List.mem_range.1 hm
    exact List.mem_map.2 ⟨s a, List.mem_range.2 (h.lt a ha), h.inv a ha⟩
/-- The image of a plan. -/
def img (s : Nat → Nat) (p : List Int) : List Int := (List.range p.length).map fun k => pAt p (s k)
theorem img_len (s : Nat → Nat) (p : List Int) : (img s p).length = p.length := by simp [img]
theorem img_at {s : Nat → Nat} {p : List Int} {k : Nat} (h : k < p.length) : pAt (img s p) k = pAt p (s k) := by
  rw [pAt_get (by rw [img_len]; exact h)]
  simp [img]
/-- The sum over all slots of the weight times a number of the slot. -/
def wsum (w : Int → Int) (f : Nat → Int) (p : List Int) : Int := ((List.range p.length).map fun k => w (pAt p k) * f k).sum
theorem wsum_congr {w : Int → Int} {f g : Nat → Int} {p : List Int} (h : ∀ k, k < p.length → f k = g k) : wsum w f p = wsum w g p := by
  unfold wsum
  congr 1
  refine List.map_congr_left fun k hk => ?_
  rw [h k (List.mem_range.1 hk)]
theorem wsum_img {w : Int → Int} {f : Nat → Int} {p : List Int} {s : Nat → Nat} (h : Inv p.length s) : wsum w f (img s p) = wsum w (fun k => f (s k)) p := by
  unfold wsum
  rw [img_len]
  have e1 : ((List.range p.length).map fun k => w (pAt (img s p) k) * f k) = ((List.range p.length).map s).map fun j => w (pAt p j) * f (s j) := by
    rw [List.map_map]
    refine List.map_congr_left fun k hk => ?_
    have hk' := List.mem_range.1 hk
    show _ = w (pAt p (s k)) * f (s (s k))
    rw [img_at hk', h.inv k hk']
  rw [e1]
  exact sum_perm (h.perm.map _)
theorem sum_neg (l : List Nat) (g : Nat → Int) : (l.map fun k => -(g k)).sum = -((l.map g).sum) := by
  induction l with
  | nil => rfl
  | cons a l ih => rw [List.map_cons, List.map_cons, List.sum_cons, List.sum_cons, ih]; omega
theorem wsum_neg (w : Int → Int) (f : Nat → Int) (p : List Int) : wsum w (fun k => -(f k)) p = -(wsum w f p) := by
  unfold wsum
  rw [← sum_neg]
  congr 1
  refine List.map_congr_left fun k _ => ?_
  rw [Int.mul_neg]
/-- No sum is greater than that of all weights times a bound of the numbers. -/
theorem wsum_le {w : Int → Int} {f : Nat → Int} {p : List Int} {c : Int} (hw : ∀ k, k < p.length → 0 ≤ w (pAt p k)) (hf : ∀ k, k < p.length → f k ≤ c) : wsum w f p ≤ wsum w (fun _ => 1) p * c := by
  have : ∀ (l : List Nat), (∀ k ∈ l, k < p.length) → (l.map fun k => w (pAt p k) * f k).sum ≤ (l.map fun k => w (pAt p k) * 1).sum * c := by
    intro l
    induction l with
    | nil => intro _; simp
    | cons a l ih =>
      intro ha
      have h1 := ih fun k hk => ha k (by simp [hk])
      have h2 : w (pAt p a) * f a ≤ w (pAt p a) * c := Int.mul_le_mul_of_nonneg_left (hf a (ha a (by simp))) (hw a (ha a (by simp)))
      rw [List.map_cons, List.map_cons, List.sum_cons, List.sum_cons, Int.add_mul, Int.mul_one]
      omega
  exact this _ fun k hk => List.mem_range.1 hk
/-- The mirror image of a slot: the rows of its bay in the other order. -/
def mirS (h : Hl) (k : Nat) : Nat := (slOf h (plOf h k).1 (h.r - 1 - (plOf h k).2.1) (plOf h k).2.2).toNat
/-- Turned round: the bays in the other order. -/
def trnS (h : Hl) (k : Nat) : Nat := (slOf h (h.b - 1 - (plOf h k).1) (plOf h k).2.1 (plOf h k).2.2).toNat
theorem mirS_law {h : Hl} (hk : hlOk h = true) {n k : Nat} (hn : (n : Int) = slMany h) (hl : k < n) : mirS h k < n ∧ plOf h (mirS h k : Nat) = ((plOf h k).1, h.r - 1 - (plOf h k).2.1, (plOf h k).2.2) := by
  obtain ⟨p1, p2, p3, p4⟩ := plOf_in (s := (k : Int)) hk (by omega) (by omega)
  have e := plOf_yes (s := (k : Int)) hk (by omega) (by omega)
  have hs : slOf h (plOf h k).1 (h.r - 1 - (plOf h k).2.1) (plOf h k).2.2 = ((plOf h k).1 * h.r + (h.r - 1 - (plOf h k).2.1)) * h.t + (plOf h k).2.2 := by
    rw [e]; exact slOf_yes hk p1 (by simp only []; omega) p3
  have h0 : 0 ≤ slOf h (plOf h k).1 (h.r - 1 - (plOf h k).2.1) (plOf h k).2.2 := by
    rw [hs, e]
    simp only []
    obtain ⟨g1, g2, g3, g4, g5, g6⟩ := hlOk_iff.1 hk
    have m1 : 0 ≤ (k : Int) / h.t / h.r * h.r := Int.mul_nonneg p1.1 (by omega)
    have m2 : 0 ≤ ((k : Int) / h.t / h.r * h.r + (h.r - 1 - (k : Int) / h.t % h.r)) * h.t := Int.mul_nonneg (by omega) (by omega)
    omega
  have hpl := pl_sl h0
  have hc : ((mirS h k : Nat) : Int) = slOf h (plOf h k).1 (h.r - 1 - (plOf h k).2.1) (plOf h k).2.2 := by unfold mirS; omega
  rw [← hc] at hpl
  exact ⟨by omega, hpl.1⟩
theorem trnS_law {h : Hl} (hk : hlOk h = true) {n k : Nat} (hn : (n : Int) = slMany h) (hl : k < n) : trnS h k < n ∧ plOf h (trnS h k : Nat) = (h.b - 1 - (plOf h k).1, (plOf h k).2.1, (plOf h k).2.2) := by
  obtain ⟨p1, p2, p3, p4⟩ := plOf_in (s := (k : Int)) hk (by omega) (by omega)
  have e := plOf_yes (s := (k : Int)) hk (by omega) (by omega)
  have hs : slOf h (h.b - 1 - (plOf h k).1) (plOf h k).2.1 (plOf h k).2.2 = ((h.b - 1 - (plOf h k).1) * h.r + (plOf h k).2.1) * h.t + (plOf h k).2.2 := by
    rw [e]; exact slOf_yes hk (by simp only []; omega) p2 p3
  have h0 : 0 ≤ slOf h (h.b - 1 - (plOf h k).1) (plOf h k).2.1 (plOf h k).2.2 := by
    rw [hs, e]
    simp only []
    obtain ⟨g1, g2, g3, g4, g5, g6⟩ := hlOk_iff.1 hk
    have m1 : 0 ≤ (h.b - 1 - (k : Int) / h.t / h.r) * h.r := Int.mul_nonneg (by omega) (by omega)
    have m2 : 0 ≤ ((h.b - 1 - (k : Int) / h.t / h.r) * h.r + (k : Int) / h.t % h.r) * h.t := Int.mul_nonneg (by omega) (by omega)
    omega
  have hpl := pl_sl h0
  have hc : ((trnS h k : Nat) : Int) = slOf h (h.b - 1 - (plOf h k).1) (plOf h k).2.1 (plOf h k).2.2 := by unfold trnS; omega
  rw [← hc] at hpl
  exact ⟨by omega, hpl.1⟩
theorem place_inj {h : Hl} (hk : hlOk h = true) {n a b : Nat} (hn : (n : Int) = slMany h) (ha : a < n) (hb : b < n) (he : plOf h a = plOf h b) : a = b := by
  have h1 := sl_pl (s := (a : Int)) hk (by omega) (by omega)
  have h2 := sl_pl (s := (b : Int)) hk (by omega) (by omega)
  rw [he] at h1
  omega
theorem mir_inv {h : Hl} (hk : hlOk h = true) {n : Nat} (hn : (n : Int) = slMany h) : Inv n (mirS h) := by
  refine ⟨fun k hl => (mirS_law hk hn hl).1, fun k hl => ?_⟩
  obtain ⟨h1, h2⟩ := mirS_law hk hn hl
  obtain ⟨h3, h4⟩ := mirS_law hk hn h1
  refine place_inj hk hn h3 hl ?_
  rw [h4, h2]
  simp only []
  rw [show h.r - 1 - (h.r - 1 - (plOf h (k : Int)).2.1) = (plOf h (k : Int)).2.1 by omega]
theorem trn_inv {h : Hl} (hk : hlOk h = true) {n : Nat} (hn : (n : Int) = slMany h) : Inv n (trnS h) := by
  refine ⟨fun k hl => (trnS_law hk hn hl).1, fun k hl => ?_⟩
  obtain ⟨h1, h2⟩ := trnS_law hk hn hl
  obtain ⟨h3, h4⟩ := trnS_law hk hn h1
  refine place_inj hk hn h3 hl ?_
  rw [h4, h2]
  simp only []
  rw [show h.b - 1 - (h.b - 1 - (plOf h (k : Int)).1) = (plOf h (k : Int)).1 by omega]
/-- What a weight of 1 heels and trims. -/
def heelC (h : Hl) (k : Nat) : Int := 2 * (plOf h k).2.1 - (h.r - 1)
def trimC (h : Hl) (k : Nat) : Int := 2 * (plOf h k).1 - (h.b - 1)
/-- The mirror image heels to the other side, and trims the same. -/
theorem mir_heel {h : Hl} (hk : hlOk h = true) {p : List Int} (hn : (p.length : Int) = slMany h) (w : Int → Int) : wsum w (heelC h) (img (mirS h) p) = -(wsum w (heelC h) p) ∧ wsum w (trimC h) (img (mirS h) p) = wsum w (trimC h) p := by
  have hi := mir_inv hk hn
  rw [wsum_img hi, wsum_img hi, ← wsum_neg]
  refine ⟨wsum_congr fun k hl => ?_, wsum_congr fun k hl => ?_⟩
  · unfold heelC; rw [(mirS_law hk hn hl).2]; simp only []; omega
  · unfold trimC; rw [(mirS_law hk hn hl).2]
/-- Turned round it trims to the other end, and heels the same. -/
theorem trn_trim {h : Hl} (hk : hlOk h = true) {p : List Int} (hn : (p.length : Int) = slMany h) (w : Int → Int) : wsum w (trimC h) (img (trnS h) p) = -(wsum w (trimC h) p) ∧ wsum w (heelC h) (img (trnS h) p) = wsum w (heelC h) p := by
  have hi := trn_inv hk hn
  rw [wsum_img hi, wsum_img hi, ← wsum_neg]
  refine ⟨wsum_congr fun k hl => ?_, wsum_congr fun k hl => ?_⟩
  · unfold trimC; rw [(trnS_law hk hn hl).2]; simp only []; omega
  · unfold heelC; rw [(trnS_law hk hn hl).2]
end Go.Proofs.Ytnnjphhkheocgaa
