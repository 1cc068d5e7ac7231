/-
  Plain mathematics of sorted ids: what sorting and compacting tell of a yard. Nothing of the program.
-/
import Derived.Test.YtdmbahpifbidlaaYiMath
import Derived.Lib.SlicesCompact
namespace Go.Proofs.Ytdmbahpifbidlaa
set_option linter.unusedVariables false

/-- A list sorted. -/
def sortI (l : List Int) : List Int := l.mergeSort fun x y => decide (x ≤ y)
theorem sortI_perm (l : List Int) : (sortI l).Perm l := List.mergeSort_perm l _
theorem sortI_len (l : List Int) : (sortI l).length = l.length := (sortI_perm l).length_eq
theorem sortI_le (l : List Int) : (sortI l).Pairwise (· ≤ ·) := by
  have := List.pairwise_mergeSort (le := fun x y : Int => decide (x ≤ y)) (fun a b c h1 h2 => by simp at h1 h2 ⊢; omega) (fun a b => by simp; omega) l
  exact this.imp fun h => of_decide_eq_true h
theorem sortI_ids {l : List Int} (h : l.Nodup) : sortI l = l.foldl insI [] := by
  refine List.Perm.eq_of_pairwise (le := (· ≤ ·)) (fun a b _ _ h1 h2 => by omega) (sortI_le l) ?_ ?_
  · exact (foldI_sorted l [] List.Pairwise.nil (by simpa using h)).imp fun h => by omega
  · have := foldI_perm l []
    rw [List.nil_append] at this
    exact (sortI_perm l).trans this.symm
theorem sortI_idsY {h : Int} {ss : List (List Int)} (hk : ydOk h ss = true) : sortI ss.flatten = idsY h ss := by
  unfold idsY
  rw [if_pos hk, sortI_ids (ydOk_iff.1 hk).2.1]
theorem keeps_iff {zs : List Int} (hs : zs.Pairwise (· ≤ ·)) : (∀ j, j < zs.length → Lib.keeps zs.toArray j = true) ↔ zs.Nodup := by
  have hget : ∀ j (hj : j < zs.length), zs.toArray[j]! = zs[j] := fun j hj => by simp [getElem!_pos, hj]
  constructor
  · intro h
    refine List.pairwise_iff_getElem.2 fun i j hi hj hij e => ?_
    have hk := h j hj
    have hj1 : j - 1 < zs.length := by omega
    have hle1 : zs[i] ≤ zs[j - 1] := by
      rcases Nat.lt_or_ge i (j - 1) with hlt | hge
      · exact List.pairwise_iff_getElem.1 hs i (j - 1) hi hj1 hlt
      · have : i = j - 1 := by omega
        subst this; exact Int.le_refl _
    have hle2 : zs[j - 1] ≤ zs[j] := List.pairwise_iff_getElem.1 hs (j - 1) j hj1 hj (by omega)
    have heq : zs[j] = zs[j - 1] := by omega
    have : Lib.keeps zs.toArray j = false := Lib.keeps_neg (by omega) (by rw [hget j hj, hget (j - 1) hj1, heq])
    rw [this] at hk; cases hk
  · intro h j hj
    rcases Nat.eq_zero_or_pos j with h0 | h0
    · subst h0; simp [Lib.keeps]
    · refine Lib.keeps_pos ?_
      rw [hget j hj, hget (j - 1) (by omega)]
      exact fun e => List.pairwise_iff_getElem.1 h (j - 1) j (by omega) hj (by omega) e.symm
theorem compact_len {zs : List Int} (hs : zs.Pairwise (· ≤ ·)) : (Lib.compact zs).length = zs.length ↔ zs.Nodup := by
  rw [← keeps_iff hs]
  unfold Lib.compact Lib.compactUpTo
  rw [List.length_map]
  have := List.length_filter_eq_length_iff (p := Lib.keeps zs.toArray) (l := List.range zs.length)
  rw [List.length_range] at this
  rw [this]
  exact ⟨fun h j hj => h j (List.mem_range.2 hj), fun h j hj => h j (List.mem_range.1 hj)⟩
theorem compact_nodup (l : List Int) : decide ((Lib.compact (sortI l)).length = l.length) = decide l.Nodup := by
  have h := compact_len (sortI_le l)
  rw [sortI_len] at h
  exact decide_eq_decide.2 (h.trans (sortI_perm l).nodup_iff)
/-- When all stacks are valid and there are as many as there may be, a yard is valid if no box is there twice. -/
theorem ydOk_flat {h : Int} {ss : List (List Int)} (hs : ∀ k, k < ss.length → stOk (rowAt ss k) h = true) (h1 : 1 ≤ ss.length) (h5 : ss.length ≤ 5) : ydOk h ss = decide ss.flatten.Nodup := by
  have h0 := stOk_iff.1 (hs 0 (by omega))
  have hs' : ∀ s ∈ ss, stOk s h = true := fun s hm => by
    obtain ⟨k, hk, rfl⟩ := List.getElem_of_mem hm
    rw [← rowAt_get hk]; exact hs k hk
  by_cases hn : ss.flatten.Nodup
  · rw [decide_eq_true hn]
    exact ydOk_iff.2 ⟨hs', hn, h1, h5, h0.2.2.1, h0.2.2.2.1⟩
  · rw [decide_eq_false hn]
    cases hc : ydOk h ss
    · rfl
    · exact absurd (ydOk_iff.1 hc).2.1 hn
theorem flat_size {h : Int} {ss : List (List Int)} (hs : ∀ k, k < ss.length → stOk (rowAt ss k) h = true) (h5 : ss.length ≤ 5) : ss.flatten.length ≤ 25 := by
  have : ∀ (tt : List (List Int)), (∀ s ∈ tt, s.length ≤ 5) → tt.flatten.length ≤ 5 * tt.length := by
    intro tt
    induction tt with
    | nil => intro _; simp
    | cons a t ih =>
      intro h
      have h0 := h a (by simp)
      have h1 := ih fun s hs => h s (by simp [hs])
      rw [List.flatten_cons, List.length_append, List.length_cons]
      omega
  have := this ss fun s hm => by
    obtain ⟨k, hk, rfl⟩ := List.getElem_of_mem hm
    rw [← rowAt_get hk]; exact stOk_len (hs k hk)
  omega
end Go.Proofs.Ytdmbahpifbidlaa
