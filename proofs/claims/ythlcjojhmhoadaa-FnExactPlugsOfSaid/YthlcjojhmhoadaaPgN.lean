/-
  Uses whose first list is exchanged: lists of lists laid anew behind a first one.
-/
import Derived.Test.YthlcjojhmhoadaaGPg
import Derived.Test.YthlcjojhmhoadaaGYh
namespace Go.Proofs.Ythlcjojhmhoadaa
open Go.RowKit
set_option linter.unusedVariables false

theorem HoldsY.of_own {K : Nat} {w : World} {v : Value} {us : List Value} {ss : List (List Int)} (h : w.ownsRow K 27 1 v ss.length us) (hr : ∀ k, k < ss.length → ∃ u, us[k]? = some u ∧ HoldsI w u (rowAt ss k) ∧ NilOk u) : HoldsY w v ss := by
  obtain ⟨a, c, rfl⟩ := own_slice h
  have hnil := NilOk.of_own h
  have hcc : ss.length ≤ c ∧ c ≤ maxLen := by
    rcases h.2 with ⟨e, _⟩ | ⟨g, cap', cur, hv, hb, hg, hc, hm, _⟩
    · simp only [Value.slice.injEq] at e
      unfold maxLen; omega
    · simp only [Value.slice.injEq] at hv
      obtain ⟨_, _, rfl⟩ := hv
      exact ⟨hc, hm⟩
  refine ⟨a, c, rfl, hcc.1, hcc.2, fun e => hnil _ _ (by rw [e]), ?_⟩
  by_cases hz : ss.length = 0
  · exact .inl hz
  · obtain ⟨g, rfl, _, hb, hl, _⟩ := own_cell h (k := 0) (by omega)
    refine .inr ⟨g, 0, rfl, hl, fun k hk => ?_⟩
    obtain ⟨u, h1, h2, h3⟩ := hr k hk
    obtain ⟨g', e, _, _, _, _, _, hcell, _⟩ := own_cell h hk
    simp only [Option.some.injEq, Addr.mk.injEq, and_true] at e
    obtain rfl := e
    exact ⟨u, by rw [Nat.zero_add, hcell, h1], h2, h3⟩
/-- The cells of a list of lists behind the first one. -/
theorem HoldsY.tail_us {w : World} {b off cap : Nat} {l0 : List Int} {ss : List (List Int)} (h : HoldsY w (.slice (some ⟨b, off, none⟩) (ss.length + 1) cap) (l0 :: ss)) :
    ∃ us : List Value, us.length = ss.length ∧ (∀ j u, us[j]? = some u → w.cell? ((⟨b, off + 1, none⟩ : Addr).add j) = some u) ∧ (∀ u ∈ us, u.oneCell' = true) ∧ ∀ k, k < ss.length → ∃ u, us[k]? = some u ∧ HoldsI w u (rowAt ss k) ∧ NilOk u := by
  obtain ⟨a', cap', e, _, _, _, h4⟩ := h
  simp only [Value.slice.injEq] at e
  obtain ⟨e1, -, rfl⟩ := e
  rcases h4 with h4 | ⟨b', off', h5, h6, h7⟩
  · simp at h4
  · rw [← e1] at h5
    simp only [Option.some.injEq, Addr.mk.injEq, and_true] at h5
    obtain ⟨rfl, rfl⟩ := h5
    have h8 : ∀ k, k < ss.length → ∃ u, w.cell? ⟨b, off + 1 + k, none⟩ = some u ∧ HoldsI w u (rowAt ss k) ∧ NilOk u := fun k hk => by
      obtain ⟨u, q1, q2, q3⟩ := h7 (k + 1) (by rw [List.length_cons]; omega)
      rw [show off + (k + 1) = off + 1 + k by omega] at q1
      exact ⟨u, q1, q2, q3⟩
    let us := (List.range ss.length).map fun k => (w.cell? ⟨b, off + 1 + k, none⟩).getD (.bool false)
    have hus : ∀ k, k < ss.length → us[k]? = w.cell? ⟨b, off + 1 + k, none⟩ := fun k hk => by
      obtain ⟨u, q1, _⟩ := h8 k hk
      show ((List.range ss.length).map _)[k]? = _
      rw [List.getElem?_map, List.getElem?_range hk, q1]
      simp [q1]
    have hlen : us.length = ss.length := by simp [us]
    refine ⟨us, hlen, fun j u hu => ?_, fun u hu => ?_, fun k hk => ?_⟩
    · have hj : j < ss.length := by rw [← hlen]; exact (List.getElem?_eq_some_iff.1 hu).1
      rw [hus j hj] at hu
      have ea : (⟨b, off + 1, none⟩ : Addr).add j = ⟨b, off + 1 + j, none⟩ := by
        unfold Addr.add
        split
        · next h => subst h; rfl
        · rfl
      rw [ea]
      exact hu
    · obtain ⟨k, hk, rfl⟩ := List.getElem_of_mem hu
      have hk' : k < ss.length := by rw [← hlen]; exact hk
      have h9 := hus k hk'
      rw [List.getElem?_eq_getElem hk] at h9
      obtain ⟨u, q1, ⟨a, c, q2, _⟩, _⟩ := h8 k hk'
      rw [q1] at h9
      rw [Option.some.inj h9, q2]
      rfl
    · obtain ⟨u, q1, q2⟩ := h8 k hk
      exact ⟨u, (hus k hk).trans q1, q2⟩
/-- With one of its lists empty valid uses are valid; with a plug that there is not they are not. -/
theorem usesOk_less {l0 : List Int} {ss : List (List Int)} (h : usesOk (l0 :: ss) = true) : usesOk ([] :: ss) = true := by
  obtain ⟨h1, h2⟩ := usesOk_iff.1 h
  refine usesOk_iff.2 ⟨h1, fun k hk j hj => ?_⟩
  cases k with
  | zero => exact absurd hj (Nat.not_lt_zero j)
  | succ k => exact h2 (k + 1) hk j hj
theorem usesOk_wrong (ss : List (List Int)) : usesOk ([6] :: ss) = false := by
  cases he : usesOk ([6] :: ss)
  · rfl
  · obtain ⟨h1, h2⟩ := usesOk_iff.1 he
    have := (h2 0 (by simp) 0 (by simp [useA])).1.2
    simp [useA] at this
theorem usesOk_nil : usesOk [] = true := by rfl
theorem HoldsY.none_ {w : World} : HoldsY w (.slice none 0 0) [] := ⟨none, 0, rfl, Nat.le_refl _, by unfold maxLen; omega, fun _ => rfl, .inl rfl⟩
/-- A list of lists behind a first one that was just laid. -/
theorem HoldsY.fresh {w X w6 : World} {ss : List (List Int)} {us : List Value} {l0 : List Int} {cells : Array Value} {m : Nat} {v' : Value} (hX : X = (w.alloc (.cells cells 3)).alloc (.cells #[.slice (some ⟨w.heap.size, 0, none⟩) m m] 27))
    (hm : l0.length = m) (hc : cells = (rowI l0).toArray) (hmm : m ≤ 6) (hr : ∀ k, k < ss.length → ∃ u, us[k]? = some u ∧ HoldsI w u (rowAt ss k) ∧ NilOk u) (ho : w6.ownsRow w.heap.size 27 1 v' (1 + ss.length) ([.slice (some ⟨w.heap.size, 0, none⟩) m m] ++ us)) (hg : X.grownBy w6 (some (w.heap.size + 1))) :
    HoldsY w6 v' (l0 :: ss) ∧ Below w.heap.size w w6 := by
  have hbX : Below w.heap.size w X := by rw [hX]; exact ((Below.refl _ _).alloc (Nat.le_refl _) _).alloc (by simp) _
  have hs : X.heap.size = w.heap.size + 2 := by rw [hX]; simp
  have hb6 : Below w.heap.size w w6 := hbX.trans ((Below.refl _ _).grown hg (by omega) (fun k hk => by cases hk; omega))
  have h0 : X.heap[w.heap.size]? = some (.cells cells 3 (0, 0)) := by
    rw [hX]
    have h1 : (w.alloc (.cells cells 3)).heap[w.heap.size]? = some (.cells cells 3 (0, 0)) := heap_alloc_new _ _
    rw [((Below.refl (w.alloc (.cells cells 3)).heap.size _).alloc (Nat.le_refl _) _).block _ (by simp)]
    exact h1
  have h6 : w6.heap[w.heap.size]? = some (.cells cells 3 (0, 0)) := by rw [hg.block _ (by omega) (by simp)]; exact h0
  refine ⟨HoldsY.of_own (ss := l0 :: ss) (K := w.heap.size) (us := [.slice (some ⟨w.heap.size, 0, none⟩) m m] ++ us) (by rw [List.length_cons, Nat.add_comm]; exact ho) (fun k hk => ?_), hb6⟩
  cases k with
  | zero =>
    refine ⟨_, rfl, ⟨some ⟨w.heap.size, 0, none⟩, m, by rw [show rowAt (l0 :: ss) 0 = l0 from rfl, hm], by rw [show rowAt (l0 :: ss) 0 = l0 from rfl]; omega, by unfold maxLen; omega, .inr ⟨w.heap.size, 0, rfl, free_lt h6, fun j hj => ?_⟩⟩, NilOk.some_⟩
    have hj' : j < l0.length := hj
    rw [Nat.zero_add]
    simp only [World.cell?, h6, hc]
    simp [rowI, hj']
    rfl
  | succ k =>
    obtain ⟨u, q1, q2, q3⟩ := hr k (by rw [List.length_cons] at hk; omega)
    exact ⟨u, q1, q2.keep hb6, q3⟩
/-- All that an append behind a first list that was just laid asks and gives. -/
theorem HoldsY.more_ {w : World} {ub uo cap m : Nat} {k0 l0 : List Int} {st : List (List Int)} {cells : Array Value} (h : HoldsY w (.slice (some ⟨ub, uo, none⟩) (st.length + 1) cap) (k0 :: st)) (hm : l0.length = m) (hc : cells = (rowI l0).toArray) (hmm : m ≤ 6) (a : Addr) (ha : a = ⟨ub, uo + 1, none⟩ ∨ st = []) :
    ∃ us : List Value, us.length = st.length * 1 ∧ (∀ j u, us[j]? = some u → ((w.alloc (.cells cells 3)).alloc (.cells #[.slice (some ⟨w.heap.size, 0, none⟩) m m] 27)).cell? (a.add j) = some u) ∧ (∀ u ∈ us, u.oneCell' = true) ∧
      ((w.alloc (.cells cells 3)).alloc (.cells #[.slice (some ⟨w.heap.size, 0, none⟩) m m] 27)).ownsRow w.heap.size 27 1 (.slice (some ⟨w.heap.size + 1, 0, none⟩) 1 1) 1 [.slice (some ⟨w.heap.size, 0, none⟩) m m] ∧
      w.heap.size ≤ ((w.alloc (.cells cells 3)).alloc (.cells #[.slice (some ⟨w.heap.size, 0, none⟩) m m] 27)).heap.size ∧
      ∀ (v' : Value) (w6 : World), w6.ownsRow w.heap.size 27 1 v' (1 + st.length) ([.slice (some ⟨w.heap.size, 0, none⟩) m m] ++ us) → ((w.alloc (.cells cells 3)).alloc (.cells #[.slice (some ⟨w.heap.size, 0, none⟩) m m] 27)).grownBy w6 (some (w.heap.size + 1)) → HoldsY w6 v' (l0 :: st) ∧ Below w.heap.size w w6 := by
  obtain ⟨us, hul, hcel, hone, hrow⟩ := h.tail_us
  have hbX : Below w.heap.size w ((w.alloc (.cells cells 3)).alloc (.cells #[.slice (some ⟨w.heap.size, 0, none⟩) m m] 27)) := ((Below.refl _ _).alloc (Nat.le_refl _) _).alloc (by simp) _
  refine ⟨us, by rw [hul, Nat.mul_one], fun j u hu => ?_, hone, ?_, hbX.size, fun v' w6 ho hg => HoldsY.fresh (w := w) (w6 := w6) (ss := st) (us := us) (l0 := l0) (v' := v') (m := m) rfl hm hc hmm hrow ho hg⟩
  · rcases ha with rfl | rfl
    · have h1 := hcel j u hu
      have ea : (⟨ub, uo + 1, none⟩ : Addr).add j = ⟨ub, uo + 1 + j, none⟩ := by
        unfold Addr.add
        split
        · next h => subst h; rfl
        · rfl
      rw [ea] at h1 ⊢
      exact (hbX.cell (p := ⟨ub, uo + 1 + j, none⟩) (World.block_lt_of_cell? _ _ h1)).trans h1
    · obtain rfl := List.eq_nil_of_length_eq_zero hul
      simp at hu
  · have h1 := heap_alloc_new (w.alloc (.cells cells 3)) (.cells #[.slice (some ⟨w.heap.size, 0, none⟩) m m] 27)
    rw [show (w.alloc (.cells cells 3)).heap.size = w.heap.size + 1 by simp] at h1
    exact ⟨rfl, .inr ⟨w.heap.size + 1, 1, #[.slice (some ⟨w.heap.size, 0, none⟩) m m], rfl, by omega, h1, Nat.le_refl _, by unfold maxLen; omega, rfl, rfl⟩⟩
end Go.Proofs.Ythlcjojhmhoadaa
