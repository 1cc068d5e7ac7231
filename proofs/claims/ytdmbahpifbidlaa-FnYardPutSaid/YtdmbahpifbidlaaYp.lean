/-
  A row of a yard that the call made, written and laid into its place.
-/
import Derived.Test.YtdmbahpifbidlaaYo
namespace Go.Proofs.Ytdmbahpifbidlaa
open Go.RowKit
set_option linter.unusedVariables false

/-- A row of such a yard that was written, laid into its place. -/
theorem OwnY.put {K : Nat} {w4 X w6 : World} {g cp n i m g6 c6 : Nat} {us : List Value} {ss : List (List Int)} {ui : Value} {l : List Int} (h : OwnY K w4 (.slice (some ⟨g, 0, none⟩) n cp) us n (rowAt ss)) (hn : ss.length = n) (hi : i < n) (hu : us[i]? = some ui)
    (hX : Below w4.heap.size w4 X) (ho : w6.ownsRow K 3 1 (.slice (some ⟨g6, 0, none⟩) m c6) m (rowI l)) (hm : l.length = m) (hs : X.heap.size ≤ w6.heap.size) (hk : ∀ j, j < X.heap.size → ui.ownBlock ≠ some j → w6.heap[j]? = X.heap[j]?) (hg : ui.ownBlock = some g6 ∨ g6 = X.heap.size) :
    NewY K (w6.setCell ⟨g, i, none⟩ (.slice (some ⟨g6, 0, none⟩) m c6)) (.slice (some ⟨g, 0, none⟩) n cp) (ss.set i l) := by
  subst hn hm
  obtain ⟨gg, e, _, hKg, hgl, hc1, hc2, hcell, _⟩ := own_cell h.out hi
  simp only [Option.some.injEq, Addr.mk.injEq, and_true] at e
  subst e
  have hXs := hX.size
  obtain ⟨ui', hui, hoi, hoff⟩ := h.row i hi
  rw [hu] at hui
  obtain rfl := Option.some.inj hui
  have hoffg : ui.ownBlock ≠ some g := fun e => hoff g e rfl
  have hg6 : g6 ≠ g := by
    rcases hg with hg | hg
    · intro e; exact hoffg (by rw [hg, e])
    · omega
  have hgw6 : w6.heap[g]? = w4.heap[g]? := by rw [hk g (by omega) hoffg, hX.block g hgl]
  obtain ⟨cur, hcur⟩ : ∃ cur, w4.heap[g]? = some (.cells cur 28 (0, 0)) := by
    rcases h.out.2 with ⟨e, _⟩ | ⟨g', cap', cur, hv, hb, hg', _⟩
    · cases e
    · simp only [Value.slice.injEq, Option.some.injEq, Addr.mk.injEq] at hv
      obtain ⟨⟨rfl, _⟩, _⟩ := hv
      exact ⟨cur, hg'⟩
  have far : ∀ k, k ≠ g → (w6.setCell ⟨g, i, none⟩ (.slice (some ⟨g6, 0, none⟩) l.length c6)).heap[k]? = w6.heap[k]? := fun k hk' => Below.heap_setCell _ _ _ _ hk'
  have hsz : (w6.setCell ⟨g, i, none⟩ (.slice (some ⟨g6, 0, none⟩) l.length c6)).heap.size = w6.heap.size := by simp [World.setCell]
  have hgb := Joins.block_setCell (i := i) (hgw6.trans hcur) (.slice (some ⟨g6, 0, none⟩) l.length c6)
  refine ⟨some ⟨g, 0, none⟩, cp, by rw [List.length_set], by rw [List.length_set]; exact hc1, hc2, (fun e => by cases e), .inr ⟨g, 0, rfl, hKg, by rw [hsz]; omega, fun k hk' => ?_⟩⟩
  rw [List.length_set] at hk'
  by_cases e : k = i
  · subst e
    rw [rowAt_set_self hk']
    refine ⟨.slice (some ⟨g6, 0, none⟩) l.length c6, ?_, ?_, NilOk.some_⟩
    · rw [Nat.zero_add]
      have h1 : cur[k]? = some ui := by
        rw [← hu, ← hcell]
        simp [World.cell?, hcur]
      obtain ⟨hlt, _⟩ := Array.getElem?_eq_some_iff.1 h1
      simp only [World.cell?, hgb]
      rw [Array.getElem?_setIfInBounds, if_pos rfl, if_pos hlt]
      rfl
    · have hn6 := NewI.of_own ho
      obtain ⟨a, c, q1, q2, q3, q4⟩ := hn6
      refine ⟨a, c, q1, q2, q3, q4.imp id fun ⟨b, off, q5, q6, q7, q8⟩ => ⟨b, off, q5, q6, by rw [hsz]; exact q7, fun j hj => ?_⟩⟩
      have hbg : b = g6 := by
        simp only [Value.slice.injEq] at q1
        have := q1.1.trans q5
        simp only [Option.some.injEq, Addr.mk.injEq] at this
        exact this.1.symm
      rw [World.cell?_of_block (w := w6) (far b (by omega))]
      exact q8 j hj
  · rw [rowAt_set_ne (Ne.symm e)]
    obtain ⟨uk, huk, hok, hoffk⟩ := h.row k hk'
    refine ⟨uk, ?_, ?_, NilOk.of_own hok⟩
    · obtain ⟨g', e', _, _, _, _, _, hck, _⟩ := own_cell h.out hk'
      simp only [Option.some.injEq, Addr.mk.injEq, and_true] at e'
      subst e'
      have h1 : cur[k]? = some uk := by
        rw [← huk, ← hck]
        simp [World.cell?, hcur]
      rw [Nat.zero_add]
      simp only [World.cell?, hgb]
      rw [Array.getElem?_setIfInBounds, if_neg (Ne.symm e)]
      simpa using h1
    · have hne : ∀ b, uk.ownBlock = some b → ui.ownBlock ≠ some b := by
        intro b hb hc
        have hp := List.pairwise_iff_getElem.1 h.apart
        have hl := h.len
        have e1 : us[k]'(by omega) = uk := by
          rw [List.getElem?_eq_getElem (by omega)] at huk; exact Option.some.inj huk
        have e2 : us[i]'(by omega) = ui := by
          rw [List.getElem?_eq_getElem (by omega)] at hu; exact Option.some.inj hu
        rcases Nat.lt_or_gt_of_ne e with hlt | hlt
        · exact hp k i (by omega) (by omega) hlt b (by rw [e1]; exact hb) (by rw [e2]; exact hc)
        · exact hp i k (by omega) (by omega) hlt b (by rw [e2]; exact hc) (by rw [e1]; exact hb)
      refine NewI.of_own (e := 3) ⟨hok.1, ?_⟩
      rcases hok.2 with q | ⟨b, capk, curk, rfl, q1, q2, q3⟩
      · exact .inl q
      · have hbl := free_lt q2
        refine .inr ⟨b, capk, curk, rfl, q1, ?_, q3⟩
        rw [far b (fun e => hoffk b rfl (by rw [e]; rfl)), hk b (by omega) (hne b rfl), hX.block b hbl]
        exact q2
theorem own_cut {w : World} {base m c : Nat} {e : TypeId} {a : Option Addr} {l : List Int} (h : w.ownsRow base e 1 (.slice a (m + 1) c) (m + 1) (rowI l)) : w.ownsRow base e 1 (.slice a m c) m (rowI (l.take m)) := by
  have hl : l.length = m + 1 := by have := h.1; rw [rowI_len] at this; omega
  rcases h.2 with ⟨e, _⟩ | ⟨g, cap, cur, hv, q1, q2, q3, q4, q5, q6⟩
  · simp only [Value.slice.injEq] at e; omega
  · simp only [Value.slice.injEq, true_and] at hv
    obtain ⟨rfl, rfl⟩ := hv
    refine ⟨by rw [rowI_len, List.length_take]; omega, .inr ⟨g, c, cur, rfl, q1, q2, by omega, q4, q5, ?_⟩⟩
    have : rowI (l.take m) = (rowI l).take m := by unfold rowI; rw [List.map_take]
    rw [this, ← q6, List.take_take]
    congr 1
    omega
theorem NewY.setLow {K N : Nat} {w : World} {v : Value} {ss : List (List Int)} (h : NewY K w v ss) (hN : N < K) (o : Nat) (x : Value) : NewY K (w.setCell ⟨N, o, none⟩ x) v ss :=
  h.most (MostB.set_ (MostB.refl N w) o x) hN
theorem NewY.form {K : Nat} {w : World} {v : Value} {ss : List (List Int)} (h : NewY K w v ss) : ∃ a c, v = .slice a ss.length c := by
  obtain ⟨a, c, h, _⟩ := h
  exact ⟨a, c, h⟩
theorem BoxY.at_ {B : Nat} {w w' : World} {h : Int} {v : Value} (hb : BoxY B w h v) (hk : w'.heap[B]? = w.heap[B]?) : BoxY B w' h v := by
  unfold BoxY at hb ⊢
  rw [hk]; exact hb
end Go.Proofs.Ytdmbahpifbidlaa
