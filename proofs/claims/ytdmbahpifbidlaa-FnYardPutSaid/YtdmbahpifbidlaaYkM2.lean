/-
  The draw of a yard: two more rows at once; a row in the first one's place.
-/
import Derived.Test.YtdmbahpifbidlaaYkMath
namespace Go.Proofs.Ytdmbahpifbidlaa
open Go.RowKit
set_option linter.unusedVariables false

theorem NewY.of_rows {K : Nat} {w : World} {v : Value} {us : List Value} {ss : List (List Int)} (h : w.ownsRow K 28 1 v ss.length us) (hr : ∀ k, k < ss.length → ∃ u, us[k]? = some u ∧ NewI K w u (rowAt ss k) ∧ NilOk u) : NewY K w v ss := by
  obtain ⟨a, c, rfl⟩ := own_slice h
  have hnil := NilOk.of_own h
  have hcc : ss.length ≤ c ∧ c ≤ maxLen := by
    rcases h.2 with ⟨e, _⟩ | ⟨g, cap', cur, hv, hb, hg, hc, hm, _⟩
    · simp only [Value.slice.injEq] at e
      unfold maxLen; omega
    · simp only [Value.slice.injEq] at hv
      obtain ⟨_, _, rfl⟩ := hv
      exact ⟨hc, hm⟩
  refine ⟨a, c, rfl, hcc.1, hcc.2, fun e => hnil _ _ (by rw [e]), ?_⟩
  by_cases hz : ss.length = 0
  · exact .inl hz
  · obtain ⟨g, rfl, _, hb, hl, _⟩ := own_cell h (k := 0) (by omega)
    refine .inr ⟨g, 0, rfl, hb, hl, fun k hk => ?_⟩
    obtain ⟨u, h1, h2, h3⟩ := hr k hk
    obtain ⟨g', e, _, _, _, _, _, hcell, _⟩ := own_cell h hk
    simp only [Option.some.injEq, Addr.mk.injEq, and_true] at e
    obtain rfl := e
    exact ⟨u, by rw [Nat.zero_add, hcell, h1], h2, h3⟩
theorem newI_one {K G : Nat} {w : World} {x : Int} {T : TypeId} {fr : Nat × Nat} (hK : K ≤ G) (h : w.heap[G]? = some (.cells #[.int .i64 x] T fr)) : NewI K w (.slice (some ⟨G, 0, none⟩) 1 1) [x] :=
  ⟨some ⟨G, 0, none⟩, 1, rfl, Nat.le_refl _, by unfold maxLen; omega, .inr ⟨G, 0, rfl, hK, free_lt h, fun k hk => by
    have : k = 0 := by simp at hk; omega
    subst this
    simp [World.cell?, h]⟩⟩
theorem YdSt.two {base B p : Nat} {w w5 X w9 : World} {h : Int} {u : Value} {us : List Value} {ss : List (List Int)} {g c : Nat} (st : YdSt base B p w w5 h u us ss)
    (hX : X = ((w5.alloc (.cells #[.int .i64 500] 3)).alloc (.cells #[.int .i64 500] 3)).alloc (.cells #[.slice (some ⟨w5.heap.size, 0, none⟩) 1 1, .slice (some ⟨w5.heap.size + 1, 0, none⟩) 1 1] 28))
    (ho : w9.ownsRow (w.heap.size + 2) 28 1 (.slice (some ⟨g, 0, none⟩) (ss.length + 2) c) (ss.length + 2) (us ++ [.slice (some ⟨w5.heap.size, 0, none⟩) 1 1, .slice (some ⟨w5.heap.size + 1, 0, none⟩) 1 1])) (hg : X.grownBy w9 u.ownBlock) :
    YdEnd base B p w (w9.setCell ⟨w.heap.size + 1, 1, none⟩ (.slice (some ⟨g, 0, none⟩) (ss.length + 2) c)) h (.slice (some ⟨g, 0, none⟩) (ss.length + 2) c) (ss ++ [[500], [500]]) := by
  have hl := st.lt
  have hbx := st.box.lt
  have hbs := st.rdr.1
  have z1 : (w5.alloc (.cells #[.int .i64 500] 3)).heap.size = w5.heap.size + 1 := by simp
  have hbX : Below w5.heap.size w5 X := by rw [hX]; exact (((Below.refl _ _).alloc (Nat.le_refl _) _).alloc (by simp) _).alloc (by simp; omega) _
  have hXs : X.heap.size = w5.heap.size + 3 := by rw [hX]; simp
  have sX := st.keep hbX
  have h6 : Below (w.heap.size + 2) X w9 := own_below hg (by omega) fun k hk => (own_lt st.own.out k hk).1
  have blk : ∀ j, j < X.heap.size → u.ownBlock ≠ some j → w9.heap[j]? = X.heap[j]? := fun j hj hne => hg.block j hj (fun e => hne e.symm)
  have hu : ∀ b, u.ownBlock = some b → b < w5.heap.size := fun b hb => (own_lt st.own.out b hb).2
  have g0 : w9.heap[w5.heap.size]? = some (.cells #[.int .i64 500] 3 (0, 0)) := by
    rw [blk _ (by omega) (fun e => by have := hu _ e; omega), hX]
    exact new3_0 _ _ _ _
  have g1 : w9.heap[w5.heap.size + 1]? = some (.cells #[.int .i64 500] 3 (0, 0)) := by
    rw [blk _ (by omega) (fun e => by have := hu _ e; omega), hX]
    exact new3_1 _ _ _ _
  have e2 : (ss ++ [[500], [500]]).length = ss.length + 2 := by simp
  have hlu := st.own.len
  have hn : NewY (w.heap.size + 2) w9 (.slice (some ⟨g, 0, none⟩) (ss.length + 2) c) (ss ++ [[500], [500]]) := by
    refine NewY.of_rows (by rw [e2]; exact ho) fun k hk => ?_
    rw [e2] at hk
    rcases (by omega : k < ss.length ∨ k = ss.length ∨ k = ss.length + 1) with e | e | e
    · obtain ⟨x, q1, q2, q3⟩ := st.own.row k e
      have er : rowAt (ss ++ [[500], [500]]) k = rowAt ss k := by
        rw [rowAt_get (by rw [e2]; omega), rowAt_get e, List.getElem_append_left e]
      rw [er]
      refine ⟨x, by rw [List.getElem?_append_left (by omega)]; exact q1, ?_, NilOk.of_own q2⟩
      refine NewI.of_own (e := 3) ⟨q2.1, ?_⟩
      rcases q2.2 with q | ⟨b, cap, cur, rfl, r1, r2, r3⟩
      · exact .inl q
      · have hbl := free_lt r2
        refine .inr ⟨b, cap, cur, rfl, r1, ?_, r3⟩
        rw [blk b (by omega) (q3 b rfl), hbX.block b hbl]
        exact r2
    · subst e
      refine ⟨_, by rw [List.getElem?_append_right (by omega), hlu, Nat.sub_self]; rfl, ?_, NilOk.some_⟩
      have er : rowAt (ss ++ [[500], [500]]) ss.length = [500] := by rw [rowAt_get (by rw [e2]; omega)]; simp
      rw [er]
      exact newI_one (by omega) g0
    · subst e
      refine ⟨_, by rw [List.getElem?_append_right (by omega), hlu, Nat.add_sub_cancel_left]; rfl, ?_, NilOk.some_⟩
      have er : rowAt (ss ++ [[500], [500]]) (ss.length + 1) = [500] := by rw [rowAt_get (by rw [e2]; omega)]; simp
      rw [er]
      exact newI_one (by omega) g1
  refine ⟨(sX.rdr.keepK h6 (by omega)).set_other (by omega) (by omega) _ _, hl, ?_, ?_, (hn.setLow (by omega) _ _).from_ (by omega), (sX.most.below_ (h6.mono (by omega))).below_ ((Below.refl _ _).setCell (p := ⟨w.heap.size + 1, 1, none⟩) (Nat.le_add_right _ _) _)⟩
  · have : BoxY w.heap.size w9 0 (.slice none 0 0) := sX.res.at_ (h6.block _ (by omega))
    exact this.other (by omega) _ _
  · have : BoxY (w.heap.size + 1) w9 h u := sX.box.at_ (h6.block _ (by omega))
    exact this.set1 _
/-- The first row replaced by a new one. -/
theorem YdSt.first {base B p : Nat} {w w5 X w6 : World} {h : Int} {us : List Value} {ss : List (List Int)} {g uc g6 m c6 : Nat} {l : List Int} {u0 : Value} (st : YdSt base B p w w5 h (.slice (some ⟨g, 0, none⟩) ss.length uc) us ss) (hi : 0 < ss.length) (hu : us[0]? = some u0) (hX : Below w5.heap.size w5 X) (h56 : Below X.heap.size X w6)
    (ho : w6.ownsRow (w.heap.size + 2) 3 1 (.slice (some ⟨g6, 0, none⟩) m c6) m (rowI l)) (hm : l.length = m) (hg : g6 = X.heap.size) :
    YdEnd base B p w (w6.setCell ⟨g, 0, none⟩ (.slice (some ⟨g6, 0, none⟩) m c6)) h (.slice (some ⟨g, 0, none⟩) ss.length uc) (ss.set 0 l) := by
  have hl := st.lt
  have hbx := st.box.lt
  have hbs := st.rdr.1
  obtain ⟨g', e, _, hKg, hgl, _⟩ := own_cell st.own.out hi
  simp only [Option.some.injEq, Addr.mk.injEq, and_true] at e
  obtain rfl := e
  have s6 := st.keep (hX.trans (h56.mono hX.size))
  have hn := st.own.put rfl hi hu hX ho hm h56.size (fun j hj _ => h56.block j hj) (.inr hg)
  exact ⟨s6.rdr.set_other (by omega) (by omega) _ _, hl, s6.res.other (by omega) _ _, s6.box.other (by omega) _ _, hn.from_ (by omega), s6.most.below_ ((Below.refl _ _).setCell (p := ⟨g, 0, none⟩) (by show w.heap.size ≤ g; omega) _)⟩
theorem YdEnd.drawn {base B p : Nat} {w wr : World} {h : Int} {u : Value} {ss : List (List Int)} (s : YdEnd base B p w wr h u ss) : YdEnd base B p w wr.drew h u ss := by
  have hb := (Below.refl wr.heap.size wr).drew
  exact ⟨s.rdr.keepK hb s.rdr.2.1, s.lt, s.res.keep hb, s.box.keep hb, s.new.keep hb, s.most.below_ ((Below.refl _ _).drew)⟩
theorem own_three (w : World) {K : Nat} (hK : K ≤ w.heap.size) : (w.alloc (.cells #[.int .i64 0, .int .i64 0, .int .i64 0] 3)).ownsRow K 3 1 (.slice (some ⟨w.heap.size, 0, none⟩) 3 3) 3 (rowI [0, 0, 0]) :=
  ⟨by simp [rowI], .inr ⟨w.heap.size, 3, #[.int .i64 0, .int .i64 0, .int .i64 0], rfl, hK, heap_alloc_new _ _, Nat.le_refl _, by unfold maxLen; omega, by simp, by simp [rowI]⟩⟩
theorem flat_set0 (ss : List (List Int)) (l : List Int) : (ss.set 0 l).flatten.length ≤ ss.flatten.length + l.length := by
  cases ss with
  | nil => simp
  | cons a t => rw [List.set_cons_zero, List.flatten_cons, List.flatten_cons, List.length_append, List.length_append]; omega
/-- The last way: three empty places in the first stack. -/
theorem YdSt.zeros {base B p : Nat} {w w5 : World} {h : Int} {us : List Value} {ss : List (List Int)} {g uc : Nat} {u0 : Value} (st : YdSt base B p w w5 h (.slice (some ⟨g, 0, none⟩) ss.length uc) us ss) (hi : 0 < ss.length) (hu : us[0]? = some u0) (hgl : g < w5.heap.size) :
    YdEnd base B p w ((w5.setCell ⟨g, 0, none⟩ (.slice (some ⟨w5.heap.size, 0, none⟩) 3 3)).alloc (.cells #[.int .i64 0, .int .i64 0, .int .i64 0] 3)).drew h (.slice (some ⟨g, 0, none⟩) ss.length uc) (ss.set 0 [0, 0, 0]) := by
  have e := st.first hi hu (Below.refl _ _) ((Below.refl _ _).alloc (Nat.le_refl _) _) (own_three w5 (by have := st.box.lt; omega)) rfl rfl
  rw [World.setCell_alloc_past _ _ _ _ hgl] at e
  exact e.drawn
end Go.Proofs.Ytdmbahpifbidlaa
