/-
  A yard that a draw builds row by row, beside a reader that writes its own block.
  The draw of a yard: two more rows at once; a row in the first one's place.
  The draw of a yard.
-/
import Derived.Test.YtlcfldmiibjboabGBase
import Derived.Test.YtlcfldmiibjboabGYh
import Derived.Test.YtlcfldmiibjboabYsT
import Derived.Deep.AppendLies
import Derived.Deep.OwnRows
import Derived.Deep.RegionLaw
import Derived.Deep.CutRange
import Derived.Deep.CutBlock
namespace Go.Proofs.Ytlcfldmiibjboab
open Go.RowKit
set_option linter.unusedVariables false

theorem rowAt_app_lt {ss : List (List Int)} {l : List Int} {k : Nat} (h : k < ss.length) : rowAt (ss ++ [l]) k = rowAt ss k := by
  rw [rowAt_get (by simp; omega), rowAt_get h, List.getElem_append_left h]
theorem rowAt_app_eq (ss : List (List Int)) (l : List Int) : rowAt (ss ++ [l]) ss.length = l := by
  rw [rowAt_get (by simp)]
  simp
theorem OwnY.congr {K : Nat} {w : World} {v : Value} {us : List Value} {n : Nat} {R R' : Nat → List Int} (h : OwnY K w v us n R) (hR : ∀ k, k < n → R k = R' k) : OwnY K w v us n R' :=
  ⟨h.out, h.len, fun k hk => by
    obtain ⟨u, h1, h2, h3⟩ := h.row k hk
    exact ⟨u, h1, by rw [← hR k hk]; exact h2, h3⟩, h.apart⟩
theorem OwnY.pushB {K : Nat} {wr w5 X w6 : World} {v : Value} {us : List Value} {k : Nat} {R : Nat → List Int} {u5 : Value} {g cap : Nat} (h : OwnY K wr v us k R) (hK : K ≤ wr.heap.size) (s1 : wr.heap.size ≤ w5.heap.size) (hb5 : ∀ j, K ≤ j → j < wr.heap.size → w5.heap[j]? = wr.heap[j]?) (hbX : Below w5.heap.size w5 X)
    (hu5 : w5.ownsRow wr.heap.size 3 1 u5 (R k).length (rowI (R k))) (ho6 : w6.ownsRow K 25 1 (.slice (some ⟨g, 0, none⟩) (k + 1) cap) (k + 1) (us ++ [u5]))
    (hblk : ∀ j, j < X.heap.size → v.ownBlock ≠ some j → w6.heap[j]? = X.heap[j]?) (hg : v.ownBlock = some g ∨ g = X.heap.size) : OwnY K w6 (.slice (some ⟨g, 0, none⟩) (k + 1) cap) (us ++ [u5]) (k + 1) R := by
  have s2 := hbX.size
  have hvlt : ∀ b, v.ownBlock = some b → b < wr.heap.size := fun b hb => (own_lt h.out b hb).2
  have hold : ∀ j, K ≤ j → j < wr.heap.size → v.ownBlock ≠ some j → w6.heap[j]? = wr.heap[j]? := fun j hK' hj hne => by
    rw [hblk j (by omega) hne, hbX.block j (by omega), hb5 j hK' hj]
  have gne : ∀ b, b < X.heap.size → v.ownBlock ≠ some b → g ≠ b := fun b hb hne e => by
    rcases hg with hg | hg
    · exact hne (by rw [hg, e])
    · omega
  refine ⟨ho6, by rw [List.length_append, h.len]; rfl, fun j hj => ?_, ?_⟩
  · by_cases e : j = k
    · subst e
      refine ⟨u5, ?_, ?_, fun b hb => ?_⟩
      · rw [List.getElem?_append_right (by rw [h.len]; exact Nat.le_refl _), h.len, Nat.sub_self]; rfl
      · refine own_from (base := wr.heap.size) ?_ hK
        refine own_keep hu5 fun b hb hbl => ?_
        rw [hblk b (by omega) (fun e => by have := hvlt b e; omega), hbX.block b hbl]
      · have hbl := own_lt hu5 b hb
        intro e2
        have : g = b := by simpa [Value.ownBlock] using e2
        exact gne b (by omega) (fun e3 => by have := hvlt b e3; omega) this
    · obtain ⟨u, h1, h2, h3⟩ := h.row j (by omega)
      refine ⟨u, ?_, ?_, fun b hb => ?_⟩
      · rw [List.getElem?_append_left (by rw [h.len]; omega)]; exact h1
      · refine ⟨h2.1, ?_⟩
        rcases h2.2 with q | ⟨g', cap', cur, rfl, q1, q2, q3⟩
        · exact .inl q
        · refine .inr ⟨g', cap', cur, rfl, q1, ?_, q3⟩
          rw [hold g' q1 (free_lt q2) (h3 g' rfl)]; exact q2
      · have hbl := own_lt h2 b hb
        intro e2
        have : g = b := by simpa [Value.ownBlock] using e2
        exact gne b (by omega) (h3 b hb) this
  · refine List.pairwise_append.2 ⟨h.apart, List.pairwise_singleton _ _, fun x hx y hy b hb => ?_⟩
    rw [List.mem_singleton] at hy
    subst hy
    intro hc
    have h5 := own_lt hu5 b hc
    obtain ⟨j, hj, rfl⟩ := List.getElem_of_mem hx
    obtain ⟨u, h1, h2, _⟩ := h.row j (by rw [← h.len]; exact hj)
    rw [List.getElem?_eq_getElem hj] at h1
    obtain rfl := Option.some.inj h1
    have := own_lt h2 b hb
    omega

/-- A draw's yard under way: the reader, the result's block, the yard's block, its rows. -/
structure YdSt (base B p : Nat) (w wr : World) (h : Int) (u : Value) (us : List Value) (ss : List (List Int)) : Prop where
  rdr : Rdr base B p wr
  lt : B < w.heap.size
  res : BoxY w.heap.size wr 0 (.slice none 0 0)
  box : BoxY (w.heap.size + 1) wr h u
  own : OwnY (w.heap.size + 2) wr u us ss.length (rowAt ss)
  most : MostB B w wr
theorem YdSt.form {base B p : Nat} {w wr : World} {h : Int} {u : Value} {us : List Value} {ss : List (List Int)} (s : YdSt base B p w wr h u us ss) : ∃ a c, u = .slice a ss.length c := own_slice s.own.out
theorem YdSt.base_ {base B p : Nat} {w wr : World} {h : Int} {u : Value} {us : List Value} {ss : List (List Int)} (s : YdSt base B p w wr h u us ss) : base ≤ B := s.rdr.1
theorem YdSt.far {base B p q : Nat} {w wr wx : World} {h : Int} {u : Value} {us : List Value} {ss : List (List Int)} (s : YdSt base B p w wr h u us ss) (hm : MostB B wr wx) (hr : Rdr base B q wx) : YdSt base B q w wx h u us ss := by
  have hl := s.lt
  have hb := s.box.lt
  have h0 := s.res.lt
  exact ⟨hr, hl, s.res.at_ (hm.block _ (by omega) h0), s.box.at_ (hm.block _ (by omega) hb), s.own.far fun k hk hkl => hm.block k (by omega) hkl, s.most.trans hm⟩
theorem YdSt.keep {base B p : Nat} {w wr wx : World} {h : Int} {u : Value} {us : List Value} {ss : List (List Int)} (s : YdSt base B p w wr h u us ss) (hb : Below wr.heap.size wr wx) : YdSt base B p w wx h u us ss :=
  s.far ((MostB.refl B wr).below_ hb) (s.rdr.keepK hb s.rdr.2.1)
/-- One more row. -/
theorem YdSt.row {base B p q : Nat} {w wr w5 w6 : World} {h : Int} {u s : Value} {us : List Value} {ss : List (List Int)} {l : List Int} {o : Obj} {g cap : Nat} (st : YdSt base B p w wr h u us ss) (hm : MostB B wr w5) (hr : Rdr base B q w5)
    (hs : w5.ownsRow wr.heap.size 3 1 s l.length (rowI l)) (ho6 : w6.ownsRow (w.heap.size + 2) 25 1 (.slice (some ⟨g, 0, none⟩) (ss.length + 1) cap) (ss.length + 1) (us ++ [s]))
    (hgrow : (w5.alloc o).grownBy w6 u.ownBlock) (hg : u.ownBlock = some g ∨ g = (w5.alloc o).heap.size) :
    YdSt base B q w (w6.setCell ⟨w.heap.size + 1, 1, none⟩ (.slice (some ⟨g, 0, none⟩) (ss.length + 1) cap)) h (.slice (some ⟨g, 0, none⟩) (ss ++ [l]).length cap) (us ++ [s]) (ss ++ [l]) := by
  have hl := st.lt
  have hb := st.box.lt
  have h0 := st.res.lt
  have hbs := st.rdr.1
  have s5 := st.far hm hr
  have hX : Below w5.heap.size w5 (w5.alloc o) := (Below.refl _ _).alloc (Nat.le_refl _) _
  have sX := s5.keep hX
  have hsz : w.heap.size + 2 ≤ (w5.alloc o).heap.size := by have := sX.box.lt; omega
  have h6 : Below (w.heap.size + 2) (w5.alloc o) w6 := own_below hgrow hsz fun k hk => (own_lt st.own.out k hk).1
  have e : (ss ++ [l]).length = ss.length + 1 := by simp
  have hpush : OwnY (w.heap.size + 2) w6 (.slice (some ⟨g, 0, none⟩) (ss.length + 1) cap) (us ++ [s]) (ss.length + 1) (rowAt (ss ++ [l])) :=
    (st.own.congr fun k hk => (rowAt_app_lt hk).symm).pushB (by omega) hm.size (fun j hj hjl => hm.block j (by omega) hjl) hX (by rw [rowAt_app_eq]; exact hs) ho6 (fun j hj hne => hgrow.block j hj (fun e => hne e.symm)) hg
  refine ⟨?_, hl, ?_, ?_, ?_, ?_⟩
  · exact (sX.rdr.keepK h6 (by omega)).set_other (by omega) (by omega) _ _
  · have : BoxY w.heap.size w6 0 (.slice none 0 0) := sX.res.at_ (h6.block _ (by omega))
    exact this.other (by omega) _ _
  · have : BoxY (w.heap.size + 1) w6 h u := sX.box.at_ (h6.block _ (by omega))
    rw [e]
    exact this.set1 _
  · rw [e]
    exact hpush.setLow (by omega) _ _
  · exact ((sX.most.below_ (h6.mono (by omega)))).below_ ((Below.refl _ _).setCell (p := ⟨w.heap.size + 1, 1, none⟩) (Nat.le_add_right _ _) _)
theorem flat_app (ss : List (List Int)) (l : List Int) : (ss ++ [l]).flatten.length = ss.flatten.length + l.length := by simp
/-- A draw's yard as it will be told. -/
structure YdEnd (base B p : Nat) (w wr : World) (h : Int) (u : Value) (ss : List (List Int)) : Prop where
  rdr : Rdr base B p wr
  lt : B < w.heap.size
  res : BoxY w.heap.size wr 0 (.slice none 0 0)
  box : BoxY (w.heap.size + 1) wr h u
  new : NewY (w.heap.size + 1) wr u ss
  most : MostB B w wr
theorem YdSt.end_ {base B p : Nat} {w wr : World} {h : Int} {u : Value} {us : List Value} {ss : List (List Int)} (s : YdSt base B p w wr h u us ss) : YdEnd base B p w wr h u ss :=
  ⟨s.rdr, s.lt, s.res, s.box, s.own.newY.from_ (by omega), s.most⟩
theorem YdEnd.high {base B p : Nat} {w wr : World} {h h' : Int} {u : Value} {us : List Value} {ss : List (List Int)} (s : YdSt base B p w wr h u us ss) : YdEnd base B p w (wr.setCell ⟨w.heap.size + 1, 0, none⟩ (.int .i64 h')) h' u ss :=
  have hl := s.lt
  have hb := s.rdr.1
  ⟨s.rdr.set_other (by omega) (by omega) _ _, s.lt, s.res.other (by omega) _ _, s.box.set0 _, (s.own.setLow (by omega) _ _).newY.from_ (by omega), s.most.below_ ((Below.refl _ _).setCell (p := ⟨w.heap.size + 1, 0, none⟩) (Nat.le_add_right _ _) _)⟩
theorem YdEnd.none_ {base B p : Nat} {w wr : World} {h : Int} {u : Value} {us : List Value} {ss : List (List Int)} (s : YdSt base B p w wr h u us ss) {v' : Value} (hv : NewY (w.heap.size + 1) (wr.setCell ⟨w.heap.size + 1, 1, none⟩ v') v' []) : YdEnd base B p w (wr.setCell ⟨w.heap.size + 1, 1, none⟩ v') h v' [] :=
  have hl := s.lt
  have hb := s.rdr.1
  ⟨s.rdr.set_other (by omega) (by omega) _ _, s.lt, s.res.other (by omega) _ _, s.box.set1 _, hv, s.most.below_ ((Below.refl _ _).setCell (p := ⟨w.heap.size + 1, 1, none⟩) (Nat.le_add_right _ _) _)⟩
/-- The result laid. -/
theorem YdEnd.told {base B p : Nat} {w wr : World} {h : Int} {u : Value} {ss : List (List Int)} (s : YdEnd base B p w wr h u ss) :
    NewY w.heap.size ((wr.setCell ⟨w.heap.size, 0, none⟩ (.int .i64 h)).setCell ⟨w.heap.size, 1, none⟩ u) u ss ∧ Rdr base B p ((wr.setCell ⟨w.heap.size, 0, none⟩ (.int .i64 h)).setCell ⟨w.heap.size, 1, none⟩ u) ∧ MostB B w ((wr.setCell ⟨w.heap.size, 0, none⟩ (.int .i64 h)).setCell ⟨w.heap.size, 1, none⟩ u) := by
  have hl := s.lt
  have hb := s.rdr.1
  exact ⟨((s.new.setLow (by omega) _ _).setLow (by omega) _ _).from_ (by omega), (s.rdr.set_other (by omega) (by omega) _ _).set_other (by omega) (by omega) _ _,
    (s.most.below_ ((Below.refl _ _).setCell (p := ⟨w.heap.size, 0, none⟩) (Nat.le_refl _) _)).below_ ((Below.refl _ _).setCell (p := ⟨w.heap.size, 1, none⟩) (Nat.le_refl _) _)⟩
/-- What a draw of a yard gives. -/
def DrewYard (base B p : Nat) (w : World) (e : Ending) (w' : World) : Prop :=
  ∃ (h : Int) (u : Value) (ss : List (List Int)) (q : Nat), q ≤ p + 60 ∧ ss.length ≤ 7 ∧ ss.flatten.length ≤ 100 ∧ e = .returned (.agg #[.int .i64 h, u]) ∧ NewY w.heap.size w' u ss ∧ Rdr base B q w' ∧ MostB B w w'
end Go.Proofs.Ytlcfldmiibjboab
namespace Go.Proofs.Ytlcfldmiibjboab
open Go.RowKit
set_option linter.unusedVariables false

theorem NewY.of_rows {K : Nat} {w : World} {v : Value} {us : List Value} {ss : List (List Int)} (h : w.ownsRow K 25 1 v ss.length us) (hr : ∀ k, k < ss.length → ∃ u, us[k]? = some u ∧ NewI K w u (rowAt ss k) ∧ NilOk u) : NewY K w v ss := by
  obtain ⟨a, c, rfl⟩ := own_slice h
  have hnil := NilOk.of_own h
  have hcc : ss.length ≤ c ∧ c ≤ maxLen := by
    rcases h.2 with ⟨e, _⟩ | ⟨g, cap', cur, hv, hb, hg, hc, hm, _⟩
    · simp only [Value.slice.injEq] at e
      unfold maxLen; omega
    · simp only [Value.slice.injEq] at hv
      obtain ⟨_, _, rfl⟩ := hv
      exact ⟨hc, hm⟩
  refine ⟨a, c, rfl, hcc.1, hcc.2, fun e => hnil _ _ (by rw [e]), ?_⟩
  by_cases hz : ss.length = 0
  · exact .inl hz
  · obtain ⟨g, rfl, _, hb, hl, _⟩ := own_cell h (k := 0) (by omega)
    refine .inr ⟨g, 0, rfl, hb, hl, fun k hk => ?_⟩
    obtain ⟨u, h1, h2, h3⟩ := hr k hk
    obtain ⟨g', e, _, _, _, _, _, hcell, _⟩ := own_cell h hk
    simp only [Option.some.injEq, Addr.mk.injEq, and_true] at e
    obtain rfl := e
    exact ⟨u, by rw [Nat.zero_add, hcell, h1], h2, h3⟩
theorem newI_one {K G : Nat} {w : World} {x : Int} {T : TypeId} {fr : Nat × Nat} (hK : K ≤ G) (h : w.heap[G]? = some (.cells #[.int .i64 x] T fr)) : NewI K w (.slice (some ⟨G, 0, none⟩) 1 1) [x] :=
  ⟨some ⟨G, 0, none⟩, 1, rfl, Nat.le_refl _, by unfold maxLen; omega, .inr ⟨G, 0, rfl, hK, free_lt h, fun k hk => by
    have : k = 0 := by simp at hk; omega
    subst this
    simp [World.cell?, h]⟩⟩
theorem YdSt.two {base B p : Nat} {w w5 X w9 : World} {h : Int} {u : Value} {us : List Value} {ss : List (List Int)} {g c : Nat} (st : YdSt base B p w w5 h u us ss)
    (hX : X = ((w5.alloc (.cells #[.int .i64 500] 3)).alloc (.cells #[.int .i64 500] 3)).alloc (.cells #[.slice (some ⟨w5.heap.size, 0, none⟩) 1 1, .slice (some ⟨w5.heap.size + 1, 0, none⟩) 1 1] 25))
    (ho : w9.ownsRow (w.heap.size + 2) 25 1 (.slice (some ⟨g, 0, none⟩) (ss.length + 2) c) (ss.length + 2) (us ++ [.slice (some ⟨w5.heap.size, 0, none⟩) 1 1, .slice (some ⟨w5.heap.size + 1, 0, none⟩) 1 1])) (hg : X.grownBy w9 u.ownBlock) :
    YdEnd base B p w (w9.setCell ⟨w.heap.size + 1, 1, none⟩ (.slice (some ⟨g, 0, none⟩) (ss.length + 2) c)) h (.slice (some ⟨g, 0, none⟩) (ss.length + 2) c) (ss ++ [[500], [500]]) := by
  have hl := st.lt
  have hbx := st.box.lt
  have hbs := st.rdr.1
  have z1 : (w5.alloc (.cells #[.int .i64 500] 3)).heap.size = w5.heap.size + 1 := by simp
  have hbX : Below w5.heap.size w5 X := by rw [hX]; exact (((Below.refl _ _).alloc (Nat.le_refl _) _).alloc (by simp) _).alloc (by simp; omega) _
  have hXs : X.heap.size = w5.heap.size + 3 := by rw [hX]; simp
  have sX := st.keep hbX
  have h6 : Below (w.heap.size + 2) X w9 := own_below hg (by omega) fun k hk => (own_lt st.own.out k hk).1
  have blk : ∀ j, j < X.heap.size → u.ownBlock ≠ some j → w9.heap[j]? = X.heap[j]? := fun j hj hne => hg.block j hj (fun e => hne e.symm)
  have hu : ∀ b, u.ownBlock = some b → b < w5.heap.size := fun b hb => (own_lt st.own.out b hb).2
  have g0 : w9.heap[w5.heap.size]? = some (.cells #[.int .i64 500] 3 (0, 0)) := by
    rw [blk _ (by omega) (fun e => by have := hu _ e; omega), hX]
    exact new3_0 _ _ _ _
  have g1 : w9.heap[w5.heap.size + 1]? = some (.cells #[.int .i64 500] 3 (0, 0)) := by
    rw [blk _ (by omega) (fun e => by have := hu _ e; omega), hX]
    exact new3_1 _ _ _ _
  have e2 : (ss ++ [[500], [500]]).length = ss.length + 2 := by simp
  have hlu := st.own.len
  have hn : NewY (w.heap.size + 2) w9 (.slice (some ⟨g, 0, none⟩) (ss.length + 2) c) (ss ++ [[500], [500]]) := by
    refine NewY.of_rows (by rw [e2]; exact ho) fun k hk => ?_
    rw [e2] at hk
    rcases (by omega : k < ss.length ∨ k = ss.length ∨ k = ss.length + 1) with e | e | e
    · obtain ⟨x, q1, q2, q3⟩ := st.own.row k e
      have er : rowAt (ss ++ [[500], [500]]) k = rowAt ss k := by
        rw [rowAt_get (by rw [e2]; omega), rowAt_get e, List.getElem_append_left e]
      rw [er]
      refine ⟨x, by rw [List.getElem?_append_left (by omega)]; exact q1, ?_, NilOk.of_own q2⟩
      refine NewI.of_own (e := 3) ⟨q2.1, ?_⟩
      rcases q2.2 with q | ⟨b, cap, cur, rfl, r1, r2, r3⟩
      · exact .inl q
      · have hbl := free_lt r2
        refine .inr ⟨b, cap, cur, rfl, r1, ?_, r3⟩
        rw [blk b (by omega) (q3 b rfl), hbX.block b hbl]
        exact r2
    · subst e
      refine ⟨_, by rw [List.getElem?_append_right (by omega), hlu, Nat.sub_self]; rfl, ?_, NilOk.some_⟩
      have er : rowAt (ss ++ [[500], [500]]) ss.length = [500] := by rw [rowAt_get (by rw [e2]; omega)]; simp
      rw [er]
      exact newI_one (by omega) g0
    · subst e
      refine ⟨_, by rw [List.getElem?_append_right (by omega), hlu, Nat.add_sub_cancel_left]; rfl, ?_, NilOk.some_⟩
      have er : rowAt (ss ++ [[500], [500]]) (ss.length + 1) = [500] := by rw [rowAt_get (by rw [e2]; omega)]; simp
      rw [er]
      exact newI_one (by omega) g1
  refine ⟨(sX.rdr.keepK h6 (by omega)).set_other (by omega) (by omega) _ _, hl, ?_, ?_, (hn.setLow (by omega) _ _).from_ (by omega), (sX.most.below_ (h6.mono (by omega))).below_ ((Below.refl _ _).setCell (p := ⟨w.heap.size + 1, 1, none⟩) (Nat.le_add_right _ _) _)⟩
  · have : BoxY w.heap.size w9 0 (.slice none 0 0) := sX.res.at_ (h6.block _ (by omega))
    exact this.other (by omega) _ _
  · have : BoxY (w.heap.size + 1) w9 h u := sX.box.at_ (h6.block _ (by omega))
    exact this.set1 _
/-- The first row replaced by a new one. -/
theorem YdSt.first {base B p : Nat} {w w5 X w6 : World} {h : Int} {us : List Value} {ss : List (List Int)} {g uc g6 m c6 : Nat} {l : List Int} {u0 : Value} (st : YdSt base B p w w5 h (.slice (some ⟨g, 0, none⟩) ss.length uc) us ss) (hi : 0 < ss.length) (hu : us[0]? = some u0) (hX : Below w5.heap.size w5 X) (h56 : Below X.heap.size X w6)
    (ho : w6.ownsRow (w.heap.size + 2) 3 1 (.slice (some ⟨g6, 0, none⟩) m c6) m (rowI l)) (hm : l.length = m) (hg : g6 = X.heap.size) :
    YdEnd base B p w (w6.setCell ⟨g, 0, none⟩ (.slice (some ⟨g6, 0, none⟩) m c6)) h (.slice (some ⟨g, 0, none⟩) ss.length uc) (ss.set 0 l) := by
  have hl := st.lt
  have hbx := st.box.lt
  have hbs := st.rdr.1
  obtain ⟨g', e, _, hKg, hgl, _⟩ := own_cell st.own.out hi
  simp only [Option.some.injEq, Addr.mk.injEq, and_true] at e
  obtain rfl := e
  have s6 := st.keep (hX.trans (h56.mono hX.size))
  have hn := st.own.put rfl hi hu hX ho hm h56.size (fun j hj _ => h56.block j hj) (.inr hg)
  exact ⟨s6.rdr.set_other (by omega) (by omega) _ _, hl, s6.res.other (by omega) _ _, s6.box.other (by omega) _ _, hn.from_ (by omega), s6.most.below_ ((Below.refl _ _).setCell (p := ⟨g, 0, none⟩) (by show w.heap.size ≤ g; omega) _)⟩
theorem YdEnd.drawn {base B p : Nat} {w wr : World} {h : Int} {u : Value} {ss : List (List Int)} (s : YdEnd base B p w wr h u ss) : YdEnd base B p w wr.drew h u ss := by
  have hb := (Below.refl wr.heap.size wr).drew
  exact ⟨s.rdr.keepK hb s.rdr.2.1, s.lt, s.res.keep hb, s.box.keep hb, s.new.keep hb, s.most.below_ ((Below.refl _ _).drew)⟩
theorem own_three (w : World) {K : Nat} (hK : K ≤ w.heap.size) : (w.alloc (.cells #[.int .i64 0, .int .i64 0, .int .i64 0] 3)).ownsRow K 3 1 (.slice (some ⟨w.heap.size, 0, none⟩) 3 3) 3 (rowI [0, 0, 0]) :=
  ⟨by simp [rowI], .inr ⟨w.heap.size, 3, #[.int .i64 0, .int .i64 0, .int .i64 0], rfl, hK, heap_alloc_new _ _, Nat.le_refl _, by unfold maxLen; omega, by simp, by simp [rowI]⟩⟩
theorem flat_set0 (ss : List (List Int)) (l : List Int) : (ss.set 0 l).flatten.length ≤ ss.flatten.length + l.length := by
  cases ss with
  | nil => simp
  | cons a t => rw [List.set_cons_zero, List.flatten_cons, List.flatten_cons, List.length_append, List.length_append]; omega
/-- The last way: three empty places in the first stack. -/
theorem YdSt.zeros {base B p : Nat} {w w5 : World} {h : Int} {us : List Value} {ss : List (List Int)} {g uc : Nat} {u0 : Value} (st : YdSt base B p w w5 h (.slice (some ⟨g, 0, none⟩) ss.length uc) us ss) (hi : 0 < ss.length) (hu : us[0]? = some u0) (hgl : g < w5.heap.size) :
    YdEnd base B p w ((w5.setCell ⟨g, 0, none⟩ (.slice (some ⟨w5.heap.size, 0, none⟩) 3 3)).alloc (.cells #[.int .i64 0, .int .i64 0, .int .i64 0] 3)).drew h (.slice (some ⟨g, 0, none⟩) ss.length uc) (ss.set 0 [0, 0, 0]) := by
  have e := st.first hi hu (Below.refl _ _) ((Below.refl _ _).alloc (Nat.le_refl _) _) (own_three w5 (by have := st.box.lt; omega)) rfl rfl
  rw [World.setCell_alloc_past _ _ _ _ hgl] at e
  exact e.drawn
end Go.Proofs.Ytlcfldmiibjboab
namespace Go.Proofs.Ytlcfldmiibjboab
open Go.RowKit
set_option linter.unusedVariables false

end Go.Proofs.Ytlcfldmiibjboab
