/-
  A yard that a draw builds row by row, beside a reader that writes its own block.
  The draw of a yard: two more rows at once; a row in the first one's place.
  The draw of a yard.
-/
import Derived.Test.YtlcfldmiibjboaaGBase
import Derived.Test.YtlcfldmiibjboaaGYh
import Derived.Test.YtlcfldmiibjboaaYsT
import Derived.Deep.AppendLies
import Derived.Deep.OwnRows
import Derived.Deep.RegionLaw
import Derived.Deep.CutRange
import Derived.Deep.CutBlock
namespace Go.Proofs.Ytlcfldmiibjboaa
open Go.RowKit
set_option linter.unusedVariables false

theorem rowAt_app_lt {ss : List (List Int)} {l : List Int} {k : Nat} (h : k < ss.length) : rowAt (ss ++ [l]) k = rowAt ss k := by
  rw [rowAt_get (by simp; omega), rowAt_get h, List.getElem_append_left h]
theorem rowAt_app_eq (ss : List (List Int)) (l : List Int) : rowAt (ss ++ [l]) ss.length = l := by
  rw [rowAt_get (by simp)]
  simp
theorem OwnY.congr {K : Nat} {w : World} {v : Value} {us : List Value} {n : Nat} {R R' : Nat → List Int} (h : OwnY K w v us n R) (hR : ∀ k, k < n → R k = R' k) : OwnY K w v us n R' :=
  ⟨h.out, h.len, fun k hk => by
    obtain ⟨u, h1, h2, h3⟩ := h.row k hk
    exact ⟨u, h1, by rw [← hR k hk]; exact h2, h3⟩, h.apart⟩
theorem OwnY.pushB {K : Nat} {wr w5 X w6 : World} {v : Value} {us : List Value} {k : Nat} {R : Nat → List Int} {u5 : Value} {g cap : Nat} (h : OwnY K wr v us k R) (hK : K ≤ wr.heap.size) (s1 : wr.heap.size ≤ w5.heap.size) (hb5 : ∀ j, K ≤ j → j < wr.heap.size → w5.heap[j]? = wr.heap[j]?) (hbX : Below w5.heap.size w5 X)
    (hu5 : w5.ownsRow wr.heap.size 3 1 u5 (R k).length (rowI (R k))) (ho6 : w6.ownsRow K 35 1 (.slice (some ⟨g, 0, none⟩) (k + 1) cap) (k + 1) (us ++ [u5]))
    (hblk : ∀ j, j < X.heap.size → v.ownBlock ≠ some j → w6.heap[j]? = X.heap[j]?) (hg : v.ownBlock = some g ∨ g = X.heap.size) : OwnY K w6 (.slice (some ⟨g, 0, none⟩) (k + 1) cap) (us ++ [u5]) (k + 1) R := by
  have s2 := hbX.size
  have hvlt : ∀ b, v.ownBlock = some b → b < wr.heap.size := fun b hb => (own_lt h.out b hb).2
  have hold : ∀ j, K ≤ j → j < wr.heap.size → v.ownBlock ≠ some j → w6.heap[j]? = wr.heap[j]? := fun j hK' hj hne => by
    rw [hblk j (by omega) hne, hbX.block j (by omega), hb5 j hK' hj]
  have gne : ∀ b, b < X.heap.size → v.ownBlock ≠ some b → g ≠ b := fun b hb hne e => by
    rcases hg with hg | hg
    · exact hne (by rw [hg, e])
    · omega
  refine ⟨ho6, by rw [List.length_append, h.len]; rfl, fun j hj => ?_, ?_⟩
  · by_cases e : j = k
    · subst e
      refine ⟨u5, ?_, ?_, fun b hb => ?_⟩
      · rw [List.getElem?_append_right (by rw [h.len]; exact Nat.le_refl _), h.len, Nat.sub_self]; rfl
      · refine own_from (base := wr.heap.size) ?_ hK
        refine own_keep hu5 fun b hb hbl => ?_
        rw [hblk b (by omega) (fun e => by have := hvlt b e; omega), hbX.block b hbl]
      · have hbl := own_lt hu5 b hb
        intro e2
        have : g = b := by simpa [Value.ownBlock] using e2
        exact gne b (by omega) (fun e3 => by have := hvlt b e3; omega) this
    · obtain ⟨u, h1, h2, h3⟩ := h.row j (by omega)
      refine ⟨u, ?_, ?_, fun b hb => ?_⟩
      · rw [List.getElem?_append_left (by rw [h.len]; omega)]; exact h1
      · refine ⟨h2.1, ?_⟩
        rcases h2.2 with q | ⟨g', cap', cur, rfl, q1, q2, q3⟩
        · exact .inl q
        · refine .inr ⟨g', cap', cur, rfl, q1, ?_, q3⟩
          rw [hold g' q1 (free_lt q2) (h3 g' rfl)]; exact q2
      · have hbl := own_lt h2 b hb
        intro e2
        have : g = b := by simpa [Value.ownBlock] using e2
        exact gne b (by omega) (h3 b hb) this
  · refine List.pairwise_append.2 ⟨h.apart, List.pairwise_singleton _ _, fun x hx y hy b hb => ?_⟩
    rw [List.mem_singleton] at hy
    subst hy
    intro hc
    have h5 := own_lt hu5 b hc
    obtain ⟨j, hj, rfl⟩ := List.getElem_of_mem hx
    obtain ⟨u, h1, h2, _⟩ := h.row j (by rw [← h.len]; exact hj)
    rw [List.getElem?_eq_getElem hj] at h1
    obtain rfl := Option.some.inj h1
    have := own_lt h2 b hb
    omega

/-- A draw's yard under way: the reader, the result's block, the yard's block, its rows. -/
structure YdSt (base B p : Nat) (w wr : World) (h : Int) (u : Value) (us : List Value) (ss : List (List Int)) : Prop where
  rdr : Rdr base B p wr
  lt : B < w.heap.size
  res : BoxY w.heap.size wr 0 (.slice none 0 0)
  box : BoxY (w.heap.size + 1) wr h u
  own : OwnY (w.heap.size + 2) wr u us ss.length (rowAt ss)
  most : MostB B w wr
theorem YdSt.form {base B p : Nat} {w wr : World} {h : Int} {u : Value} {us : List Value} {ss : List (List Int)} (s : YdSt base B p w wr h u us ss) : ∃ a c, u = .slice a ss.length c := own_slice s.own.out
theorem YdSt.base_ {base B p : Nat} {w wr : World} {h : Int} {u : Value} {us : List Value} {ss : List (List Int)} (s : YdSt base B p w wr h u us ss) : base ≤ B := s.rdr.1
theorem YdSt.far {base B p q : Nat} {w wr wx : World} {h : Int} {u : Value} {us : List Value} {ss : List (List Int)} (s : YdSt base B p w wr h u us ss) (hm : MostB B wr wx) (hr : Rdr base B q wx) : YdSt base B q w wx h u us ss := by
  have hl := s.lt
  have hb := s.box.lt
  have h0 := s.res.lt
  exact ⟨hr, hl, s.res.at_ (hm.block _ (by omega) h0), s.box.at_ (hm.block _ (by omega) hb), s.own.far fun k hk hkl => hm.block k (by omega) hkl, s.most.trans hm⟩
theorem YdSt.keep {base B p : Nat} {w wr wx : World} {h : Int} {u : Value} {us : List Value} {ss : List (List Int)} (s : YdSt base B p w wr h u us ss) (hb : Below wr.heap.size wr wx) : YdSt base B p w wx h u us ss :=
  s.far ((MostB.refl B wr).below_ hb) (s.rdr.keepK hb s.rdr.2.1)
/-- One more row. -/
theorem YdSt.row {base B p q : Nat} {w wr w5 w6 : World} {h : Int} {u s : Value} {us : List Value} {ss : List (List Int)} {l : List Int} {o : Obj} {g cap : Nat} (st : YdSt base B p w wr h u us ss) (hm : MostB B wr w5) (hr : Rdr base B q w5)
    (hs : w5.ownsRow wr.heap.size 3 1 s l.length (rowI l)) (ho6 : w6.ownsRow (w.heap.size + 2) 35 1 (.slice (some ⟨g, 0, none⟩) (ss.length + 1) cap) (ss.length + 1) (us ++ [s]))
    (hgrow : (w5.alloc o).grownBy w6 u.ownBlock) (hg : u.ownBlock = some g ∨ g = (w5.alloc o).heap.size) :
    YdSt base B q w (w6.setCell ⟨w.heap.size + 1, 1, none⟩ (.slice (some ⟨g, 0, none⟩) (ss.length + 1) cap)) h (.slice (some ⟨g, 0, none⟩) (ss ++ [l]).length cap) (us ++ [s]) (ss ++ [l]) := by
  have hl := st.lt
  have hb := st.box.lt
  have h0 := st.res.lt
  have hbs := st.rdr.1
  have s5 := st.far hm hr
  have hX : Below w5.heap.size w5 (w5.alloc o) := (Below.refl _ _).alloc (Nat.le_refl _) _
  have sX := s5.keep hX
  have hsz : w.heap.size + 2 ≤ (w5.alloc o).heap.size := by have := sX.box.lt; omega
  have h6 : Below (w.heap.size + 2) (w5.alloc o) w6 := own_below hgrow hsz fun k hk => (own_lt st.own.out k hk).1
  have e : (ss ++ [l]).length = ss.length + 1 := by simp
  have hpush : OwnY (w.heap.size + 2) w6 (.slice (some ⟨g, 0, none⟩) (ss.length + 1) cap) (us ++ [s]) (ss.length + 1) (rowAt (ss ++ [l])) :=
    (st.own.congr fun k hk => (rowAt_app_lt hk).symm).pushB (by omega) hm.size (fun j hj hjl => hm.block j (by omega) hjl) hX (by rw [rowAt_app_eq]; exact hs) ho6 (fun j hj hne => hgrow.block j hj (fun e => hne e.symm)) hg
  refine ⟨?_, hl, ?_, ?_, ?_, ?_⟩
  · exact (sX.rdr.keepK h6 (by omega)).set_other (by omega) (by omega) _ _
  · have : BoxY w.heap.size w6 0 (.slice none 0 0) := sX.res.at_ (h6.block _ (by omega))
    exact this.other (by omega) _ _
  · have : BoxY (w.heap.size + 1) w6 h u := sX.box.at_ (h6.block _ (by omega))
    rw [e]
    exact this.set1 _
  · rw [e]
    exact hpush.setLow (by omega) _ _
  · exact ((sX.most.below_ (h6.mono (by omega)))).below_ ((Below.refl _ _).setCell (p := ⟨w.heap.size + 1, 1, none⟩) (Nat.le_add_right _ _) _)
theorem flat_app (ss : List (List Int)) (l : List Int) : (ss ++ [l]).flatten.length = ss.flatten.length + l.length := by simp
/-- A draw's yard as it will be told. -/
structure YdEnd (base B p : Nat) (w wr : World) (h : Int) (u : Value) (ss : List (List Int)) : Prop where
  rdr : Rdr base B p wr
  lt : B < w.heap.size
  res : BoxY w.heap.size wr 0 (.slice none 0 0)
  box : BoxY (w.heap.size + 1) wr h u
  new : NewY (w.heap.size + 1) wr u ss
  most : MostB B w wr
theorem YdSt.end_ {base B p : Nat} {w wr : World} {h : Int} {u : Value} {us : List Value} {ss : List (List Int)} (s : YdSt base B p w wr h u us ss) : YdEnd base B p w wr h u ss :=
  ⟨s.rdr, s.lt, s.res, s.box, s.own.newY.from_ (by omega), s.most⟩
theorem YdEnd.high {base B p : Nat} {w wr : World} {h h' : Int} {u : Value} {us : List Value} {ss : List (List Int)} (s : YdSt base B p w wr h u us ss) : YdEnd base B p w (wr.setCell ⟨w.heap.size + 1, 0, none⟩ (.int .i64 h')) h' u ss :=
  have hl := s.lt
  have hb := s.rdr.1
  ⟨s.rdr.set_other (by omega) (by omega) _ _, s.lt, s.res.other (by omega) _ _, s.box.set0 _, (s.own.setLow (by omega) _ _).newY.from_ (by omega), s.most.below_ ((Below.refl _ _).setCell (p := ⟨w.heap.size + 1, 0, none⟩) (Nat.le_add_right _ _) _)⟩
theorem YdEnd.none_ {base B p : Nat} {w wr : World} {h : Int} {u : Value} {us : List Value} {ss : List (List Int)} (s : YdSt base B p w wr h u us ss) {v' : Value} (hv : NewY (w.heap.size + 1) (wr.setCell ⟨w.heap.size + 1, 1, none⟩ v') v' []) : YdEnd base B p w (wr.setCell ⟨w.heap.size + 1, 1, none⟩ v') h v' [] :=
  have hl := s.lt
  have hb := s.rdr.1
  ⟨s.rdr.set_other (by omega) (by omega) _ _, s.lt, s.res.other (by omega) _ _, s.box.set1 _, hv, s.most.below_ ((Below.refl _ _).setCell (p := ⟨w.heap.size + 1, 1, none⟩) (Nat.le_add_right _ _) _)⟩
/-- The result laid. -/
theorem YdEnd.told {base B p : Nat} {w wr : World} {h : Int} {u : Value} {ss : List (List Int)} (s : YdEnd base B p w wr h u ss) :
    NewY w.heap.size ((wr.setCell ⟨w.heap.size, 0, none⟩ (.int .i64 h)).setCell ⟨w.heap.size, 1, none⟩ u) u ss ∧ Rdr base B p ((wr.setCell ⟨w.heap.size, 0, none⟩ (.int .i64 h)).setCell ⟨w.heap.size, 1, none⟩ u) ∧ MostB B w ((wr.setCell ⟨w.heap.size, 0, none⟩ (.int .i64 h)).setCell ⟨w.heap.size, 1, none⟩ u) := by
  have hl := s.lt
  have hb := s.rdr.1
  exact ⟨((s.new.setLow (by omega) _ _).setLow (by omega) _ _).from_ (by omega), (s.rdr.set_other (by omega) (by omega) _ _).set_other (by omega) (by omega) _ _,
    (s.most.below_ ((Below.refl _ _).setCell (p := ⟨w.heap.size, 0, none⟩) (Nat.le_refl _) _)).below_ ((Below.refl _ _).setCell (p := ⟨w.heap.size, 1, none⟩) (Nat.le_refl _) _)⟩
/-- What a draw of a yard gives. -/
def DrewYard (base B p : Nat) (w : World) (e : Ending) (w' : World) : Prop :=
  ∃ (h : Int) (u : Value) (ss : List (List Int)) (q : Nat), q ≤ p + 60 ∧ ss.length ≤ 7 ∧ ss.flatten.length ≤ 100 ∧ e = .returned (.agg #[.int .i64 h, u]) ∧ NewY w.heap.size w' u ss ∧ Rdr base B q w' ∧ MostB B w w'
end Go.Proofs.Ytlcfldmiibjboaa
namespace Go.Proofs.Ytlcfldmiibjboaa
open Go.RowKit
set_option linter.unusedVariables false

theorem NewY.of_rows {K : Nat} {w : World} {v : Value} {us : List Value} {ss : List (List Int)} (h : w.ownsRow K 35 1 v ss.length us) (hr : ∀ k, k < ss.length → ∃ u, us[k]? = some u ∧ NewI K w u (rowAt ss k) ∧ NilOk u) : NewY K w v ss := by
  obtain ⟨a, c, rfl⟩ := own_slice h
  have hnil := NilOk.of_own h
  have hcc : ss.length ≤ c ∧ c ≤ maxLen := by
    rcases h.2 with ⟨e, _⟩ | ⟨g, cap', cur, hv, hb, hg, hc, hm, _⟩
    · simp only [Value.slice.injEq] at e
      unfold maxLen; omega
    · simp only [Value.slice.injEq] at hv
      obtain ⟨_, _, rfl⟩ := hv
      exact ⟨hc, hm⟩
  refine ⟨a, c, rfl, hcc.1, hcc.2, fun e => hnil _ _ (by rw [e]), ?_⟩
  by_cases hz : ss.length = 0
  · exact .inl hz
  · obtain ⟨g, rfl, _, hb, hl, _⟩ := own_cell h (k := 0) (by omega)
    refine .inr ⟨g, 0, rfl, hb, hl, fun k hk => ?_⟩
    obtain ⟨u, h1, h2, h3⟩ := hr k hk
    obtain ⟨g', e, _, _, _, _, _, hcell, _⟩ := own_cell h hk
    simp only [Option.some.injEq, Addr.mk.injEq, and_true] at e
    obtain rfl := e
    exact ⟨u, by rw [Nat.zero_add, hcell, h1], h2, h3⟩
theorem newI_one {K G : Nat} {w : World} {x : Int} {T : TypeId} {fr : Nat × Nat} (hK : K ≤ G) (h : w.heap[G]? = some (.cells #[.int .i64 x] T fr)) : NewI K w (.slice (some ⟨G, 0, none⟩) 1 1) [x] :=
  ⟨some ⟨G, 0, none⟩, 1, rfl, Nat.le_refl _, by unfold maxLen; omega, .inr ⟨G, 0, rfl, hK, free_lt h, fun k hk => by
    have : k = 0 := by simp at hk; omega
    subst this
    simp [World.cell?, h]⟩⟩
theorem YdSt.two {base B p : Nat} {w w5 X w9 : World} {h : Int} {u : Value} {us : List Value} {ss : List (List Int)} {g c : Nat} (st : YdSt base B p w w5 h u us ss)
    (hX : X = ((w5.alloc (.cells #[.int .i64 500] 3)).alloc (.cells #[.int .i64 500] 3)).alloc (.cells #[.slice (some ⟨w5.heap.size, 0, none⟩) 1 1, .slice (some ⟨w5.heap.size + 1, 0, none⟩) 1 1] 35))
    (ho : w9.ownsRow (w.heap.size + 2) 35 1 (.slice (some ⟨g, 0, none⟩) (ss.length + 2) c) (ss.length + 2) (us ++ [.slice (some ⟨w5.heap.size, 0, none⟩) 1 1, .slice (some ⟨w5.heap.size + 1, 0, none⟩) 1 1])) (hg : X.grownBy w9 u.ownBlock) :
    YdEnd base B p w (w9.setCell ⟨w.heap.size + 1, 1, none⟩ (.slice (some ⟨g, 0, none⟩) (ss.length + 2) c)) h (.slice (some ⟨g, 0, none⟩) (ss.length + 2) c) (ss ++ [[500], [500]]) := by
  have hl := st.lt
  have hbx := st.box.lt
  have hbs := st.rdr.1
  have z1 : (w5.alloc (.cells #[.int .i64 500] 3)).heap.size = w5.heap.size + 1 := by simp
  have hbX : Below w5.heap.size w5 X := by rw [hX]; exact (((Below.refl _ _).alloc (Nat.le_refl _) _).alloc (by simp) _).alloc (by simp; omega) _
  have hXs : X.heap.size = w5.heap.size + 3 := by rw [hX]; simp
  have sX := st.keep hbX
  have h6 : Below (w.heap.size + 2) X w9 := own_below hg (by omega) fun k hk => (own_lt st.own.out k hk).1
  have blk : ∀ j, j < X.heap.size → u.ownBlock ≠ some j → w9.heap[j]? = X.heap[j]? := fun j hj hne => hg.block j hj (fun e => hne e.symm)
  have hu : ∀ b, u.ownBlock = some b → b < w5.heap.size := fun b hb => (own_lt st.own.out b hb).2
  have g0 : w9.heap[w5.heap.size]? = some (.cells #[.int .i64 500] 3 (0, 0)) := by
    rw [blk _ (by omega) (fun e => by have := hu _ e; omega), hX]
    exact new3_0 _ _ _ _
  have g1 : w9.heap[w5.heap.size + 1]? = some (.cells #[.int .i64 500] 3 (0, 0)) := by
    rw [blk _ (by omega) (fun e => by have := hu _ e; omega), hX]
    exact new3_1 _ _ _ _
  have e2 : (ss ++ [[500], [500]]).length = ss.length + 2 := by simp
  have hlu := st.own.len
  have hn : NewY (w.heap.size + 2) w9 (.slice (some ⟨g, 0, none⟩) (ss.length + 2) c) (ss ++ [[500], [500]]) := by
    refine NewY.of_rows (by rw [e2]; exact ho) fun k hk => ?_
    rw [e2] at hk
    rcases (by omega : k < ss.length ∨ k = ss.length ∨ k = ss.length + 1) with e | e | e
    · obtain ⟨x, q1, q2, q3⟩ := st.own.row k e
      have er : rowAt (ss ++ [[500], [500]]) k = rowAt ss k := by
        rw [rowAt_get (by rw [e2]; omega), rowAt_get e, List.getElem_append_left e]
      rw [er]
      refine ⟨x, by rw [List.getElem?_append_left (by omega)]; exact q1, ?_, NilOk.of_own q2⟩
      refine NewI.of_own (e := 3) ⟨q2.1, ?_⟩
      rcases q2.2 with q | ⟨b, cap, cur, rfl, r1, r2, r3⟩
      · exact .inl q
      · have hbl := free_lt r2
        refine .inr ⟨b, cap, cur, rfl, r1, ?_, r3⟩
        rw [blk b (by omega) (q3 b rfl), hbX.block b hbl]
        exact r2
    · subst e
      refine ⟨_, by rw [List.getElem?_append_right (by omega), hlu, Nat.sub_self]; rfl, ?_, NilOk.some_⟩
      have er : rowAt (ss ++ [[500], [500]]) ss.length = [500] := by rw [rowAt_get (by rw [e2]; omega)]; simp
      rw [er]
      exact newI_one (by omega) g0
    · subst e
      refine ⟨_, by rw [List.getElem?_append_right (by omega), hlu, Nat.add_sub_cancel_left]; rfl, ?_, NilOk.some_⟩
      have er : rowAt (ss ++ [[500], [500]]) (ss.length + 1) = [500] := by rw [rowAt_get (by rw [e2]; omega)]; simp
      rw [er]
      exact newI_one (by omega) g1
  refine ⟨(sX.rdr.keepK h6 (by omega)).set_other (by omega) (by omega) _ _, hl, ?_, ?_, (hn.setLow (by omega) _ _).from_ (by omega), (sX.most.below_ (h6.mono (by omega))).below_ ((Below.refl _ _).setCell (p := ⟨w.heap.size + 1, 1, none⟩) (Nat.le_add_right _ _) _)⟩
  · have : BoxY w.heap.size w9 0 (.slice none 0 0) := sX.res.at_ (h6.block _ (by omega))
    exact this.other (by omega) _ _
  · have : BoxY (w.heap.size + 1) w9 h u := sX.box.at_ (h6.block _ (by omega))
    exact this.set1 _
/-- The first row replaced by a new one. -/
theorem YdSt.first {base B p : Nat} {w w5 X w6 : World} {h : Int} {us : List Value} {ss : List (List Int)} {g uc g6 m c6 : Nat} {l : List Int} {u0 : Value} (st : YdSt base B p w w5 h (.slice (some ⟨g, 0, none⟩) ss.length uc) us ss) (hi : 0 < ss.length) (hu : us[0]? = some u0) (hX : Below w5.heap.size w5 X) (h56 : Below X.heap.size X w6)
    (ho : w6.ownsRow (w.heap.size + 2) 3 1 (.slice (some ⟨g6, 0, none⟩) m c6) m (rowI l)) (hm : l.length = m) (hg : g6 = X.heap.size) :
    YdEnd base B p w (w6.setCell ⟨g, 0, none⟩ (.slice (some ⟨g6, 0, none⟩) m c6)) h (.slice (some ⟨g, 0, none⟩) ss.length uc) (ss.set 0 l) := by
  have hl := st.lt
  have hbx := st.box.lt
  have hbs := st.rdr.1
  obtain ⟨g', e, _, hKg, hgl, _⟩ := own_cell st.own.out hi
  simp only [Option.some.injEq, Addr.mk.injEq, and_true] at e
  obtain rfl := e
  have s6 := st.keep (hX.trans (h56.mono hX.size))
  have hn := st.own.put rfl hi hu hX ho hm h56.size (fun j hj _ => h56.block j hj) (.inr hg)
  exact ⟨s6.rdr.set_other (by omega) (by omega) _ _, hl, s6.res.other (by omega) _ _, s6.box.other (by omega) _ _, hn.from_ (by omega), s6.most.below_ ((Below.refl _ _).setCell (p := ⟨g, 0, none⟩) (by show w.heap.size ≤ g; omega) _)⟩
theorem YdEnd.drawn {base B p : Nat} {w wr : World} {h : Int} {u : Value} {ss : List (List Int)} (s : YdEnd base B p w wr h u ss) : YdEnd base B p w wr.drew h u ss := by
  have hb := (Below.refl wr.heap.size wr).drew
  exact ⟨s.rdr.keepK hb s.rdr.2.1, s.lt, s.res.keep hb, s.box.keep hb, s.new.keep hb, s.most.below_ ((Below.refl _ _).drew)⟩
theorem own_three (w : World) {K : Nat} (hK : K ≤ w.heap.size) : (w.alloc (.cells #[.int .i64 0, .int .i64 0, .int .i64 0] 3)).ownsRow K 3 1 (.slice (some ⟨w.heap.size, 0, none⟩) 3 3) 3 (rowI [0, 0, 0]) :=
  ⟨by simp [rowI], .inr ⟨w.heap.size, 3, #[.int .i64 0, .int .i64 0, .int .i64 0], rfl, hK, heap_alloc_new _ _, Nat.le_refl _, by unfold maxLen; omega, by simp, by simp [rowI]⟩⟩
theorem flat_set0 (ss : List (List Int)) (l : List Int) : (ss.set 0 l).flatten.length ≤ ss.flatten.length + l.length := by
  cases ss with
  | nil => simp
  | cons a t => rw [List.set_cons_zero, List.flatten_cons, List.flatten_cons, List.length_append, List.length_append]; omega
/-- The last way: three empty places in the first stack. -/
theorem YdSt.zeros {base B p : Nat} {w w5 : World} {h : Int} {us : List Value} {ss : List (List Int)} {g uc : Nat} {u0 : Value} (st : YdSt base B p w w5 h (.slice (some ⟨g, 0, none⟩) ss.length uc) us ss) (hi : 0 < ss.length) (hu : us[0]? = some u0) (hgl : g < w5.heap.size) :
    YdEnd base B p w ((w5.setCell ⟨g, 0, none⟩ (.slice (some ⟨w5.heap.size, 0, none⟩) 3 3)).alloc (.cells #[.int .i64 0, .int .i64 0, .int .i64 0] 3)).drew h (.slice (some ⟨g, 0, none⟩) ss.length uc) (ss.set 0 [0, 0, 0]) := by
  have e := st.first hi hu (Below.refl _ _) ((Below.refl _ _).alloc (Nat.le_refl _) _) (own_three w5 (by have := st.box.lt; omega)) rfl rfl
  rw [World.setCell_alloc_past _ _ _ _ hgl] at e
  exact e.drawn
end Go.Proofs.Ytlcfldmiibjboaa
namespace Go.Proofs.Ytlcfldmiibjboaa
open Go.RowKit
set_option linter.unusedVariables false

set_option maxRecDepth 10000 in
set_option maxHeartbeats 4000000 in
theorem l20Yard_any (base B p : Nat) (n : Int) (w : World) (h : Rdr base B p w) (hp : p ≤ 100000) (hn0 : 1 ≤ n) (hn1 : n ≤ 1000) :
    Calls Try.prog 59 #[.pointer (some ⟨B, 0, none⟩), .int .i64 n] w (DrewYard base B p w) := by
  obtain ⟨i0, hi, hz0, hz1, hz2⟩ := info_parts infoInt
  have HI := Lib.hid hi
  have HZ0 := Lib.hid hz0
  have HZ1 := Lib.hid hz1
  have HZ2 := Lib.hid hz2
  clear hi hz0 hz1 hz2
  obtain ⟨i1, hi, hz0, hz1, hz2⟩ := info_parts infoRow
  have GI := Lib.hid hi
  have GZ0 := Lib.hid hz0
  have GZ1 := Lib.hid hz1
  have GZ2 := Lib.hid hz2
  clear hi hz0 hz1 hz2
  have hB2 := h.2.1
  go_enter Try.func59, Try.ntmps59
  go_wp2_with fail
  refine (pick_any base B p 4 _ (h.keep ((Below.refl _ _).alloc (Nat.le_refl _) _)) (by omega) (by omega)).mono ?_
  rintro e w1 ⟨x1, x10, x11, rfl, hr1, ho1⟩
  have hm1 : MostB B w w1 := ((MostB.refl B w).alloc _).trans ho1.mostB
  have r1 : BoxY w.heap.size w1 0 (.slice none 0 0) := (BoxY.new w 0 (.slice none 0 0)).at_ (ho1.block _ (by omega))
  have z1 : w1.heap.size = w.heap.size + 1 := by rw [ho1.size]; simp
  clear h ho1
  have st1 : YdSt base B (p + 1) w (w1.alloc (.cells #[.int .i64 (1 + x1), .slice none 0 0] 25)) (1 + x1) (.slice none 0 0) [] [] := by
    have hb := (Below.refl w1.heap.size w1).alloc (Nat.le_refl _) (.cells #[.int .i64 (1 + x1), .slice none 0 0] 25)
    refine ⟨hr1.keepK hb (by omega), hB2, r1.keep hb, ?_, OwnY.start _ _ _, hm1.below_ (hb.mono (by omega))⟩
    have := BoxY.new w1 (1 + x1) (.slice none 0 0)
    rwa [z1] at this
  have ST1 := Lib.hid st1
  clear hr1 hm1 r1 st1
  go_wp2_with fail
  refine (pick_any base B (p + 1) 5 _ ST1.out.rdr (by omega) (by omega)).mono ?_
  rintro e w2 ⟨x2, x20, x21, rfl, hr2, ho2⟩
  have ST2 := Lib.hid (ST1.out.far ho2.mostB hr2)
  clear hr2 ho2 ST1
  go_wp2_with fail
  refine (pick_any base B (p + 1 + 1) 5 _ ST2.out.rdr (by omega) (by omega)).mono ?_
  rintro e w3 ⟨x3, x30, x31, rfl, hr3, ho3⟩
  have ST3 := Lib.hid (ST2.out.far ho3.mostB hr3)
  clear hr3 ho3 ST2 z1
  obtain ⟨hh, hhe⟩ : ∃ hh, hh = 1 + x1 := ⟨_, rfl⟩
  rw [← hhe] at ST3
  obtain ⟨j1, rfl⟩ := Int.eq_ofNat_of_zero_le x30
  have hj5 : j1 ≤ 4 := by omega
  have hh4 : 1 ≤ hh ∧ hh ≤ 4 := by omega
  clear hhe x10 x11 x30 x31
  go_wp2_with fail
  go_loopw [6, 7] (fun i k wr => ∃ (q j : Nat) (d : Int) (u : Value) (us : List Value) (ss : List (List Int)), i = .int .i64 d ∧ 0 ≤ d ∧ d ≤ 10 + 40 * ss.length ∧ k = .int .i64 j ∧ ss.length + j = 1 + j1 ∧ q ≤ p + 3 + 8 * ss.length ∧ ss.flatten.length ≤ 4 * ss.length ∧ Hid (YdSt base B q w wr hh u us ss)) (fun _ k _ => (intOf k).toNat)
  case atStart => exact ⟨p + 1 + 1 + 1, 1 + j1, 1 + x2, _, [], [], rfl, by omega, by simp; omega, by congr 1, by simp, by simp, by simp, ST3⟩
  case round =>
    clear ST3
    obtain ⟨q, j, d, u, us, ss, rfl, hd0, hd1, rfl, hlj, hq, hfl, ST⟩ := hrel
    by_cases hlt : 0 < j
    · have BX := Lib.hid fun o => (ST.out.keep ((Below.refl wr.heap.size wr).alloc (Nat.le_refl _) o))
      have c0 := fun o => (BX.out o).box.c0
      obtain ⟨hN, hNe⟩ : ∃ hN : Nat, (hN : Int) = hh + 1 := ⟨(hh + 1).toNat, by omega⟩
      have hw1 : IntKind.i64.wrap (hh + 1) = hh + 1 := IntWalk.i64_in _ (by omega)
      go_wp2_with fail
      refine (pick_any base B q (hh + 1) _ (BX.out _).rdr (by omega) (by omega)).mono ?_
      rintro e w5 ⟨x5, x50, x51, rfl, hr5, ho5⟩
      have hm5 : MostB B wr w5 := ((MostB.refl B wr).alloc _).trans ho5.mostB
      have own5 : w5.ownsRow wr.heap.size 3 1 (.slice (some ⟨wr.heap.size, 0, none⟩) 0 0) ([] : List Int).length (rowI []) := own_empty (Nat.le_refl _) (by
        have := ST.out.res.lt
        rw [ho5.block _ (by have := ST.out.lt; omega)]
        exact heap_alloc_new _ _)
      obtain ⟨j5, hj5⟩ := Int.eq_ofNat_of_zero_le x50
      subst hj5
      have hj54 : j5 ≤ 4 := by omega
      have HM5 := Lib.hid hm5
      have HR5 := Lib.hid hr5
      obtain ⟨KR, hKR⟩ : ∃ KR, KR = wr.heap.size := ⟨_, rfl⟩
      have HO5 := Lib.hid (show w5.ownsRow KR 3 1 (.slice (some ⟨wr.heap.size, 0, none⟩) 0 0) ([] : List Int).length (rowI []) by rw [hKR]; exact own5)
      have hBK : B < KR := by have := ST.out.lt; have := ST.out.res.lt; omega
      clear c0 hNe hw1 BX hm5 hr5 own5 ho5 x50 x51
      go_wp2_with fail
      go_loopw [6, 8, 9] (fun i s k wx => ∃ (q2 m : Nat) (d2 : Int) (l : List Int) (g cp : Nat), i = .int .i64 d2 ∧ 0 ≤ d2 ∧ d2 ≤ d + 7 * l.length ∧ s = .slice (some ⟨g, 0, none⟩) l.length cp ∧ l.length ≤ cp ∧ cp ≤ maxLen ∧ k = .int .i64 m ∧ l.length + m ≤ 4 ∧ q2 ≤ q + 1 + l.length ∧ Hid (Rdr base B q2 wx) ∧ Hid (wx.ownsRow KR 3 1 (.slice (some ⟨g, 0, none⟩) l.length cp) l.length (rowI l)) ∧ Hid (MostB B wr wx)) (fun _ _ k _ => (intOf k).toNat)
      case atStart => exact ⟨q + 1, j5, d, [], wr.heap.size, 0, rfl, hd0, by simp, rfl, by simp, Nat.zero_le _, rfl, by simp; omega, by simp, HR5, HO5, HM5⟩
      case round =>
        clear HM5 HR5 HO5
        obtain ⟨q2, m, d2, l, g, cp, rfl, hd20, hd21, rfl, hgc, hgm, rfl, hlm, hq2, HR, HOW, HM⟩ := hrel
        have hws : KR ≤ wr.heap.size := by rw [hKR]; exact HM.out.size
        unfold maxLen at hgm
        have hown := HOW.out
        by_cases hm0 : 0 < m
        · go_wp2_with (at_builtin; refine wpList_append_own _ rfl _ _ 35 rfl KR 3 i0 (.int .i64 0) 1 8 Try.underlying35 HI.out HZ0.out HZ1.out HZ2.out rfl (by decide) _ _ _ rfl (hown.alloc _) ⟨wr.heap.size, 0, none⟩ 1 1 [.int .i64 d2] rfl rfl (fun j u hu => cells_new j u hu) (by simp [Value.oneCell']) (by unfold maxLen; omega) (by omega) (by simp; omega) ?_; intro v' w6 hown6 hgrow _)
          have hb6 : Below KR (wr.alloc (.cells #[.int .i64 d2] 3)) w6 := own_below (v := .slice (some ⟨g, 0, none⟩) l.length cp) hgrow (by simp; omega) (fun k hk => (own_lt hown k hk).1)
          have hm6 := (HM.out.alloc (.cells #[.int .i64 d2] 3)).below_ (by rw [← hKR]; exact hb6)
          have hr6 := (HR.out.keep ((Below.refl _ _).alloc (Nat.le_refl _) (.cells #[.int .i64 d2] 3))).keepK hb6 hBK
          have hown7 := own_ints (m := [d2]) hown6 rfl rfl
          obtain ⟨g', cp', rfl, t1, t2⟩ := own_form hown7 (by simp)
          have H7 := Lib.hid hown7
          have T1 := Lib.hid t1
          clear hgrow hb6 hown HOW HR hown6 HM hown7 t1
          go_wp2_with fail
          refine (pick_any base B q2 7 _ hr6 (by omega) (by omega)).mono ?_
          rintro e w7 ⟨z, z0, z1, rfl, hr7, ho7⟩
          have H8 := Lib.hid (own_most H7.out ho7.mostB hBK)
          have hm7 := Lib.hid (hm6.trans ho7.mostB)
          have hr7' := Lib.hid hr7
          clear H7 hr6 hm6 ho7 hr7
          go_wp2_with fail
          go_roundw
          case rel => exact ⟨q2 + 1, m - 1, d2 + 1 + z, l ++ [d2], g', cp', rfl, by omega, by simp; omega, by rw [List.length_append]; rfl, T1.out, t2, by congr 1; omega, by simp; omega, by simp; omega, hr7', Lib.hid (by have h := H8.out; rw [List.length_append] at h ⊢; exact h), hm7⟩
          case measure => simp [intOf]; omega
        · have hm00 : m = 0 := by omega
          clear hm0
          subst hm00
          have STX := Lib.hid (ST.out.far HM.out HR.out)
          obtain ⟨ua, uc, rfl⟩ := STX.out.form
          have b1 := STX.out.box.c1
          have hws2 : w.heap.size + 2 ≤ wr.heap.size := STX.out.box.lt
          have O5 := Lib.hid fun o : Obj => own_stay STX.out.own.out ((Below.refl wr.heap.size wr).alloc (Nat.le_refl _) o)
          have SK := Lib.hid fun o : Obj => STX.out.keep ((Below.refl wr.heap.size wr).alloc (Nat.le_refl _) o)
          have hlen5 : ss.length ≤ 4 := by omega
          have HSZ := Lib.hid (show w.heap.size + 2 ≤ (wr.alloc (.cells #[.slice (some ⟨g, 0, none⟩) l.length cp] 35)).heap.size by simp; omega)
          have HOK := Lib.hid (show wr.ownsRow _ 3 1 (.slice (some ⟨g, 0, none⟩) l.length cp) l.length (rowI l) from hKR ▸ HOW.out)
          clear hown
          go_wp2_with (at_builtin; refine wpList_append_lies _ rfl _ _ 23 rfl (w.heap.size + 2) 35 i1 (.slice none 0 0) 1 24 Try.underlying23 GI.out GZ0.out GZ1.out GZ2.out rfl (by decide) _ ss.length us rfl (O5.out _) ⟨wr.heap.size, 0, none⟩ 1 1 [.slice (some ⟨g, 0, none⟩) l.length cp] rfl rfl (fun j u hu => cells_new j u hu) (by simp [Value.oneCell']) (by decide) (by unfold maxLen; omega) (by omega) (by simp; omega) _ rfl ?_; intro g6 c6 w6 ho6 hg6 hgg6 _; have hb6 := own_below (K := w.heap.size + 2) hg6 HSZ.out (fun k hk => (own_lt STX.out.own.out k hk).1); have n6 : w6.cell? ⟨w.heap.size + 1, 1, none⟩ = some (.slice ua ss.length uc) := ((SK.out _).box.at_ (hb6.block _ (Nat.lt_succ_self _))).c1; have f6 : w6.frozen? ⟨w.heap.size + 1, 1, none⟩ = false := ((SK.out _).box.at_ (hb6.block _ (Nat.lt_succ_self _))).frozen 1; have ST6 := Lib.hid (ST.out.row HM.out HR.out HOK.out ho6 hg6 hgg6); clear hb6 ho6 hg6 hgg6)
          go_roundw
          case rel => exact ⟨q2, j - 1, d2, _, _, ss ++ [l], rfl, hd20, by simp; omega, by congr 1; omega, by simp; omega, by simp; omega, by rw [flat_app, List.length_append]; show _ ≤ 4 * (ss.length + 1); omega, ST6⟩
          case measure => simp [intOf]; omega
    · have hj0 : j = 0 := by omega
      clear hlt
      subst hj0
      obtain ⟨ua, uc, rfl⟩ := ST.out.form
      go_wp2_with fail
      refine (odd_any base B q n _ ST.out.rdr (by omega) hn0 (by omega)).mono ?_
      rintro e w4 ⟨v, rfl, hr4, ho4⟩
      have S4 := Lib.hid (ST.out.far ho4.mostB hr4)
      clear ST hr4 ho4
      cases v
      · have E4 := Lib.hid S4.out.end_
        have c0 := E4.out.box.c0
        have c1 := E4.out.box.c1
        have d0 := E4.out.res.c0
        have d1 := E4.out.res.c1
        have e0 := E4.out.res.frozen 0
        have e1 := E4.out.res.frozen 1
        clear S4
        go_wp2_with fail
        obtain ⟨t1, t2, t3⟩ := E4.out.told
        exact bodyPost_ret (v := .agg #[.int .i64 hh, .slice ua ss.length uc]) (by simp [results, Try.results59, go_sem, d0, d1]) rfl ⟨hh, _, ss, q + 1, by omega, by omega, by omega, rfl, t1, t2, t3⟩
      · go_wp2_with fail
        refine (pick_any base B (q + 1) 4 _ S4.out.rdr (by omega) (by omega)).mono ?_
        rintro e w5 ⟨x5, x50, x51, rfl, hr5, ho5⟩
        have S5 := Lib.hid (S4.out.far ho5.mostB hr5)
        clear S4 hr5 ho5
        rcases (by omega : x5 = 0 ∨ x5 = 1 ∨ x5 = 2 ∨ x5 = 3) with hx | hx | hx | hx
        · subst hx
          have s6 := S5.out.keep ((Below.refl w5.heap.size w5).alloc (Nat.le_refl _) (.cells #[.int .i64 0, .int .i64 6] 3))
          have hl := s6.lt
          go_wp2_with fail
          refine (pick_any base B (q + 1 + 1) 2 _ s6.rdr (by omega) (by omega)).mono ?_
          rintro e w6 ⟨x6, x60, x61, rfl, hr6, ho6⟩
          have S7 := Lib.hid (s6.far ho6.mostB hr6)
          have k0 : w6.heap[w5.heap.size]? = some (.cells #[.int .i64 0, .int .i64 6] 3 (0, 0)) := by
            rw [ho6.block _ (by have := S5.out.box.lt; omega)]
            exact heap_alloc_new _ _
          have m0 : w6.cell? ⟨w5.heap.size, 0, none⟩ = some (.int .i64 0) := by simp [World.cell?, k0]
          have m1 : w6.cell? ⟨w5.heap.size, 1, none⟩ = some (.int .i64 6) := by simp [World.cell?, k0]
          have b0 := S7.out.box.c0
          have f0 := S7.out.box.frozen 0
          clear s6 hr6 ho6 k0 S5
          rcases (by omega : x6 = 0 ∨ x6 = 1) with hx | hx
          · subst hx
            have E6 := Lib.hid (YdEnd.high (h' := 0) S7.out)
            have c0 := E6.out.box.c0
            have c1 := E6.out.box.c1
            have d0 := E6.out.res.c0
            have d1 := E6.out.res.c1
            have e0 := E6.out.res.frozen 0
            have e1 := E6.out.res.frozen 1
            clear S7
            go_wp2_with fail
            obtain ⟨t1, t2, t3⟩ := E6.out.told
            exact bodyPost_ret (v := .agg #[.int .i64 0, .slice ua ss.length uc]) (by simp [results, Try.results59, go_sem, d0, d1]) rfl ⟨0, _, ss, q + 1 + 1 + 1, by omega, by omega, by omega, rfl, t1, t2, t3⟩
          · subst hx
            have E6 := Lib.hid (YdEnd.high (h' := 6) S7.out)
            have c0 := E6.out.box.c0
            have c1 := E6.out.box.c1
            have d0 := E6.out.res.c0
            have d1 := E6.out.res.c1
            have e0 := E6.out.res.frozen 0
            have e1 := E6.out.res.frozen 1
            clear S7
            go_wp2_with fail
            obtain ⟨t1, t2, t3⟩ := E6.out.told
            exact bodyPost_ret (v := .agg #[.int .i64 6, .slice ua ss.length uc]) (by simp [results, Try.results59, go_sem, d0, d1]) rfl ⟨6, _, ss, q + 1 + 1 + 1, by omega, by omega, by omega, rfl, t1, t2, t3⟩
        · subst hx
          have s6 := S5.out.keep ((Below.refl w5.heap.size w5).alloc (Nat.le_refl _) (.cells #[] 35))
          have E6 := Lib.hid (YdEnd.none_ s6 (v' := .slice (some ⟨w5.heap.size, 0, none⟩) 0 0) ⟨some ⟨w5.heap.size, 0, none⟩, 0, rfl, Nat.le_refl _, Nat.zero_le _, (fun e => by cases e), .inl rfl⟩)
          have b1 := s6.box.c1
          have f1 := s6.box.frozen 1
          have c0 := E6.out.box.c0
          have c1 := E6.out.box.c1
          have d0 := E6.out.res.c0
          have d1 := E6.out.res.c1
          have e0 := E6.out.res.frozen 0
          have e1 := E6.out.res.frozen 1
          clear s6 S5
          go_wp2_with fail
          obtain ⟨t1, t2, t3⟩ := E6.out.told
          exact bodyPost_ret (v := .agg #[.int .i64 hh, .slice (some ⟨w5.heap.size, 0, none⟩) 0 0]) (by simp [results, Try.results59, go_sem, d0, d1]) rfl ⟨hh, _, [], q + 1 + 1, by omega, by simp, by simp, rfl, t1, t2, t3⟩
        · subst hx
          have b1 := S5.out.box.c1
          obtain ⟨X, hX⟩ : ∃ X, X = ((w5.alloc (.cells #[.int .i64 500] 3)).alloc (.cells #[.int .i64 500] 3)).alloc (.cells #[.slice (some ⟨w5.heap.size, 0, none⟩) 1 1, .slice (some ⟨w5.heap.size + 1, 0, none⟩) 1 1] 35) := ⟨_, rfl⟩
          have hbX : Below w5.heap.size w5 X := by rw [hX]; exact (((Below.refl _ _).alloc (Nat.le_refl _) _).alloc (by simp) _).alloc (by simp; omega) _
          have SX := Lib.hid (S5.out.keep hbX)
          have O5 := Lib.hid (own_stay S5.out.own.out hbX)
          have HSZ := Lib.hid (show w.heap.size + 2 ≤ X.heap.size from (S5.out.keep hbX).box.lt)
          have CN : ∀ j u, [(Value.slice (some ⟨w5.heap.size, 0, none⟩) 1 1), .slice (some ⟨w5.heap.size + 1, 0, none⟩) 1 1][j]? = some u → X.cell? ((⟨w5.heap.size + 1 + 1, 0, none⟩ : Addr).add j) = some u := by
            rw [hX]
            intro j u hj
            have := cells_new (w := (w5.alloc (.cells #[.int .i64 500] 3)).alloc (.cells #[.int .i64 500] 3)) (T := 35) j u hj
            simpa using this
          have HCN := Lib.hid CN
          have HX := Lib.hid hX
          rw [hX] at SX O5 HSZ HCN
          clear hX hbX CN
          go_wp2_with (at_builtin; refine wpList_append_lies _ rfl _ _ 23 rfl (w.heap.size + 2) 35 i1 (.slice none 0 0) 1 24 Try.underlying23 GI.out GZ0.out GZ1.out GZ2.out rfl (by decide) _ ss.length us rfl O5.out ⟨w5.heap.size + 1 + 1, 0, none⟩ 2 2 [.slice (some ⟨w5.heap.size, 0, none⟩) 1 1, .slice (some ⟨w5.heap.size + 1, 0, none⟩) 1 1] rfl rfl HCN.out (by simp [Value.oneCell']) (by decide) (by unfold maxLen; omega) (by omega) HSZ.out _ rfl ?_; intro g6 c6 w6 ho6 hg6 hgg6 _; have hb6 := own_below (K := w.heap.size + 2) hg6 HSZ.out (fun k hk => (own_lt O5.out k hk).1); have n6 : w6.cell? ⟨w.heap.size + 1, 1, none⟩ = some (.slice ua ss.length uc) := (SX.out.box.at_ (hb6.block _ (Nat.lt_succ_self _))).c1; have f6 : w6.frozen? ⟨w.heap.size + 1, 1, none⟩ = false := (SX.out.box.at_ (hb6.block _ (Nat.lt_succ_self _))).frozen 1; have E6 := Lib.hid (S5.out.two rfl ho6 hg6); have c0 := E6.out.box.c0; have c1 := E6.out.box.c1; have d0 := E6.out.res.c0; have d1 := E6.out.res.c1; have e0 := E6.out.res.frozen 0; have e1 := E6.out.res.frozen 1; clear hb6 ho6 hg6 hgg6)
          obtain ⟨t1, t2, t3⟩ := E6.out.told
          exact bodyPost_ret (v := .agg #[.int .i64 hh, .slice (some ⟨g6, 0, none⟩) (ss.length + 2) c6]) (by simp [results, Try.results59, go_sem, d0, d1]) rfl ⟨hh, _, ss ++ [[500], [500]], q + 1 + 1, by omega, by simp; omega, by rw [List.flatten_append, List.length_append]; show _ + 2 ≤ 100; omega, rfl, t1, t2, t3⟩
        · subst hx
          have b1 := S5.out.box.c1
          obtain ⟨g, rfl, _, hKg, hgl, hcc, hcm, hcell, hfr⟩ := own_cell S5.out.own.out (k := 0) (by omega)
          obtain ⟨u0, hu0, _⟩ := S5.out.own.row 0 (by omega)
          rw [hu0] at hcell
          have hs0 : 0 < ss.length := by omega
          unfold maxLen at hcm
          have e3 : madeCells #[Value.int .i64 0] 3 = #[.int .i64 0, .int .i64 0, .int .i64 0] := by kernel_rfl
          have hmk : ∀ W : World, Sem.run Try.prog (Instr.makeSlice 35 (.int .i64 3) (.int .i64 3)) W = .ok (.slice (some ⟨W.heap.size, 0, none⟩) 3 3) (W.alloc (.cells #[.int .i64 0, .int .i64 0, .int .i64 0] 3)) := fun W => by
            have h := run_make_row (P := Try.prog) 35 3 i0 (.int .i64 0) Try.underlying35 HI.out HZ0.out HZ1.out rfl .i64 .i64 3 (by rw [HZ2.out]; omega) (by omega) W
            rw [e3] at h
            exact h
          clear e3
          have hbo : ∀ o : Obj, Below w5.heap.size w5 (w5.alloc o) := fun o => (Below.refl _ _).alloc (Nat.le_refl _) o
          have b1a : ∀ o : Obj, (w5.alloc o).cell? ⟨w.heap.size + 1, 1, none⟩ = some (.slice (some ⟨g, 0, none⟩) ss.length uc) := fun o => (S5.out.keep (hbo o)).box.c1
          have hca : ∀ o : Obj, (w5.alloc o).cell? ⟨g, 0, none⟩ = some u0 := fun o => ((hbo o).cell (p := ⟨g, 0, none⟩) hgl).trans hcell
          have hfa : ∀ o : Obj, (w5.alloc o).frozen? ⟨g, 0, none⟩ = false := fun o => ((hbo o).frozen (p := ⟨g, 0, none⟩) hgl).trans hfr
          have il : (0 : Int) < (ss.length : Int) := by omega
          clear hbo
          have E6 := Lib.hid (S5.out.zeros hs0 hu0 hgl)
          have c0 := E6.out.box.c0
          have c1 := E6.out.box.c1
          have d0 := E6.out.res.c0
          have d1 := E6.out.res.c1
          have e0 := E6.out.res.frozen 0
          have e1 := E6.out.res.frozen 1
          have hfl6 := flat_set0 ss [0, 0, 0]
          simp only [List.length_cons, List.length_nil] at hfl6
          obtain ⟨W6, hW6⟩ : ∃ W6, W6 = ((w5.setCell ⟨g, 0, none⟩ (.slice (some ⟨w5.heap.size, 0, none⟩) 3 3)).alloc (.cells #[.int .i64 0, .int .i64 0, .int .i64 0] 3)).drew := ⟨_, rfl⟩
          have HW6 := Lib.hid hW6
          rw [← hW6] at E6 c0 c1 d0 d1 e0 e1
          clear hW6
          go_wp2_with fail
          go_region
          rw [← HW6.out]
          go_wp2_with fail
          obtain ⟨t1, t2, t3⟩ := E6.out.told
          exact bodyPost_ret (v := .agg #[.int .i64 hh, .slice (some ⟨g, 0, none⟩) ss.length uc]) (by simp [results, Try.results59, go_sem, d0, d1]) rfl ⟨hh, _, ss.set 0 [0, 0, 0], q + 1 + 1, by omega, by simp; omega, by omega, rfl, t1, t2, t3⟩
end Go.Proofs.Ytlcfldmiibjboaa
