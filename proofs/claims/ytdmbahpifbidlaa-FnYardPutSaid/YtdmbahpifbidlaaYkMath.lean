/-
  A yard that a draw builds row by row, beside a reader that writes its own block.
-/
import Derived.Test.YtdmbahpifbidlaaRd
import Derived.Test.YtdmbahpifbidlaaYp
import Derived.Test.YtdmbahpifbidlaaYsT
namespace Go.Proofs.Ytdmbahpifbidlaa
open Go.RowKit
set_option linter.unusedVariables false

theorem rowAt_app_lt {ss : List (List Int)} {l : List Int} {k : Nat} (h : k < ss.length) : rowAt (ss ++ [l]) k = rowAt ss k := by
  rw [rowAt_get (by simp; omega), rowAt_get h, List.getElem_append_left h]
theorem rowAt_app_eq (ss : List (List Int)) (l : List Int) : rowAt (ss ++ [l]) ss.length = l := by
  rw [rowAt_get (by simp)]
  simp
theorem OwnY.congr {K : Nat} {w : World} {v : Value} {us : List Value} {n : Nat} {R R' : Nat → List Int} (h : OwnY K w v us n R) (hR : ∀ k, k < n → R k = R' k) : OwnY K w v us n R' :=
  ⟨h.out, h.len, fun k hk => by
    obtain ⟨u, h1, h2, h3⟩ := h.row k hk
    exact ⟨u, h1, by rw [← hR k hk]; exact h2, h3⟩, h.apart⟩
theorem OwnY.pushB {K : Nat} {wr w5 X w6 : World} {v : Value} {us : List Value} {k : Nat} {R : Nat → List Int} {u5 : Value} {g cap : Nat} (h : OwnY K wr v us k R) (hK : K ≤ wr.heap.size) (s1 : wr.heap.size ≤ w5.heap.size) (hb5 : ∀ j, K ≤ j → j < wr.heap.size → w5.heap[j]? = wr.heap[j]?) (hbX : Below w5.heap.size w5 X)
    (hu5 : w5.ownsRow wr.heap.size 3 1 u5 (R k).length (rowI (R k))) (ho6 : w6.ownsRow K 28 1 (.slice (some ⟨g, 0, none⟩) (k + 1) cap) (k + 1) (us ++ [u5]))
    (hblk : ∀ j, j < X.heap.size → v.ownBlock ≠ some j → w6.heap[j]? = X.heap[j]?) (hg : v.ownBlock = some g ∨ g = X.heap.size) : OwnY K w6 (.slice (some ⟨g, 0, none⟩) (k + 1) cap) (us ++ [u5]) (k + 1) R := by
  have s2 := hbX.size
  have hvlt : ∀ b, v.ownBlock = some b → b < wr.heap.size := fun b hb => (own_lt h.out b hb).2
  have hold : ∀ j, K ≤ j → j < wr.heap.size → v.ownBlock ≠ some j → w6.heap[j]? = wr.heap[j]? := fun j hK' hj hne => by
    rw [hblk j (by omega) hne, hbX.block j (by omega), hb5 j hK' hj]
  have gne : ∀ b, b < X.heap.size → v.ownBlock ≠ some b → g ≠ b := fun b hb hne e => by
    rcases hg with hg | hg
    · exact hne (by rw [hg, e])
    · omega
  refine ⟨ho6, by rw [List.length_append, h.len]; rfl, fun j hj => ?_, ?_⟩
  · by_cases e : j = k
    · subst e
      refine ⟨u5, ?_, ?_, fun b hb => ?_⟩
      · rw [List.getElem?_append_right (by rw [h.len]; exact Nat.le_refl _), h.len, Nat.sub_self]; rfl
      · refine own_from (base := wr.heap.size) ?_ hK
        refine own_keep hu5 fun b hb hbl => ?_
        rw [hblk b (by omega) (fun e => by have := hvlt b e; omega), hbX.block b hbl]
      · have hbl := own_lt hu5 b hb
        intro e2
        have : g = b := by simpa [Value.ownBlock] using e2
        exact gne b (by omega) (fun e3 => by have := hvlt b e3; omega) this
    · obtain ⟨u, h1, h2, h3⟩ := h.row j (by omega)
      refine ⟨u, ?_, ?_, fun b hb => ?_⟩
      · rw [List.getElem?_append_left (by rw [h.len]; omega)]; exact h1
      · refine ⟨h2.1, ?_⟩
        rcases h2.2 with q | ⟨g', cap', cur, rfl, q1, q2, q3⟩
        · exact .inl q
        · refine .inr ⟨g', cap', cur, rfl, q1, ?_, q3⟩
          rw [hold g' q1 (free_lt q2) (h3 g' rfl)]; exact q2
      · have hbl := own_lt h2 b hb
        intro e2
        have : g = b := by simpa [Value.ownBlock] using e2
        exact gne b (by omega) (h3 b hb) this
  · refine List.pairwise_append.2 ⟨h.apart, List.pairwise_singleton _ _, fun x hx y hy b hb => ?_⟩
    rw [List.mem_singleton] at hy
    subst hy
    intro hc
    have h5 := own_lt hu5 b hc
    obtain ⟨j, hj, rfl⟩ := List.getElem_of_mem hx
    obtain ⟨u, h1, h2, _⟩ := h.row j (by rw [← h.len]; exact hj)
    rw [List.getElem?_eq_getElem hj] at h1
    obtain rfl := Option.some.inj h1
    have := own_lt h2 b hb
    omega

/-- A draw's yard under way: the reader, the result's block, the yard's block, its rows. -/
structure YdSt (base B p : Nat) (w wr : World) (h : Int) (u : Value) (us : List Value) (ss : List (List Int)) : Prop where
  rdr : Rdr base B p wr
  lt : B < w.heap.size
  res : BoxY w.heap.size wr 0 (.slice none 0 0)
  box : BoxY (w.heap.size + 1) wr h u
  own : OwnY (w.heap.size + 2) wr u us ss.length (rowAt ss)
  most : MostB B w wr
theorem YdSt.form {base B p : Nat} {w wr : World} {h : Int} {u : Value} {us : List Value} {ss : List (List Int)} (s : YdSt base B p w wr h u us ss) : ∃ a c, u = .slice a ss.length c := own_slice s.own.out
theorem YdSt.base_ {base B p : Nat} {w wr : World} {h : Int} {u : Value} {us : List Value} {ss : List (List Int)} (s : YdSt base B p w wr h u us ss) : base ≤ B := s.rdr.1
theorem YdSt.far {base B p q : Nat} {w wr wx : World} {h : Int} {u : Value} {us : List Value} {ss : List (List Int)} (s : YdSt base B p w wr h u us ss) (hm : MostB B wr wx) (hr : Rdr base B q wx) : YdSt base B q w wx h u us ss := by
  have hl := s.lt
  have hb := s.box.lt
  have h0 := s.res.lt
  exact ⟨hr, hl, s.res.at_ (hm.block _ (by omega) h0), s.box.at_ (hm.block _ (by omega) hb), s.own.far fun k hk hkl => hm.block k (by omega) hkl, s.most.trans hm⟩
theorem YdSt.keep {base B p : Nat} {w wr wx : World} {h : Int} {u : Value} {us : List Value} {ss : List (List Int)} (s : YdSt base B p w wr h u us ss) (hb : Below wr.heap.size wr wx) : YdSt base B p w wx h u us ss :=
  s.far ((MostB.refl B wr).below_ hb) (s.rdr.keepK hb s.rdr.2.1)
/-- One more row. -/
theorem YdSt.row {base B p q : Nat} {w wr w5 w6 : World} {h : Int} {u s : Value} {us : List Value} {ss : List (List Int)} {l : List Int} {o : Obj} {g cap : Nat} (st : YdSt base B p w wr h u us ss) (hm : MostB B wr w5) (hr : Rdr base B q w5)
    (hs : w5.ownsRow wr.heap.size 3 1 s l.length (rowI l)) (ho6 : w6.ownsRow (w.heap.size + 2) 28 1 (.slice (some ⟨g, 0, none⟩) (ss.length + 1) cap) (ss.length + 1) (us ++ [s]))
    (hgrow : (w5.alloc o).grownBy w6 u.ownBlock) (hg : u.ownBlock = some g ∨ g = (w5.alloc o).heap.size) :
    YdSt base B q w (w6.setCell ⟨w.heap.size + 1, 1, none⟩ (.slice (some ⟨g, 0, none⟩) (ss.length + 1) cap)) h (.slice (some ⟨g, 0, none⟩) (ss ++ [l]).length cap) (us ++ [s]) (ss ++ [l]) := by
  have hl := st.lt
  have hb := st.box.lt
  have h0 := st.res.lt
  have hbs := st.rdr.1
  have s5 := st.far hm hr
  have hX : Below w5.heap.size w5 (w5.alloc o) := (Below.refl _ _).alloc (Nat.le_refl _) _
  have sX := s5.keep hX
  have hsz : w.heap.size + 2 ≤ (w5.alloc o).heap.size := by have := sX.box.lt; omega
  have h6 : Below (w.heap.size + 2) (w5.alloc o) w6 := own_below hgrow hsz fun k hk => (own_lt st.own.out k hk).1
  have e : (ss ++ [l]).length = ss.length + 1 := by simp
  have hpush : OwnY (w.heap.size + 2) w6 (.slice (some ⟨g, 0, none⟩) (ss.length + 1) cap) (us ++ [s]) (ss.length + 1) (rowAt (ss ++ [l])) :=
    (st.own.congr fun k hk => (rowAt_app_lt hk).symm).pushB (by omega) hm.size (fun j hj hjl => hm.block j (by omega) hjl) hX (by rw [rowAt_app_eq]; exact hs) ho6 (fun j hj hne => hgrow.block j hj (fun e => hne e.symm)) hg
  refine ⟨?_, hl, ?_, ?_, ?_, ?_⟩
  · exact (sX.rdr.keepK h6 (by omega)).set_other (by omega) (by omega) _ _
  · have : BoxY w.heap.size w6 0 (.slice none 0 0) := sX.res.at_ (h6.block _ (by omega))
    exact this.other (by omega) _ _
  · have : BoxY (w.heap.size + 1) w6 h u := sX.box.at_ (h6.block _ (by omega))
    rw [e]
    exact this.set1 _
  · rw [e]
    exact hpush.setLow (by omega) _ _
  · exact ((sX.most.below_ (h6.mono (by omega)))).below_ ((Below.refl _ _).setCell (p := ⟨w.heap.size + 1, 1, none⟩) (Nat.le_add_right _ _) _)
theorem flat_app (ss : List (List Int)) (l : List Int) : (ss ++ [l]).flatten.length = ss.flatten.length + l.length := by simp
/-- A draw's yard as it will be told. -/
structure YdEnd (base B p : Nat) (w wr : World) (h : Int) (u : Value) (ss : List (List Int)) : Prop where
  rdr : Rdr base B p wr
  lt : B < w.heap.size
  res : BoxY w.heap.size wr 0 (.slice none 0 0)
  box : BoxY (w.heap.size + 1) wr h u
  new : NewY (w.heap.size + 1) wr u ss
  most : MostB B w wr
theorem YdSt.end_ {base B p : Nat} {w wr : World} {h : Int} {u : Value} {us : List Value} {ss : List (List Int)} (s : YdSt base B p w wr h u us ss) : YdEnd base B p w wr h u ss :=
  ⟨s.rdr, s.lt, s.res, s.box, s.own.newY.from_ (by omega), s.most⟩
theorem YdEnd.high {base B p : Nat} {w wr : World} {h h' : Int} {u : Value} {us : List Value} {ss : List (List Int)} (s : YdSt base B p w wr h u us ss) : YdEnd base B p w (wr.setCell ⟨w.heap.size + 1, 0, none⟩ (.int .i64 h')) h' u ss :=
  have hl := s.lt
  have hb := s.rdr.1
  ⟨s.rdr.set_other (by omega) (by omega) _ _, s.lt, s.res.other (by omega) _ _, s.box.set0 _, (s.own.setLow (by omega) _ _).newY.from_ (by omega), s.most.below_ ((Below.refl _ _).setCell (p := ⟨w.heap.size + 1, 0, none⟩) (Nat.le_add_right _ _) _)⟩
theorem YdEnd.none_ {base B p : Nat} {w wr : World} {h : Int} {u : Value} {us : List Value} {ss : List (List Int)} (s : YdSt base B p w wr h u us ss) {v' : Value} (hv : NewY (w.heap.size + 1) (wr.setCell ⟨w.heap.size + 1, 1, none⟩ v') v' []) : YdEnd base B p w (wr.setCell ⟨w.heap.size + 1, 1, none⟩ v') h v' [] :=
  have hl := s.lt
  have hb := s.rdr.1
  ⟨s.rdr.set_other (by omega) (by omega) _ _, s.lt, s.res.other (by omega) _ _, s.box.set1 _, hv, s.most.below_ ((Below.refl _ _).setCell (p := ⟨w.heap.size + 1, 1, none⟩) (Nat.le_add_right _ _) _)⟩
/-- The result laid. -/
theorem YdEnd.told {base B p : Nat} {w wr : World} {h : Int} {u : Value} {ss : List (List Int)} (s : YdEnd base B p w wr h u ss) :
    NewY w.heap.size ((wr.setCell ⟨w.heap.size, 0, none⟩ (.int .i64 h)).setCell ⟨w.heap.size, 1, none⟩ u) u ss ∧ Rdr base B p ((wr.setCell ⟨w.heap.size, 0, none⟩ (.int .i64 h)).setCell ⟨w.heap.size, 1, none⟩ u) ∧ MostB B w ((wr.setCell ⟨w.heap.size, 0, none⟩ (.int .i64 h)).setCell ⟨w.heap.size, 1, none⟩ u) := by
  have hl := s.lt
  have hb := s.rdr.1
  exact ⟨((s.new.setLow (by omega) _ _).setLow (by omega) _ _).from_ (by omega), (s.rdr.set_other (by omega) (by omega) _ _).set_other (by omega) (by omega) _ _,
    (s.most.below_ ((Below.refl _ _).setCell (p := ⟨w.heap.size, 0, none⟩) (Nat.le_refl _) _)).below_ ((Below.refl _ _).setCell (p := ⟨w.heap.size, 1, none⟩) (Nat.le_refl _) _)⟩
/-- What a draw of a yard gives. -/
def DrewYard (base B p : Nat) (w : World) (e : Ending) (w' : World) : Prop :=
  ∃ (h : Int) (u : Value) (ss : List (List Int)) (q : Nat), q ≤ p + 60 ∧ ss.length ≤ 7 ∧ ss.flatten.length ≤ 100 ∧ e = .returned (.agg #[.int .i64 h, u]) ∧ NewY w.heap.size w' u ss ∧ Rdr base B q w' ∧ MostB B w w'
end Go.Proofs.Ytdmbahpifbidlaa
