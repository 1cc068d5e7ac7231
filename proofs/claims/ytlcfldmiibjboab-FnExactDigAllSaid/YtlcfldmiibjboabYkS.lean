/-
  Lists of moves that a call makes; a yard that lies apart from some blocks; what stands while moves are drawn.
-/
import Derived.Test.YtlcfldmiibjboabYkL
import Derived.Test.YtlcfldmiibjboabYmM
import Derived.Deep.AppendLies
import Derived.Deep.Draws
import Derived.Laws.Rows
namespace Go.Proofs.Ytlcfldmiibjboab
open Go.RowKit
set_option linter.unusedVariables false

theorem infoMv : (Try.prog.info? 51).map (fun i => (i.zero, i.size, i.bytes)) = some (some (.agg #[.int .i64 0, .int .i64 0]), 2, 16) := by kernel_rfl
/-- The cells of a list of moves. -/
def rowM (l : List (Int × Int)) : List Value := l.flatMap fun m => [.int .i64 m.1, .int .i64 m.2]
theorem rowM_len : ∀ l : List (Int × Int), (rowM l).length = l.length * 2
  | [] => rfl
  | b :: l => by
    have e : rowM (b :: l) = [.int .i64 b.1, .int .i64 b.2] ++ rowM l := rfl
    rw [e, List.length_append, rowM_len l]
    simp only [List.length_cons, List.length_nil]
    omega
theorem rowM_app (l l' : List (Int × Int)) : rowM (l ++ l') = rowM l ++ rowM l' := by simp [rowM]
theorem rowM_at : ∀ (l : List (Int × Int)) (k : Nat) (hk : k < l.length), (rowM l)[k * 2]? = some (.int .i64 l[k].1) ∧ (rowM l)[k * 2 + 1]? = some (.int .i64 l[k].2)
  | b :: l, 0, _ => ⟨rfl, rfl⟩
  | b :: l, k + 1, hk => by
    have e : rowM (b :: l) = [.int .i64 b.1, .int .i64 b.2] ++ rowM l := rfl
    have ih := rowM_at l k (by simpa using hk)
    rw [e, List.getElem?_append_right (by show 2 ≤ _; omega), List.getElem?_append_right (by show 2 ≤ _; omega)]
    have e1 : (k + 1) * 2 - ([.int .i64 b.1, .int .i64 b.2] : List Value).length = k * 2 := by show (k + 1) * 2 - 2 = _; omega
    have e2 : (k + 1) * 2 + 1 - ([.int .i64 b.1, .int .i64 b.2] : List Value).length = k * 2 + 1 := by show (k + 1) * 2 + 1 - 2 = _; omega
    rw [e1, e2]
    exact ih
theorem HoldsM.of_own {w : World} {base : Nat} {e : TypeId} {v : Value} {l : List (Int × Int)} (h : w.ownsRow base e 2 v l.length (rowM l)) : HoldsM w v l := by
  rcases h.2 with ⟨rfl, h0⟩ | ⟨g, cap, cur, rfl, hb, hg, hc, hm, hs, hx⟩
  · exact ⟨none, 0, by rw [h0], by omega, by simp [maxLen], .inl h0⟩
  · have hlt := (own_lt h g (by simp [Value.ownBlock])).2
    refine ⟨some ⟨g, 0, none⟩, cap, rfl, hc, hm, .inr ⟨g, 0, rfl, hlt, fun k hk => ?_⟩⟩
    obtain ⟨q1, q2⟩ := rowM_at l k hk
    rw [← hx, List.getElem?_take, if_pos (by omega)] at q1 q2
    refine ⟨?_, ?_⟩
    · rw [Nat.zero_add, World.cell?, hg]; simpa using q1
    · rw [Nat.zero_add, World.cell?, hg]; simpa using q2
theorem own_moves {w : World} {base : Nat} {e : TypeId} {v : Value} {l m : List (Int × Int)} {n : Nat} {xs : List Value} (h : w.ownsRow base e 2 v (l.length + n) (rowM l ++ xs)) (hm : m.length = n) (hx : xs = rowM m) : w.ownsRow base e 2 v (l ++ m).length (rowM (l ++ m)) := by
  subst hm hx
  rw [rowM_app, List.length_append]; exact h
/-- A row that is the call's own stays while its block does. -/
theorem own_far {w w' : World} {base n size : Nat} {e : TypeId} {v : Value} {xs : List Value} (h : w.ownsRow base e size v n xs) (hb : ∀ k, v.ownBlock = some k → w'.heap[k]? = w.heap[k]?) : w'.ownsRow base e size v n xs := by
  refine ⟨h.1, ?_⟩
  rcases h.2 with q | ⟨g, cap, cur, rfl, q1, q2, q3⟩
  · exact .inl q
  · exact .inr ⟨g, cap, cur, rfl, q1, by rw [hb g (by simp [Value.ownBlock])]; exact q2, q3⟩

theorem HoldsI.far {w w' : World} {v : Value} {l : List Int} (S : Nat → Prop) (hs : w.heap.size ≤ w'.heap.size) (hb : ∀ k, S k → k < w.heap.size → w'.heap[k]? = w.heap[k]?) {K : Nat} (hK : ∀ k, K ≤ k → S k) (h : NewI K w v l) : HoldsI w' v l := by
  obtain ⟨a, cap, h1, h2, h3, h4⟩ := h
  refine ⟨a, cap, h1, h2, h3, ?_⟩
  rcases h4 with h4 | ⟨b, off, h5, h6, h7, h8⟩
  · exact .inl h4
  · exact .inr ⟨b, off, h5, Nat.lt_of_lt_of_le h7 hs, fun k hk => (World.cell?_of_block (w := w) (hb b (hK b h6) h7)).trans (h8 k hk)⟩
/-- A yard from K on holds wherever these blocks stay. -/
theorem NewY.far {K : Nat} {w w' : World} {v : Value} {ss : List (List Int)} (h : NewY K w v ss) (hs : w.heap.size ≤ w'.heap.size) (hb : ∀ k, K ≤ k → k < w.heap.size → w'.heap[k]? = w.heap[k]?) : HoldsY w' v ss := by
  obtain ⟨a, cap, h1, h2, h3, h0, h4⟩ := h
  refine ⟨a, cap, h1, h2, h3, h0, h4.imp id fun ⟨b, off, h5, h8, h6, h7⟩ => ⟨b, off, h5, Nat.lt_of_lt_of_le h6 hs, fun k hk => ?_⟩⟩
  obtain ⟨u, q1, q2, q3⟩ := h7 k hk
  exact ⟨u, (World.cell?_of_block (w := w) (hb b h8 h6)).trans q1, HoldsI.far (fun k => K ≤ k) hs hb (fun _ h => h) q2, q3⟩
/-- A yard that lies apart from three blocks: it holds whatever happens to these. -/
def StayY (B g X : Nat) (w : World) (v : Value) (ss : List (List Int)) : Prop :=
  ∀ w', w.heap.size ≤ w'.heap.size → (∀ k, k < w.heap.size → k ≠ B → k ≠ g → k ≠ X → w'.heap[k]? = w.heap[k]?) → HoldsY w' v ss
theorem StayY.holds {B g X : Nat} {w : World} {v : Value} {ss : List (List Int)} (h : StayY B g X w v ss) : HoldsY w v ss := h w (Nat.le_refl _) fun _ _ _ _ _ => rfl
theorem StayY.of_new {B g X K : Nat} {w : World} {v : Value} {ss : List (List Int)} (h : NewY K w v ss) (hB : B < K) (hg : g < K ∨ w.heap.size ≤ g) (hX : X < K ∨ w.heap.size ≤ X) : StayY B g X w v ss :=
  fun w' hs hb => h.far hs fun k hk hl => hb k hl (by omega) (by omega) (by omega)
theorem StayY.go {B g X : Nat} {w w' : World} {v : Value} {ss : List (List Int)} (h : StayY B g X w v ss) (hs : w.heap.size ≤ w'.heap.size) (hb : ∀ k, k < w.heap.size → k ≠ B → k ≠ g → k ≠ X → w'.heap[k]? = w.heap[k]?) : StayY B g X w' v ss :=
  fun w'' hs' hb' => h w'' (Nat.le_trans hs hs') fun k hk h1 h2 h3 => (hb' k (Nat.lt_of_lt_of_le hk hs) h1 h2 h3).trans (hb k hk h1 h2 h3)
theorem StayY.most {B g X : Nat} {w w' : World} {v : Value} {ss : List (List Int)} (h : StayY B g X w v ss) (hm : MostB B w w') : StayY B g X w' v ss := h.go hm.size fun k hk h1 _ _ => hm.block k h1 hk
/-- The list's block may move to a new one. -/
theorem StayY.push {B g g' X : Nat} {w w' : World} {v : Value} {ss : List (List Int)} (h : StayY B g X w v ss) (hs : w.heap.size ≤ w'.heap.size) (hb : ∀ k, k < w.heap.size → k ≠ g → w'.heap[k]? = w.heap[k]?) (hg : g' = g ∨ g' = w.heap.size) : StayY B g' X w' v ss :=
  fun w'' hs' hb' => h w'' (Nat.le_trans hs hs') fun k hk h1 h2 h3 => (hb' k (Nat.lt_of_lt_of_le hk hs) h1 (by omega) h3).trans (hb k hk h2)

/-- What stands while moves are drawn: the reader, the list of moves, the yard after them in a box of its own. -/
structure RunSt (base B p : Nat) (W0 wr : World) (X : Nat) (hx : Int) (xv : Value) (tt : List (List Int)) (g cap : Nat) (ms : List (Int × Int)) : Prop where
  rdr : Rdr base B p wr
  most : MostB B W0 wr
  own : wr.ownsRow W0.heap.size 51 2 (.slice (some ⟨g, 0, none⟩) ms.length cap) ms.length (rowM ms)
  box : BoxY X wr hx xv
  far : W0.heap.size ≤ X
  low : B < W0.heap.size
  stay : StayY B g X wr xv tt
theorem RunSt.ne {base B p X g cap : Nat} {W0 wr : World} {hx : Int} {xv : Value} {tt : List (List Int)} {ms : List (Int × Int)} (s : RunSt base B p W0 wr X hx xv tt g cap ms) : X ≠ g := by
  intro e
  subst e
  have hb := s.box
  unfold BoxY at hb
  rcases s.own.2 with ⟨q, _⟩ | ⟨g', cap', cur, q, _, q2, _⟩
  · cases q
  · simp only [Value.slice.injEq, Option.some.injEq, Addr.mk.injEq, and_true] at q
    obtain ⟨rfl, _⟩ := q
    rw [hb] at q2
    simp at q2
theorem RunSt.go {base B p q X g cap : Nat} {W0 wr wx : World} {hx : Int} {xv : Value} {tt : List (List Int)} {ms : List (Int × Int)} (s : RunSt base B p W0 wr X hx xv tt g cap ms) (hm : MostB B wr wx) (hr : Rdr base B q wx) : RunSt base B q W0 wx X hx xv tt g cap ms := by
  have h1 := s.far
  have h2 := s.low
  exact ⟨hr, s.most.trans hm, own_most s.own hm h2, s.box.at_ (hm.block _ (by omega) s.box.lt), h1, h2, s.stay.most hm⟩
theorem RunSt.keep {base B p X g cap : Nat} {W0 wr wx : World} {hx : Int} {xv : Value} {tt : List (List Int)} {ms : List (Int × Int)} (s : RunSt base B p W0 wr X hx xv tt g cap ms) (hb : Below wr.heap.size wr wx) : RunSt base B p W0 wx X hx xv tt g cap ms :=
  s.go ((MostB.refl B wr).below_ hb) (s.rdr.keepK hb s.rdr.2.1)
/-- One more move in the list. -/
theorem RunSt.push {base B p X g g' cap cap' : Nat} {W0 wr w6 : World} {hx : Int} {xv : Value} {tt : List (List Int)} {ms : List (Int × Int)} {f t : Int} (s : RunSt base B p W0 wr X hx xv tt g cap ms)
    (ho : w6.ownsRow W0.heap.size 51 2 (.slice (some ⟨g', 0, none⟩) (ms.length + 1) cap') (ms.length + 1) (rowM ms ++ [.int .i64 f, .int .i64 t])) (hg0 : wr.grownBy w6 (Value.slice (some ⟨g, 0, none⟩) ms.length cap).ownBlock) (hgg0 : (Value.slice (some ⟨g, 0, none⟩) ms.length cap).ownBlock = some g' ∨ g' = wr.heap.size) :
    RunSt base B p W0 w6 X hx xv tt g' cap' (ms ++ [(f, t)]) ∧ (∀ v ss, StayY B g X wr v ss → StayY B g' X w6 v ss) ∧ ∀ k, k < wr.heap.size → k ≠ g → w6.heap[k]? = wr.heap[k]? := by
  have hg : wr.grownBy w6 (some g) := by simpa [Value.ownBlock] using hg0
  have hgg : g' = g ∨ g' = wr.heap.size := hgg0.imp (fun e => by simp [Value.ownBlock] at e; omega) id
  have hb6 : Below W0.heap.size wr w6 := own_below (v := .slice (some ⟨g, 0, none⟩) ms.length cap) hg0 s.most.size fun k hk => (own_lt s.own k hk).1
  have blk : ∀ k, k < wr.heap.size → k ≠ g → w6.heap[k]? = wr.heap[k]? := fun k hk hne => hg.block k hk (fun e => hne (by simpa using e))
  have hlow := s.low
  have hz : wr.heap.size ≤ w6.heap.size := hb6.size
  refine ⟨⟨s.rdr.keepK hb6 hlow, s.most.below_ hb6, ?_, s.box.at_ (blk X s.box.lt s.ne), s.far, hlow, s.stay.push hz blk hgg⟩, fun v ss h => h.push hz blk hgg, blk⟩
  have := own_moves (m := [(f, t)]) ho rfl rfl
  rw [List.length_append] at this ⊢
  exact this
/-- The yard after the move laid into its box. -/
theorem RunSt.take {base B p X g cap : Nat} {W0 wr : World} {hx h' : Int} {xv u' : Value} {tt t' : List (List Int)} {ms : List (Int × Int)} (s : RunSt base B p W0 wr X hx xv tt g cap ms) (hu : StayY B g X wr u' t') :
    RunSt base B p W0 ((wr.setCell ⟨X, 0, none⟩ (.int .i64 h')).setCell ⟨X, 1, none⟩ u') X h' u' t' g cap ms := by
  have h1 := s.far
  have h2 := s.low
  have h3 := s.ne
  have h0 := s.rdr.1
  have blk : ∀ k, k ≠ X → ((wr.setCell ⟨X, 0, none⟩ (.int .i64 h')).setCell ⟨X, 1, none⟩ u').heap[k]? = wr.heap[k]? := fun k hk => by
    rw [Below.heap_setCell _ _ _ _ hk, Below.heap_setCell _ _ _ _ hk]
  have hz : ((wr.setCell ⟨X, 0, none⟩ (.int .i64 h')).setCell ⟨X, 1, none⟩ u').heap.size = wr.heap.size := by simp [World.setCell]
  refine ⟨(s.rdr.set_other (by omega) (by omega) _ _).set_other (by omega) (by omega) _ _, (s.most.below_ ((Below.refl _ _).setCell (p := ⟨X, 0, none⟩) h1 _)).below_ ((Below.refl _ _).setCell (p := ⟨X, 1, none⟩) h1 _), ?_, (s.box.set0 _).set1 _, h1, h2, hu.go (Nat.le_of_eq hz.symm) fun k _ _ _ hk => blk k hk⟩
  refine own_far s.own fun k hk => blk k ?_
  simp [Value.ownBlock] at hk
  omega
theorem RunSt.bd {base B p X g cap : Nat} {W0 wr : World} {hx : Int} {xv : Value} {tt : List (List Int)} {ms : List (Int × Int)} (s : RunSt base B p W0 wr X hx xv tt g cap ms) : g < wr.heap.size ∧ W0.heap.size ≤ g := by
  have := own_lt s.own g (by simp [Value.ownBlock])
  omega
theorem moves41 {w : World} {base : Nat} {e : TypeId} {v : Value} (h : w.ownsRow base e 2 v 41 (madeCells (Value.agg #[.int .i64 0, .int .i64 0]).cells (41 * 2)).toList) : w.ownsRow base e 2 v (List.replicate 41 ((0 : Int), (0 : Int))).length (rowM (List.replicate 41 ((0 : Int), (0 : Int)))) := by
  have e1 : (madeCells (Value.agg #[.int .i64 0, .int .i64 0]).cells (41 * 2)).toList = rowM (List.replicate 41 ((0 : Int), (0 : Int))) := by kernel_rfl
  rw [e1] at h
  exact h
/-- The draw's result laid. -/
theorem run_res {w w1 w6 : World} {B : Nat} {h : Int} {u lv : Value} {ss : List (List Int)} {K : Nat} {e : TypeId} {ms : List (Int × Int)} (r0 : BoxY w.heap.size w1 0 (.slice none 0 0)) (b1 : Below w.heap.size w w1) (hB : w.heap.size < B) (hm : MostB B w1 w6) (hn : NewY w1.heap.size w6 u ss) (ho : w6.ownsRow K e 2 lv ms.length (rowM ms)) (hK : w.heap.size < K) :
    BoxY w.heap.size w6 0 (.slice none 0 0) ∧ HoldsY ((w6.setCell ⟨w.heap.size, 0, none⟩ (.int .i64 h)).setCell ⟨w.heap.size, 1, none⟩ u) u ss ∧ HoldsM ((w6.setCell ⟨w.heap.size, 0, none⟩ (.int .i64 h)).setCell ⟨w.heap.size, 1, none⟩ u) lv ms ∧ Below w.heap.size w ((w6.setCell ⟨w.heap.size, 0, none⟩ (.int .i64 h)).setCell ⟨w.heap.size, 1, none⟩ u) := by
  obtain ⟨q1, q2, q3⟩ := yard_res (h := h) r0 b1 hB hm hn
  refine ⟨q1, q2, HoldsM.of_own (own_keep ho fun k hk _ => ?_), q3⟩
  rw [Below.heap_setCell _ _ _ _ (by show k ≠ w.heap.size; omega), Below.heap_setCell _ _ _ _ (by show k ≠ w.heap.size; omega)]
end Go.Proofs.Ytlcfldmiibjboab
