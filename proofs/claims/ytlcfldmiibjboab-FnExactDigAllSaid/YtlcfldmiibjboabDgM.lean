/-
  Lists of moves that a call makes while a yard of its own is changed: what stands.
-/
import Derived.Test.YtlcfldmiibjboabYkS
import Derived.Test.YtlcfldmiibjboabYlM
import Derived.Test.YtlcfldmiibjboabDgMath4
namespace Go.Proofs.Ytlcfldmiibjboab
open Go.RowKit
set_option linter.unusedVariables false

theorem FreeM.of_own {w : World} {base : Nat} {e : TypeId} {v : Value} {l : List (Int × Int)} (h : w.ownsRow base e 2 v l.length (rowM l)) : FreeM base w.heap.size w v l := by
  rcases h.2 with ⟨rfl, h0⟩ | ⟨g, cap, cur, rfl, hb, hg, hc, hm, hs, hx⟩
  · exact .inl ⟨List.eq_nil_of_length_eq_zero h0, none, 0, rfl, by unfold maxLen; omega⟩
  · have hlt := (own_lt h g (by simp [Value.ownBlock])).2
    refine .inr ⟨g, cap, cur, e, rfl, ⟨hb, hlt⟩, hc, hm, hg, by omega, fun k hk => ?_⟩
    obtain ⟨q1, q2⟩ := rowM_at l k hk
    rw [← hx, List.getElem?_take, if_pos (by omega)] at q1 q2
    exact ⟨by simpa using q1, by simpa using q2⟩
theorem FreeM.wide {K K' B B' : Nat} {w : World} {v : Value} {l : List (Int × Int)} (h : FreeM K B w v l) (hK : K' ≤ K) (hB : B ≤ B') : FreeM K' B' w v l := by
  rcases h with h | ⟨g, cap, cur, T, h1, h2, h3⟩
  · exact .inl h
  · exact .inr ⟨g, cap, cur, T, h1, ⟨by omega, by omega⟩, h3⟩
theorem FreeM.none_ {K B : Nat} {w : World} : FreeM K B w (.slice none 0 0) [] := .inl ⟨rfl, none, 0, rfl, by unfold maxLen; omega⟩
theorem FreeM.empty_ {K B : Nat} {w : World} {a : Option Addr} : FreeM K B w (.slice a 0 0) [] := .inl ⟨rfl, a, 0, rfl, by unfold maxLen; omega⟩
theorem HoldsI.far_ {w w' : World} {v : Value} {l : List Int} (h : HoldsI w v l) (hs : w.heap.size ≤ w'.heap.size) (hb : ∀ k, k < w.heap.size → w'.heap[k]? = w.heap[k]?) : HoldsI w' v l := by
  obtain ⟨a, cap, h1, h2, h3, h4⟩ := h
  refine ⟨a, cap, h1, h2, h3, h4.imp id fun ⟨b, off, h5, h6, h7⟩ => ⟨b, off, h5, Nat.lt_of_lt_of_le h6 hs, fun k hk => ?_⟩⟩
  exact (World.cell?_of_block (w := w) (hb b h6)).trans (h7 k hk)
theorem HoldsY.far_ {w w' : World} {v : Value} {ss : List (List Int)} (h : HoldsY w v ss) (hs : w.heap.size ≤ w'.heap.size) (hb : ∀ k, k < w.heap.size → w'.heap[k]? = w.heap[k]?) : HoldsY w' v ss := by
  obtain ⟨a, cap, h1, h2, h3, h0, h4⟩ := h
  refine ⟨a, cap, h1, h2, h3, h0, h4.imp id fun ⟨b, off, h5, h6, h7⟩ => ⟨b, off, h5, Nat.lt_of_lt_of_le h6 hs, fun k hk => ?_⟩⟩
  obtain ⟨u, hu, hr, hn⟩ := h7 k hk
  exact ⟨u, (World.cell?_of_block (w := w) (hb b h6)).trans hu, hr.far_ hs hb, hn⟩
/-- A yard that lies apart from a block and from a row's block: it holds whatever happens to these. -/
def StayO (Y : Nat) (o : Option Nat) (w : World) (v : Value) (ss : List (List Int)) : Prop :=
  ∀ w', w.heap.size ≤ w'.heap.size → (∀ k, k < w.heap.size → k ≠ Y → o ≠ some k → w'.heap[k]? = w.heap[k]?) → HoldsY w' v ss
theorem StayO.holds {Y : Nat} {o : Option Nat} {w : World} {v : Value} {ss : List (List Int)} (h : StayO Y o w v ss) : HoldsY w v ss := h w (Nat.le_refl _) fun _ _ _ _ => rfl
theorem StayO.of_old {Y : Nat} {o : Option Nat} {w0 w : World} {v : Value} {ss : List (List Int)} (h : HoldsY w0 v ss) (hb : Below w0.heap.size w0 w) (hY : w0.heap.size ≤ Y) (ho : ∀ k, o = some k → w0.heap.size ≤ k) : StayO Y o w v ss :=
  fun w' hs hk => h.far_ (Nat.le_trans hb.size hs) fun k hl => (hk k (Nat.lt_of_lt_of_le hl hb.size) (by omega) (fun e => by have := ho k e; omega)).trans (hb.block k hl)
theorem StayO.of_new {Y K : Nat} {o : Option Nat} {w : World} {v : Value} {ss : List (List Int)} (h : NewY K w v ss) (hY : Y < K) (ho : ∀ k, o = some k → k < K) : StayO Y o w v ss :=
  fun w' hs hb => h.far hs fun k hk hl => hb k hl (by omega) (fun e => by have := ho k e; omega)
theorem FreeY.newY {K B : Nat} {w : World} {v : Value} {ss : List (List Int)} (h : FreeY K B w v ss.length (rowAt ss)) : NewY K w v ss := by
  rcases h with ⟨h, a, cap, rfl, h2, h3⟩ | ⟨g, cap, cur, T, us, G, h1, h2, h3, h4, h5, h6, h7, h8, h9, h10⟩
  · exact ⟨a, cap, by rw [h], by omega, h2, h3, .inl h⟩
  · refine ⟨some ⟨g, 0, none⟩, cap, h1, h4, h5, (fun e => by cases e), .inr ⟨g, 0, rfl, h2, free_lt h6, fun k hk => ⟨us k, ?_, ?_, ?_⟩⟩⟩
    · rw [Nat.zero_add]
      simp only [World.cell?, h6]
      exact h8 k hk
    · rcases h9 k hk with ⟨hn, a, c, hu, hc, hn2⟩ | ⟨q1, q2, q3, q4⟩
      · rw [hn, hu]; exact NewI.empty hc
      · obtain ⟨c, r1, r3, r4, r5, cur', T', r6, r7, r8⟩ := q4
        refine ⟨_, c, r1, r4, r5, .inr ⟨G k, 0, rfl, q1, r3, fun j hj => ?_⟩⟩
        rw [Nat.zero_add]
        simp only [World.cell?, r6]
        exact r8 j hj
    · exact NilOk.of_free (h9 k hk).free
theorem StayO.go {Y : Nat} {o : Option Nat} {w w' : World} {v : Value} {ss : List (List Int)} (h : StayO Y o w v ss) (hs : w.heap.size ≤ w'.heap.size) (hb : ∀ k, k < w.heap.size → k ≠ Y → o ≠ some k → w'.heap[k]? = w.heap[k]?) : StayO Y o w' v ss :=
  fun w'' hs' hb' => h w'' (Nat.le_trans hs hs') fun k hk h1 h2 => (hb' k (Nat.lt_of_lt_of_le hk hs) h1 h2).trans (hb k hk h1 h2)
theorem StayO.keep {Y : Nat} {o : Option Nat} {w w' : World} {v : Value} {ss : List (List Int)} (h : StayO Y o w v ss) (hb : Below w.heap.size w w') : StayO Y o w' v ss := h.go hb.size fun k hk _ _ => hb.block k hk

/-- What stands while moves are listed: the list, a yard in a box of its own. -/
structure LoopM (K Y : Nat) (w : World) (h : Int) (xv : Value) (tt : List (List Int)) (lv : Value) (l : List (Int × Int)) : Prop where
  own : w.ownsRow K 51 2 lv l.length (rowM l)
  box : BoxY Y w h xv
  low : Y < K
  stay : StayO Y lv.ownBlock w xv tt
  size : K ≤ w.heap.size
theorem LoopM.keep {K Y : Nat} {w w' : World} {h : Int} {xv : Value} {tt : List (List Int)} {lv : Value} {l : List (Int × Int)} (s : LoopM K Y w h xv tt lv l) (hb : Below w.heap.size w w') : LoopM K Y w' h xv tt lv l :=
  ⟨own_stay s.own hb, s.box.keep hb, s.low, s.stay.keep hb, Nat.le_trans s.size hb.size⟩
/-- Another yard laid into the box. -/
theorem LoopM.take {K Y : Nat} {w : World} {h h' : Int} {xv xv' : Value} {tt tt' : List (List Int)} {lv : Value} {l : List (Int × Int)} (s : LoopM K Y w h xv tt lv l) (hu : StayO Y lv.ownBlock w xv' tt') :
    LoopM K Y ((w.setCell ⟨Y, 0, none⟩ (.int .i64 h')).setCell ⟨Y, 1, none⟩ xv') h' xv' tt' lv l := by
  have blk : ∀ k, k ≠ Y → ((w.setCell ⟨Y, 0, none⟩ (.int .i64 h')).setCell ⟨Y, 1, none⟩ xv').heap[k]? = w.heap[k]? := fun k hk => by
    rw [Below.heap_setCell _ _ _ _ hk, Below.heap_setCell _ _ _ _ hk]
  have hz : ((w.setCell ⟨Y, 0, none⟩ (.int .i64 h')).setCell ⟨Y, 1, none⟩ xv').heap.size = w.heap.size := by simp [World.setCell]
  refine ⟨own_far s.own fun k hk => blk k ?_, (s.box.set0 _).set1 _, s.low, hu.go (Nat.le_of_eq hz.symm) fun k _ hk _ => blk k hk, by rw [hz]; exact s.size⟩
  have := (own_lt s.own k hk).1
  have := s.low
  omega
/-- One more move in the list. -/
theorem LoopM.push {K Y : Nat} {w w6 : World} {h : Int} {xv : Value} {tt : List (List Int)} {lv : Value} {l : List (Int × Int)} {f t : Int} {g' cap' : Nat} (s : LoopM K Y w h xv tt lv l)
    (ho : w6.ownsRow K 51 2 (.slice (some ⟨g', 0, none⟩) (l.length + 1) cap') (l.length + 1) (rowM l ++ [.int .i64 f, .int .i64 t])) (hg : w.grownBy w6 lv.ownBlock) (hgg : lv.ownBlock = some g' ∨ g' = w.heap.size) :
    LoopM K Y w6 h xv tt (.slice (some ⟨g', 0, none⟩) (l.length + 1) cap') (l ++ [(f, t)]) := by
  have hb6 : Below K w w6 := own_below hg s.size fun k hk => (own_lt s.own k hk).1
  have blk : ∀ k, k < w.heap.size → lv.ownBlock ≠ some k → w6.heap[k]? = w.heap[k]? := fun k hk hne => hg.block k hk (fun e => hne e.symm)
  have hY := s.box.lt
  have hlow := s.low
  refine ⟨?_, s.box.at_ (blk Y hY fun e => by have := (own_lt s.own Y e).1; omega), hlow, fun w' hs hb => s.stay w' (Nat.le_trans hb6.size hs) fun k hk h1 h2 => (hb k (Nat.lt_of_lt_of_le hk hb6.size) h1 ?_).trans (blk k hk h2), Nat.le_trans s.size hb6.size⟩
  · have := own_moves (m := [(f, t)]) ho rfl rfl
    rw [List.length_append] at this ⊢
    exact this
  · intro e
    have e2 : g' = k := by simpa [Value.ownBlock] using e
    subst e2
    rcases hgg with hgg | hgg
    · exact h2 hgg
    · omega
theorem LoopM.far {K Y : Nat} {w w6 : World} {h : Int} {xv : Value} {tt : List (List Int)} {lv : Value} {l : List (Int × Int)} (s : LoopM K Y w h xv tt lv l) (hg : w.grownBy w6 lv.ownBlock) : Below K w w6 :=
  own_below hg s.size fun k hk => (own_lt s.own k hk).1
theorem LoopM.form {K Y : Nat} {w : World} {h : Int} {xv : Value} {tt : List (List Int)} {lv : Value} {l : List (Int × Int)} (s : LoopM K Y w h xv tt lv l) : ∃ a c, xv = .slice a tt.length c := by
  obtain ⟨a, c, e, _⟩ := s.stay.holds
  exact ⟨a, c, e⟩
/-- What a call gives that digs a box out. -/
def DigGives (h : Int) (ss : List (List Int)) (id : Int) (w : World) (e : Ending) (w' : World) : Prop :=
  ∃ v, e = .returned (.tuple #[v, .bool (digM h ss id).2]) ∧ FreeM w.heap.size w'.heap.size w' v (digM h ss id).1 ∧ Below w.heap.size w w'
end Go.Proofs.Ytlcfldmiibjboab
