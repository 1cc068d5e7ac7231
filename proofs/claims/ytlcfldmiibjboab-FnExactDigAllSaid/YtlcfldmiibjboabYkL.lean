/-
  The draw of a move: l20Move.
-/
import Derived.Test.YtlcfldmiibjboabGYv
import Derived.Test.YtlcfldmiibjboabYsM
namespace Go.Proofs.Ytlcfldmiibjboab
open Go.RowKit
set_option linter.unusedVariables false

theorem BoxM.at_ {B : Nat} {w w' : World} {f t : Int} (hb : BoxM B w f t) (hk : w'.heap[B]? = w.heap[B]?) : BoxM B w' f t := by
  unfold BoxM at hb ⊢
  rw [hk]; exact hb
theorem BoxM.frozen {B : Nat} {w : World} {f t : Int} (hb : BoxM B w f t) (k : Nat) : w.frozen? ⟨B, k, none⟩ = false := by
  unfold BoxM at hb
  simp [World.frozen?, hb]
theorem BoxM.set0 {B : Nat} {w : World} {f t : Int} (hb : BoxM B w f t) (x : Int) : BoxM B (w.setCell ⟨B, 0, none⟩ (.int .i64 x)) x t := by
  unfold BoxM at hb ⊢
  rw [Joins.block_setCell hb]; rfl
theorem BoxM.set1 {B : Nat} {w : World} {f t : Int} (hb : BoxM B w f t) (x : Int) : BoxM B (w.setCell ⟨B, 1, none⟩ (.int .i64 x)) f x := by
  unfold BoxM at hb ⊢
  rw [Joins.block_setCell hb]; rfl
theorem BoxM.other {B N : Nat} {w : World} {f t : Int} (hb : BoxM B w f t) (hne : B ≠ N) (o : Nat) (u : Value) : BoxM B (w.setCell ⟨N, o, none⟩ u) f t := by
  unfold BoxM at hb ⊢
  rw [Below.heap_setCell _ _ _ _ hne]; exact hb
theorem BoxM.new (w : World) (f t : Int) : BoxM w.heap.size (w.alloc (.cells #[.int .i64 f, .int .i64 t] 51)) f t := heap_alloc_new _ _

/-- What a draw of a move gives. -/
def DrewMove (base B p : Nat) (w : World) (e : Ending) (w' : World) : Prop :=
  ∃ (f t : Int) (q : Nat), q ≤ p + 4 ∧ e = .returned (.agg #[.int .i64 f, .int .i64 t]) ∧ Rdr base B q w' ∧ MostB B w w'

/-- What stands while a move is drawn. -/
structure MvSt (base B p : Nat) (w wr : World) (M : Nat) (f t : Int) : Prop where
  rdr : Rdr base B p wr
  res : BoxM (w.heap.size + 1) wr 0 0
  box : BoxM M wr f t
  far : w.heap.size + 1 < M
  most : MostB B w wr
theorem MvSt.far_ {base B p q M : Nat} {w wr wx : World} {f t : Int} (hB : B < w.heap.size) (s : MvSt base B p w wr M f t) (hm : MostB B wr wx) (hr : Rdr base B q wx) : MvSt base B q w wx M f t := by
  have h1 := s.res.lt
  have h2 := s.box.lt
  have h3 := s.far
  exact ⟨hr, s.res.at_ (hm.block _ (by omega) h1), s.box.at_ (hm.block _ (by omega) h2), h3, s.most.trans hm⟩
theorem MvSt.set1 {base B p M : Nat} {w wr : World} {f t : Int} (hB : B < w.heap.size) (hb : base ≤ B) (s : MvSt base B p w wr M f t) (x : Int) : MvSt base B p w (wr.setCell ⟨M, 1, none⟩ (.int .i64 x)) M f x := by
  have h3 := s.far
  exact ⟨s.rdr.set_other (by omega) (by omega) _ _, s.res.other (by omega) _ _, s.box.set1 _, h3, s.most.below_ ((Below.refl _ _).setCell (p := ⟨M, 1, none⟩) (by show w.heap.size ≤ M; omega) _)⟩
theorem MvSt.told {base B p M : Nat} {w wr : World} {f t : Int} (hB : B < w.heap.size) (hb : base ≤ B) (s : MvSt base B p w wr M f t) :
    Rdr base B p ((wr.setCell ⟨w.heap.size + 1, 0, none⟩ (.int .i64 f)).setCell ⟨w.heap.size + 1, 1, none⟩ (.int .i64 t)) ∧ MostB B w ((wr.setCell ⟨w.heap.size + 1, 0, none⟩ (.int .i64 f)).setCell ⟨w.heap.size + 1, 1, none⟩ (.int .i64 t)) :=
  ⟨(s.rdr.set_other (by omega) (by omega) _ _).set_other (by omega) (by omega) _ _,
    (s.most.below_ ((Below.refl _ _).setCell (p := ⟨w.heap.size + 1, 0, none⟩) (Nat.le_add_right _ _) _)).below_ ((Below.refl _ _).setCell (p := ⟨w.heap.size + 1, 1, none⟩) (Nat.le_add_right _ _) _)⟩

theorem MvSt.start {base B p : Nat} {w W2 w3 w4 : World} (hB : B < w.heap.size) (hz : W2.heap.size = w.heap.size + 2) (h0 : BoxM (w.heap.size + 1) W2 0 0) (hm : MostB B w W2) (h3 : Only B W2 w3) (h4 : Only B w3 w4) (hr : Rdr base B p w4) (f t : Int) :
    MvSt base B p w (w4.alloc (.cells #[.int .i64 f, .int .i64 t] 51)) w4.heap.size f t := by
  have hz4 : w4.heap.size = w.heap.size + 2 := by rw [h4.size, h3.size, hz]
  have hb : Below w4.heap.size w4 (w4.alloc (.cells #[.int .i64 f, .int .i64 t] 51)) := (Below.refl _ _).alloc (Nat.le_refl _) _
  have r4 : BoxM (w.heap.size + 1) w4 0 0 := (h0.at_ (h3.block _ (by omega))).at_ (h4.block _ (by omega))
  exact ⟨hr.keep hb, r4.keep hb, BoxM.new _ _ _, by omega, ((hm.trans h3.mostB).trans h4.mostB).below_ (hb.mono (by omega))⟩

end Go.Proofs.Ytlcfldmiibjboab
