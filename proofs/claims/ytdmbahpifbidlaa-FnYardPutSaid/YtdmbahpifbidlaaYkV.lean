/-
  The draws of a yard alone, and of a yard and an id.
-/
import Derived.Test.YtdmbahpifbidlaaYkD
namespace Go.Proofs.Ytdmbahpifbidlaa
open Go.RowKit
set_option linter.unusedVariables false

/-- What a draw of a yard gives its law. -/
def DrewY (w : World) (e : Ending) (w' : World) : Prop :=
  ∃ (h : Int) (u : Value) (ss : List (List Int)), ss.length ≤ 7 ∧ ss.flatten.length ≤ 100 ∧ e = .returned (.agg #[.int .i64 h, u]) ∧ HoldsY w' u ss ∧ Below w.heap.size w w'
theorem row8_keep {w w' : World} {a : Option Addr} {len cap : Nat} (h : IsRow8 w a len cap) (hb : Below w.heap.size w w') : IsRow8 w' a len cap := by
  rcases h with h | ⟨x, h1, h2, h3, h4⟩
  · exact .inl h
  · refine .inr ⟨x, h1, h2, h3, fun i hi => ?_⟩
    obtain ⟨c, c0, c1, hc⟩ := h4 i hi
    have hlt : (x.add i).block < w.heap.size := by
      rcases Nat.lt_or_ge (x.add i).block w.heap.size with h' | h'
      · exact h'
      · rw [World.cell?, Array.getElem?_eq_none h'] at hc; cases hc
    exact ⟨c, c0, c1, (hb.cell hlt).trans hc⟩
/-- The reader opened behind the result's block, and the yard drawn. -/
theorem yard_res {w w1 w2 : World} {B : Nat} {h : Int} {u : Value} {ss : List (List Int)} (r0 : BoxY w.heap.size w1 0 (.slice none 0 0)) (b1 : Below w.heap.size w w1) (hB : w.heap.size < B) (hm : MostB B w1 w2) (hn : NewY w1.heap.size w2 u ss) :
    BoxY w.heap.size w2 0 (.slice none 0 0) ∧ HoldsY ((w2.setCell ⟨w.heap.size, 0, none⟩ (.int .i64 h)).setCell ⟨w.heap.size, 1, none⟩ u) u ss ∧ Below w.heap.size w ((w2.setCell ⟨w.heap.size, 0, none⟩ (.int .i64 h)).setCell ⟨w.heap.size, 1, none⟩ u) := by
  have hl := r0.lt
  exact ⟨r0.at_ (hm.block _ (by omega) hl), ((hn.setLow hl _ _).setLow hl _ _).holds,
    (((b1.trans (hm.under (by omega) b1.size)).setCell (p := ⟨w.heap.size, 0, none⟩) (Nat.le_refl _) _).setCell (p := ⟨w.heap.size, 1, none⟩) (Nat.le_refl _) _)⟩

set_option maxRecDepth 10000 in
set_option maxHeartbeats 4000000 in
theorem drawYardValid_any (a : Option Addr) (len cap : Nat) (w : World) (h : IsRow8 w a len cap) :
    Calls Try.prog 15 #[.slice a len cap] w (DrewY w) := by
  have ba : Below w.heap.size w (w.alloc (.cells #[.int .i64 0, .slice none 0 0] 25)) := (Below.refl _ _).alloc (Nat.le_refl _) _
  have ra := BoxY.new w 0 (.slice none 0 0)
  have hz : (w.alloc (.cells #[.int .i64 0, .slice none 0 0] 25)).heap.size = w.heap.size + 1 := by simp
  go_enter Try.func15, Try.ntmps15
  go_wp2_with fail
  refine (open_any a len cap _ (row8_keep h ba)).mono ?_
  generalize (w.alloc (.cells #[.int .i64 0, .slice none 0 0] 25)) = wa at ba ra hz ⊢
  rintro e w1 ⟨rfl, hr, hb, hz1⟩
  generalize wa.heap.size = B at hz hr hb hz1 ⊢
  subst hz
  have r1 := ra.at_ (hb.block w.heap.size (Nat.lt_succ_self _))
  have b1 : Below w.heap.size w w1 := ba.trans (hb.mono (by omega))
  clear h hb ba ra
  go_wp2_with fail
  refine (l20Yard_any _ _ 0 2 w1 hr (by omega) (by omega) (by omega)).mono ?_
  rintro e w2 ⟨hh, u, ss, q, hq, hl, hf, rfl, hn, hr2, hm⟩
  obtain ⟨ua, uc, rfl⟩ := hn.form
  have R := Lib.hid (yard_res (h := hh) r1 b1 (Nat.lt_succ_self _) hm hn)
  have c0 := R.out.1.c0
  have c1 := R.out.1.c1
  have e0 := R.out.1.frozen 0
  have e1 := R.out.1.frozen 1
  clear hr r1 b1 hm hn hr2
  go_wp2_with fail
  exact bodyPost_ret (v := .agg #[.int .i64 hh, .slice ua ss.length uc]) (by simp [results, Try.results15, go_sem, c0, c1]) rfl ⟨hh, _, ss, hl, hf, rfl, R.out.2.1, R.out.2.2⟩
set_option maxRecDepth 10000 in
set_option maxHeartbeats 4000000 in
theorem drawYardIds_any (a : Option Addr) (len cap : Nat) (w : World) (h : IsRow8 w a len cap) :
    Calls Try.prog 23 #[.slice a len cap] w (DrewY w) := by
  have ba : Below w.heap.size w (w.alloc (.cells #[.int .i64 0, .slice none 0 0] 25)) := (Below.refl _ _).alloc (Nat.le_refl _) _
  have ra := BoxY.new w 0 (.slice none 0 0)
  have hz : (w.alloc (.cells #[.int .i64 0, .slice none 0 0] 25)).heap.size = w.heap.size + 1 := by simp
  go_enter Try.func23, Try.ntmps23
  go_wp2_with fail
  refine (open_any a len cap _ (row8_keep h ba)).mono ?_
  generalize (w.alloc (.cells #[.int .i64 0, .slice none 0 0] 25)) = wa at ba ra hz ⊢
  rintro e w1 ⟨rfl, hr, hb, hz1⟩
  generalize wa.heap.size = B at hz hr hb hz1 ⊢
  subst hz
  have r1 := ra.at_ (hb.block w.heap.size (Nat.lt_succ_self _))
  have b1 : Below w.heap.size w w1 := ba.trans (hb.mono (by omega))
  clear h hb ba ra
  go_wp2_with fail
  refine (l20Yard_any _ _ 0 6 w1 hr (by omega) (by omega) (by omega)).mono ?_
  rintro e w2 ⟨hh, u, ss, q, hq, hl, hf, rfl, hn, hr2, hm⟩
  obtain ⟨ua, uc, rfl⟩ := hn.form
  have R := Lib.hid (yard_res (h := hh) r1 b1 (Nat.lt_succ_self _) hm hn)
  have c0 := R.out.1.c0
  have c1 := R.out.1.c1
  have e0 := R.out.1.frozen 0
  have e1 := R.out.1.frozen 1
  clear hr r1 b1 hm hn hr2
  go_wp2_with fail
  exact bodyPost_ret (v := .agg #[.int .i64 hh, .slice ua ss.length uc]) (by simp [results, Try.results23, go_sem, c0, c1]) rfl ⟨hh, _, ss, hl, hf, rfl, R.out.2.1, R.out.2.2⟩
/-- What a draw of a yard and a number gives its law. -/
def DrewYId (w : World) (e : Ending) (w' : World) : Prop :=
  ∃ (h : Int) (u : Value) (ss : List (List Int)) (x : Int), ss.length ≤ 7 ∧ ss.flatten.length ≤ 100 ∧ e = .returned (.tuple #[.agg #[.int .i64 h, u], .int .i64 x]) ∧ HoldsY w' u ss ∧ Below w.heap.size w w'
set_option maxRecDepth 10000 in
set_option maxHeartbeats 4000000 in
theorem drawYardFind_any (a : Option Addr) (len cap : Nat) (w : World) (h : IsRow8 w a len cap) :
    Calls Try.prog 19 #[.slice a len cap] w (DrewYId w) := by
  have ba : Below w.heap.size w (w.alloc (.cells #[.int .i64 0, .slice none 0 0] 25)) := (Below.refl _ _).alloc (Nat.le_refl _) _
  have ra := BoxY.new w 0 (.slice none 0 0)
  have hz : (w.alloc (.cells #[.int .i64 0, .slice none 0 0] 25)).heap.size = w.heap.size + 1 := by simp
  go_enter Try.func19, Try.ntmps19
  go_wp2_with fail
  refine (open_any a len cap _ (row8_keep h ba)).mono ?_
  generalize (w.alloc (.cells #[.int .i64 0, .slice none 0 0] 25)) = wa at ba ra hz ⊢
  rintro e w1 ⟨rfl, hr, hb, hz1⟩
  generalize wa.heap.size = B at hz hr hb hz1 ⊢
  subst hz
  have r1 := ra.at_ (hb.block w.heap.size (Nat.lt_succ_self _))
  have b1 : Below w.heap.size w w1 := ba.trans (hb.mono (by omega))
  clear h hb ba ra
  go_wp2_with fail
  refine (l20Yard_any _ _ 0 9 w1 hr (by omega) (by omega) (by omega)).mono ?_
  rintro e w2 ⟨hh, u, ss, q, hq, hl, hf, rfl, hn, hr2, hm⟩
  obtain ⟨ua, uc, rfl⟩ := hn.form
  go_wp2_with fail
  refine (pick_any _ _ q 30 w2 hr2 (by omega) (by omega)).mono ?_
  rintro e w3 ⟨x, x0, x1, rfl, hr3, ho3⟩
  have R := Lib.hid (yard_res (h := hh) r1 b1 (Nat.lt_succ_self _) (hm.trans ho3.mostB) (hn.most ho3.mostB (by omega)))
  have c0 := R.out.1.c0
  have c1 := R.out.1.c1
  have e0 := R.out.1.frozen 0
  have e1 := R.out.1.frozen 1
  clear hr r1 b1 hm hn hr2 hr3 ho3
  go_wp2_with fail
  exact bodyPost_ret (v := .tuple #[.agg #[.int .i64 hh, .slice ua ss.length uc], .int .i64 x]) (by simp [results, Try.results19, go_sem, c0, c1]) rfl ⟨hh, _, ss, x, hl, hf, rfl, R.out.2.1, R.out.2.2⟩
end Go.Proofs.Ytdmbahpifbidlaa
