/-
  The contract of l20Boxes, which draws a list of boxes.
-/
import Derived.Test.YtnnjphhkheocgaaDrK
import Derived.Deep.Draws
import Derived.Laws.Rows
namespace Go.Proofs.Ytnnjphhkheocgaa
open Go.RowKit
set_option linter.unusedVariables false

theorem infoBx : (Try.prog.info? 62).map (fun i => (i.zero, i.size, i.bytes)) = some (some (.agg #[.int .i64 0, .int .i64 0, .int .i64 0, .int .i64 0, .bool false]), 5, 40) := by kernel_rfl

/-- What a draw of a list of boxes gives. -/
def DrewBoxes (base B p : Nat) (w : World) (e : Ending) (w' : World) : Prop :=
  ∃ (l : List Bx) (v : Value) (q : Nat), q ≤ p + 1000 ∧ l.length ≤ 40 ∧ e = .returned v ∧ NewBx w.heap.size w' v l ∧ Rdr base B q w' ∧ MostB B w w'

theorem own_boxes {w : World} {base : Nat} {e : TypeId} {v : Value} {l m : List Bx} {n : Nat} {xs : List Value} (h : w.ownsRow base e 5 v (l.length + n) (rowB l ++ xs)) (hm : m.length = n) (hx : xs = rowB m) : w.ownsRow base e 5 v (l ++ m).length (rowB (l ++ m)) := by
  subst hm hx
  rw [rowB_app, List.length_append]; exact h
theorem NewBx.from_ {K K' : Nat} {w : World} {v : Value} {l : List Bx} (h : NewBx K w v l) (hk : K' ≤ K) : NewBx K' w v l := by
  obtain ⟨a, cap, h1, h2, h3, h4⟩ := h
  exact ⟨a, cap, h1, h2, h3, h4.imp id fun ⟨b, off, h5, h6, h7⟩ => ⟨b, off, h5, by omega, h7⟩⟩
theorem eleven {w : World} {base : Nat} {e : TypeId} {v : Value} (h : w.ownsRow base e 5 v 11 (madeCells (Value.agg #[.int .i64 0, .int .i64 0, .int .i64 0, .int .i64 0, .bool false]).cells (11 * 5)).toList) : w.ownsRow base e 5 v (List.replicate 11 Bx.zero).length (rowB (List.replicate 11 Bx.zero)) := by
  have e1 : (madeCells (Value.agg #[.int .i64 0, .int .i64 0, .int .i64 0, .int .i64 0, .bool false]).cells (11 * 5)).toList = rowB (List.replicate 11 Bx.zero) := by kernel_rfl
  rw [e1] at h
  exact h
set_option maxRecDepth 10000 in
set_option maxHeartbeats 2000000 in
theorem l20Boxes_any (base B p : Nat) (many n : Int) (w : World) (h : Rdr base B p w) (hp : p ≤ 100000) (hm0 : 0 ≤ many) (hm1 : many ≤ 20) (hn0 : 0 ≤ n) (hn1 : n ≤ 1000) :
    Calls Try.prog 62 #[.pointer (some ⟨B, 0, none⟩), .int .i64 many, .int .i64 n] w (DrewBoxes base B p w) := by
  obtain ⟨i0, hi, hz0, hz1, hz2⟩ := info_parts infoBx
  have HI := Lib.hid hi
  have HZ0 := Lib.hid hz0
  have HZ1 := Lib.hid hz1
  have HZ2 := Lib.hid hz2
  clear hi hz0 hz1 hz2
  have hBw := h.2.1
  have hbB := h.1
  go_enter Try.func62, Try.ntmps62
  go_wp2_with fail
  refine (pick_any base B p (many + 1) _ (h.keep ((Below.refl _ _).alloc (Nat.le_refl _) _)) (by omega) (by omega)).mono ?_
  rintro e w1 ⟨x1, x10, x11, rfl, h1, o1⟩
  have own1 : w1.ownsRow w.heap.size 62 5 (.slice (some ⟨w.heap.size, 0, none⟩) 0 0) ([] : List Bx).length (rowB []) := by
    refine ⟨rfl, .inr ⟨w.heap.size, 0, #[], rfl, Nat.le_refl _, ?_, Nat.le_refl _, Nat.zero_le _, rfl, rfl⟩⟩
    rw [o1.block _ (by omega)]
    show (w.heap.push _)[w.heap.size]? = _
    simp
  have hmw1 : MostB B w w1 := ((MostB.refl B w).alloc _).trans o1.mostB
  obtain ⟨j1, hj1⟩ := Int.eq_ofNat_of_zero_le x10
  subst hj1
  clear h o1
  go_wp2_with fail
  go_loopw [7, 8] (fun v k wr => ∃ (q j : Nat) (l : List Bx) (g cap : Nat), v = .slice (some ⟨g, 0, none⟩) l.length cap ∧ l.length ≤ cap ∧ cap ≤ maxLen ∧ k = .int .i64 j ∧ l.length + j ≤ 20 ∧ q ≤ p + 1 + 8 * l.length ∧ Rdr base B q wr ∧ wr.ownsRow w.heap.size 62 5 v l.length (rowB l) ∧ MostB B w wr) (fun _ k _ => (intOf k).toNat)
  case atStart => exact ⟨p + 1, j1, [], w.heap.size, 0, rfl, Nat.le_refl _, Nat.zero_le _, rfl, by simp; omega, by simp, h1, own1, hmw1⟩
  case round =>
    clear h1 own1 hmw1
    obtain ⟨q, j, l, g, cap, rfl, hgc, hgm, rfl, hl, hq, hr, hown, hmw⟩ := hrel
    have hws := hmw.size
    unfold maxLen at hgm
    by_cases hlt : 0 < j
    · go_wp2_with fail
      refine (l20Box_any base B q (l.length + 1) 0 _ hr (by omega) (by omega) (by omega) (by omega) (by omega)).mono ?_
      rintro e w3 ⟨b, q', hq', rfl, hr3, hm⟩
      have hown3 := own_most hown hm (by omega)
      have hmw3 := hmw.trans hm
      have hws3 := hmw3.size
      clear hr hown hmw hm
      go_wp2_with (at_builtin; refine wpList_append_own _ rfl _ _ 25 rfl w.heap.size 62 i0 (.agg #[.int .i64 0, .int .i64 0, .int .i64 0, .int .i64 0, .bool false]) 5 40 Try.underlying25 HI.out HZ0.out HZ1.out HZ2.out rfl (by decide) _ _ _ rfl (hown3.alloc _) ⟨w3.heap.size, 0, none⟩ 1 1 [.int .i64 b.i, .int .i64 b.g, .int .i64 b.c, .int .i64 b.p, .bool b.d] rfl rfl (fun j u hu => cells_new j u hu) (by simp [Value.oneCell']) (by unfold maxLen; omega) (by omega) (by simp; omega) ?_; intro v' w4 hown4 hgrow _)
      have hb4 : Below w.heap.size (w3.alloc (.cells #[.int .i64 b.i, .int .i64 b.g, .int .i64 b.c, .int .i64 b.p, .bool b.d] 62)) w4 := own_below (v := .slice (some ⟨g, 0, none⟩) l.length cap) hgrow (by simp; omega) (fun k hk => (own_lt hown3 k hk).1)
      have hmw4 := (hmw3.alloc (.cells #[.int .i64 b.i, .int .i64 b.g, .int .i64 b.c, .int .i64 b.p, .bool b.d] 62)).below_ hb4
      have hr4 := (hr3.keep ((Below.refl _ _).alloc (Nat.le_refl _) (.cells #[.int .i64 b.i, .int .i64 b.g, .int .i64 b.c, .int .i64 b.p, .bool b.d] 62))).keepK hb4 hBw
      have hown5 := own_boxes (m := [b]) hown4 rfl rfl
      clear hgrow hb4 hown3 hr3 hown4 hmw3
      obtain ⟨g', cap', rfl, q1, q2⟩ := own_form hown5 (by simp)
      have H5 := Lib.hid hown5
      have Q1 := Lib.hid q1
      clear hown5 q1
      go_wp2_with fail
      go_roundw
      case rel => exact ⟨q', j - 1, l ++ [b], g', cap', rfl, Q1.out, q2, by congr 1; omega, by simp; omega, by simp; omega, hr4, H5.out, hmw4⟩
      case measure => simp [intOf]; omega
    · have hj0 : j = 0 := by omega
      clear hlt
      subst hj0
      go_wp2_with fail
      refine (odd_all base B q n _ hr (by omega) hn0 hn1).mono ?_
      rintro e w6 ⟨v, q6, rfl, hq6, h6, o6⟩
      have hown6 := own_most hown o6.mostB (by omega)
      have hmw6 := hmw.trans o6.mostB
      have hws6 := hmw6.size
      clear hr hown hmw o6
      cases v
      · have hh := Lib.hid (NewBx.of_own hown6)
        go_wp2_with fail
        go_ret
        exact ⟨l, _, q6, by omega, by omega, rfl, hh.out, h6, hmw6⟩
      · go_wp2_with fail
        refine (pick_any base B q6 3 _ h6 (by omega) (by omega)).mono ?_
        rintro e w7 ⟨x7, x70, x71, rfl, h7, o7⟩
        have hown7 := own_most hown6 o7.mostB (by omega)
        have hmw7 := hmw6.trans o7.mostB
        have hws7 := hmw7.size
        clear h6 hown6 hmw6 o7
        rcases (by omega : x7 = 0 ∨ x7 = 1 ∨ x7 = 2) with hx | hx | hx
        · subst hx
          have m2 : i0.bytes * 11 ≤ 281474976710656 := by rw [HZ2.out]; omega
          have m3 : 11 ≤ maxLen := by unfold maxLen; omega
          go_wp2_with (at_make; refine wpList_make_full _ rfl _ _ _ rfl w7.heap.size 62 i0 (.agg #[.int .i64 0, .int .i64 0, .int .i64 0, .int .i64 0, .bool false]) 5 Try.underlying25 HI.out HZ0.out HZ1.out .i64 .i64 _ _ 11 rfl rfl rfl rfl m2 m3 (Nat.le_refl _) ?_; intro w4 hown4 hgrow)
          have hb4 : Below w7.heap.size w7 w4 := (Below.refl _ _).grown hgrow (Nat.le_refl _) (fun k hk => by cases hk)
          have hmw4 := hmw7.below_ (hb4.mono hws7)
          have hr4 := h7.keep hb4
          have hh := Lib.hid (NewBx.from_ (NewBx.of_own (l := List.replicate 11 Bx.zero) (eleven hown4)) hws7)
          clear hgrow hb4 hown4 hown7
          go_wp2_with fail
          go_ret
          exact ⟨List.replicate 11 Bx.zero, .slice (some ⟨w7.heap.size, 0, none⟩) 11 11, q6 + 1, by omega, by decide, rfl, hh.out, hr4, hmw4⟩
        · subst hx
          go_wp2_with fail
          refine (l20Box_any base B (q6 + 1) 50 1 _ h7 (by omega) (by omega) (by omega) (by omega) (by omega)).mono ?_
          rintro e w3 ⟨b, q', hq', rfl, hr3, hm⟩
          have hown3 := own_most hown7 hm (by omega)
          have hmw3 := hmw7.trans hm
          have hws3 := hmw3.size
          clear h7 hown7 hmw7 hm
          go_wp2_with (at_builtin; refine wpList_append_own _ rfl _ _ 25 rfl w.heap.size 62 i0 (.agg #[.int .i64 0, .int .i64 0, .int .i64 0, .int .i64 0, .bool false]) 5 40 Try.underlying25 HI.out HZ0.out HZ1.out HZ2.out rfl (by decide) _ _ _ rfl (hown3.alloc _) ⟨w3.heap.size, 0, none⟩ 1 1 [.int .i64 b.i, .int .i64 b.g, .int .i64 b.c, .int .i64 b.p, .bool b.d] rfl rfl (fun j u hu => cells_new j u hu) (by simp [Value.oneCell']) (by unfold maxLen; omega) (by omega) (by simp; omega) ?_; intro v' w4 hown4 hgrow _)
          have hb4 : Below w.heap.size (w3.alloc (.cells #[.int .i64 b.i, .int .i64 b.g, .int .i64 b.c, .int .i64 b.p, .bool b.d] 62)) w4 := own_below (v := .slice (some ⟨g, 0, none⟩) l.length cap) hgrow (by simp; omega) (fun k hk => (own_lt hown3 k hk).1)
          have hmw4 := (hmw3.alloc (.cells #[.int .i64 b.i, .int .i64 b.g, .int .i64 b.c, .int .i64 b.p, .bool b.d] 62)).below_ hb4
          have hr4 := (hr3.keep ((Below.refl _ _).alloc (Nat.le_refl _) (.cells #[.int .i64 b.i, .int .i64 b.g, .int .i64 b.c, .int .i64 b.p, .bool b.d] 62))).keepK hb4 hBw
          have hown5 := own_boxes (m := [b]) hown4 rfl rfl
          clear hgrow hb4 hown3 hr3 hown4 hmw3
          have hh := Lib.hid (NewBx.of_own hown5)
          have hz := Lib.hid (show (l ++ [b]).length ≤ 40 by simp; omega)
          clear hown5
          go_wp2_with fail
          go_ret
          exact ⟨l ++ [b], _, q', by omega, hz.out, rfl, hh.out, hr4, hmw4⟩
        · subst hx
          go_wp2_with (at_builtin; refine wpList_append_own _ rfl _ _ 25 rfl w.heap.size 62 i0 (.agg #[.int .i64 0, .int .i64 0, .int .i64 0, .int .i64 0, .bool false]) 5 40 Try.underlying25 HI.out HZ0.out HZ1.out HZ2.out rfl (by decide) _ _ _ rfl (hown7.alloc _) ⟨w7.heap.size, 0, none⟩ 2 2 [.int .i64 7, .int .i64 3, .int .i64 0, .int .i64 0, .bool false, .int .i64 7, .int .i64 4, .int .i64 0, .int .i64 0, .bool false] rfl rfl (fun j u hu => cells_new j u hu) (by simp [Value.oneCell']) (by unfold maxLen; omega) (by omega) (by simp; omega) ?_; intro v' w4 hown4 hgrow _)
          have hb4 : Below w.heap.size (w7.alloc (.cells #[.int .i64 7, .int .i64 3, .int .i64 0, .int .i64 0, .bool false, .int .i64 7, .int .i64 4, .int .i64 0, .int .i64 0, .bool false] 62)) w4 := own_below (v := .slice (some ⟨g, 0, none⟩) l.length cap) hgrow (by simp; omega) (fun k hk => (own_lt hown7 k hk).1)
          have hmw4 := (hmw7.alloc (.cells #[.int .i64 7, .int .i64 3, .int .i64 0, .int .i64 0, .bool false, .int .i64 7, .int .i64 4, .int .i64 0, .int .i64 0, .bool false] 62)).below_ hb4
          have hr4 := (h7.keep ((Below.refl _ _).alloc (Nat.le_refl _) (.cells #[.int .i64 7, .int .i64 3, .int .i64 0, .int .i64 0, .bool false, .int .i64 7, .int .i64 4, .int .i64 0, .int .i64 0, .bool false] 62))).keepK hb4 hBw
          have hown5 := own_boxes (m := [⟨7, 3, 0, 0, false⟩, ⟨7, 4, 0, 0, false⟩]) hown4 rfl rfl
          clear hgrow hb4 hown7 h7 hown4 hmw7
          have hh := Lib.hid (NewBx.of_own hown5)
          have hz := Lib.hid (show (l ++ [(⟨7, 3, 0, 0, false⟩ : Bx), ⟨7, 4, 0, 0, false⟩]).length ≤ 40 by simp; omega)
          clear hown5
          go_wp2_with fail
          go_ret
          exact ⟨l ++ [⟨7, 3, 0, 0, false⟩, ⟨7, 4, 0, 0, false⟩], v', q6 + 1, by omega, hz.out, rfl, hh.out, hr4, hmw4⟩
end Go.Proofs.Ytnnjphhkheocgaa
