/-
  Draws of a ship, boxes of classes and a plan.
-/
import Derived.Test.YtlccmgdmfchmnaaDoorDaO
import Derived.Test.YtlccmgdmfchmnaaDoorGPw
import Derived.Test.YtlccmgdmfchmnaaDoorOvW
import Derived.Deep.RegionHeld3
namespace Go.Proofs.YtlccmgdmfchmnaaDoor
open Go.RowKit
set_option linter.unusedVariables false

theorem rowB_set : ∀ (l : List Bx) (k : Nat) (hk : k < l.length) (x : Int), (rowB l).set (k * 5 + 2) (.int .i64 x) = rowB (l.set k { l[k] with c := x })
  | b :: l, 0, _, x => rfl
  | b :: l, k + 1, hk, x => by
    have e2 : (k + 1) * 5 + 2 = k * 5 + 2 + 1 + 1 + 1 + 1 + 1 := by omega
    have e : rowB (b :: l) = .int .i64 b.i :: .int .i64 b.g :: .int .i64 b.c :: .int .i64 b.p :: .bool b.d :: rowB l := rfl
    rw [e2, e]
    simp only [List.set_cons_succ]
    rw [rowB_set l k (by simpa using hk) x]
    rfl
theorem OwnBx.form {K : Nat} {w : World} {v : Value} {l : List Bx} (h : OwnBx K w v l) (hn : 0 < l.length) :
    ∃ g cap cur, v = .slice (some ⟨g, 0, none⟩) l.length cap ∧ K ≤ g ∧ g < w.heap.size ∧ w.heap[g]? = some (.cells cur 39 (0, 0)) ∧ l.length ≤ cap ∧ cap ≤ maxLen ∧ cur.size = cap * 5 ∧ cur.toList.take (l.length * 5) = rowB l := by
  obtain ⟨h1, h2⟩ := h
  rcases h2 with ⟨_, h2⟩ | ⟨g, cap, cur, e1, e2, e3, e4, e5, e6, e7⟩
  · omega
  · exact ⟨g, cap, cur, e1, e2, free_lt e3, e3, e4, e5, e6, e7⟩
/-- A class is stored. -/
theorem OwnBx.setC {K g cap : Nat} {w : World} {l : List Bx} (h : OwnBx K w (.slice (some ⟨g, 0, none⟩) l.length cap) l) {k : Nat} (hk : k < l.length) (x : Int) :
    OwnBx K (w.setCell ⟨g, k * 5 + 2, none⟩ (.int .i64 x)) (.slice (some ⟨g, 0, none⟩) l.length cap) (l.set k { l[k] with c := x }) := by
  obtain ⟨g', cap', cur, e1, e2, e3, e4, e5, e6, e7, e8⟩ := h.form (by omega)
  simp only [Value.slice.injEq, Option.some.injEq, Addr.mk.injEq] at e1
  obtain ⟨⟨rfl, -, -⟩, -, rfl⟩ := e1
  refine ⟨by rw [rowB_len], .inr ⟨g, cap, _, by rw [List.length_set], e2, Joins.block_setCell e4 _, by rw [List.length_set]; exact e5, e6, by simpa using e7, ?_⟩⟩
  rw [List.length_set, Array.toList_setIfInBounds, List.take_set, e8, rowB_set l k hk]
theorem OwnI.other {K g o : Nat} {w : World} {v : Value} {pl : List Int} {cur : Array Value} {fr : Nat × Nat} (h : OwnI K w v pl) (hg : w.heap[g]? = some (.cells cur 39 fr)) (u : Value) : OwnI K (w.setCell ⟨g, o, none⟩ u) v pl := by
  refine ⟨h.1, ?_⟩
  rcases h.2 with h2 | ⟨g2, cap, cur2, e1, e2, e3, e4⟩
  · exact .inl h2
  · refine .inr ⟨g2, cap, cur2, e1, e2, ?_, e4⟩
    rw [Below.heap_setCell _ _ _ _ (fun e => by subst e; rw [hg] at e3; cases e3)]
    exact e3
theorem MostB.setOwn {B g o : Nat} {a w : World} (h : MostB B a w) (hg : a.heap.size ≤ g) (u : Value) : MostB B a (w.setCell ⟨g, o, none⟩ u) :=
  ⟨h.os, h.tape, h.output, by simpa [World.setCell] using h.size, fun k hk hl => (Below.heap_setCell _ _ _ _ (show k ≠ g by omega)).trans (h.block k hk hl)⟩
/-- What a draw of a ship, boxes of classes and a plan gives. -/
def DrewDng (base B p : Nat) (w : World) (e : Ending) (w' : World) : Prop :=
  ∃ (h : Hl) (l : List Bx) (pl : List Int) (u v : Value) (q : Nat), q ≤ p + 1300 ∧ l.length ≤ 40 ∧ pl.length ≤ 40 ∧ e = .returned (.tuple #[.agg #[.int .i64 h.b, .int .i64 h.r, .int .i64 h.t], u, v]) ∧ NewBx w.heap.size w' u l ∧ OwnI w.heap.size w' v pl ∧ Rdr base B q w' ∧ MostB B w w'

set_option maxRecDepth 10000 in
set_option maxHeartbeats 4000000 in
theorem l20Danger_any (base B p0 : Nat) (w : World) (h : Rdr base B p0 w) (hp : p0 ≤ 50000) :
    Calls Tryd.prog 43 #[.pointer (some ⟨B, 0, none⟩)] w (DrewDng base B p0 w) := by
  have ba : Below w.heap.size w (w.alloc (.cells Hl.zero.cells.toArray 29)) := (Below.refl _ _).alloc (Nat.le_refl _) _
  have ra : BoxH w.heap.size (w.alloc (.cells Hl.zero.cells.toArray 29)) ⟨0, 0, 0⟩ := BoxH.new w ⟨0, 0, 0⟩
  have hz : (w.alloc (.cells Hl.zero.cells.toArray 29)).heap.size = w.heap.size + 1 := by simp
  have hBw := h.2.1
  have hbase := h.1
  have ha := h.keep ba
  unfold Hl.cells Hl.zero at ba ra hz ha
  go_enter Tryd.func43, Tryd.ntmps43
  go_wp2_with fail
  refine (l20Plan_own base B p0 10 5 _ ha (by omega) (by omega) (by omega) (by omega) (by omega)).mono ?_
  generalize (w.alloc (.cells [Value.int .i64 0, .int .i64 0, .int .i64 0].toArray 29)) = wa at ba ra hz ha ⊢
  rintro e w2 ⟨hh, l, pl, u, v, q, hq, hl40, hp40, rfl, NB, OW, hr2, hm⟩
  rw [hz] at NB OW
  have r2 := ra.at_ (hm.block w.heap.size (by omega) (by omega))
  have M2 := ((MostB.refl B w).below_ ba).trans hm
  have b3 : Below w2.heap.size w2 (w2.alloc (.cells #[.int .i64 hh.b, .int .i64 hh.r, .int .i64 hh.t] 29)) := (Below.refl _ _).alloc (Nat.le_refl _) _
  have Y3 := Lib.hid (And.intro (BoxH.new w2 hh) (r2.at_ (b3.block _ r2.lt)))
  have HR3 := Lib.hid (hr2.keepK b3 hr2.2.1)
  have NB3 := Lib.hid (NB.keep b3)
  have OW3 := Lib.hid (OW.keep b3)
  have HM3 := Lib.hid (M2.below_ (b3.mono M2.size))
  have hs2 := M2.size
  have hgl : ∀ g cap n, u = .slice (some ⟨g, 0, none⟩) n cap → 0 < l.length → g < w2.heap.size := fun g cap n e hn => by
    obtain ⟨g', cap', cur, e1, _, e3, _⟩ := NB.form hn
    rw [e] at e1
    simp only [Value.slice.injEq, Option.some.injEq, Addr.mk.injEq, and_true] at e1
    obtain ⟨rfl, -, -⟩ := e1
    exact e3
  have HGL := Lib.hid hgl
  obtain ⟨ua, uc, rfl⟩ : ∃ a c, u = .slice a l.length c := by obtain ⟨a, c, e, _⟩ := NB.new; exact ⟨a, c, e⟩
  generalize hW3 : w2.alloc (.cells #[.int .i64 hh.b, .int .i64 hh.r, .int .i64 hh.t] 29) = W3 at Y3 HR3 NB3 OW3 HM3
  have HW3 := Lib.hid hW3
  clear hW3 hr2 b3 r2 M2 NB OW ba ra ha hm hgl h
  obtain ⟨n, hn⟩ : ∃ n, n = l.length := ⟨_, rfl⟩
  have HN := Lib.hid hn.symm
  rw [← hn] at NB3 HGL hl40 ⊢
  clear hn
  go_wp2_with fail
  rw [HW3.out]
  clear HW3
  generalize w2.heap.size = Y at Y3 HGL hs2
  go_wp2_with fail
  go_loopw [8] (fun i wr => ∃ (k q2 : Nat) (l' : List Bx), k ≤ n ∧ l'.length = n ∧ i = .int .i64 k ∧ q2 ≤ q + 2 * k ∧ Hid (OwnBx (w.heap.size + 1) wr (.slice ua n uc) l') ∧ Hid (OwnI (w.heap.size + 1) wr v pl) ∧ Hid (Rdr base B q2 wr) ∧ Hid (MostB B w wr) ∧ Hid (BoxH Y wr hh ∧ BoxH w.heap.size wr ⟨0, 0, 0⟩)) (fun i _ => n - (intOf i).toNat)
  case atStart => exact ⟨0, q, l, by omega, HN.out, rfl, by omega, NB3, OW3, HR3, HM3, Y3⟩
  case round =>
    clear NB3 OW3 HR3 HM3 Y3
    obtain ⟨k, q2, l', hkn, hl', rfl, hq2, OB, OP, HR, MM, YY⟩ := hrel
    by_cases hlt : k < n
    · have hkl : k < l'.length := by rw [hl']; exact hlt
      have OBF := Lib.hid OB.out
      rw [← hl'] at OBF
      obtain ⟨g, cap, cur, hge, hg1, hg2, hg3, hg4, hg5, hg6, hg7⟩ := OB.out.form (by omega)
      simp only [Value.slice.injEq] at hge
      obtain ⟨rfl, -, rfl⟩ := hge
      have hgY : g < Y := HGL.out g uc n rfl (by omega)
      have hcl : ∀ j, j < 5 → wr.cell? ⟨g, k * 5 + j, none⟩ = l'[k].cells[j]? := fun j hj => by
        rw [← rowB_at l' k hkl j hj, ← hg7, List.getElem?_take, if_pos (by omega)]
        simp only [World.cell?, hg3]
        simp
      have s0 : wr.cell? ⟨g, k * 5, none⟩ = some (.int .i64 l'[k].i) := hcl 0 (by omega)
      have s1 : wr.cell? ⟨g, k * 5 + 1, none⟩ = some (.int .i64 l'[k].g) := hcl 1 (by omega)
      have s2 : wr.cell? ⟨g, k * 5 + 2, none⟩ = some (.int .i64 l'[k].c) := hcl 2 (by omega)
      have s3 : wr.cell? ⟨g, k * 5 + 3, none⟩ = some (.int .i64 l'[k].p) := hcl 3 (by omega)
      have s4 : wr.cell? ⟨g, k * 5 + 4, none⟩ = some (.bool l'[k].d) := hcl 4 (by omega)
      have HV := Lib.hid (specBoxValid_any l'[k].i l'[k].g l'[k].c l'[k].p l'[k].d wr)
      have ik : (k : Int) < (n : Int) := by omega
      have i0k : (0 : Int) ≤ (k : Int) := by omega
      have HG := Lib.hid (show g < wr.heap.size ∧ w.heap.size + 1 ≤ g ∧ g < Y from ⟨hg2, hg1, hgY⟩)
      generalize l'[k].i = b0 at s0 HV
      generalize l'[k].g = b1 at s1 HV
      generalize l'[k].c = b2 at s2 HV
      generalize l'[k].p = b3 at s3 HV
      generalize l'[k].d = b4 at s4 HV
      generalize bxOk b0 b1 b2 b3 = ok at HV
      clear hg1 hg2 hg3 hg4 hg5 hg6 hg7 hcl hgY
      go_wp2_with fail
      refine HV.out.mono ?_
      rintro e w3 ⟨rfl, d3⟩
      have OB3 := Lib.hid (OB.out.keep d3)
      have OBF3 := Lib.hid (OBF.out.keep d3)
      have OP3 := Lib.hid (OP.out.keep d3)
      have R3 := Lib.hid (HR.out.keep d3)
      have M3 := Lib.hid (MM.out.below_ (d3.mono MM.out.size))
      have Y3 := Lib.hid (And.intro (YY.out.1.keep d3) (YY.out.2.keep d3))
      have hsz3 := d3.size
      clear d3 s0 s1 s2 s3 s4 HV OB OBF OP HR MM YY
      cases ok
      · go_wp2_with fail
        go_roundw
        case rel => exact ⟨k + 1, q2, l', by omega, hl', by go_num, by omega, OB3, OP3, R3, M3, Y3⟩
        case measure => simp [intOf]; omega
      · have P1 := Lib.hid (pick_any base B q2 2 w3 R3.out (by omega) (by omega))
        go_wp2_with fail
        refine P1.out.mono ?_
        rintro e w4 ⟨x, x0, x1, rfl, hr4, o4⟩
        have hB0 : B < w.heap.size + 1 := by omega
        have OB4 := Lib.hid (OB3.out.most o4.mostB hB0)
        have OBF4 := Lib.hid (OBF3.out.most o4.mostB hB0)
        have OP4 := Lib.hid (OP3.out.most o4.mostB hB0)
        have R4 := Lib.hid hr4
        have M4 := Lib.hid (M3.out.trans o4.mostB)
        have Y4 := Lib.hid (And.intro (Y3.out.1.at_ (o4.mostB.block Y (by omega) Y3.out.1.lt)) (Y3.out.2.at_ (o4.mostB.block w.heap.size (by omega) Y3.out.2.lt)))
        clear hr4 o4 OB3 OBF3 OP3 R3 M3 Y3 P1
        by_cases hx : x = 0
        · subst hx
          have P2 := Lib.hid (pick_any base B (q2 + 1) 4 w4 R4.out (by omega) (by omega))
          go_wp2_with fail
          refine P2.out.mono ?_
          rintro e w5 ⟨y, y0, y1, rfl, hr5, o5⟩
          have OBF5 := Lib.hid (OBF4.out.most o5.mostB hB0)
          have OP5 := Lib.hid (OP4.out.most o5.mostB hB0)
          have R5 := Lib.hid hr5
          have M5 := Lib.hid (M4.out.trans o5.mostB)
          have Y5 := Lib.hid (And.intro (Y4.out.1.at_ (o5.mostB.block Y (by omega) Y4.out.1.lt)) (Y4.out.2.at_ (o5.mostB.block w.heap.size (by omega) Y4.out.2.lt)))
          clear hr5 o5 OB4 OBF4 OP4 R4 M4 Y4 P2
          obtain ⟨g', cap', cur5, hge, -, -, hg3, hg4, -, hg6, -⟩ := OBF5.out.form (by omega)
          simp only [Value.slice.injEq, Option.some.injEq, Addr.mk.injEq] at hge
          obtain ⟨⟨rfl, -, -⟩, -, rfl⟩ := hge
          have f0 : w5.frozen? ⟨g, k * 5 + 2, none⟩ = false := by simp [World.frozen?, hg3]
          obtain ⟨z0, t0⟩ : ∃ z, w5.cell? ⟨g, k * 5 + 2, none⟩ = some z := ⟨cur5[k * 5 + 2]'(by omega), by simp only [World.cell?, hg3]; exact Array.getElem?_eq_getElem _⟩
          have OB6 := OBF5.out.setC hkl y
          rw [hl'] at OB6
          have OB6 := Lib.hid OB6
          have OP6 := Lib.hid (OP5.out.other (o := k * 5 + 2) hg3 (.int .i64 y))
          have hgB : g ≠ B := by have := HG.out; omega
          have R6 := Lib.hid (R5.out.set_other hgB (by have := HG.out; omega) (k * 5 + 2) (.int .i64 y))
          have M6 := Lib.hid (M5.out.setOwn (g := g) (o := k * 5 + 2) (by have := HG.out; omega) (.int .i64 y))
          have Y6 := Lib.hid (And.intro (Y5.out.1.other (N := g) (by have := HG.out; omega) (k * 5 + 2) (.int .i64 y)) (Y5.out.2.other (N := g) (by have := HG.out; omega) (k * 5 + 2) (.int .i64 y)))
          clear OBF5 OP5 R5 M5 Y5 hg3 hg4 hg6
          go_wp2_with fail
          go_roundw
          case rel => exact ⟨k + 1, q2 + 1 + 1, l'.set k { l'[k] with c := y }, by omega, by rw [List.length_set]; exact hl', by go_num, by omega, OB6, OP6, R6, M6, Y6⟩
          case measure => simp [intOf]; omega
        · have hxe : (x == 0) = false := by simpa using hx
          go_wp2_with fail
          go_roundw
          case rel => exact ⟨k + 1, q2 + 1, l', by omega, hl', by go_num, by omega, OB4, OP4, R4, M4, Y4⟩
          case measure => simp [intOf]; omega
    · obtain rfl : k = n := by omega
      obtain ⟨yy, rr⟩ := YY.out
      have c0 := yy.c0
      have c1 := yy.c1
      have c2 := yy.c2
      have d0 := rr.c0
      have d1 := rr.c1
      have d2 := rr.c2
      have ea := rr.frozen 0
      have eb := rr.frozen 1
      have ec := rr.frozen 2
      have y9 := rr.lay hh
      have f0 := y9.c0
      have f1 := y9.c1
      have f2 := y9.c2
      have m9 := Only3 w.heap.size wr (.int .i64 hh.b) (.int .i64 hh.r) (.int .i64 hh.t)
      have U9 := Lib.hid ((OB.out.new.most m9 (by omega)).from_ (show w.heap.size ≤ w.heap.size + 1 by omega))
      have V9 := Lib.hid ((OP.out.most m9 (by omega)).from_ (show w.heap.size ≤ w.heap.size + 1 by omega))
      have hRB : w.heap.size ≠ B := by omega
      have W9 := Lib.hid (((HR.out.set_other hRB (by omega) 0 (.int .i64 hh.b)).set_other hRB (by omega) 1 (.int .i64 hh.r)).set_other hRB (by omega) 2 (.int .i64 hh.t))
      have M9 := Lib.hid (((MM.out.setOwn (g := w.heap.size) (o := 0) (Nat.le_refl _) (.int .i64 hh.b)).setOwn (g := w.heap.size) (o := 1) (Nat.le_refl _) (.int .i64 hh.r)).setOwn (g := w.heap.size) (o := 2) (Nat.le_refl _) (.int .i64 hh.t))
      clear yy rr y9 m9 OB OP HR MM YY
      go_wp2_with fail
      exact bodyPost_ret (v := .tuple #[.agg #[.int .i64 hh.b, .int .i64 hh.r, .int .i64 hh.t], .slice ua k uc, v]) (by simp [results, Tryd.results43, go_sem, f0, f1, f2]) rfl ⟨hh, l', pl, _, _, q2, by omega, by omega, by omega, rfl, U9.out, V9.out, W9.out, M9.out⟩

set_option maxRecDepth 10000 in
set_option maxHeartbeats 2000000 in
theorem drawTooNear_any (a : Option Addr) (len cap : Nat) (w : World) (h : IsRow8 w a len cap) :
    Calls Tryd.prog 13 #[.slice a len cap] w (DrewP0 w) := by
  have ba : Below w.heap.size w (w.alloc (.cells Hl.zero.cells.toArray 29)) := (Below.refl _ _).alloc (Nat.le_refl _) _
  have ra : BoxH w.heap.size (w.alloc (.cells Hl.zero.cells.toArray 29)) ⟨0, 0, 0⟩ := BoxH.new w ⟨0, 0, 0⟩
  have hz : (w.alloc (.cells Hl.zero.cells.toArray 29)).heap.size = w.heap.size + 1 := by simp
  unfold Hl.cells Hl.zero at ba ra hz
  go_enter Tryd.func13, Tryd.ntmps13
  go_wp2_with fail
  refine (open_any a len cap _ (row8_keepS h ba)).mono ?_
  generalize (w.alloc (.cells [Value.int .i64 0, .int .i64 0, .int .i64 0].toArray 29)) = wa at ba ra hz ⊢
  rintro e w1 ⟨rfl, hr, hb, hz1⟩
  generalize wa.heap.size = B at hz hr hb hz1 ⊢
  subst hz
  have r1 := ra.at_ (hb.block w.heap.size (Nat.lt_succ_self _))
  have b1 : Below w.heap.size w w1 := ba.trans (hb.mono (by omega))
  clear h hb ba ra
  go_wp2_with fail
  refine (l20Danger_any _ _ 0 w1 hr (by omega)).mono ?_
  rintro e w2 ⟨hh, l, pl, u, v, q, hq, hl40, hp40, rfl, NB, OW, hr2, hm⟩
  have r2 := r1.at_ (hm.block w.heap.size (by omega) r1.lt)
  have b2 : Below w.heap.size w w2 := b1.trans (hm.under (by omega) (by have := b1.size; omega))
  clear r1 b1 hr hm
  obtain ⟨d0, d1, d2, e0, -, -⟩ := BoxH.end_ hh r2 b2
  have ea := e0 0
  have eb := e0 1
  have ec := e0 2
  clear e0
  obtain ⟨-, -, -, -, y9, B9⟩ := BoxH.end_ hh r2 b2
  have f0 := y9.c0
  have f1 := y9.c1
  have f2 := y9.c2
  have m9 := Only3 w.heap.size w2 (.int .i64 hh.b) (.int .i64 hh.r) (.int .i64 hh.t)
  have U9 := (NB.most m9 (by omega)).from_ (show w.heap.size ≤ w1.heap.size by omega)
  have V9 := (OW.most m9 (by omega)).from_ (show w.heap.size ≤ w1.heap.size by omega)
  clear y9 m9 
  go_wp2_with fail
  exact bodyPost_ret (v := .tuple #[.agg #[.int .i64 hh.b, .int .i64 hh.r, .int .i64 hh.t], u, v]) (by simp [results, Tryd.results13, go_sem, f0, f1, f2]) rfl ⟨hh, l, pl, _, _, hl40, hp40, rfl, U9, V9, B9⟩

set_option maxRecDepth 10000 in
set_option maxHeartbeats 2000000 in
theorem drawSafeSlots_any (a : Option Addr) (len cap : Nat) (w : World) (h : IsRow8 w a len cap) :
    Calls Tryd.prog 19 #[.slice a len cap] w (DrewPT w) := by
  have ba : Below w.heap.size w (w.alloc (.cells Hl.zero.cells.toArray 29)) := (Below.refl _ _).alloc (Nat.le_refl _) _
  have ra : BoxH w.heap.size (w.alloc (.cells Hl.zero.cells.toArray 29)) ⟨0, 0, 0⟩ := BoxH.new w ⟨0, 0, 0⟩
  have hz : (w.alloc (.cells Hl.zero.cells.toArray 29)).heap.size = w.heap.size + 1 := by simp
  unfold Hl.cells Hl.zero at ba ra hz
  go_enter Tryd.func19, Tryd.ntmps19
  go_wp2_with fail
  refine (open_any a len cap _ (row8_keepS h ba)).mono ?_
  generalize (w.alloc (.cells [Value.int .i64 0, .int .i64 0, .int .i64 0].toArray 29)) = wa at ba ra hz ⊢
  rintro e w1 ⟨rfl, hr, hb, hz1⟩
  generalize wa.heap.size = B at hz hr hb hz1 ⊢
  subst hz
  have r1 := ra.at_ (hb.block w.heap.size (Nat.lt_succ_self _))
  have b1 : Below w.heap.size w w1 := ba.trans (hb.mono (by omega))
  clear h hb ba ra
  go_wp2_with fail
  refine (l20Danger_any _ _ 0 w1 hr (by omega)).mono ?_
  rintro e w2 ⟨hh, l, pl, u, v, q, hq, hl40, hp40, rfl, NB, OW, hr2, hm⟩
  have r2 := r1.at_ (hm.block w.heap.size (by omega) r1.lt)
  have b2 : Below w.heap.size w w2 := b1.trans (hm.under (by omega) (by have := b1.size; omega))
  clear r1 b1 hr hm
  have b3 : Below w2.heap.size w2 (w2.alloc (.cells #[.int .i64 hh.b, .int .i64 hh.r, .int .i64 hh.t] 29)) := (Below.refl _ _).alloc (Nat.le_refl _) _
  have y3 := BoxH.new w2 hh
  have r3 := r2.at_ (b3.block _ r2.lt)
  have c3 := b2.trans (b3.mono b2.size)
  have NB3 := NB.most (MostB.below_ (MostB.refl (w.heap.size + 1) w2) b3) (by omega)
  have OW3 := OW.most (MostB.below_ (MostB.refl (w.heap.size + 1) w2) b3) (by omega)
  have hr3 := hr2.keepK b3 hr2.2.1
  have hz2 : w2.heap.size + 1 = (w2.alloc (.cells #[.int .i64 hh.b, .int .i64 hh.r, .int .i64 hh.t] 29)).heap.size := by simp
  have hYB : w.heap.size + 1 < w2.heap.size := hr2.2.1
  generalize hW3 : w2.alloc (.cells #[.int .i64 hh.b, .int .i64 hh.r, .int .i64 hh.t] 29) = W3 at y3 r3 c3 hr3 hz2 NB3 OW3
  have HW3 := Lib.hid hW3
  clear hW3 hr2 b3 r2 b2 NB OW
  go_wp2_with fail
  rw [HW3.out]
  generalize w2.heap.size = Y at y3 hYB hz2
  clear HW3
  have YK := Lib.hid fun (w' : World) (hs : MostB (w.heap.size + 1) W3 w') => (show w'.cell? ⟨Y, 0, none⟩ = some (.int .i64 hh.b) ∧ w'.cell? ⟨Y, 1, none⟩ = some (.int .i64 hh.r) ∧ w'.cell? ⟨Y, 2, none⟩ = some (.int .i64 hh.t) ∧ LaidH w.heap.size (w.heap.size + 1) hh W3 w' from
    have q := y3.at_ (hs.block Y (by omega) y3.lt); ⟨q.c0, q.c1, q.c2, w', hs, .inl rfl⟩)
  have YL := Lib.hid fun (wm : World) (hs : MostB (w.heap.size + 1) W3 wm) => (show (((wm.setCell ⟨w.heap.size, 0, none⟩ (.int .i64 hh.b)).setCell ⟨w.heap.size, 1, none⟩ (.int .i64 hh.r)).setCell ⟨w.heap.size, 2, none⟩ (.int .i64 hh.t)).cell? ⟨Y, 0, none⟩ = some (.int .i64 hh.b) ∧ (((wm.setCell ⟨w.heap.size, 0, none⟩ (.int .i64 hh.b)).setCell ⟨w.heap.size, 1, none⟩ (.int .i64 hh.r)).setCell ⟨w.heap.size, 2, none⟩ (.int .i64 hh.t)).cell? ⟨Y, 1, none⟩ = some (.int .i64 hh.r) ∧ (((wm.setCell ⟨w.heap.size, 0, none⟩ (.int .i64 hh.b)).setCell ⟨w.heap.size, 1, none⟩ (.int .i64 hh.r)).setCell ⟨w.heap.size, 2, none⟩ (.int .i64 hh.t)).cell? ⟨Y, 2, none⟩ = some (.int .i64 hh.t) ∧ LaidH w.heap.size (w.heap.size + 1) hh W3 (((wm.setCell ⟨w.heap.size, 0, none⟩ (.int .i64 hh.b)).setCell ⟨w.heap.size, 1, none⟩ (.int .i64 hh.r)).setCell ⟨w.heap.size, 2, none⟩ (.int .i64 hh.t)) from
    have q := (((y3.at_ (hs.block Y (by omega) y3.lt)).other (by omega) 0 _).other (by omega) 1 _).other (by omega) 2 _; ⟨q.c0, q.c1, q.c2, wm, hs, .inr rfl⟩)
  have RK := Lib.hid fun (w' : World) (hs : MostB (w.heap.size + 1) W3 w') => r3.at_ (hs.block w.heap.size (by omega) r3.lt)
  have CK := Lib.hid fun (w' : World) (hs : MostB (w.heap.size + 1) W3 w') => c3.trans (hs.under (by omega) c3.size)
  have NBK := Lib.hid fun (w' : World) (hs : MostB (w.heap.size + 1) W3 w') => NB3.most hs (by omega)
  have OWK := Lib.hid fun (w' : World) (hs : MostB (w.heap.size + 1) W3 w') => OW3.most hs (by omega)
  have hmd : MostB (w.heap.size + 1) W3 W3.drew := (MostB.refl _ _).below_ ((Below.refl _ _).drew)
  have HMD := Lib.hid hmd
  have hstart := YK.out _ hmd
  have HR := Lib.hid (hr3.keepK (Below.refl W3.heap.size W3).drew hr3.2.1)
  clear y3 r3 c3 hr3 hmd NB3 OW3
  go_region_held3 (fun w' => w'.cell? ⟨Y, 0, none⟩ = some (.int .i64 hh.b) ∧ w'.cell? ⟨Y, 1, none⟩ = some (.int .i64 hh.r) ∧ w'.cell? ⟨Y, 2, none⟩ = some (.int .i64 hh.t) ∧ LaidH w.heap.size (w.heap.size + 1) hh W3 w')
    (first | exact hstart | exact YK.out _ m6.out | exact YL.out _ m6.out | exact YK.out _ m5.out | fail)
    (first
      | (go_at_call 40; ((with_reducible refine (pick_any (w.heap.size + 1) (w.heap.size + 1) (q) 4 W3.drew HR.out (by omega) (by omega)).mono ?_); rintro e w5 ⟨x, x0, x1, rfl, hr5, o5⟩; have R5 := Lib.hid hr5; have m5 := Lib.hid (HMD.out.trans o5.mostB); clear hr5 o5))
      | (go_at_call 40; ((with_reducible refine (pick_any (w.heap.size + 1) (w.heap.size + 1) (q + 1) 20 w5 R5.out (by omega) (by omega)).mono ?_); rintro e w6 ⟨y, y0, y1, rfl, hr6, o6⟩; have R6 := Lib.hid hr6; have m6 := Lib.hid (m5.out.trans o6.mostB); have d0 := (RK.out _ m6.out).c0; have d1 := (RK.out _ m6.out).c1; have d2 := (RK.out _ m6.out).c2; have ea := (RK.out _ m6.out).frozen 0; have eb := (RK.out _ m6.out).frozen 1; have ec := (RK.out _ m6.out).frozen 2; clear hr6 o6))
      | fail)
  have hty : 0 ≤ y.tdiv 19 ∧ y.tdiv 19 ≤ 1 := by
    rw [Int.tdiv_eq_ediv_of_nonneg y0]
    omega
  have hw0 : IntKind.i64.wrap (y.tdiv 19) = y.tdiv 19 := IntWalk.i64_in _ (by omega)
  have hw1 : IntKind.i64.wrap (y.tdiv 19 * 4) = y.tdiv 19 * 4 := IntWalk.i64_in _ (by omega)
  have hwx : IntKind.i64.wrap (x + y.tdiv 19 * 4) = x + y.tdiv 19 * 4 := IntWalk.i64_in _ (by omega)
  obtain ⟨-, -, -, -, y9, B9⟩ := BoxH.end_ hh (RK.out _ m6.out) (CK.out _ m6.out)
  have f0 := y9.c0
  have f1 := y9.c1
  have f2 := y9.c2
  have m9 := Only3 w.heap.size w6 (.int .i64 hh.b) (.int .i64 hh.r) (.int .i64 hh.t)
  have U9 := ((NBK.out _ m6.out).most m9 (by omega)).from_ (show w.heap.size ≤ w1.heap.size by omega)
  have V9 := ((OWK.out _ m6.out).most m9 (by omega)).from_ (show w.heap.size ≤ w1.heap.size by omega)
  clear y9 m9 d0 d1 d2 ea eb ec
  go_wp2_with fail
  exact bodyPost_ret (v := .tuple #[.agg #[.int .i64 hh.b, .int .i64 hh.r, .int .i64 hh.t], u, v, .int .i64 (x + y.tdiv 19 * 4)]) (by simp [results, Tryd.results19, go_sem, f0, f1, f2, hw0, hw1, hwx]) rfl ⟨x + y.tdiv 19 * 4, by omega, by omega, hh, l, pl, _, _, hl40, hp40, rfl, U9, V9, B9⟩

end Go.Proofs.YtlccmgdmfchmnaaDoor
