/-
  Draws of orders, and of plans of which the best order is looked for.
-/
import Derived.Test.YtbaebamiiigmlabLdO
import Derived.Test.YtbaebamiiigmlabGPw
import Derived.Lib.SmallJoins
import Derived.Deep.RegionHeld3
namespace Go.Proofs.Ytbaebamiiigmlab
open Go.RowKit
set_option linter.unusedVariables false

/-- What a draw of a ship, boxes, a plan and an order gives. -/
def DrewLoad (B : Nat) (w : World) (e : Ending) (w' : World) : Prop :=
  ∃ (h : Hl) (l : List Bx) (pl os : List Int) (u v vo : Value), l.length ≤ 40 ∧ pl.length ≤ 40 ∧ os.length ≤ 40 ∧ e = .returned (.tuple #[.agg #[.int .i64 h.b, .int .i64 h.r, .int .i64 h.t], u, v, vo]) ∧ NewBx w.heap.size w' u l ∧ OwnI w.heap.size w' v pl ∧ OwnI w.heap.size w' vo os ∧ MostB B w w'
/-- What it gives its law. -/
def DrewPO (w : World) (e : Ending) (w' : World) : Prop :=
  ∃ (h : Hl) (l : List Bx) (pl os : List Int) (u v vo : Value), l.length ≤ 40 ∧ pl.length ≤ 40 ∧ os.length ≤ 40 ∧ e = .returned (.tuple #[.agg #[.int .i64 h.b, .int .i64 h.r, .int .i64 h.t], u, v, vo]) ∧ NewBx w.heap.size w' u l ∧ OwnI w.heap.size w' v pl ∧ OwnI w.heap.size w' vo os ∧ Below w.heap.size w w'

set_option maxRecDepth 10000 in
set_option maxHeartbeats 4000000 in
theorem l20Loading_any (base B p0 : Nat) (n : Int) (w : World) (hR : Rdr base B p0 w) (hp : p0 ≤ 40000) (hn0 : 1 ≤ n) (hn1 : n ≤ 100) :
    Calls Try.prog 80 #[.pointer (some ⟨B, 0, none⟩), .int .i64 n] w (DrewLoad B w) := by
  have hBw := hR.2.1
  have zn : IntKind.i64.wrap (2 * n) = 2 * n := IntWalk.i64_in _ (by omega)
  go_enter Try.func80, Try.ntmps80
  go_wp2_with fail
  refine (l20Plan_ok base B p0 7 _ (hR.keep ((Below.refl _ _).alloc (Nat.le_refl _) _)) (by omega) (by omega) (by omega)).mono ?_
  rintro e w1 ⟨h, l, pl, u, v, q, hbk, hcp, hq, hl40, hp40, rfl, NB1, OW1, hr1, m1⟩
  have hza : (w.alloc (.cells #[.int .i64 0, .int .i64 0, .int .i64 0] 24)).heap.size = w.heap.size + 1 := by simp
  rw [hza] at NB1 OW1
  have D2 := DrawH.startM h hr1 hBw m1
  have hs1 : w.heap.size < w1.heap.size := D2.hN
  have mA : MostB B w1 (w1.alloc (.cells #[.int .i64 h.b, .int .i64 h.r, .int .i64 h.t] 24)) := (MostB.refl _ _).alloc _
  have NB2 := NB1.most mA (by omega)
  have OW2 := OW1.most mA (by omega)
  obtain ⟨W2, hW2⟩ : ∃ W2, W2 = w1.alloc (.cells #[.int .i64 h.b, .int .i64 h.r, .int .i64 h.t] 24) := ⟨_, rfl⟩
  have hs2 : W2.heap.size = w1.heap.size + 1 := by rw [hW2]; simp
  rw [← hW2] at D2 NB2 OW2
  go_wp2_with fail
  rw [← hW2]
  clear hW2 hr1 m1 hR hza mA NB1 OW1
  refine (odd_any base B q (2 * n) W2 D2.rdr (by omega) (by omega) (by omega)).mono ?_
  rintro e w3 ⟨vv, rfl, hr3, o3⟩
  have hs3 := o3.size
  have D3 := D2.only o3 hr3
  have NB3 := NB2.most o3.mostB (by omega)
  have OW3 := OW2.most o3.mostB (by omega)
  clear hr3 o3 D2 NB2 OW2
  cases vv
  · have HOR := Lib.hid (l20Order_any base B (q + 1) h v pl w3 D3.rdr OW3.holds hbk hcp (by omega))
    have c0 := D3.cells.1
    have c1 := D3.cells.2.1
    have c2 := D3.cells.2.2
    go_wp2_with fail
    refine HOR.out.mono ?_
    rintro e w4 ⟨vo, os, q4, hq4, hos, rfl, OO4, hr4, m4⟩
    have D4 := D3.mostD m4 hr4
    have NB4 := NB3.most m4 (by omega)
    have OV4 := OW3.most m4 (by omega)
    clear c0 c1 c2 HOR
    go_wp2_with fail
    refine (odd_any base B q4 (2 * n) w4 D4.rdr (by omega) (by omega) (by omega)).mono ?_
    rintro e w5 ⟨vv, rfl, hr5, o5⟩
    have hs45 := o5.size
    have HM35 := Lib.hid (m4.trans o5.mostB)
    have D5 := Lib.hid (D4.only o5 hr5)
    have NB5 := Lib.hid (NB4.most o5.mostB (by omega))
    have OV5 := Lib.hid (OV4.most o5.mostB (by omega))
    have OO5 := Lib.hid (OO4.most o5.mostB (by omega))
    clear D4 NB4 OV4 OO4 hr5 o5 hr4 m4
    obtain ⟨oa, oc, rfl⟩ := OO5.out.holds.form
    cases vv
    · obtain ⟨⟨r0, e0⟩, f0⟩ := D5.out.resCells 0 (by omega)
      obtain ⟨⟨r1, e1⟩, f1⟩ := D5.out.resCells 1 (by omega)
      obtain ⟨⟨r2, e2⟩, f2⟩ := D5.out.resCells 2 (by omega)
      have c0 := D5.out.cells.1
      have c1 := D5.out.cells.2.1
      have c2 := D5.out.cells.2.2
      go_wp2_with fail
      obtain ⟨z0, z1, z2⟩ := D5.out.ends (.int .i64 h.b) (.int .i64 h.r) (.int .i64 h.t)
      have hm9 := ((Only.set w.heap.size 0 w5 (.int .i64 h.b)).trans (Only.set w.heap.size 1 _ (.int .i64 h.r))).trans (Only.set w.heap.size 2 _ (.int .i64 h.t))
      obtain ⟨E1, E2⟩ := D5.out.end_ (.int .i64 h.b) (.int .i64 h.r) (.int .i64 h.t)
      have U9 := (NB5.out.most hm9.mostB (by omega)).from_ (show w.heap.size ≤ _ by omega)
      have V9 := (OV5.out.most hm9.mostB (by omega)).from_ (show w.heap.size ≤ _ by omega)
      have W9 := (OO5.out.most hm9.mostB (by omega)).from_ (show w.heap.size ≤ _ by omega)
      exact bodyPost_ret (v := .tuple #[.agg #[.int .i64 h.b, .int .i64 h.r, .int .i64 h.t], u, v, .slice oa os.length oc]) (by simp [results, Try.results80, go_sem, z0, z1, z2]) rfl ⟨h, l, pl, os, _, _, _, hl40, hp40, by omega, rfl, U9, V9, W9, E2⟩
    · by_cases h1 : 1 < os.length
      · have h1i : decide ((1 : Int) < (os.length : Int)) = true := decide_eq_true (by omega)
        obtain ⟨g, CAP, cur, hge, hg1, hg2, hcur, hc1, hc2, hc3, hc4⟩ := OO5.out.form (by omega)
        simp only [Value.slice.injEq] at hge
        obtain ⟨rfl, -, rfl⟩ := hge
        obtain ⟨M, hM⟩ : ∃ M, os.length = M + 1 := ⟨os.length - 1, by omega⟩
        have ij : (M : Int) < (os.length : Int) := by omega
        have hMl : M < os.length := by omega
        have hM0 : M ≠ 0 := by omega
        have i0j : (0 : Int) ≤ (M : Int) := by omega
        have hb1 := Joins.block_setCell (i := 0) hcur (.int .i64 (os.getD M 0))
        have hrd : ∀ k, k < os.length → w5.cell? ⟨g, k, none⟩ = some (.int .i64 (os.getD k 0)) := fun k hk => by
          obtain ⟨b', off', e', _, c⟩ := OO5.out.holds.at_ hk
          simp only [Option.some.injEq, Addr.mk.injEq, and_true] at e'
          obtain ⟨rfl, rfl⟩ := e'
          rw [Nat.zero_add] at c
          exact c
        have t0 : w5.cell? ⟨g, 0, none⟩ = some (.int .i64 (os.getD 0 0)) := hrd 0 (by omega)
        have t1 : w5.cell? ⟨g, M, none⟩ = some (.int .i64 (os.getD (M) 0)) := hrd M hMl
        have fr0 : w5.frozen? ⟨g, 0, none⟩ = false := by simp [World.frozen?, hcur]
        have fr1 : w5.frozen? ⟨g, M, none⟩ = false := by simp [World.frozen?, hcur]
        obtain ⟨x, hx⟩ : ∃ x, x = os.getD 0 0 := ⟨_, rfl⟩
        obtain ⟨y, hy⟩ : ∃ y, y = os.getD (M) 0 := ⟨_, rfl⟩
        rw [← hx] at t0
        rw [← hy] at t1 hb1
        obtain ⟨z9, t2⟩ : ∃ z, (w5.setCell ⟨g, 0, none⟩ (.int .i64 y)).cell? ⟨g, M, none⟩ = some z := by
          simp only [World.cell?, hb1]
          exact ⟨_, Array.getElem?_eq_getElem (by rw [Array.size_setIfInBounds]; omega)⟩
        have fr2 : (w5.setCell ⟨g, 0, none⟩ (.int .i64 y)).frozen? ⟨g, M, none⟩ = false := by simp [World.frozen?, hb1]
        have zl : IntKind.i64.wrap ((os.length : Int) - 1) = (M : Int) := by rw [IntWalk.i64_in _ (by omega)]; omega
        have OS1 := OO5.out.set (k := 0) (by omega) y
        have OS2 : OwnI w3.heap.size ((w5.setCell ⟨g, 0, none⟩ (.int .i64 y)).setCell ⟨g, M, none⟩ (.int .i64 x)) (.slice (some ⟨g, 0, none⟩) os.length oc) ((os.set 0 y).set (M) x) := by
          have h9 : OwnI w3.heap.size (w5.setCell ⟨g, 0, none⟩ (.int .i64 y)) (.slice (some ⟨g, 0, none⟩) (os.set 0 y).length oc) (os.set 0 y) := by rw [List.length_set]; exact OS1
          have := h9.set (k := M) (by rw [List.length_set]; exact hMl) x
          rw [List.length_set] at this
          exact this
        have hbs : Below w3.heap.size w5 ((w5.setCell ⟨g, 0, none⟩ (.int .i64 y)).setCell ⟨g, M, none⟩ (.int .i64 x)) := ((Below.refl _ _).setCell hg1 _).setCell hg1 _
        have D7 := D5.out.on hbs (by omega)
        have NB7 := NB3.most (HM35.out.below_ hbs) (by omega)
        have OV7 := OW3.most (HM35.out.below_ hbs) (by omega)
        clear hx hy hcur hc4 hrd OS1 hbs hb1 hM hM0
        obtain ⟨⟨r0, e0⟩, f0⟩ := D7.resCells 0 (by omega)
        obtain ⟨⟨r1, e1⟩, f1⟩ := D7.resCells 1 (by omega)
        obtain ⟨⟨r2, e2⟩, f2⟩ := D7.resCells 2 (by omega)
        have c0 := D7.cells.1
        have c1 := D7.cells.2.1
        have c2 := D7.cells.2.2
        go_wp2_with fail
        obtain ⟨z0, z1, z2⟩ := D7.ends (.int .i64 h.b) (.int .i64 h.r) (.int .i64 h.t)
        have hm9 := ((Only.set w.heap.size 0 ((w5.setCell ⟨g, 0, none⟩ (.int .i64 y)).setCell ⟨g, M, none⟩ (.int .i64 x)) (.int .i64 h.b)).trans (Only.set w.heap.size 1 _ (.int .i64 h.r))).trans (Only.set w.heap.size 2 _ (.int .i64 h.t))
        obtain ⟨E1, E2⟩ := D7.end_ (.int .i64 h.b) (.int .i64 h.r) (.int .i64 h.t)
        have U9 := (NB7.most hm9.mostB (by omega)).from_ (show w.heap.size ≤ _ by omega)
        have V9 := (OV7.most hm9.mostB (by omega)).from_ (show w.heap.size ≤ _ by omega)
        have W9 := (OS2.most hm9.mostB (by omega)).from_ (show w.heap.size ≤ _ by omega)
        exact bodyPost_ret (v := .tuple #[.agg #[.int .i64 h.b, .int .i64 h.r, .int .i64 h.t], u, v, .slice (some ⟨g, 0, none⟩) os.length oc]) (by simp [results, Try.results80, go_sem, z0, z1, z2]) rfl ⟨h, l, pl, ((os.set 0 y).set M x), _, _, _, hl40, hp40, by simp; omega, rfl, U9, V9, W9, E2⟩
      · have h1i : decide ((1 : Int) < (os.length : Int)) = false := decide_eq_false (by omega)
        obtain ⟨⟨r0, e0⟩, f0⟩ := D5.out.resCells 0 (by omega)
        obtain ⟨⟨r1, e1⟩, f1⟩ := D5.out.resCells 1 (by omega)
        obtain ⟨⟨r2, e2⟩, f2⟩ := D5.out.resCells 2 (by omega)
        have c0 := D5.out.cells.1
        have c1 := D5.out.cells.2.1
        have c2 := D5.out.cells.2.2
        go_wp2_with fail
        obtain ⟨z0, z1, z2⟩ := D5.out.ends (.int .i64 h.b) (.int .i64 h.r) (.int .i64 h.t)
        have hm9 := ((Only.set w.heap.size 0 w5 (.int .i64 h.b)).trans (Only.set w.heap.size 1 _ (.int .i64 h.r))).trans (Only.set w.heap.size 2 _ (.int .i64 h.t))
        obtain ⟨E1, E2⟩ := D5.out.end_ (.int .i64 h.b) (.int .i64 h.r) (.int .i64 h.t)
        have U9 := (NB5.out.most hm9.mostB (by omega)).from_ (show w.heap.size ≤ _ by omega)
        have V9 := (OV5.out.most hm9.mostB (by omega)).from_ (show w.heap.size ≤ _ by omega)
        have W9 := (OO5.out.most hm9.mostB (by omega)).from_ (show w.heap.size ≤ _ by omega)
        exact bodyPost_ret (v := .tuple #[.agg #[.int .i64 h.b, .int .i64 h.r, .int .i64 h.t], u, v, .slice oa os.length oc]) (by simp [results, Try.results80, go_sem, z0, z1, z2]) rfl ⟨h, l, pl, os, _, _, _, hl40, hp40, by omega, rfl, U9, V9, W9, E2⟩
  · go_wp2_with fail
    refine (l20Plan_any base B (q + 1) 7 1 w3 D3.rdr (by omega) (by omega) (by omega) (by omega) (by omega)).mono ?_
    rintro e w4 ⟨h2, l2, p2, u2, v2, q2, hq2, hl2, hp2, rfl, NB2, OW2, hr4, m4⟩
    have D4 := D3.mostD m4 hr4
    have hs34 : w3.heap.size ≤ w4.heap.size := m4.size
    have c0 := D4.cells.1
    have c1 := D4.cells.2.1
    have c2 := D4.cells.2.2
    have g0 := D4.free 0
    have g1 := D4.free 1
    have g2 := D4.free 2
    have D5 := ((D4.set (b' := ⟨h2.b, h.r, h.t⟩) 0 (.int .i64 h2.b) rfl).set (b' := ⟨h2.b, h2.r, h.t⟩) 1 (.int .i64 h2.r) rfl).set (b' := h2) 2 (.int .i64 h2.t) rfl
    have hs5 : w4.heap.size = (((w4.setCell ⟨w1.heap.size, 0, none⟩ (.int .i64 h2.b)).setCell ⟨w1.heap.size, 1, none⟩ (.int .i64 h2.r)).setCell ⟨w1.heap.size, 2, none⟩ (.int .i64 h2.t)).heap.size := by simp [World.setCell]
    have mN : MostB w1.heap.size w4 (((w4.setCell ⟨w1.heap.size, 0, none⟩ (.int .i64 h2.b)).setCell ⟨w1.heap.size, 1, none⟩ (.int .i64 h2.r)).setCell ⟨w1.heap.size, 2, none⟩ (.int .i64 h2.t)) := (((Only.set w1.heap.size 0 w4 (.int .i64 h2.b)).trans (Only.set w1.heap.size 1 _ (.int .i64 h2.r))).trans (Only.set w1.heap.size 2 _ (.int .i64 h2.t))).mostB
    have NB5 := NB2.most mN (by omega)
    have OW5 := OW2.most mN (by omega)
    obtain ⟨W5, hW5⟩ : ∃ W5, W5 = (((w4.setCell ⟨w1.heap.size, 0, none⟩ (.int .i64 h2.b)).setCell ⟨w1.heap.size, 1, none⟩ (.int .i64 h2.r)).setCell ⟨w1.heap.size, 2, none⟩ (.int .i64 h2.t)) := ⟨_, rfl⟩
    rw [← hW5] at D5 hs5 NB5 OW5
    go_wp2_with fail
    rw [← hW5]
    clear hW5 g0 g1 g2 c0 c1 c2 D4 mN NB2 OW2 m4 hr4
    have y3 : BoxH w1.heap.size W5 h2 := D5.box
    have r3 : BoxH w.heap.size W5 ⟨0, 0, 0⟩ := D5.res
    have hYB : B < w1.heap.size := by omega
    have hYR : w.heap.size < w1.heap.size := hs1
    have hz2 : w1.heap.size < W5.heap.size := D5.size
    obtain ⟨Y, hY⟩ : ∃ Y, Y = w1.heap.size := ⟨_, rfl⟩
    rw [← hY] at y3 hYB hYR hz2
    have YK := Lib.hid fun (w' : World) (hs : MostB B W5 w') => (show w'.cell? ⟨Y, 0, none⟩ = some (.int .i64 h2.b) ∧ w'.cell? ⟨Y, 1, none⟩ = some (.int .i64 h2.r) ∧ w'.cell? ⟨Y, 2, none⟩ = some (.int .i64 h2.t) ∧ LaidH w.heap.size B h2 W5 w' from
      have q := y3.at_ (hs.block Y (by omega) y3.lt); ⟨q.c0, q.c1, q.c2, w', hs, .inl rfl⟩)
    have YL := Lib.hid fun (wm : World) (hs : MostB B W5 wm) => (show (((wm.setCell ⟨w.heap.size, 0, none⟩ (.int .i64 h2.b)).setCell ⟨w.heap.size, 1, none⟩ (.int .i64 h2.r)).setCell ⟨w.heap.size, 2, none⟩ (.int .i64 h2.t)).cell? ⟨Y, 0, none⟩ = some (.int .i64 h2.b) ∧ (((wm.setCell ⟨w.heap.size, 0, none⟩ (.int .i64 h2.b)).setCell ⟨w.heap.size, 1, none⟩ (.int .i64 h2.r)).setCell ⟨w.heap.size, 2, none⟩ (.int .i64 h2.t)).cell? ⟨Y, 1, none⟩ = some (.int .i64 h2.r) ∧ (((wm.setCell ⟨w.heap.size, 0, none⟩ (.int .i64 h2.b)).setCell ⟨w.heap.size, 1, none⟩ (.int .i64 h2.r)).setCell ⟨w.heap.size, 2, none⟩ (.int .i64 h2.t)).cell? ⟨Y, 2, none⟩ = some (.int .i64 h2.t) ∧ LaidH w.heap.size B h2 W5 (((wm.setCell ⟨w.heap.size, 0, none⟩ (.int .i64 h2.b)).setCell ⟨w.heap.size, 1, none⟩ (.int .i64 h2.r)).setCell ⟨w.heap.size, 2, none⟩ (.int .i64 h2.t)) from
      have q := (((y3.at_ (hs.block Y (by omega) y3.lt)).other (by omega) 0 _).other (by omega) 1 _).other (by omega) 2 _; ⟨q.c0, q.c1, q.c2, wm, hs, .inr rfl⟩)
    have RK := Lib.hid fun (w' : World) (hs : MostB B W5 w') => r3.at_ (hs.block w.heap.size (by omega) r3.lt)
    have hmd : MostB B W5 W5.drew := (MostB.refl _ _).below_ ((Below.refl _ _).drew)
    have hbd : Below W5.heap.size W5 W5.drew := (Below.refl _ _).drew
    have HMD := Lib.hid hmd
    have hstart := YK.out _ hmd
    have HS9 := Lib.hid (l9Slots_any v2 p2 W5.drew (OW5.keep hbd).holds (by omega))
    have hfl := fullI_len p2
    have hfle := fullS_le p2
    generalize fullI p2 = os at HS9 hfl
    have D5' := Lib.hid D5
    have HBD := Lib.hid hbd
    rw [← hY]
    have HY := Lib.hid hY
    clear y3 r3 hmd D5 hbd hY
    go_wp2_with fail
    go_region_held3 (fun w' => w'.cell? ⟨Y, 0, none⟩ = some (.int .i64 h2.b) ∧ w'.cell? ⟨Y, 1, none⟩ = some (.int .i64 h2.r) ∧ w'.cell? ⟨Y, 2, none⟩ = some (.int .i64 h2.t) ∧ LaidH w.heap.size B h2 W5 w')
      (first | exact hstart | exact YK.out _ m5.out | exact YL.out _ m5.out | fail)
      (first
        | (go_at_call 84; ((with_reducible refine HS9.out.mono ?_); rintro e w5 ⟨v5, rfl, O5, b5⟩; have m5 := Lib.hid (HMD.out.below_ (b5.mono HMD.out.size)); have d0 := (RK.out _ m5.out).c0; have d1 := (RK.out _ m5.out).c1; have d2 := (RK.out _ m5.out).c2; have ea := (RK.out _ m5.out).frozen 0; have eb := (RK.out _ m5.out).frozen 1; have ec := (RK.out _ m5.out).frozen 2; have O5h := Lib.hid O5; have B5 := Lib.hid b5; clear O5 b5))
        | fail)
    have hb5 : Below W5.heap.size W5 w5 := HBD.out.trans (B5.out.mono HBD.out.size)
    have D6 := D5'.out.on hb5 (by omega)
    have NB6 := NB5.most ((MostB.refl B W5).below_ hb5) (by omega)
    have OW6 := OW5.most ((MostB.refl B W5).below_ hb5) (by omega)
    have O5 := O5h.out
    have hsz5 : W5.heap.size ≤ W5.drew.heap.size := HBD.out.size
    clear d0 d1 d2 ea eb ec
    go_wp2_with fail
    obtain ⟨z0, z1, z2⟩ := D6.ends (.int .i64 h2.b) (.int .i64 h2.r) (.int .i64 h2.t)
    have hm9 := ((Only.set w.heap.size 0 w5 (.int .i64 h2.b)).trans (Only.set w.heap.size 1 _ (.int .i64 h2.r))).trans (Only.set w.heap.size 2 _ (.int .i64 h2.t))
    obtain ⟨E1, E2⟩ := D6.end_ (.int .i64 h2.b) (.int .i64 h2.r) (.int .i64 h2.t)
    have U9 := (NB6.most hm9.mostB (by omega)).from_ (show w.heap.size ≤ _ by omega)
    have V9 := (OW6.most hm9.mostB (by omega)).from_ (show w.heap.size ≤ _ by omega)
    have W9 := (O5.most hm9.mostB (by omega)).from_ (show w.heap.size ≤ _ by omega)
    exact bodyPost_ret (v := .tuple #[.agg #[.int .i64 h2.b, .int .i64 h2.r, .int .i64 h2.t], u2, v2, v5]) (by simp [results, Try.results80, go_sem, z0, z1, z2]) rfl ⟨h2, l2, p2, os, _, _, _, by omega, by omega, by omega, rfl, U9, V9, W9, E2⟩

set_option maxRecDepth 10000 in
set_option maxHeartbeats 2000000 in
theorem drawLoadOk_any (a : Option Addr) (len cap : Nat) (w : World) (h : IsRow8 w a len cap) :
    Calls Try.prog 41 #[.slice a len cap] w (DrewPO w) := by
  have ba : Below w.heap.size w (w.alloc (.cells Hl.zero.cells.toArray 24)) := (Below.refl _ _).alloc (Nat.le_refl _) _
  have ra : BoxH w.heap.size (w.alloc (.cells Hl.zero.cells.toArray 24)) ⟨0, 0, 0⟩ := BoxH.new w ⟨0, 0, 0⟩
  have hz : (w.alloc (.cells Hl.zero.cells.toArray 24)).heap.size = w.heap.size + 1 := by simp
  unfold Hl.cells Hl.zero at ba ra hz
  go_enter Try.func41, Try.ntmps41
  go_wp2_with fail
  refine (open_any a len cap _ (row8_keepS h ba)).mono ?_
  generalize (w.alloc (.cells [Value.int .i64 0, .int .i64 0, .int .i64 0].toArray 24)) = wa at ba ra hz ⊢
  rintro e w1 ⟨rfl, hr, hb, hz1⟩
  generalize wa.heap.size = B at hz hr hb hz1 ⊢
  subst hz
  have r1 := ra.at_ (hb.block w.heap.size (Nat.lt_succ_self _))
  have b1 : Below w.heap.size w w1 := ba.trans (hb.mono (by omega))
  clear h hb ba ra
  go_wp2_with fail
  refine (l20Loading_any _ _ 0 2 w1 hr (by omega) (by omega) (by omega)).mono ?_
  rintro e w2 ⟨hh, l, pl, os, u, v, vo, hl40, hp40, ho40, rfl, NB, OW, OO, hm⟩
  have r2 := r1.at_ (hm.block w.heap.size (by omega) r1.lt)
  have b2 : Below w.heap.size w w2 := b1.trans (hm.under (by omega) (by have := b1.size; omega))
  clear r1 b1 hr hm
  obtain ⟨d0, d1, d2, e0, -, -⟩ := BoxH.end_ hh r2 b2
  have ea := e0 0
  have eb := e0 1
  have ec := e0 2
  clear e0
  obtain ⟨-, -, -, -, y9, B9⟩ := BoxH.end_ hh r2 b2
  have f0 := y9.c0
  have f1 := y9.c1
  have f2 := y9.c2
  have m9 := Only3 w.heap.size w2 (.int .i64 hh.b) (.int .i64 hh.r) (.int .i64 hh.t)
  have U9 := (NB.most m9 (by omega)).from_ (show w.heap.size ≤ w1.heap.size by omega)
  have V9 := (OW.most m9 (by omega)).from_ (show w.heap.size ≤ w1.heap.size by omega)
  have W9 := (OO.most m9 (by omega)).from_ (show w.heap.size ≤ w1.heap.size by omega)
  clear y9 m9
  go_wp2_with fail
  exact bodyPost_ret (v := .tuple #[.agg #[.int .i64 hh.b, .int .i64 hh.r, .int .i64 hh.t], u, v, vo]) (by simp [results, Try.results41, go_sem, f0, f1, f2]) rfl ⟨hh, l, pl, os, _, _, _, hl40, hp40, ho40, rfl, U9, V9, W9, B9⟩

set_option maxRecDepth 10000 in
set_option maxHeartbeats 2000000 in
theorem drawWorstHeel_any (a : Option Addr) (len cap : Nat) (w : World) (h : IsRow8 w a len cap) :
    Calls Try.prog 50 #[.slice a len cap] w (DrewPO w) := by
  have ba : Below w.heap.size w (w.alloc (.cells Hl.zero.cells.toArray 24)) := (Below.refl _ _).alloc (Nat.le_refl _) _
  have ra : BoxH w.heap.size (w.alloc (.cells Hl.zero.cells.toArray 24)) ⟨0, 0, 0⟩ := BoxH.new w ⟨0, 0, 0⟩
  have hz : (w.alloc (.cells Hl.zero.cells.toArray 24)).heap.size = w.heap.size + 1 := by simp
  unfold Hl.cells Hl.zero at ba ra hz
  go_enter Try.func50, Try.ntmps50
  go_wp2_with fail
  refine (open_any a len cap _ (row8_keepS h ba)).mono ?_
  generalize (w.alloc (.cells [Value.int .i64 0, .int .i64 0, .int .i64 0].toArray 24)) = wa at ba ra hz ⊢
  rintro e w1 ⟨rfl, hr, hb, hz1⟩
  generalize wa.heap.size = B at hz hr hb hz1 ⊢
  subst hz
  have r1 := ra.at_ (hb.block w.heap.size (Nat.lt_succ_self _))
  have b1 : Below w.heap.size w w1 := ba.trans (hb.mono (by omega))
  clear h hb ba ra
  go_wp2_with fail
  refine (l20Loading_any _ _ 0 6 w1 hr (by omega) (by omega) (by omega)).mono ?_
  rintro e w2 ⟨hh, l, pl, os, u, v, vo, hl40, hp40, ho40, rfl, NB, OW, OO, hm⟩
  have r2 := r1.at_ (hm.block w.heap.size (by omega) r1.lt)
  have b2 : Below w.heap.size w w2 := b1.trans (hm.under (by omega) (by have := b1.size; omega))
  clear r1 b1 hr hm
  obtain ⟨d0, d1, d2, e0, -, -⟩ := BoxH.end_ hh r2 b2
  have ea := e0 0
  have eb := e0 1
  have ec := e0 2
  clear e0
  obtain ⟨-, -, -, -, y9, B9⟩ := BoxH.end_ hh r2 b2
  have f0 := y9.c0
  have f1 := y9.c1
  have f2 := y9.c2
  have m9 := Only3 w.heap.size w2 (.int .i64 hh.b) (.int .i64 hh.r) (.int .i64 hh.t)
  have U9 := (NB.most m9 (by omega)).from_ (show w.heap.size ≤ w1.heap.size by omega)
  have V9 := (OW.most m9 (by omega)).from_ (show w.heap.size ≤ w1.heap.size by omega)
  have W9 := (OO.most m9 (by omega)).from_ (show w.heap.size ≤ w1.heap.size by omega)
  clear y9 m9
  go_wp2_with fail
  exact bodyPost_ret (v := .tuple #[.agg #[.int .i64 hh.b, .int .i64 hh.r, .int .i64 hh.t], u, v, vo]) (by simp [results, Try.results50, go_sem, f0, f1, f2]) rfl ⟨hh, l, pl, os, _, _, _, hl40, hp40, ho40, rfl, U9, V9, W9, B9⟩

end Go.Proofs.Ytbaebamiiigmlab
