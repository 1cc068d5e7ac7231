/-
  Draws of ships, boxes and plans in which nothing floats.
-/
import Derived.Test.YtbaebamiiigmlabPlD
import Derived.Test.YtbaebamiiigmlabGLm
import Derived.Lib.SmallJoins
import Derived.Deep.RegionHeld3
namespace Go.Proofs.Ytbaebamiiigmlab
open Go.RowKit
set_option linter.unusedVariables false

/-- What a draw of a valid ship gives. -/
def DrewHlK (base B p : Nat) (w : World) (e : Ending) (w' : World) : Prop :=
  ∃ (b : Hl) (q : Nat), hlOk b = true ∧ q ≤ p + 8 ∧ e = .returned (.agg #[.int .i64 b.b, .int .i64 b.r, .int .i64 b.t]) ∧ Rdr base B q w' ∧ MostB B w w'
set_option maxRecDepth 10000 in
set_option maxHeartbeats 2000000 in
theorem l20Hull_ok (base B p : Nat) (w : World) (h : Rdr base B p w) (hp : p ≤ 900000) :
    Calls Try.prog 95 #[.pointer (some ⟨B, 0, none⟩), .int .i64 0] w (DrewHlK base B p w) := by
  have hBw := h.2.1
  go_enter Try.func95, Try.ntmps95
  go_wp2_with fail
  refine (pick_any base B p 4 _ (h.keep ((Below.refl _ _).alloc (Nat.le_refl _) _)) (by omega) (by omega)).mono ?_
  rintro e w1 ⟨x1, x10, x11, rfl, h1, o1⟩
  go_wp2_with fail
  refine (pick_any base B (p + 1) 3 w1 h1 (by omega) (by omega)).mono ?_
  rintro e w2 ⟨x2, x20, x21, rfl, h2, o2⟩
  go_wp2_with fail
  refine (pick_any base B (p + 1 + 1) 3 w2 h2 (by omega) (by omega)).mono ?_
  rintro e w3 ⟨x3, x30, x31, rfl, h3, o3⟩
  go_wp2_with fail
  have D0 := DrawH.start (T := 24) ⟨1 + x1, 1 + x2, 1 + x3⟩ h3 hBw o1 o2 o3
  have hN : w.heap.size < w3.heap.size := by have := D0.hN; exact this
  have hok : hlOk ⟨1 + x1, 1 + x2, 1 + x3⟩ = true := hlOk_iff.2 ⟨by simp; omega, by simp; omega, by simp; omega, by simp; omega, by simp; omega, by simp; omega⟩
  obtain ⟨b, q, hbk, hq, D⟩ : ∃ b q, hlOk b = true ∧ q ≤ p + 5 ∧ DrawH w base B q w3.heap.size b _ := ⟨_, _, hok, by omega, D0⟩
  generalize w3.alloc (.cells #[.int .i64 (1 + x1), .int .i64 (1 + x2), .int .i64 (1 + x3)] 24) = W at D ⊢
  generalize w3.heap.size = N at D hN ⊢
  clear D0 o1 o2 o3 h1 h2 h3 h hok
  refine (odd_zero B W).mono ?_
  rintro e w6 ⟨rfl, rfl⟩
  have D4 := D
  clear D
  obtain ⟨c0, c1, c2⟩ := D4.cells
  obtain ⟨⟨r0, e0⟩, f0⟩ := D4.resCells 0 (by omega)
  obtain ⟨⟨r1, e1⟩, f1⟩ := D4.resCells 1 (by omega)
  obtain ⟨⟨r2, e2⟩, f2⟩ := D4.resCells 2 (by omega)
  go_wp2_with fail
  obtain ⟨z0, z1, z2⟩ := D4.ends (.int .i64 b.b) (.int .i64 b.r) (.int .i64 b.t)
  exact bodyPost_ret (v := .agg #[.int .i64 b.b, .int .i64 b.r, .int .i64 b.t]) (by simp [results, Try.results95, go_sem, z0, z1, z2]) rfl ⟨⟨b.b, b.r, b.t⟩, q, hbk, by omega, rfl, D4.end_ (.int .i64 b.b) (.int .i64 b.r) (.int .i64 b.t)⟩

/-- What a draw of a valid ship, boxes and a plan gives. -/
def DrewPlanK (base B p : Nat) (w : World) (e : Ending) (w' : World) : Prop :=
  ∃ (h : Hl) (l : List Bx) (pl : List Int) (u v : Value) (q : Nat), hlOk h = true ∧ CarryP h pl ∧ q ≤ p + 1200 ∧ l.length ≤ 40 ∧ pl.length ≤ 40 ∧ e = .returned (.tuple #[.agg #[.int .i64 h.b, .int .i64 h.r, .int .i64 h.t], u, v]) ∧ NewBx w.heap.size w' u l ∧ OwnI w.heap.size w' v pl ∧ Rdr base B q w' ∧ MostB B w w'

set_option maxRecDepth 10000 in
set_option maxHeartbeats 1000000 in
theorem l20Plan_ok (base B p0 : Nat) (many : Int) (w : World) (h : Rdr base B p0 w) (hp : p0 ≤ 50000) (hm0 : 0 ≤ many) (hm1 : many ≤ 20) :
    Calls Try.prog 56 #[.pointer (some ⟨B, 0, none⟩), .int .i64 many, .int .i64 0] w (DrewPlanK base B p0 w) := by
  obtain ⟨i0, hi, hz0, hz1, hz2⟩ := info_parts infoInt
  have HI := Lib.hid hi
  have HZ0 := Lib.hid hz0
  have HZ1 := Lib.hid hz1
  have HZ2 := Lib.hid hz2
  clear hi hz0 hz1 hz2
  have hBw := h.2.1
  go_enter Try.func56, Try.ntmps56
  go_wp2_with fail
  refine (l20Hull_ok base B p0 _ (h.keep ((Below.refl _ _).alloc (Nat.le_refl _) _)) (by omega)).mono ?_
  rintro e w1 ⟨hl, q1, hbk, hq1, rfl, h1, m1⟩
  have D2 := DrawH.startM hl h1 hBw m1
  have hs1 : w.heap.size < w1.heap.size := D2.hN
  obtain ⟨W2, hW2⟩ : ∃ W2, W2 = w1.alloc (.cells #[.int .i64 hl.b, .int .i64 hl.r, .int .i64 hl.t] 24) := ⟨_, rfl⟩
  have hs2 : W2.heap.size = w1.heap.size + 1 := by rw [hW2]; simp
  rw [← hW2] at D2
  go_wp2_with fail
  rw [← hW2]
  clear hW2 h1 m1 h
  refine (l20Boxes_any base B q1 many 0 W2 D2.rdr (by omega) hm0 hm1 (by omega) (by omega)).mono ?_
  rintro e w3 ⟨l, u, q3, hq3, hl40, rfl, hbx, h3, m3⟩
  have D3 := D2.mostD m3 h3
  have hs3 := D3.size
  obtain ⟨c0, c1, c2⟩ := D3.cells
  clear D2 h3
  have NB := Lib.hid fun (w' : World) (hs : MostB B w3 w') => hbx.most hs (by omega)
  have BK := Lib.hid fun (w' : World) (hs : MostB B w3 w') => (NB.out w' hs).holds
  obtain ⟨ba, bc, rfl⟩ : ∃ a c, u = .slice a l.length c := by obtain ⟨a, c, e, _⟩ := hbx; exact ⟨a, c, e⟩
  clear hbx m3
  obtain ⟨n, hn⟩ : ∃ n, n = l.length := ⟨_, rfl⟩
  have HN := Lib.hid hn.symm
  rw [← hn] at BK NB hl40 ⊢
  clear hn
  go_wp2_with fail
  refine (specPlanEmpty_any hl w3).mono ?_
  rintro e w4 ⟨v4, rfl, hO4, b4⟩
  have D4 := Lib.hid (D3.on b4 hs3)
  have M4 := Lib.hid ((MostB.refl B w3).below_ b4)
  have O4 := Lib.hid hO4
  have E4 := emptyP_len hl
  have hB3 : B < w3.heap.size := by omega
  clear hO4 b4 D3 c0 c1 c2
  have HC4 := Lib.hid (CarryP.empty hbk)
  generalize emptyP hl = p4 at O4 E4 HC4
  go_wp2_with fail
  go_loopw [11, 12] (fun va i wr => ∃ (pv : Value) (q k : Nat) (pl : List Int), pv = va ∧ k ≤ n ∧ i = .int .i64 k ∧ q ≤ q3 + 2 * k ∧ pl.length ≤ 36 ∧ Hid (DrawH w base B q w1.heap.size hl wr) ∧ Hid (OwnI w3.heap.size wr pv pl) ∧ Hid (MostB B w3 wr) ∧ Hid (CarryP hl pl)) (fun _ i _ => n - (intOf i).toNat)
  case atStart => exact ⟨v4, q3, 0, p4, rfl, by omega, rfl, by omega, E4, D4, O4, M4, HC4⟩
  case round =>
    clear D4 O4 M4 E4 HC4
    obtain ⟨pv, q, k, pl, rfl, hkn, rfl, hq, hpl, D, OW, M, HCP⟩ := hrel
    by_cases hlt : k < n
    · have ik : (k : Int) < (n : Int) := by omega
      have i0k : (0 : Int) ≤ (k : Int) := by omega
      have HNX := Lib.hid (specPlanNext_any hl (.slice ba n bc) pv l pl wr (BK.out wr M.out) OW.out.holds)
      obtain ⟨c0, c1, c2⟩ := D.out.cells
      go_wp2_with fail
      refine HNX.out.mono ?_
      rintro e w5 ⟨v5, rfl, hO5, b5⟩
      have D5 := Lib.hid (D.out.on b5 D.out.size)
      have OW5 := Lib.hid (OW.out.keep b5)
      have M5 := Lib.hid (M.out.below_ (b5.mono M.out.size))
      have NX5 := Lib.hid (hO5.from_ M.out.size)
      clear hO5 b5 D OW M HNX c0 c1 c2
      have hnl36 : (nextI hl (bxsOk l) (bxIds l) pl).length ≤ 36 := by
        unfold nextI nextP
        split
        · rw [List.length_map]; exact Nat.le_trans (List.length_filter_le _ _) (by rw [List.length_range]; exact hpl)
        · simp
      generalize nextI hl (bxsOk l) (bxIds l) pl = nx at NX5 hnl36
      obtain ⟨na, nc, rfl⟩ := NX5.out.holds.form
      by_cases hnl : 0 < nx.length
      · have hnli : decide ((0 : Int) < (nx.length : Int)) = true := decide_eq_true (by omega)
        go_wp2_with fail
        refine (pick_any base B q 6 w5 D5.out.rdr (by omega) (by omega)).mono ?_
        rintro e w6 ⟨x, x0, x1, rfl, h6, o6⟩
        have D6 := Lib.hid (D5.out.only o6 h6)
        have OW6 := Lib.hid (OW5.out.most o6.mostB hB3)
        have M6 := Lib.hid (M5.out.trans o6.mostB)
        have NX6 := Lib.hid (NX5.out.most o6.mostB hB3)
        clear h6 o6 D5 OW5 M5 NX5
        by_cases hx : 0 < x
        · have IDC := Lib.hid fun (w' : World) (hs : MostB B w3 w') => BK.out w' hs
          have hkl : k < l.length := by rw [HN.out]; exact hlt
          obtain ⟨bb, off, rfl, hbb⟩ : ∃ bb off, ba = some ⟨bb, off, none⟩ ∧ True := by
            obtain ⟨a', c', e', _, _, h4⟩ := BK.out w6 M6.out
            simp only [Value.slice.injEq] at e'
            rcases h4 with h4 | ⟨b, off, h5, _⟩
            · omega
            · exact ⟨b, off, e'.1.trans h5, trivial⟩
          obtain ⟨id, hid⟩ : ∃ id, id = l[k].i := ⟨_, rfl⟩
          have IDC := Lib.hid fun (w' : World) (hs : MostB B w3 w') => (show w'.cell? ⟨bb, off + k * 5, none⟩ = some (.int .i64 id) from by
            obtain ⟨a', c', e', _, _, h4⟩ := BK.out w' hs
            simp only [Value.slice.injEq] at e'
            rcases h4 with h4 | ⟨b, off', h5, _, h7⟩
            · omega
            · rw [h5] at e'
              simp only [Option.some.injEq, Addr.mk.injEq, and_true] at e'
              obtain ⟨⟨rfl, rfl⟩, _⟩ := e'
              rw [hid]
              exact h7 k hkl 0 (by omega))
          clear hid hbb
          obtain ⟨g, cap, cur, hge, hg1, hg2, -, -, -, -, -⟩ := NX6.out.form hnl
          simp only [Value.slice.injEq] at hge
          obtain ⟨rfl, -, rfl⟩ := hge
          obtain ⟨m, hm⟩ : ∃ m, m = nx.length := ⟨_, rfl⟩
          have HM := Lib.hid hm.symm
          have hm36 : m ≤ 36 := by omega
          have hm0 : 0 < m := by omega
          obtain ⟨cv, hcv⟩ : ∃ f : Nat → Option Value, f = fun i => w6.cell? ⟨g, i, none⟩ := ⟨_, rfl⟩
          obtain ⟨vals, hvals⟩ : ∃ f : Nat → Int, f = fun j => nx.getD j 0 := ⟨_, rfl⟩
          have HV := Lib.hid fun (j : Nat) (hj : j < m) => (show cv j = some (.int .i64 (vals j)) by
            rw [hvals, hcv]
            obtain ⟨b', off', e', _, c⟩ := NX6.out.holds.at_ (show j < nx.length by omega)
            simp only [Option.some.injEq, Addr.mk.injEq, and_true] at e'
            obtain ⟨rfl, rfl⟩ := e'
            rw [Nat.zero_add] at c
            exact c)
          have hall : ∀ w', KeepP B w6 w' → ∀ i, w'.cell? ⟨g, i, none⟩ = cv i := by
            intro w' hs i
            rw [hcv]
            exact World.cell?_of_block (w := w6) (hs.block g (by have := M6.out.size; omega) hg2)
          rw [← hm] at NX6 ⊢
          have P1 := Lib.hid ((pick_any base B (q + 1) (m : Int) w6.drew (D6.out.rdr.keepK (Below.refl w6.heap.size w6).drew (by have := D6.out.size; have := D6.out.hN; have := D6.out.hB; omega)) (by omega) (by omega)).mono (R' := fun e w' => ∃ j : Nat, j < m ∧ e = .returned (.int .i64 (j : Int)) ∧ Rdr base B (q + 1 + 1) w' ∧ Only B w6.drew w') (fun e w' ⟨x, x0, x1, he, hr, ho⟩ => by
            obtain ⟨j, rfl⟩ := Int.eq_ofNat_of_zero_le x0
            exact ⟨j, by omega, he, hr, ho⟩))
          have HPP := Lib.hid fun (x : Int) (w' : World) (hs : MostB B w6 w') => (specPlanPut_any hl (.slice (some ⟨bb, off, none⟩) n bc) pv l pl x id w' (BK.out w' (M6.out.trans hs)) (OW6.out.most hs (by have := M6.out.size; omega)).holds).mono (R' := fun e w'' => ∃ (v8 : Value) (ok : Bool) (p8 : List Int), (ok = true → CarryP hl p8) ∧ e = .returned (.tuple #[v8, .bool ok]) ∧ p8.length ≤ 36 ∧ OwnI w'.heap.size w'' v8 p8 ∧ Below w'.heap.size w' w'') (fun e w'' ⟨v8, he, ho, hb⟩ => ⟨v8, _, _, CarryP.put, he, putP_len hpl, ho, hb⟩)
          have CELL := Lib.hid fun (w' : World) (hs : MostB B w6 w') => (show w'.cell? ⟨w1.heap.size, 0, none⟩ = some (.int .i64 hl.b) ∧ w'.cell? ⟨w1.heap.size, 1, none⟩ = some (.int .i64 hl.r) ∧ w'.cell? ⟨w1.heap.size, 2, none⟩ = some (.int .i64 hl.t) ∧ w'.cell? ⟨bb, off + k * 5, none⟩ = some (.int .i64 id) ∧ KeepP B w6 w' from by
            have hN := D6.out.size
            have hN1 := D6.out.hN
            have hN2 := D6.out.hB
            obtain ⟨d0, d1, d2⟩ := D6.out.cells
            have kN := hs.block w1.heap.size (by omega) hN
            exact ⟨(World.cell?_of_block (w := w6) kN).trans d0, (World.cell?_of_block (w := w6) kN).trans d1, (World.cell?_of_block (w := w6) kN).trans d2, IDC.out w' (M6.out.trans hs), hs⟩)
          have hmd : MostB B w6 w6.drew := (MostB.refl _ _).below_ ((Below.refl _ _).drew)
          have HMD := Lib.hid hmd
          have hstart := CELL.out _ hmd
          clear hcv hvals hm hmd
          go_wp2_with fail
          go_region_held3 (fun w' => w'.cell? ⟨w1.heap.size, 0, none⟩ = some (.int .i64 hl.b) ∧ w'.cell? ⟨w1.heap.size, 1, none⟩ = some (.int .i64 hl.r) ∧ w'.cell? ⟨w1.heap.size, 2, none⟩ = some (.int .i64 hl.t) ∧ w'.cell? ⟨bb, off + k * 5, none⟩ = some (.int .i64 id) ∧ KeepP B w6 w')
            (first | exact hstart | exact CELL.out _ m7.out | exact CELL.out _ m8.out | fail)
            (first
              | (go_at_call 70; ((with_reducible refine P1.out.mono ?_); rintro e w7 ⟨j, hjm, rfl, hr7, ho7⟩; have ij : (j : Int) < (m : Int) := Int.ofNat_lt.2 hjm; have i0j : (0 : Int) ≤ (j : Int) := Int.natCast_nonneg j; have hvj := HV.out j hjm; have m7 := Lib.hid (HMD.out.trans ho7.mostB); have R7 := Lib.hid hr7; clear hr7 ho7))
              | (go_at_call 99; ((with_reducible refine (HPP.out _ w7 m7.out).mono ?_); rintro e w8 ⟨v8, ok, p8, hcc, rfl, hp8, hO8, b8⟩; have HCC := Lib.hid hcc; clear hcc; have m8 := Lib.hid (m7.out.below_ (b8.mono m7.out.size)); have R8 := Lib.hid (R7.out.keep b8); have O8 := Lib.hid hO8; clear hO8 b8))
              | fail)
          clear hstart hall hvj
          have D8 := D6.out.mostD m8.out R8.out
          have M8 := M6.out.trans m8.out
          cases ok
          · have O9 := OW6.out.most m8.out (by have := M6.out.size; omega)
            go_wp2_with fail
            go_roundw
            case rel => exact ⟨_, q + 1 + 1, k + 1, _, rfl, by omega, by go_num, by omega, hpl, Lib.hid D8, Lib.hid O9, Lib.hid M8, HCP⟩
            case measure => simp [intOf]; omega
          · have O9 := O8.out.from_ (show w3.heap.size ≤ w7.heap.size by have := m7.out.size; have := M6.out.size; omega)
            go_wp2_with fail
            have HC8 := Lib.hid (HCC.out rfl)
            go_roundw
            case rel => exact ⟨_, q + 1 + 1, k + 1, _, rfl, by omega, by go_num, by omega, hp8, Lib.hid D8, Lib.hid O9, Lib.hid M8, HC8⟩
            case measure => simp [intOf]; omega
        · have hxd : decide (0 < x) = false := decide_eq_false hx
          go_wp2_with fail
          go_roundw
          case rel => exact ⟨_, q + 1, k + 1, _, rfl, by omega, by go_num, by omega, hpl, Lib.hid D6.out, Lib.hid OW6.out, Lib.hid M6.out, HCP⟩
          case measure => simp [intOf]; omega
      · have hnli : decide ((0 : Int) < (nx.length : Int)) = false := decide_eq_false (by omega)
        go_wp2_with fail
        go_roundw
        case rel => exact ⟨_, q, k + 1, _, rfl, by omega, by go_num, by omega, hpl, Lib.hid D5.out, Lib.hid OW5.out, Lib.hid M5.out, HCP⟩
        case measure => simp [intOf]; omega
    · obtain rfl : k = n := by omega
      clear hlt hkn
      obtain ⟨c0, c1, c2⟩ := D.out.cells
      go_wp2_with fail
      refine (odd_zero B wr).mono ?_
      rintro e w6 ⟨rfl, rfl⟩
      obtain ⟨c0, c1, c2⟩ := D.out.cells
      obtain ⟨⟨r0, e0⟩, f0⟩ := D.out.resCells 0 (by omega)
      obtain ⟨⟨r1, e1⟩, f1⟩ := D.out.resCells 1 (by omega)
      obtain ⟨⟨r2, e2⟩, f2⟩ := D.out.resCells 2 (by omega)
      go_wp2_with fail
      obtain ⟨z0, z1, z2⟩ := D.out.ends (.int .i64 hl.b) (.int .i64 hl.r) (.int .i64 hl.t)
      have hm9 := ((Only.set w.heap.size 0 wr (.int .i64 hl.b)).trans (Only.set w.heap.size 1 _ (.int .i64 hl.r))).trans (Only.set w.heap.size 2 _ (.int .i64 hl.t))
      obtain ⟨E1, E2⟩ := D.out.end_ (.int .i64 hl.b) (.int .i64 hl.r) (.int .i64 hl.t)
      have hN9 := D.out.hN
      have U9 := ((NB.out wr M.out).most hm9.mostB (by omega)).from_ (show w.heap.size ≤ W2.heap.size by omega)
      have V9 := (OW.out.most hm9.mostB (by omega)).from_ (show w.heap.size ≤ w3.heap.size by omega)
      exact bodyPost_ret (v := .tuple #[.agg #[.int .i64 hl.b, .int .i64 hl.r, .int .i64 hl.t], .slice ba k bc, pv]) (by simp [results, Try.results56, go_sem, z0, z1, z2]) rfl ⟨hl, l, pl, _, _, q, hbk, HCP.out, by omega, by rw [HN.out]; exact hl40, by omega, rfl, U9, V9, E1, E2⟩
end Go.Proofs.Ytbaebamiiigmlab
