/-
  The draw of a ship, boxes and a plan: l20Plan.
-/
import Derived.Test.YtmgnbkiphdlooabSlD
import Derived.Test.YtmgnbkiphdlooabGDr
import Derived.Test.YtmgnbkiphdlooabPlP
import Derived.Test.YtmgnbkiphdlooabPlC
import Derived.Lib.SmallJoins
import Derived.Deep.RegionHeld3
namespace Go.Proofs.Ytmgnbkiphdlooab
open Go.RowKit
set_option linter.unusedVariables false

theorem DrawH.on {w0 : World} {base B q N K : Nat} {b : Hl} {w w1 : World} (h : DrawH w0 base B q N b w) (hb : Below K w w1) (hK : N < K) : DrawH w0 base B q N b w1 := by
  have hN := h.hN
  have hB := h.hB
  exact ⟨h.rdr.keepK hb (by omega), by rw [hb.block N hK]; exact h.box, by rw [hb.block _ (by omega)]; exact h.res, h.hN, h.hB, hb.os.trans h.os, hb.tape.trans h.tape, hb.output.trans h.output, fun k hk hl => (hb.block k (by omega)).trans (h.block k hk hl)⟩
theorem DrawH.mostD {w0 : World} {base B q q' N : Nat} {b : Hl} {w w1 : World} (h : DrawH w0 base B q N b w) (hm : MostB B w w1) (hr : Rdr base B q' w1) : DrawH w0 base B q' N b w1 := by
  have hN := h.hN
  have hB := h.hB
  have hs := h.size
  exact ⟨hr, by rw [hm.block N (by omega) hs]; exact h.box, by rw [hm.block _ (by omega) (by omega)]; exact h.res, h.hN, h.hB, hm.os.trans h.os, hm.tape.trans h.tape, hm.output.trans h.output, fun k hk hl => (hm.block k hk (by omega)).trans (h.block k hk hl)⟩
theorem DrawH.startM {w w1 : World} {base B q : Nat} (b : Hl) (h : Rdr base B q w1) (hB : B < w.heap.size) (m : MostB B (w.alloc (.cells #[.int .i64 0, .int .i64 0, .int .i64 0] 24)) w1) :
    DrawH w base B q w1.heap.size b (w1.alloc (.cells #[.int .i64 b.b, .int .i64 b.r, .int .i64 b.t] 24)) := by
  have hs : w.heap.size < w1.heap.size := by have := m.size; simp at this; omega
  have k : ∀ o i, i < w1.heap.size → (w1.alloc o).heap[i]? = w1.heap[i]? := fun o i hi => Below.heap_alloc w1 o i hi
  refine ⟨h.keep ((Below.refl _ _).alloc (Nat.le_refl _) _), ?_, ?_, hs, hB, m.os, m.tape, m.output, fun i hi hl => ?_⟩
  · show (w1.heap.push _)[w1.heap.size]? = _
    simp [Hl.cells]
  · rw [k _ _ (by omega), m.block _ (by omega) (by simp)]
    show (w.heap.push _)[w.heap.size]? = _
    simp [Hl.cells, Hl.zero]
  · rw [k _ _ (by omega), m.block _ hi (by simp; omega)]
    exact Below.heap_alloc w _ i hl
theorem OwnI.most {K B : Nat} {w w' : World} {v : Value} {l : List Int} (h : OwnI K w v l) (hm : MostB B w w') (hB : B < K) : OwnI K w' v l := own_most h hm hB
theorem putP_len {h : Hl} {bok : Bool} {ids p : List Int} {s id : Int} {n : Nat} (hp : p.length ≤ n) : (putP h bok ids p s id).1.length ≤ n := by
  rcases putP_cases h bok ids p s id with ⟨_, e⟩ | ⟨_, e⟩ | ⟨_, _, _, _, _, _, e⟩ <;> rw [e] <;> simp [hp]
theorem emptyP_len (h : Hl) : (emptyP h).length ≤ 36 := by
  unfold emptyP
  by_cases hk : hlOk h = true
  · rw [if_pos hk, List.length_replicate]; have := (slMany_bd hk).2.1; omega
  · rw [if_neg hk]; simp
/-- What has been the same since w but for block B. -/
def KeepP (B : Nat) (w w' : World) : Prop := MostB B w w'
/-- What a draw of a ship, boxes and a plan gives. -/
def DrewPlan (base B p : Nat) (w : World) (e : Ending) (w' : World) : Prop :=
  ∃ (h : Hl) (l : List Bx) (pl : List Int) (u v : Value) (q : Nat), q ≤ p + 1200 ∧ l.length ≤ 40 ∧ pl.length ≤ 40 ∧ e = .returned (.tuple #[.agg #[.int .i64 h.b, .int .i64 h.r, .int .i64 h.t], u, v]) ∧ NewBx w.heap.size w' u l ∧ OwnI w.heap.size w' v pl ∧ Rdr base B q w' ∧ MostB B w w'

set_option maxRecDepth 10000 in
set_option maxHeartbeats 1000000 in
theorem l20Plan_any (base B p0 : Nat) (many n3 : Int) (w : World) (h : Rdr base B p0 w) (hp : p0 ≤ 50000) (hm0 : 0 ≤ many) (hm1 : many ≤ 20) (hn0 : 0 ≤ n3) (hn1 : n3 ≤ 300) :
    Calls Try.prog 42 #[.pointer (some ⟨B, 0, none⟩), .int .i64 many, .int .i64 n3] w (DrewPlan base B p0 w) := by
  obtain ⟨i0, hi, hz0, hz1, hz2⟩ := info_parts infoInt
  have HI := Lib.hid hi
  have HZ0 := Lib.hid hz0
  have HZ1 := Lib.hid hz1
  have HZ2 := Lib.hid hz2
  clear hi hz0 hz1 hz2
  have hBw := h.2.1
  have zn : IntKind.i64.wrap (3 * n3) = 3 * n3 := IntWalk.i64_in _ (by omega)
  go_enter Try.func42, Try.ntmps42
  go_wp2_with fail
  refine (l20Hull_any base B p0 (3 * n3) _ (h.keep ((Below.refl _ _).alloc (Nat.le_refl _) _)) (by omega) (by omega) (by omega)).mono ?_
  rintro e w1 ⟨hl, q1, hq1, rfl, h1, m1⟩
  have D2 := DrawH.startM hl h1 hBw m1
  have hs1 : w.heap.size < w1.heap.size := D2.hN
  obtain ⟨W2, hW2⟩ : ∃ W2, W2 = w1.alloc (.cells #[.int .i64 hl.b, .int .i64 hl.r, .int .i64 hl.t] 24) := ⟨_, rfl⟩
  have hs2 : W2.heap.size = w1.heap.size + 1 := by rw [hW2]; simp
  rw [← hW2] at D2
  go_wp2_with fail
  rw [← hW2]
  clear hW2 h1 m1 h
  refine (l20Boxes_any base B q1 many (3 * n3) W2 D2.rdr (by omega) hm0 hm1 (by omega) (by omega)).mono ?_
  rintro e w3 ⟨l, u, q3, hq3, hl40, rfl, hbx, h3, m3⟩
  have D3 := D2.mostD m3 h3
  have hs3 := D3.size
  obtain ⟨c0, c1, c2⟩ := D3.cells
  clear D2 h3
  have NB := Lib.hid fun (w' : World) (hs : MostB B w3 w') => hbx.most hs (by omega)
  have BK := Lib.hid fun (w' : World) (hs : MostB B w3 w') => (NB.out w' hs).holds
  obtain ⟨ba, bc, rfl⟩ : ∃ a c, u = .slice a l.length c := by obtain ⟨a, c, e, _⟩ := hbx; exact ⟨a, c, e⟩
  clear hbx m3
  obtain ⟨n, hn⟩ : ∃ n, n = l.length := ⟨_, rfl⟩
  have HN := Lib.hid hn.symm
  rw [← hn] at BK NB hl40 ⊢
  clear hn
  go_wp2_with fail
  refine (specPlanEmpty_any hl w3).mono ?_
  rintro e w4 ⟨v4, rfl, hO4, b4⟩
  have D4 := Lib.hid (D3.on b4 hs3)
  have M4 := Lib.hid ((MostB.refl B w3).below_ b4)
  have O4 := Lib.hid hO4
  have E4 := emptyP_len hl
  have hB3 : B < w3.heap.size := by omega
  clear hO4 b4 D3 c0 c1 c2
  generalize emptyP hl = p4 at O4 E4
  go_wp2_with fail
  go_loopw [11, 12] (fun va i wr => ∃ (pv : Value) (q k : Nat) (pl : List Int), pv = va ∧ k ≤ n ∧ i = .int .i64 k ∧ q ≤ q3 + 2 * k ∧ pl.length ≤ 36 ∧ Hid (DrawH w base B q w1.heap.size hl wr) ∧ Hid (OwnI w3.heap.size wr pv pl) ∧ Hid (MostB B w3 wr)) (fun _ i _ => n - (intOf i).toNat)
  case atStart => exact ⟨v4, q3, 0, p4, rfl, by omega, rfl, by omega, E4, D4, O4, M4⟩
  case round =>
    clear D4 O4 M4 E4
    obtain ⟨pv, q, k, pl, rfl, hkn, rfl, hq, hpl, D, OW, M⟩ := hrel
    by_cases hlt : k < n
    · have ik : (k : Int) < (n : Int) := by omega
      have i0k : (0 : Int) ≤ (k : Int) := by omega
      have HNX := Lib.hid (specPlanNext_any hl (.slice ba n bc) pv l pl wr (BK.out wr M.out) OW.out.holds)
      obtain ⟨c0, c1, c2⟩ := D.out.cells
      go_wp2_with fail
      refine HNX.out.mono ?_
      rintro e w5 ⟨v5, rfl, hO5, b5⟩
      have D5 := Lib.hid (D.out.on b5 D.out.size)
      have OW5 := Lib.hid (OW.out.keep b5)
      have M5 := Lib.hid (M.out.below_ (b5.mono M.out.size))
      have NX5 := Lib.hid (hO5.from_ M.out.size)
      clear hO5 b5 D OW M HNX c0 c1 c2
      have hnl36 : (nextI hl (bxsOk l) (bxIds l) pl).length ≤ 36 := by
        unfold nextI nextP
        split
        · rw [List.length_map]; exact Nat.le_trans (List.length_filter_le _ _) (by rw [List.length_range]; exact hpl)
        · simp
      generalize nextI hl (bxsOk l) (bxIds l) pl = nx at NX5 hnl36
      obtain ⟨na, nc, rfl⟩ := NX5.out.holds.form
      by_cases hnl : 0 < nx.length
      · have hnli : decide ((0 : Int) < (nx.length : Int)) = true := decide_eq_true (by omega)
        go_wp2_with fail
        refine (pick_any base B q 6 w5 D5.out.rdr (by omega) (by omega)).mono ?_
        rintro e w6 ⟨x, x0, x1, rfl, h6, o6⟩
        have D6 := Lib.hid (D5.out.only o6 h6)
        have OW6 := Lib.hid (OW5.out.most o6.mostB hB3)
        have M6 := Lib.hid (M5.out.trans o6.mostB)
        have NX6 := Lib.hid (NX5.out.most o6.mostB hB3)
        clear h6 o6 D5 OW5 M5 NX5
        by_cases hx : 0 < x
        · have IDC := Lib.hid fun (w' : World) (hs : MostB B w3 w') => BK.out w' hs
          have hkl : k < l.length := by rw [HN.out]; exact hlt
          obtain ⟨bb, off, rfl, hbb⟩ : ∃ bb off, ba = some ⟨bb, off, none⟩ ∧ True := by
            obtain ⟨a', c', e', _, _, h4⟩ := BK.out w6 M6.out
            simp only [Value.slice.injEq] at e'
            rcases h4 with h4 | ⟨b, off, h5, _⟩
            · omega
            · exact ⟨b, off, e'.1.trans h5, trivial⟩
          obtain ⟨id, hid⟩ : ∃ id, id = l[k].i := ⟨_, rfl⟩
          have IDC := Lib.hid fun (w' : World) (hs : MostB B w3 w') => (show w'.cell? ⟨bb, off + k * 5, none⟩ = some (.int .i64 id) from by
            obtain ⟨a', c', e', _, _, h4⟩ := BK.out w' hs
            simp only [Value.slice.injEq] at e'
            rcases h4 with h4 | ⟨b, off', h5, _, h7⟩
            · omega
            · rw [h5] at e'
              simp only [Option.some.injEq, Addr.mk.injEq, and_true] at e'
              obtain ⟨⟨rfl, rfl⟩, _⟩ := e'
              rw [hid]
              exact h7 k hkl 0 (by omega))
          clear hid hbb
          obtain ⟨g, cap, cur, hge, hg1, hg2, -, -, -, -, -⟩ := NX6.out.form hnl
          simp only [Value.slice.injEq] at hge
          obtain ⟨rfl, -, rfl⟩ := hge
          obtain ⟨m, hm⟩ : ∃ m, m = nx.length := ⟨_, rfl⟩
          have HM := Lib.hid hm.symm
          have hm36 : m ≤ 36 := by omega
          have hm0 : 0 < m := by omega
          obtain ⟨cv, hcv⟩ : ∃ f : Nat → Option Value, f = fun i => w6.cell? ⟨g, i, none⟩ := ⟨_, rfl⟩
          obtain ⟨vals, hvals⟩ : ∃ f : Nat → Int, f = fun j => nx.getD j 0 := ⟨_, rfl⟩
          have HV := Lib.hid fun (j : Nat) (hj : j < m) => (show cv j = some (.int .i64 (vals j)) by
            rw [hvals, hcv]
            obtain ⟨b', off', e', _, c⟩ := NX6.out.holds.at_ (show j < nx.length by omega)
            simp only [Option.some.injEq, Addr.mk.injEq, and_true] at e'
            obtain ⟨rfl, rfl⟩ := e'
            rw [Nat.zero_add] at c
            exact c)
          have hall : ∀ w', KeepP B w6 w' → ∀ i, w'.cell? ⟨g, i, none⟩ = cv i := by
            intro w' hs i
            rw [hcv]
            exact World.cell?_of_block (w := w6) (hs.block g (by have := M6.out.size; omega) hg2)
          rw [← hm] at NX6 ⊢
          have P1 := Lib.hid ((pick_any base B (q + 1) (m : Int) w6.drew (D6.out.rdr.keepK (Below.refl w6.heap.size w6).drew (by have := D6.out.size; have := D6.out.hN; have := D6.out.hB; omega)) (by omega) (by omega)).mono (R' := fun e w' => ∃ j : Nat, j < m ∧ e = .returned (.int .i64 (j : Int)) ∧ Rdr base B (q + 1 + 1) w' ∧ Only B w6.drew w') (fun e w' ⟨x, x0, x1, he, hr, ho⟩ => by
            obtain ⟨j, rfl⟩ := Int.eq_ofNat_of_zero_le x0
            exact ⟨j, by omega, he, hr, ho⟩))
          have HPP := Lib.hid fun (x : Int) (w' : World) (hs : MostB B w6 w') => (specPlanPut_any hl (.slice (some ⟨bb, off, none⟩) n bc) pv l pl x id w' (BK.out w' (M6.out.trans hs)) (OW6.out.most hs (by have := M6.out.size; omega)).holds).mono (R' := fun e w'' => ∃ (v8 : Value) (ok : Bool) (p8 : List Int), e = .returned (.tuple #[v8, .bool ok]) ∧ p8.length ≤ 36 ∧ OwnI w'.heap.size w'' v8 p8 ∧ Below w'.heap.size w' w'') (fun e w'' ⟨v8, he, ho, hb⟩ => ⟨v8, _, _, he, putP_len hpl, ho, hb⟩)
          have CELL := Lib.hid fun (w' : World) (hs : MostB B w6 w') => (show w'.cell? ⟨w1.heap.size, 0, none⟩ = some (.int .i64 hl.b) ∧ w'.cell? ⟨w1.heap.size, 1, none⟩ = some (.int .i64 hl.r) ∧ w'.cell? ⟨w1.heap.size, 2, none⟩ = some (.int .i64 hl.t) ∧ w'.cell? ⟨bb, off + k * 5, none⟩ = some (.int .i64 id) ∧ KeepP B w6 w' from by
            have hN := D6.out.size
            have hN1 := D6.out.hN
            have hN2 := D6.out.hB
            obtain ⟨d0, d1, d2⟩ := D6.out.cells
            have kN := hs.block w1.heap.size (by omega) hN
            exact ⟨(World.cell?_of_block (w := w6) kN).trans d0, (World.cell?_of_block (w := w6) kN).trans d1, (World.cell?_of_block (w := w6) kN).trans d2, IDC.out w' (M6.out.trans hs), hs⟩)
          have hmd : MostB B w6 w6.drew := (MostB.refl _ _).below_ ((Below.refl _ _).drew)
          have HMD := Lib.hid hmd
          have hstart := CELL.out _ hmd
          clear hcv hvals hm hmd
          go_wp2_with fail
          go_region_held3 (fun w' => w'.cell? ⟨w1.heap.size, 0, none⟩ = some (.int .i64 hl.b) ∧ w'.cell? ⟨w1.heap.size, 1, none⟩ = some (.int .i64 hl.r) ∧ w'.cell? ⟨w1.heap.size, 2, none⟩ = some (.int .i64 hl.t) ∧ w'.cell? ⟨bb, off + k * 5, none⟩ = some (.int .i64 id) ∧ KeepP B w6 w')
            (first | exact hstart | exact CELL.out _ m7.out | exact CELL.out _ m8.out | fail)
            (first
              | (go_at_call 50; ((with_reducible refine P1.out.mono ?_); rintro e w7 ⟨j, hjm, rfl, hr7, ho7⟩; have ij : (j : Int) < (m : Int) := Int.ofNat_lt.2 hjm; have i0j : (0 : Int) ≤ (j : Int) := Int.natCast_nonneg j; have hvj := HV.out j hjm; have m7 := Lib.hid (HMD.out.trans ho7.mostB); have R7 := Lib.hid hr7; clear hr7 ho7))
              | (go_at_call 78; ((with_reducible refine (HPP.out _ w7 m7.out).mono ?_); rintro e w8 ⟨v8, ok, p8, rfl, hp8, hO8, b8⟩; have m8 := Lib.hid (m7.out.below_ (b8.mono m7.out.size)); have R8 := Lib.hid (R7.out.keep b8); have O8 := Lib.hid hO8; clear hO8 b8))
              | fail)
          clear hstart hall hvj
          have D8 := D6.out.mostD m8.out R8.out
          have M8 := M6.out.trans m8.out
          cases ok
          · have O9 := OW6.out.most m8.out (by have := M6.out.size; omega)
            go_wp2_with fail
            go_roundw
            case rel => exact ⟨_, q + 1 + 1, k + 1, _, rfl, by omega, by go_num, by omega, hpl, Lib.hid D8, Lib.hid O9, Lib.hid M8⟩
            case measure => simp [intOf]; omega
          · have O9 := O8.out.from_ (show w3.heap.size ≤ w7.heap.size by have := m7.out.size; have := M6.out.size; omega)
            go_wp2_with fail
            go_roundw
            case rel => exact ⟨_, q + 1 + 1, k + 1, _, rfl, by omega, by go_num, by omega, hp8, Lib.hid D8, Lib.hid O9, Lib.hid M8⟩
            case measure => simp [intOf]; omega
        · have hxd : decide (0 < x) = false := decide_eq_false hx
          go_wp2_with fail
          go_roundw
          case rel => exact ⟨_, q + 1, k + 1, _, rfl, by omega, by go_num, by omega, hpl, Lib.hid D6.out, Lib.hid OW6.out, Lib.hid M6.out⟩
          case measure => simp [intOf]; omega
      · have hnli : decide ((0 : Int) < (nx.length : Int)) = false := decide_eq_false (by omega)
        go_wp2_with fail
        go_roundw
        case rel => exact ⟨_, q, k + 1, _, rfl, by omega, by go_num, by omega, hpl, Lib.hid D5.out, Lib.hid OW5.out, Lib.hid M5.out⟩
        case measure => simp [intOf]; omega
    · obtain rfl : k = n := by omega
      clear hlt hkn
      obtain ⟨c0, c1, c2⟩ := D.out.cells
      go_wp2_with fail
      refine (odd_allH base B q (3 * n3) wr D.out.rdr (by omega) (by omega) (by omega)).mono ?_
      rintro e w6 ⟨vv, q6, rfl, hq6, h6, o6⟩
      have D6 := Lib.hid (D.out.only o6 h6)
      have OW6 := Lib.hid (OW.out.most o6.mostB hB3)
      have M6 := Lib.hid (M.out.trans o6.mostB)
      clear h6 o6 D OW M c0 c1 c2
      have hq7 : q6 ≤ p0 + 1150 := by omega
      clear hq6 hq
      cases vv
      · obtain ⟨c0, c1, c2⟩ := D6.out.cells
        obtain ⟨⟨r0, e0⟩, f0⟩ := D6.out.resCells 0 (by omega)
        obtain ⟨⟨r1, e1⟩, f1⟩ := D6.out.resCells 1 (by omega)
        obtain ⟨⟨r2, e2⟩, f2⟩ := D6.out.resCells 2 (by omega)
        go_wp2_with fail
        obtain ⟨z0, z1, z2⟩ := D6.out.ends (.int .i64 hl.b) (.int .i64 hl.r) (.int .i64 hl.t)
        have hm9 := ((Only.set w.heap.size 0 w6 (.int .i64 hl.b)).trans (Only.set w.heap.size 1 _ (.int .i64 hl.r))).trans (Only.set w.heap.size 2 _ (.int .i64 hl.t))
        obtain ⟨E1, E2⟩ := D6.out.end_ (.int .i64 hl.b) (.int .i64 hl.r) (.int .i64 hl.t)
        have hN9 := D6.out.hN
        have U9 := ((NB.out w6 M6.out).most hm9.mostB (by omega)).from_ (show w.heap.size ≤ W2.heap.size by omega)
        have V9 := (OW6.out.most hm9.mostB (by omega)).from_ (show w.heap.size ≤ w3.heap.size by omega)
        exact bodyPost_ret (v := .tuple #[.agg #[.int .i64 hl.b, .int .i64 hl.r, .int .i64 hl.t], .slice ba k bc, pv]) (by simp [results, Try.results42, go_sem, z0, z1, z2]) rfl ⟨hl, l, pl, _, _, q6, by omega, by rw [HN.out]; exact hl40, by omega, rfl, U9, V9, E1, E2⟩
      · obtain ⟨va, vc, rfl⟩ := OW6.out.holds.form
        by_cases hl0 : 0 < pl.length
        · have hl0i : decide ((0 : Int) < (pl.length : Int)) = true := decide_eq_true (by omega)
          go_wp2_with fail
          refine (pick_any base B q6 2 w6 D6.out.rdr (by omega) (by omega)).mono ?_
          rintro e w7 ⟨x, x0, x1, rfl, h7, o7⟩
          have D7 := Lib.hid (D6.out.only o7 h7)
          have OW7 := Lib.hid (OW6.out.most o7.mostB hB3)
          have M7 := Lib.hid (M6.out.trans o7.mostB)
          clear h7 o7 D6 OW6 M6
          by_cases hx : x = 0
          · subst hx
            obtain ⟨g, cap, cur, hge, hg1, hg2, hcur, hc1, hc2, hc3, hc4⟩ := OW7.out.form hl0
            simp only [Value.slice.injEq] at hge
            obtain ⟨rfl, -, rfl⟩ := hge
            go_wp2_with fail
            refine (pick_any base B (q6 + 1) (pl.length : Int) w7 D7.out.rdr (by omega) (by omega)).mono ?_
            rintro e w8 ⟨y, y0, y1, rfl, h8, o8⟩
            obtain ⟨j, rfl⟩ := Int.eq_ofNat_of_zero_le y0
            have hjl : j < pl.length := by omega
            have D8 := Lib.hid (D7.out.only o8 h8)
            have OW8 := Lib.hid (OW7.out.most o8.mostB hB3)
            have M8 := Lib.hid (M7.out.trans o8.mostB)
            have hg3 : g < w8.heap.size := by rw [o8.size]; exact hg2
            have hcu8 : w8.heap[g]? = some (.cells cur 3 (0, 0)) := by rw [o8.block g (by omega)]; exact hcur
            clear h8 o8 D7 OW7 M7 hcur hg2
            go_wp2_with fail
            have D9 := Lib.hid (D8.out.alloc (.cells #[.int .i64 1, .int .i64 2, .int .i64 900, .int .i64 (-1)] 3))
            have OW9 := Lib.hid (OW8.out.keep ((Below.refl _ _).alloc (Nat.le_refl _) (.cells #[.int .i64 1, .int .i64 2, .int .i64 900, .int .i64 (-1)] 3)))
            have M9 := Lib.hid (M8.out.alloc (.cells #[.int .i64 1, .int .i64 2, .int .i64 900, .int .i64 (-1)] 3))
            have hcu9 : (w8.alloc (.cells #[.int .i64 1, .int .i64 2, .int .i64 900, .int .i64 (-1)] 3)).heap[g]? = some (.cells cur 3 (0, 0)) := by rw [Below.heap_alloc _ _ _ hg3]; exact hcu8
            have i4 : (w8.alloc (.cells #[.int .i64 1, .int .i64 2, .int .i64 900, .int .i64 (-1)] 3)).heap[w8.heap.size]? = some (.cells #[.int .i64 1, .int .i64 2, .int .i64 900, .int .i64 (-1)] 3 (0, 0)) := heap_alloc_new _ _
            obtain ⟨W9, hW9⟩ : ∃ W9, W9 = w8.alloc (.cells #[.int .i64 1, .int .i64 2, .int .i64 900, .int .i64 (-1)] 3) := ⟨_, rfl⟩
            obtain ⟨NB9, hNB9⟩ : ∃ NB9, NB9 = w8.heap.size := ⟨_, rfl⟩
            have hgN : g < NB9 := by rw [hNB9]; exact hg3
            have hNB : B < NB9 := by have := D8.out.size; have := D8.out.hN; omega
            rw [← hW9] at D9 OW9 M9 hcu9 i4
            rw [← hNB9] at i4
            rw [← hW9, ← hNB9]
            have hs9 : NB9 < W9.heap.size := free_lt i4
            clear hW9 hNB9 hcu8 D8 OW8 M8
            refine (pick_any base B (q6 + 1 + 1) 4 W9 D9.out.rdr (by omega) (by omega)).mono ?_
            rintro e w10 ⟨z, z0, z1, rfl, h10, o10⟩
            have D10 := Lib.hid (D9.out.only o10 h10)
            have OW10 := Lib.hid (OW9.out.most o10.mostB hB3)
            have M10 := Lib.hid (M9.out.trans o10.mostB)
            have hcu10 : w10.heap[g]? = some (.cells cur 3 (0, 0)) := by rw [o10.block g (by omega)]; exact hcu9
            have i10 : w10.heap[NB9]? = some (.cells #[.int .i64 1, .int .i64 2, .int .i64 900, .int .i64 (-1)] 3 (0, 0)) := by rw [o10.block NB9 (by omega)]; exact i4
            clear h10 o10 D9 OW9 M9 hcu9 i4
            have f0 : w10.frozen? ⟨g, j, none⟩ = false := by simp [World.frozen?, hcu10]
            have t0 : w10.cell? ⟨g, j, none⟩ = some (cur[j]'(by omega)) := by
              simp only [World.cell?, hcu10]
              exact Array.getElem?_eq_getElem _
            obtain ⟨x9, t0'⟩ : ∃ x, w10.cell? ⟨g, j, none⟩ = some x := ⟨_, t0⟩
            obtain ⟨zj, rfl⟩ := Int.eq_ofNat_of_zero_le z0
            obtain ⟨val, hval⟩ : ∃ val : Int, w10.cell? ⟨NB9, zj, none⟩ = some (.int .i64 val) := by
              rcases (by omega : zj = 0 ∨ zj = 1 ∨ zj = 2 ∨ zj = 3) with rfl | rfl | rfl | rfl <;> exact ⟨_, by simp [World.cell?, i10]; rfl⟩
            have hz4 : zj < 4 := by omega
            have OS := Lib.hid (OW10.out.set hjl val)
            have hbs : Below w3.heap.size w10 (w10.setCell ⟨g, j, none⟩ (.int .i64 val)) := (Below.refl _ _).setCell hg1 _
            have D11 := Lib.hid (D10.out.on hbs hs3)
            have M11 := Lib.hid (M10.out.below_ hbs)
            have L11 : (pl.set j val).length ≤ 36 := by rw [List.length_set]; exact hpl
            clear t0 hcu10 i10 hc4 hbs
            obtain ⟨c0, c1, c2⟩ := D11.out.cells
            obtain ⟨⟨r0, e0⟩, f0⟩ := D11.out.resCells 0 (by omega)
            obtain ⟨⟨r1, e1⟩, f1⟩ := D11.out.resCells 1 (by omega)
            obtain ⟨⟨r2, e2⟩, f2⟩ := D11.out.resCells 2 (by omega)
            go_wp2_with fail
            obtain ⟨z0, z1, z2⟩ := D11.out.ends (.int .i64 hl.b) (.int .i64 hl.r) (.int .i64 hl.t)
            have hm9 := ((Only.set w.heap.size 0 (w10.setCell ⟨g, j, none⟩ (.int .i64 val)) (.int .i64 hl.b)).trans (Only.set w.heap.size 1 _ (.int .i64 hl.r))).trans (Only.set w.heap.size 2 _ (.int .i64 hl.t))
            obtain ⟨E1, E2⟩ := D11.out.end_ (.int .i64 hl.b) (.int .i64 hl.r) (.int .i64 hl.t)
            have hN9 := D11.out.hN
            have U9 := ((NB.out (w10.setCell ⟨g, j, none⟩ (.int .i64 val)) M11.out).most hm9.mostB (by omega)).from_ (show w.heap.size ≤ W2.heap.size by omega)
            have V9 := (OS.out.most hm9.mostB (by omega)).from_ (show w.heap.size ≤ w3.heap.size by omega)
            exact bodyPost_ret (v := .tuple #[.agg #[.int .i64 hl.b, .int .i64 hl.r, .int .i64 hl.t], .slice ba k bc, .slice (some ⟨g, 0, none⟩) pl.length vc]) (by simp [results, Try.results42, go_sem, z0, z1, z2]) rfl ⟨hl, l, (pl.set j val), _, _, (q6 + 1 + 1 + 1), by omega, by rw [HN.out]; exact hl40, by omega, rfl, U9, V9, E1, E2⟩
          · have hxd : (x == 0) = false := by simpa using hx
            go_wp2_with (at_builtin; refine wpList_append_own _ rfl _ _ 26 rfl w3.heap.size 3 i0 (.int .i64 0) 1 8 Try.underlying26 HI.out HZ0.out HZ1.out HZ2.out rfl (by decide) _ pl.length (rowI pl) rfl (OW7.out.alloc _) ⟨w7.heap.size, 0, none⟩ 1 1 [.int .i64 0] rfl rfl (fun j u hu => cells_new j u hu) (by simp [Value.oneCell']) (by unfold maxLen; omega) (by omega) (by have := M7.out.size; simp; omega) ?_; intro v11 w11 hown11 hgrow11 _; have hb11 : Below w3.heap.size (w7.alloc (.cells #[.int .i64 0] 3)) w11 := own_below hgrow11 (by have := M7.out.size; simp; omega) (fun k' hk' => (own_lt OW7.out k' hk').1); have O11 : Hid (OwnI w3.heap.size w11 v11 (pl ++ [0])) := Lib.hid (own_put hown11); have D11 := Lib.hid ((D7.out.alloc (.cells #[.int .i64 0] 3)).on hb11 hs3); have M11 := Lib.hid ((M7.out.alloc (.cells #[.int .i64 0] 3)).below_ hb11); have L11 : (pl ++ [0]).length ≤ 40 := (by simp; omega); clear hown11 hgrow11 hb11; obtain ⟨c0, c1, c2⟩ := D11.out.cells; obtain ⟨⟨r0, e0⟩, f0⟩ := D11.out.resCells 0 (by omega); obtain ⟨⟨r1, e1⟩, f1⟩ := D11.out.resCells 1 (by omega); obtain ⟨⟨r2, e2⟩, f2⟩ := D11.out.resCells 2 (by omega))
            obtain ⟨z0, z1, z2⟩ := D11.out.ends (.int .i64 hl.b) (.int .i64 hl.r) (.int .i64 hl.t)
            have hm9 := ((Only.set w.heap.size 0 w11 (.int .i64 hl.b)).trans (Only.set w.heap.size 1 _ (.int .i64 hl.r))).trans (Only.set w.heap.size 2 _ (.int .i64 hl.t))
            obtain ⟨E1, E2⟩ := D11.out.end_ (.int .i64 hl.b) (.int .i64 hl.r) (.int .i64 hl.t)
            have hN9 := D11.out.hN
            have U9 := ((NB.out w11 M11.out).most hm9.mostB (by omega)).from_ (show w.heap.size ≤ W2.heap.size by omega)
            have V9 := (O11.out.most hm9.mostB (by omega)).from_ (show w.heap.size ≤ w3.heap.size by omega)
            exact bodyPost_ret (v := .tuple #[.agg #[.int .i64 hl.b, .int .i64 hl.r, .int .i64 hl.t], .slice ba k bc, v11]) (by simp [results, Try.results42, go_sem, z0, z1, z2]) rfl ⟨hl, l, (pl ++ [0]), _, _, (q6 + 1), by omega, by rw [HN.out]; exact hl40, by omega, rfl, U9, V9, E1, E2⟩
        · have hl0i : decide ((0 : Int) < (pl.length : Int)) = false := decide_eq_false (by omega)
          go_wp2_with (at_builtin; refine wpList_append_own _ rfl _ _ 26 rfl w3.heap.size 3 i0 (.int .i64 0) 1 8 Try.underlying26 HI.out HZ0.out HZ1.out HZ2.out rfl (by decide) _ pl.length (rowI pl) rfl (OW6.out.alloc _) ⟨w6.heap.size, 0, none⟩ 1 1 [.int .i64 0] rfl rfl (fun j u hu => cells_new j u hu) (by simp [Value.oneCell']) (by unfold maxLen; omega) (by omega) (by have := M6.out.size; simp; omega) ?_; intro v11 w11 hown11 hgrow11 _; have hb11 : Below w3.heap.size (w6.alloc (.cells #[.int .i64 0] 3)) w11 := own_below hgrow11 (by have := M6.out.size; simp; omega) (fun k' hk' => (own_lt OW6.out k' hk').1); have O11 : Hid (OwnI w3.heap.size w11 v11 (pl ++ [0])) := Lib.hid (own_put hown11); have D11 := Lib.hid ((D6.out.alloc (.cells #[.int .i64 0] 3)).on hb11 hs3); have M11 := Lib.hid ((M6.out.alloc (.cells #[.int .i64 0] 3)).below_ hb11); have L11 : (pl ++ [0]).length ≤ 40 := (by simp; omega); clear hown11 hgrow11 hb11; obtain ⟨c0, c1, c2⟩ := D11.out.cells; obtain ⟨⟨r0, e0⟩, f0⟩ := D11.out.resCells 0 (by omega); obtain ⟨⟨r1, e1⟩, f1⟩ := D11.out.resCells 1 (by omega); obtain ⟨⟨r2, e2⟩, f2⟩ := D11.out.resCells 2 (by omega))
          obtain ⟨z0, z1, z2⟩ := D11.out.ends (.int .i64 hl.b) (.int .i64 hl.r) (.int .i64 hl.t)
          have hm9 := ((Only.set w.heap.size 0 w11 (.int .i64 hl.b)).trans (Only.set w.heap.size 1 _ (.int .i64 hl.r))).trans (Only.set w.heap.size 2 _ (.int .i64 hl.t))
          obtain ⟨E1, E2⟩ := D11.out.end_ (.int .i64 hl.b) (.int .i64 hl.r) (.int .i64 hl.t)
          have hN9 := D11.out.hN
          have U9 := ((NB.out w11 M11.out).most hm9.mostB (by omega)).from_ (show w.heap.size ≤ W2.heap.size by omega)
          have V9 := (O11.out.most hm9.mostB (by omega)).from_ (show w.heap.size ≤ w3.heap.size by omega)
          exact bodyPost_ret (v := .tuple #[.agg #[.int .i64 hl.b, .int .i64 hl.r, .int .i64 hl.t], .slice ba k bc, v11]) (by simp [results, Try.results42, go_sem, z0, z1, z2]) rfl ⟨hl, l, (pl ++ [0]), _, _, q6, by omega, by rw [HN.out]; exact hl40, by omega, rfl, U9, V9, E1, E2⟩
end Go.Proofs.Ytmgnbkiphdlooab
