/-
  Stage 7's draws: DrawPlanPut.
-/
import Derived.Test.YtbaebamiiigmlaaGPw
namespace Go.Proofs.Ytbaebamiiigmlaa
open Go.RowKit
set_option linter.unusedVariables false

set_option maxRecDepth 10000 in
set_option maxHeartbeats 4000000 in
theorem drawPlanPut_any (a : Option Addr) (len cap : Nat) (w : World) (h : IsRow8 w a len cap) :
    Calls Try.prog 32 #[.slice a len cap] w (DrewP2 w) := by
  have ba : Below w.heap.size w (w.alloc (.cells Hl.zero.cells.toArray 24)) := (Below.refl _ _).alloc (Nat.le_refl _) _
  have ra : BoxH w.heap.size (w.alloc (.cells Hl.zero.cells.toArray 24)) ⟨0, 0, 0⟩ := BoxH.new w ⟨0, 0, 0⟩
  have hz : (w.alloc (.cells Hl.zero.cells.toArray 24)).heap.size = w.heap.size + 1 := by simp
  unfold Hl.cells Hl.zero at ba ra hz
  go_enter Try.func32, Try.ntmps32
  go_wp2_with fail
  refine (open_any a len cap _ (row8_keepS h ba)).mono ?_
  generalize (w.alloc (.cells [Value.int .i64 0, .int .i64 0, .int .i64 0].toArray 24)) = wa at ba ra hz ⊢
  rintro e w1 ⟨rfl, hr, hb, hz1⟩
  generalize wa.heap.size = B at hz hr hb hz1 ⊢
  subst hz
  have r1 := ra.at_ (hb.block w.heap.size (Nat.lt_succ_self _))
  have b1 : Below w.heap.size w w1 := ba.trans (hb.mono (by omega))
  clear h hb ba ra
  go_wp2_with fail
  refine (l20Plan_any _ _ 0 10 5 w1 hr (by omega) (by omega) (by omega) (by omega) (by omega)).mono ?_
  rintro e w2 ⟨hh, l, pl, u, v, q, hq, hl40, hp40, rfl, NB, OW, hr2, hm⟩
  have r2 := r1.at_ (hm.block w.heap.size (by omega) r1.lt)
  have b2 : Below w.heap.size w w2 := b1.trans (hm.under (by omega) (by have := b1.size; omega))
  clear r1 b1 hr hm
  have b3 : Below w2.heap.size w2 (w2.alloc (.cells #[.int .i64 hh.b, .int .i64 hh.r, .int .i64 hh.t] 24)) := (Below.refl _ _).alloc (Nat.le_refl _) _
  have y3 := BoxH.new w2 hh
  have r3 := r2.at_ (b3.block _ r2.lt)
  have c3 := b2.trans (b3.mono b2.size)
  have NB3 := NB.most (MostB.below_ (MostB.refl (w.heap.size + 1) w2) b3) (by omega)
  have OW3 := OW.most (MostB.below_ (MostB.refl (w.heap.size + 1) w2) b3) (by omega)
  have hr3 := hr2.keepK b3 hr2.2.1
  have hz2 : w2.heap.size + 1 = (w2.alloc (.cells #[.int .i64 hh.b, .int .i64 hh.r, .int .i64 hh.t] 24)).heap.size := by simp
  have hYB : w.heap.size + 1 < w2.heap.size := hr2.2.1
  generalize hW3 : w2.alloc (.cells #[.int .i64 hh.b, .int .i64 hh.r, .int .i64 hh.t] 24) = W3 at y3 r3 c3 hr3 hz2 NB3 OW3
  have HW3 := Lib.hid hW3
  clear hW3 hr2 b3 r2 b2 NB OW
  go_wp2_with fail
  rw [HW3.out]
  generalize w2.heap.size = Y at y3 hYB hz2
  clear HW3
  have c0 := y3.c0
  have c1 := y3.c1
  have c2 := y3.c2
  go_wp2_with fail
  refine (specPlanNext_any hh u v l pl W3 NB3.holds OW3.holds).mono ?_
  rintro e W4 ⟨nv, rfl, NXO, b4⟩
  have hW34 : W3.heap.size ≤ W4.heap.size := b4.size
  have m34 := MostB.below_ (MostB.refl (w.heap.size + 1) W3) b4
  have hnl36 : (nextI hh (bxsOk l) (bxIds l) pl).length ≤ 40 := by
    unfold nextI nextP
    split
    · rw [List.length_map]; exact Nat.le_trans (List.length_filter_le _ _) (by rw [List.length_range]; exact hp40)
    · simp
  generalize nextI hh (bxsOk l) (bxIds l) pl = nx at NXO hnl36
  have YK4 := Lib.hid fun (w' : World) (hs : MostB (w.heap.size + 1) W4 w') => y3.at_ ((hs.block Y (by omega) (by have := y3.lt; omega)).trans (b4.block Y y3.lt))
  have RK4 := Lib.hid fun (w' : World) (hs : MostB (w.heap.size + 1) W4 w') => r3.at_ ((hs.block w.heap.size (by omega) (by have := r3.lt; omega)).trans (b4.block w.heap.size r3.lt))
  have CK4 := Lib.hid fun (w' : World) (hs : MostB (w.heap.size + 1) W4 w') => c3.trans ((m34.trans hs).under (by omega) c3.size)
  have NBK4 := Lib.hid fun (w' : World) (hs : MostB (w.heap.size + 1) W4 w') => NB3.most (m34.trans hs) (by omega)
  have OWK4 := Lib.hid fun (w' : World) (hs : MostB (w.heap.size + 1) W4 w') => OW3.most (m34.trans hs) (by omega)
  have NXK := Lib.hid fun (w' : World) (hs : MostB (w.heap.size + 1) W4 w') => NXO.most hs (by omega)
  have R4 := Lib.hid (hr3.keepK b4 hr3.2.1)
  have hYlt := y3.lt
  obtain ⟨ba, bc, rfl⟩ : ∃ a c, u = .slice a l.length c := by obtain ⟨a, c, e, _⟩ := NB3; exact ⟨a, c, e⟩
  obtain ⟨na, nc, rfl⟩ := NXO.holds.form
  clear y3 r3 c3 NB3 OW3 hr3 m34 NXO b4 c0 c1 c2
  go_wp2_with fail
  refine (pick_any (w.heap.size + 1) (w.heap.size + 1) q 12 W4 R4.out (by omega) (by omega)).mono ?_
  rintro e w5 ⟨x, x0, x1, rfl, h5, o5⟩
  have R5 := Lib.hid h5
  have M5 := Lib.hid o5.mostB
  clear h5 o5 R4 x0 x1
  obtain ⟨n, hn⟩ : ∃ n, n = l.length := ⟨_, rfl⟩
  have HN := Lib.hid hn.symm
  rw [← hn] at NBK4 hl40 ⊢
  clear hn
  go_wp2_with fail
  go_loopw [12, 13] (fun va i wr => ∃ (id : Int) (k qq : Nat), va = .int .i64 id ∧ k ≤ n ∧ i = .int .i64 k ∧ qq ≤ q + 1 + k ∧ Hid (Rdr (w.heap.size + 1) (w.heap.size + 1) qq wr) ∧ Hid (MostB (w.heap.size + 1) W4 wr)) (fun _ i _ => n - (intOf i).toNat)
  case atStart => exact ⟨x, 0, q + 1, rfl, by omega, rfl, by omega, R5, M5⟩
  case round =>
    clear R5 M5
    obtain ⟨id, k, qq, rfl, hkn, rfl, hqq, RD, MM⟩ := hrel
    by_cases hlt : k < n
    · have ik : (k : Int) < (n : Int) := by omega
      have i0k : (0 : Int) ≤ (k : Int) := by omega
      go_wp2_with fail
      refine (pick_any (w.heap.size + 1) (w.heap.size + 1) qq 3 wr RD.out (by omega) (by omega)).mono ?_
      rintro e w6 ⟨x, x0, x1, rfl, h6, o6⟩
      have MM6 := Lib.hid (MM.out.trans o6.mostB)
      have RD6 := Lib.hid h6
      clear RD MM h6 o6
      have RD := RD6
      have MM := MM6
      clear RD6 MM6
      by_cases hx : 0 < x
      · have hkl : k < l.length := by rw [HN.out]; exact hlt
        obtain ⟨bb, off, rfl, idc⟩ : ∃ bb off, ba = some ⟨bb, off, none⟩ ∧ w6.cell? ⟨bb, off + k * 5, none⟩ = some (.int .i64 l[k].i) := by
          obtain ⟨a', c', e', _, _, h4⟩ := NBK4.out w6 MM.out
          simp only [Value.slice.injEq] at e'
          rcases h4 with h4 | ⟨b, off, h5, _, _, h7⟩
          · omega
          · exact ⟨b, off, e'.1.trans h5, h7 k hkl 0 (by omega)⟩
        generalize l[k].i = y at idc
        have HH := Lib.hid (l1Has_any v pl y w6 (OWK4.out _ MM.out).holds)
        obtain ⟨b9, hb9⟩ : ∃ b9, b9 = hasI pl y := ⟨_, rfl⟩
        rw [← hb9] at HH
        clear hb9
        go_wp2_with fail
        refine HH.out.mono ?_
        rintro e w7 ⟨rfl, rfl⟩
        cases b9
        · go_wp2_with fail
          go_roundw
          case rel => exact ⟨y, k + 1, qq + 1, rfl, by omega, by go_num, by omega, RD, MM⟩
          case measure => simp [intOf]; omega
        · go_wp2_with fail
          go_roundw
          case rel => exact ⟨id, k + 1, qq + 1, rfl, by omega, by go_num, by omega, RD, MM⟩
          case measure => simp [intOf]; omega
      · have hxd : decide (0 < x) = false := decide_eq_false hx
        have hqq2 : qq + 1 ≤ 3000 := by omega
        clear hqq hlt ik i0k
        by_cases hnl : 0 < nx.length
        · have hnli : decide ((0 : Int) < (nx.length : Int)) = true := decide_eq_true (by omega)
          go_wp2_with fail
          refine (pick_any (w.heap.size + 1) (w.heap.size + 1) (qq + 1) 4 w6 RD.out (by omega) (by omega)).mono ?_
          rintro e w8 ⟨z, z0, z1, rfl, h8, o8⟩
          have MM8 := Lib.hid (MM.out.trans o8.mostB)
          have RD8 := Lib.hid h8
          clear RD MM h8 o8
          have RD := RD8
          have MM := MM8
          clear RD8 MM8
          by_cases hz : 0 < z
          · have NX := Lib.hid (NXK.out _ MM.out)
            have hr3 := RD.out
            have y3 := YK4.out _ MM.out
            have r3 := RK4.out _ MM.out
            have c3 := CK4.out _ MM.out
            have NB3 := NBK4.out _ MM.out
            have OW3 := OWK4.out _ MM.out
            have hbs : W4.heap.size ≤ w8.heap.size := MM.out.size
            obtain ⟨g, gcap, gcur, hge, hg1, hg2, -, -, -, -, -⟩ := NX.out.form hnl
            simp only [Value.slice.injEq] at hge
            obtain ⟨rfl, -, rfl⟩ := hge
            obtain ⟨m, hm⟩ : ∃ m, m = nx.length := ⟨_, rfl⟩
            have hm36 : m ≤ 40 := by omega
            have hm0 : 0 < m := by omega
            obtain ⟨cv, hcv⟩ : ∃ f : Nat → Option Value, f = fun i => w8.cell? ⟨g, i, none⟩ := ⟨_, rfl⟩
            obtain ⟨vals, hvals⟩ : ∃ f : Nat → Int, f = fun j => nx.getD j 0 := ⟨_, rfl⟩
            have HV := Lib.hid fun (j : Nat) (hj : j < m) => (show cv j = some (.int .i64 (vals j)) by
              rw [hvals, hcv]
              obtain ⟨b', off', e', _, c⟩ := NX.out.holds.at_ (show j < nx.length by omega)
              simp only [Option.some.injEq, Addr.mk.injEq, and_true] at e'
              obtain ⟨rfl, rfl⟩ := e'
              rw [Nat.zero_add] at c
              exact c)
            have hall : ∀ w', LaidH w.heap.size (w.heap.size + 1) hh w8 w' → ∀ i, w'.cell? ⟨g, i, none⟩ = cv i := by
              rintro w' ⟨wm, hs, rfl | rfl⟩ i
              · rw [hcv]
                exact World.cell?_of_block (w := w8) (hs.block g (by omega) hg2)
              · rw [hcv]
                refine World.cell?_of_block (w := w8) ?_
                rw [Below.heap_setCell _ _ _ _ (by show g ≠ w.heap.size; omega), Below.heap_setCell _ _ _ _ (by show g ≠ w.heap.size; omega), Below.heap_setCell _ _ _ _ (by show g ≠ w.heap.size; omega)]
                exact hs.block g (by omega) hg2
            rw [← hm]
            have YK := Lib.hid fun (w' : World) (hs : MostB (w.heap.size + 1) w8 w') => (show w'.cell? ⟨Y, 0, none⟩ = some (.int .i64 hh.b) ∧ w'.cell? ⟨Y, 1, none⟩ = some (.int .i64 hh.r) ∧ w'.cell? ⟨Y, 2, none⟩ = some (.int .i64 hh.t) ∧ LaidH w.heap.size (w.heap.size + 1) hh w8 w' from
              have q := y3.at_ (hs.block Y (by omega) y3.lt); ⟨q.c0, q.c1, q.c2, w', hs, .inl rfl⟩)
            have YL := Lib.hid fun (wm : World) (hs : MostB (w.heap.size + 1) w8 wm) => (show (((wm.setCell ⟨w.heap.size, 0, none⟩ (.int .i64 hh.b)).setCell ⟨w.heap.size, 1, none⟩ (.int .i64 hh.r)).setCell ⟨w.heap.size, 2, none⟩ (.int .i64 hh.t)).cell? ⟨Y, 0, none⟩ = some (.int .i64 hh.b) ∧ (((wm.setCell ⟨w.heap.size, 0, none⟩ (.int .i64 hh.b)).setCell ⟨w.heap.size, 1, none⟩ (.int .i64 hh.r)).setCell ⟨w.heap.size, 2, none⟩ (.int .i64 hh.t)).cell? ⟨Y, 1, none⟩ = some (.int .i64 hh.r) ∧ (((wm.setCell ⟨w.heap.size, 0, none⟩ (.int .i64 hh.b)).setCell ⟨w.heap.size, 1, none⟩ (.int .i64 hh.r)).setCell ⟨w.heap.size, 2, none⟩ (.int .i64 hh.t)).cell? ⟨Y, 2, none⟩ = some (.int .i64 hh.t) ∧ LaidH w.heap.size (w.heap.size + 1) hh w8 (((wm.setCell ⟨w.heap.size, 0, none⟩ (.int .i64 hh.b)).setCell ⟨w.heap.size, 1, none⟩ (.int .i64 hh.r)).setCell ⟨w.heap.size, 2, none⟩ (.int .i64 hh.t)) from
              have q := (((y3.at_ (hs.block Y (by omega) y3.lt)).other (by omega) 0 _).other (by omega) 1 _).other (by omega) 2 _; ⟨q.c0, q.c1, q.c2, wm, hs, .inr rfl⟩)
            have RK := Lib.hid fun (w' : World) (hs : MostB (w.heap.size + 1) w8 w') => r3.at_ (hs.block w.heap.size (by omega) r3.lt)
            have CK := Lib.hid fun (w' : World) (hs : MostB (w.heap.size + 1) w8 w') => c3.trans (hs.under (by omega) c3.size)
            have NBK := Lib.hid fun (w' : World) (hs : MostB (w.heap.size + 1) w8 w') => NB3.most hs (by omega)
            have OWK := Lib.hid fun (w' : World) (hs : MostB (w.heap.size + 1) w8 w') => OW3.most hs (by omega)
            have hmd : MostB (w.heap.size + 1) w8 w8.drew := (MostB.refl _ _).below_ ((Below.refl _ _).drew)
            have HMD := Lib.hid hmd
            have hstart := YK.out _ hmd
            have HR := Lib.hid (hr3.keepK (Below.refl w8.heap.size w8).drew hr3.2.1)
            clear y3 r3 c3 hr3 hmd NB3 OW3
            have P1 := Lib.hid ((pick_any (w.heap.size + 1) (w.heap.size + 1) ((qq + 1) + 1) (m : Int) w8.drew HR.out (by omega) (by omega)).mono (R' := fun e w' => ∃ j : Nat, j < m ∧ e = .returned (.int .i64 (j : Int)) ∧ Rdr (w.heap.size + 1) (w.heap.size + 1) ((qq + 1) + 1 + 1) w' ∧ Only (w.heap.size + 1) w8.drew w') (fun e w' ⟨x, x0, x1, he, hr, ho⟩ => by
              obtain ⟨j, rfl⟩ := Int.eq_ofNat_of_zero_le x0
              exact ⟨j, by omega, he, hr, ho⟩))
            clear hcv hvals hm NX
            go_wp2_with fail
            go_region_held3 (fun w' => w'.cell? ⟨Y, 0, none⟩ = some (.int .i64 hh.b) ∧ w'.cell? ⟨Y, 1, none⟩ = some (.int .i64 hh.r) ∧ w'.cell? ⟨Y, 2, none⟩ = some (.int .i64 hh.t) ∧ LaidH w.heap.size (w.heap.size + 1) hh w8 w')
              (first | exact hstart | exact YK.out _ m5.out | exact YL.out _ m5.out | fail)
              (first
                | (go_at_call 69; ((with_reducible refine P1.out.mono ?_); rintro e w5 ⟨j, hjm, rfl, hr5, o5⟩; have ij : (j : Int) < (m : Int) := Int.ofNat_lt.2 hjm; have i0j : (0 : Int) ≤ (j : Int) := Int.natCast_nonneg j; have hvj := HV.out j hjm; have m5 := Lib.hid (HMD.out.trans (only_most o5 HR.out)); have d0 := (RK.out _ m5.out).c0; have d1 := (RK.out _ m5.out).c1; have d2 := (RK.out _ m5.out).c2; have ea := (RK.out _ m5.out).frozen 0; have eb := (RK.out _ m5.out).frozen 1; have ec := (RK.out _ m5.out).frozen 2; clear hr5 o5))
                | fail)
            generalize hgx : vals j = x
            clear hgx hvj hall
            obtain ⟨-, -, -, -, y9, B9⟩ := BoxH.end_ hh (RK.out _ m5.out) (CK.out _ m5.out)
            have f0 := y9.c0
            have f1 := y9.c1
            have f2 := y9.c2
            have m9 := Only3 w.heap.size w5 (.int .i64 hh.b) (.int .i64 hh.r) (.int .i64 hh.t)
            have U9 := ((NBK.out _ m5.out).most m9 (by omega)).from_ (show w.heap.size ≤ w1.heap.size by omega)
            have V9 := ((OWK.out _ m5.out).most m9 (by omega)).from_ (show w.heap.size ≤ w1.heap.size by omega)
            clear y9 m9 d0 d1 d2 ea eb ec
            go_wp2_with fail
            exact bodyPost_ret (v := .tuple #[.agg #[.int .i64 hh.b, .int .i64 hh.r, .int .i64 hh.t], _, v, .int .i64 x, .int .i64 id]) (by simp [results, Try.results32, go_sem, f0, f1, f2]) rfl ⟨x, id, hh, l, pl, _, _, by rw [HN.out]; exact hl40, hp40, rfl, U9, V9, B9⟩
          · have hzd : decide (0 < z) = false := decide_eq_false hz
            have hr3 := RD.out
            have y3 := YK4.out _ MM.out
            have r3 := RK4.out _ MM.out
            have c3 := CK4.out _ MM.out
            have NB3 := NBK4.out _ MM.out
            have OW3 := OWK4.out _ MM.out
            have hbs : W4.heap.size ≤ w8.heap.size := MM.out.size
            go_wp2_with fail
            have YK := Lib.hid fun (w' : World) (hs : MostB (w.heap.size + 1) w8 w') => (show w'.cell? ⟨Y, 0, none⟩ = some (.int .i64 hh.b) ∧ w'.cell? ⟨Y, 1, none⟩ = some (.int .i64 hh.r) ∧ w'.cell? ⟨Y, 2, none⟩ = some (.int .i64 hh.t) ∧ LaidH w.heap.size (w.heap.size + 1) hh w8 w' from
              have q := y3.at_ (hs.block Y (by omega) y3.lt); ⟨q.c0, q.c1, q.c2, w', hs, .inl rfl⟩)
            have YL := Lib.hid fun (wm : World) (hs : MostB (w.heap.size + 1) w8 wm) => (show (((wm.setCell ⟨w.heap.size, 0, none⟩ (.int .i64 hh.b)).setCell ⟨w.heap.size, 1, none⟩ (.int .i64 hh.r)).setCell ⟨w.heap.size, 2, none⟩ (.int .i64 hh.t)).cell? ⟨Y, 0, none⟩ = some (.int .i64 hh.b) ∧ (((wm.setCell ⟨w.heap.size, 0, none⟩ (.int .i64 hh.b)).setCell ⟨w.heap.size, 1, none⟩ (.int .i64 hh.r)).setCell ⟨w.heap.size, 2, none⟩ (.int .i64 hh.t)).cell? ⟨Y, 1, none⟩ = some (.int .i64 hh.r) ∧ (((wm.setCell ⟨w.heap.size, 0, none⟩ (.int .i64 hh.b)).setCell ⟨w.heap.size, 1, none⟩ (.int .i64 hh.r)).setCell ⟨w.heap.size, 2, none⟩ (.int .i64 hh.t)).cell? ⟨Y, 2, none⟩ = some (.int .i64 hh.t) ∧ LaidH w.heap.size (w.heap.size + 1) hh w8 (((wm.setCell ⟨w.heap.size, 0, none⟩ (.int .i64 hh.b)).setCell ⟨w.heap.size, 1, none⟩ (.int .i64 hh.r)).setCell ⟨w.heap.size, 2, none⟩ (.int .i64 hh.t)) from
              have q := (((y3.at_ (hs.block Y (by omega) y3.lt)).other (by omega) 0 _).other (by omega) 1 _).other (by omega) 2 _; ⟨q.c0, q.c1, q.c2, wm, hs, .inr rfl⟩)
            have RK := Lib.hid fun (w' : World) (hs : MostB (w.heap.size + 1) w8 w') => r3.at_ (hs.block w.heap.size (by omega) r3.lt)
            have CK := Lib.hid fun (w' : World) (hs : MostB (w.heap.size + 1) w8 w') => c3.trans (hs.under (by omega) c3.size)
            have NBK := Lib.hid fun (w' : World) (hs : MostB (w.heap.size + 1) w8 w') => NB3.most hs (by omega)
            have OWK := Lib.hid fun (w' : World) (hs : MostB (w.heap.size + 1) w8 w') => OW3.most hs (by omega)
            have hmd : MostB (w.heap.size + 1) w8 w8.drew := (MostB.refl _ _).below_ ((Below.refl _ _).drew)
            have HMD := Lib.hid hmd
            have hstart := YK.out _ hmd
            have HR := Lib.hid (hr3.keepK (Below.refl w8.heap.size w8).drew hr3.2.1)
            clear y3 r3 c3 hr3 hmd NB3 OW3
            have P1 := Lib.hid (l20Slot_any (w.heap.size + 1) (w.heap.size + 1) ((qq + 1) + 1) v pl w8.drew HR.out (by omega) (OWK.out _ HMD.out).holds hp40)
            go_region_held3 (fun w' => w'.cell? ⟨Y, 0, none⟩ = some (.int .i64 hh.b) ∧ w'.cell? ⟨Y, 1, none⟩ = some (.int .i64 hh.r) ∧ w'.cell? ⟨Y, 2, none⟩ = some (.int .i64 hh.t) ∧ LaidH w.heap.size (w.heap.size + 1) hh w8 w')
              (first | exact hstart | exact YK.out _ m5.out | exact YL.out _ m5.out | fail)
              (first
                | (go_at_call 71; ((with_reducible refine P1.out.mono ?_); rintro e w5 ⟨x, rfl, hr5, o5⟩; have m5 := Lib.hid (HMD.out.trans (only_most o5 HR.out)); have d0 := (RK.out _ m5.out).c0; have d1 := (RK.out _ m5.out).c1; have d2 := (RK.out _ m5.out).c2; have ea := (RK.out _ m5.out).frozen 0; have eb := (RK.out _ m5.out).frozen 1; have ec := (RK.out _ m5.out).frozen 2; clear hr5 o5))
                | fail)
            obtain ⟨-, -, -, -, y9, B9⟩ := BoxH.end_ hh (RK.out _ m5.out) (CK.out _ m5.out)
            have f0 := y9.c0
            have f1 := y9.c1
            have f2 := y9.c2
            have m9 := Only3 w.heap.size w5 (.int .i64 hh.b) (.int .i64 hh.r) (.int .i64 hh.t)
            have U9 := ((NBK.out _ m5.out).most m9 (by omega)).from_ (show w.heap.size ≤ w1.heap.size by omega)
            have V9 := ((OWK.out _ m5.out).most m9 (by omega)).from_ (show w.heap.size ≤ w1.heap.size by omega)
            clear y9 m9 d0 d1 d2 ea eb ec
            go_wp2_with fail
            exact bodyPost_ret (v := .tuple #[.agg #[.int .i64 hh.b, .int .i64 hh.r, .int .i64 hh.t], _, v, .int .i64 x, .int .i64 id]) (by simp [results, Try.results32, go_sem, f0, f1, f2]) rfl ⟨x, id, hh, l, pl, _, _, by rw [HN.out]; exact hl40, hp40, rfl, U9, V9, B9⟩
        · have hnli : decide ((0 : Int) < (nx.length : Int)) = false := decide_eq_false (by omega)
          have hr3 := RD.out
          have y3 := YK4.out _ MM.out
          have r3 := RK4.out _ MM.out
          have c3 := CK4.out _ MM.out
          have NB3 := NBK4.out _ MM.out
          have OW3 := OWK4.out _ MM.out
          have hbs : W4.heap.size ≤ w6.heap.size := MM.out.size
          go_wp2_with fail
          have YK := Lib.hid fun (w' : World) (hs : MostB (w.heap.size + 1) w6 w') => (show w'.cell? ⟨Y, 0, none⟩ = some (.int .i64 hh.b) ∧ w'.cell? ⟨Y, 1, none⟩ = some (.int .i64 hh.r) ∧ w'.cell? ⟨Y, 2, none⟩ = some (.int .i64 hh.t) ∧ LaidH w.heap.size (w.heap.size + 1) hh w6 w' from
            have q := y3.at_ (hs.block Y (by omega) y3.lt); ⟨q.c0, q.c1, q.c2, w', hs, .inl rfl⟩)
          have YL := Lib.hid fun (wm : World) (hs : MostB (w.heap.size + 1) w6 wm) => (show (((wm.setCell ⟨w.heap.size, 0, none⟩ (.int .i64 hh.b)).setCell ⟨w.heap.size, 1, none⟩ (.int .i64 hh.r)).setCell ⟨w.heap.size, 2, none⟩ (.int .i64 hh.t)).cell? ⟨Y, 0, none⟩ = some (.int .i64 hh.b) ∧ (((wm.setCell ⟨w.heap.size, 0, none⟩ (.int .i64 hh.b)).setCell ⟨w.heap.size, 1, none⟩ (.int .i64 hh.r)).setCell ⟨w.heap.size, 2, none⟩ (.int .i64 hh.t)).cell? ⟨Y, 1, none⟩ = some (.int .i64 hh.r) ∧ (((wm.setCell ⟨w.heap.size, 0, none⟩ (.int .i64 hh.b)).setCell ⟨w.heap.size, 1, none⟩ (.int .i64 hh.r)).setCell ⟨w.heap.size, 2, none⟩ (.int .i64 hh.t)).cell? ⟨Y, 2, none⟩ = some (.int .i64 hh.t) ∧ LaidH w.heap.size (w.heap.size + 1) hh w6 (((wm.setCell ⟨w.heap.size, 0, none⟩ (.int .i64 hh.b)).setCell ⟨w.heap.size, 1, none⟩ (.int .i64 hh.r)).setCell ⟨w.heap.size, 2, none⟩ (.int .i64 hh.t)) from
            have q := (((y3.at_ (hs.block Y (by omega) y3.lt)).other (by omega) 0 _).other (by omega) 1 _).other (by omega) 2 _; ⟨q.c0, q.c1, q.c2, wm, hs, .inr rfl⟩)
          have RK := Lib.hid fun (w' : World) (hs : MostB (w.heap.size + 1) w6 w') => r3.at_ (hs.block w.heap.size (by omega) r3.lt)
          have CK := Lib.hid fun (w' : World) (hs : MostB (w.heap.size + 1) w6 w') => c3.trans (hs.under (by omega) c3.size)
          have NBK := Lib.hid fun (w' : World) (hs : MostB (w.heap.size + 1) w6 w') => NB3.most hs (by omega)
          have OWK := Lib.hid fun (w' : World) (hs : MostB (w.heap.size + 1) w6 w') => OW3.most hs (by omega)
          have hmd : MostB (w.heap.size + 1) w6 w6.drew := (MostB.refl _ _).below_ ((Below.refl _ _).drew)
          have HMD := Lib.hid hmd
          have hstart := YK.out _ hmd
          have HR := Lib.hid (hr3.keepK (Below.refl w6.heap.size w6).drew hr3.2.1)
          clear y3 r3 c3 hr3 hmd NB3 OW3
          have P1 := Lib.hid (l20Slot_any (w.heap.size + 1) (w.heap.size + 1) ((qq + 1)) v pl w6.drew HR.out (by omega) (OWK.out _ HMD.out).holds hp40)
          go_region_held3 (fun w' => w'.cell? ⟨Y, 0, none⟩ = some (.int .i64 hh.b) ∧ w'.cell? ⟨Y, 1, none⟩ = some (.int .i64 hh.r) ∧ w'.cell? ⟨Y, 2, none⟩ = some (.int .i64 hh.t) ∧ LaidH w.heap.size (w.heap.size + 1) hh w6 w')
            (first | exact hstart | exact YK.out _ m5.out | exact YL.out _ m5.out | fail)
            (first
              | (go_at_call 71; ((with_reducible refine P1.out.mono ?_); rintro e w5 ⟨x, rfl, hr5, o5⟩; have m5 := Lib.hid (HMD.out.trans (only_most o5 HR.out)); have d0 := (RK.out _ m5.out).c0; have d1 := (RK.out _ m5.out).c1; have d2 := (RK.out _ m5.out).c2; have ea := (RK.out _ m5.out).frozen 0; have eb := (RK.out _ m5.out).frozen 1; have ec := (RK.out _ m5.out).frozen 2; clear hr5 o5))
              | fail)
          obtain ⟨-, -, -, -, y9, B9⟩ := BoxH.end_ hh (RK.out _ m5.out) (CK.out _ m5.out)
          have f0 := y9.c0
          have f1 := y9.c1
          have f2 := y9.c2
          have m9 := Only3 w.heap.size w5 (.int .i64 hh.b) (.int .i64 hh.r) (.int .i64 hh.t)
          have U9 := ((NBK.out _ m5.out).most m9 (by omega)).from_ (show w.heap.size ≤ w1.heap.size by omega)
          have V9 := ((OWK.out _ m5.out).most m9 (by omega)).from_ (show w.heap.size ≤ w1.heap.size by omega)
          clear y9 m9 d0 d1 d2 ea eb ec
          go_wp2_with fail
          exact bodyPost_ret (v := .tuple #[.agg #[.int .i64 hh.b, .int .i64 hh.r, .int .i64 hh.t], _, v, .int .i64 x, .int .i64 id]) (by simp [results, Try.results32, go_sem, f0, f1, f2]) rfl ⟨x, id, hh, l, pl, _, _, by rw [HN.out]; exact hl40, hp40, rfl, U9, V9, B9⟩
    · obtain rfl : k = n := by omega
      have hqq2 : qq ≤ 3000 := by omega
      clear hqq hlt
      by_cases hnl : 0 < nx.length
      · have hnli : decide ((0 : Int) < (nx.length : Int)) = true := decide_eq_true (by omega)
        go_wp2_with fail
        refine (pick_any (w.heap.size + 1) (w.heap.size + 1) qq 4 wr RD.out (by omega) (by omega)).mono ?_
        rintro e w8 ⟨z, z0, z1, rfl, h8, o8⟩
        have MM8 := Lib.hid (MM.out.trans o8.mostB)
        have RD8 := Lib.hid h8
        clear RD MM h8 o8
        have RD := RD8
        have MM := MM8
        clear RD8 MM8
        by_cases hz : 0 < z
        · have NX := Lib.hid (NXK.out _ MM.out)
          have hr3 := RD.out
          have y3 := YK4.out _ MM.out
          have r3 := RK4.out _ MM.out
          have c3 := CK4.out _ MM.out
          have NB3 := NBK4.out _ MM.out
          have OW3 := OWK4.out _ MM.out
          have hbs : W4.heap.size ≤ w8.heap.size := MM.out.size
          obtain ⟨g, gcap, gcur, hge, hg1, hg2, -, -, -, -, -⟩ := NX.out.form hnl
          simp only [Value.slice.injEq] at hge
          obtain ⟨rfl, -, rfl⟩ := hge
          obtain ⟨m, hm⟩ : ∃ m, m = nx.length := ⟨_, rfl⟩
          have hm36 : m ≤ 40 := by omega
          have hm0 : 0 < m := by omega
          obtain ⟨cv, hcv⟩ : ∃ f : Nat → Option Value, f = fun i => w8.cell? ⟨g, i, none⟩ := ⟨_, rfl⟩
          obtain ⟨vals, hvals⟩ : ∃ f : Nat → Int, f = fun j => nx.getD j 0 := ⟨_, rfl⟩
          have HV := Lib.hid fun (j : Nat) (hj : j < m) => (show cv j = some (.int .i64 (vals j)) by
            rw [hvals, hcv]
            obtain ⟨b', off', e', _, c⟩ := NX.out.holds.at_ (show j < nx.length by omega)
            simp only [Option.some.injEq, Addr.mk.injEq, and_true] at e'
            obtain ⟨rfl, rfl⟩ := e'
            rw [Nat.zero_add] at c
            exact c)
          have hall : ∀ w', LaidH w.heap.size (w.heap.size + 1) hh w8 w' → ∀ i, w'.cell? ⟨g, i, none⟩ = cv i := by
            rintro w' ⟨wm, hs, rfl | rfl⟩ i
            · rw [hcv]
              exact World.cell?_of_block (w := w8) (hs.block g (by omega) hg2)
            · rw [hcv]
              refine World.cell?_of_block (w := w8) ?_
              rw [Below.heap_setCell _ _ _ _ (by show g ≠ w.heap.size; omega), Below.heap_setCell _ _ _ _ (by show g ≠ w.heap.size; omega), Below.heap_setCell _ _ _ _ (by show g ≠ w.heap.size; omega)]
              exact hs.block g (by omega) hg2
          rw [← hm]
          have YK := Lib.hid fun (w' : World) (hs : MostB (w.heap.size + 1) w8 w') => (show w'.cell? ⟨Y, 0, none⟩ = some (.int .i64 hh.b) ∧ w'.cell? ⟨Y, 1, none⟩ = some (.int .i64 hh.r) ∧ w'.cell? ⟨Y, 2, none⟩ = some (.int .i64 hh.t) ∧ LaidH w.heap.size (w.heap.size + 1) hh w8 w' from
            have q := y3.at_ (hs.block Y (by omega) y3.lt); ⟨q.c0, q.c1, q.c2, w', hs, .inl rfl⟩)
          have YL := Lib.hid fun (wm : World) (hs : MostB (w.heap.size + 1) w8 wm) => (show (((wm.setCell ⟨w.heap.size, 0, none⟩ (.int .i64 hh.b)).setCell ⟨w.heap.size, 1, none⟩ (.int .i64 hh.r)).setCell ⟨w.heap.size, 2, none⟩ (.int .i64 hh.t)).cell? ⟨Y, 0, none⟩ = some (.int .i64 hh.b) ∧ (((wm.setCell ⟨w.heap.size, 0, none⟩ (.int .i64 hh.b)).setCell ⟨w.heap.size, 1, none⟩ (.int .i64 hh.r)).setCell ⟨w.heap.size, 2, none⟩ (.int .i64 hh.t)).cell? ⟨Y, 1, none⟩ = some (.int .i64 hh.r) ∧ (((wm.setCell ⟨w.heap.size, 0, none⟩ (.int .i64 hh.b)).setCell ⟨w.heap.size, 1, none⟩ (.int .i64 hh.r)).setCell ⟨w.heap.size, 2, none⟩ (.int .i64 hh.t)).cell? ⟨Y, 2, none⟩ = some (.int .i64 hh.t) ∧ LaidH w.heap.size (w.heap.size + 1) hh w8 (((wm.setCell ⟨w.heap.size, 0, none⟩ (.int .i64 hh.b)).setCell ⟨w.heap.size, 1, none⟩ (.int .i64 hh.r)).setCell ⟨w.heap.size, 2, none⟩ (.int .i64 hh.t)) from
            have q := (((y3.at_ (hs.block Y (by omega) y3.lt)).other (by omega) 0 _).other (by omega) 1 _).other (by omega) 2 _; ⟨q.c0, q.c1, q.c2, wm, hs, .inr rfl⟩)
          have RK := Lib.hid fun (w' : World) (hs : MostB (w.heap.size + 1) w8 w') => r3.at_ (hs.block w.heap.size (by omega) r3.lt)
          have CK := Lib.hid fun (w' : World) (hs : MostB (w.heap.size + 1) w8 w') => c3.trans (hs.under (by omega) c3.size)
          have NBK := Lib.hid fun (w' : World) (hs : MostB (w.heap.size + 1) w8 w') => NB3.most hs (by omega)
          have OWK := Lib.hid fun (w' : World) (hs : MostB (w.heap.size + 1) w8 w') => OW3.most hs (by omega)
          have hmd : MostB (w.heap.size + 1) w8 w8.drew := (MostB.refl _ _).below_ ((Below.refl _ _).drew)
          have HMD := Lib.hid hmd
          have hstart := YK.out _ hmd
          have HR := Lib.hid (hr3.keepK (Below.refl w8.heap.size w8).drew hr3.2.1)
          clear y3 r3 c3 hr3 hmd NB3 OW3
          have P1 := Lib.hid ((pick_any (w.heap.size + 1) (w.heap.size + 1) (qq + 1) (m : Int) w8.drew HR.out (by omega) (by omega)).mono (R' := fun e w' => ∃ j : Nat, j < m ∧ e = .returned (.int .i64 (j : Int)) ∧ Rdr (w.heap.size + 1) (w.heap.size + 1) (qq + 1 + 1) w' ∧ Only (w.heap.size + 1) w8.drew w') (fun e w' ⟨x, x0, x1, he, hr, ho⟩ => by
            obtain ⟨j, rfl⟩ := Int.eq_ofNat_of_zero_le x0
            exact ⟨j, by omega, he, hr, ho⟩))
          clear hcv hvals hm NX
          go_wp2_with fail
          go_region_held3 (fun w' => w'.cell? ⟨Y, 0, none⟩ = some (.int .i64 hh.b) ∧ w'.cell? ⟨Y, 1, none⟩ = some (.int .i64 hh.r) ∧ w'.cell? ⟨Y, 2, none⟩ = some (.int .i64 hh.t) ∧ LaidH w.heap.size (w.heap.size + 1) hh w8 w')
            (first | exact hstart | exact YK.out _ m5.out | exact YL.out _ m5.out | fail)
            (first
              | (go_at_call 69; ((with_reducible refine P1.out.mono ?_); rintro e w5 ⟨j, hjm, rfl, hr5, o5⟩; have ij : (j : Int) < (m : Int) := Int.ofNat_lt.2 hjm; have i0j : (0 : Int) ≤ (j : Int) := Int.natCast_nonneg j; have hvj := HV.out j hjm; have m5 := Lib.hid (HMD.out.trans (only_most o5 HR.out)); have d0 := (RK.out _ m5.out).c0; have d1 := (RK.out _ m5.out).c1; have d2 := (RK.out _ m5.out).c2; have ea := (RK.out _ m5.out).frozen 0; have eb := (RK.out _ m5.out).frozen 1; have ec := (RK.out _ m5.out).frozen 2; clear hr5 o5))
              | fail)
          generalize hgx : vals j = x
          clear hgx hvj hall
          obtain ⟨-, -, -, -, y9, B9⟩ := BoxH.end_ hh (RK.out _ m5.out) (CK.out _ m5.out)
          have f0 := y9.c0
          have f1 := y9.c1
          have f2 := y9.c2
          have m9 := Only3 w.heap.size w5 (.int .i64 hh.b) (.int .i64 hh.r) (.int .i64 hh.t)
          have U9 := ((NBK.out _ m5.out).most m9 (by omega)).from_ (show w.heap.size ≤ w1.heap.size by omega)
          have V9 := ((OWK.out _ m5.out).most m9 (by omega)).from_ (show w.heap.size ≤ w1.heap.size by omega)
          clear y9 m9 d0 d1 d2 ea eb ec
          go_wp2_with fail
          exact bodyPost_ret (v := .tuple #[.agg #[.int .i64 hh.b, .int .i64 hh.r, .int .i64 hh.t], _, v, .int .i64 x, .int .i64 id]) (by simp [results, Try.results32, go_sem, f0, f1, f2]) rfl ⟨x, id, hh, l, pl, _, _, by rw [HN.out]; exact hl40, hp40, rfl, U9, V9, B9⟩
        · have hzd : decide (0 < z) = false := decide_eq_false hz
          have hr3 := RD.out
          have y3 := YK4.out _ MM.out
          have r3 := RK4.out _ MM.out
          have c3 := CK4.out _ MM.out
          have NB3 := NBK4.out _ MM.out
          have OW3 := OWK4.out _ MM.out
          have hbs : W4.heap.size ≤ w8.heap.size := MM.out.size
          go_wp2_with fail
          have YK := Lib.hid fun (w' : World) (hs : MostB (w.heap.size + 1) w8 w') => (show w'.cell? ⟨Y, 0, none⟩ = some (.int .i64 hh.b) ∧ w'.cell? ⟨Y, 1, none⟩ = some (.int .i64 hh.r) ∧ w'.cell? ⟨Y, 2, none⟩ = some (.int .i64 hh.t) ∧ LaidH w.heap.size (w.heap.size + 1) hh w8 w' from
            have q := y3.at_ (hs.block Y (by omega) y3.lt); ⟨q.c0, q.c1, q.c2, w', hs, .inl rfl⟩)
          have YL := Lib.hid fun (wm : World) (hs : MostB (w.heap.size + 1) w8 wm) => (show (((wm.setCell ⟨w.heap.size, 0, none⟩ (.int .i64 hh.b)).setCell ⟨w.heap.size, 1, none⟩ (.int .i64 hh.r)).setCell ⟨w.heap.size, 2, none⟩ (.int .i64 hh.t)).cell? ⟨Y, 0, none⟩ = some (.int .i64 hh.b) ∧ (((wm.setCell ⟨w.heap.size, 0, none⟩ (.int .i64 hh.b)).setCell ⟨w.heap.size, 1, none⟩ (.int .i64 hh.r)).setCell ⟨w.heap.size, 2, none⟩ (.int .i64 hh.t)).cell? ⟨Y, 1, none⟩ = some (.int .i64 hh.r) ∧ (((wm.setCell ⟨w.heap.size, 0, none⟩ (.int .i64 hh.b)).setCell ⟨w.heap.size, 1, none⟩ (.int .i64 hh.r)).setCell ⟨w.heap.size, 2, none⟩ (.int .i64 hh.t)).cell? ⟨Y, 2, none⟩ = some (.int .i64 hh.t) ∧ LaidH w.heap.size (w.heap.size + 1) hh w8 (((wm.setCell ⟨w.heap.size, 0, none⟩ (.int .i64 hh.b)).setCell ⟨w.heap.size, 1, none⟩ (.int .i64 hh.r)).setCell ⟨w.heap.size, 2, none⟩ (.int .i64 hh.t)) from
            have q := (((y3.at_ (hs.block Y (by omega) y3.lt)).other (by omega) 0 _).other (by omega) 1 _).other (by omega) 2 _; ⟨q.c0, q.c1, q.c2, wm, hs, .inr rfl⟩)
          have RK := Lib.hid fun (w' : World) (hs : MostB (w.heap.size + 1) w8 w') => r3.at_ (hs.block w.heap.size (by omega) r3.lt)
          have CK := Lib.hid fun (w' : World) (hs : MostB (w.heap.size + 1) w8 w') => c3.trans (hs.under (by omega) c3.size)
          have NBK := Lib.hid fun (w' : World) (hs : MostB (w.heap.size + 1) w8 w') => NB3.most hs (by omega)
          have OWK := Lib.hid fun (w' : World) (hs : MostB (w.heap.size + 1) w8 w') => OW3.most hs (by omega)
          have hmd : MostB (w.heap.size + 1) w8 w8.drew := (MostB.refl _ _).below_ ((Below.refl _ _).drew)
          have HMD := Lib.hid hmd
          have hstart := YK.out _ hmd
          have HR := Lib.hid (hr3.keepK (Below.refl w8.heap.size w8).drew hr3.2.1)
          clear y3 r3 c3 hr3 hmd NB3 OW3
          have P1 := Lib.hid (l20Slot_any (w.heap.size + 1) (w.heap.size + 1) (qq + 1) v pl w8.drew HR.out (by omega) (OWK.out _ HMD.out).holds hp40)
          go_region_held3 (fun w' => w'.cell? ⟨Y, 0, none⟩ = some (.int .i64 hh.b) ∧ w'.cell? ⟨Y, 1, none⟩ = some (.int .i64 hh.r) ∧ w'.cell? ⟨Y, 2, none⟩ = some (.int .i64 hh.t) ∧ LaidH w.heap.size (w.heap.size + 1) hh w8 w')
            (first | exact hstart | exact YK.out _ m5.out | exact YL.out _ m5.out | fail)
            (first
              | (go_at_call 71; ((with_reducible refine P1.out.mono ?_); rintro e w5 ⟨x, rfl, hr5, o5⟩; have m5 := Lib.hid (HMD.out.trans (only_most o5 HR.out)); have d0 := (RK.out _ m5.out).c0; have d1 := (RK.out _ m5.out).c1; have d2 := (RK.out _ m5.out).c2; have ea := (RK.out _ m5.out).frozen 0; have eb := (RK.out _ m5.out).frozen 1; have ec := (RK.out _ m5.out).frozen 2; clear hr5 o5))
              | fail)
          obtain ⟨-, -, -, -, y9, B9⟩ := BoxH.end_ hh (RK.out _ m5.out) (CK.out _ m5.out)
          have f0 := y9.c0
          have f1 := y9.c1
          have f2 := y9.c2
          have m9 := Only3 w.heap.size w5 (.int .i64 hh.b) (.int .i64 hh.r) (.int .i64 hh.t)
          have U9 := ((NBK.out _ m5.out).most m9 (by omega)).from_ (show w.heap.size ≤ w1.heap.size by omega)
          have V9 := ((OWK.out _ m5.out).most m9 (by omega)).from_ (show w.heap.size ≤ w1.heap.size by omega)
          clear y9 m9 d0 d1 d2 ea eb ec
          go_wp2_with fail
          exact bodyPost_ret (v := .tuple #[.agg #[.int .i64 hh.b, .int .i64 hh.r, .int .i64 hh.t], _, v, .int .i64 x, .int .i64 id]) (by simp [results, Try.results32, go_sem, f0, f1, f2]) rfl ⟨x, id, hh, l, pl, _, _, by rw [HN.out]; exact hl40, hp40, rfl, U9, V9, B9⟩
      · have hnli : decide ((0 : Int) < (nx.length : Int)) = false := decide_eq_false (by omega)
        have hr3 := RD.out
        have y3 := YK4.out _ MM.out
        have r3 := RK4.out _ MM.out
        have c3 := CK4.out _ MM.out
        have NB3 := NBK4.out _ MM.out
        have OW3 := OWK4.out _ MM.out
        have hbs : W4.heap.size ≤ wr.heap.size := MM.out.size
        go_wp2_with fail
        have YK := Lib.hid fun (w' : World) (hs : MostB (w.heap.size + 1) wr w') => (show w'.cell? ⟨Y, 0, none⟩ = some (.int .i64 hh.b) ∧ w'.cell? ⟨Y, 1, none⟩ = some (.int .i64 hh.r) ∧ w'.cell? ⟨Y, 2, none⟩ = some (.int .i64 hh.t) ∧ LaidH w.heap.size (w.heap.size + 1) hh wr w' from
          have q := y3.at_ (hs.block Y (by omega) y3.lt); ⟨q.c0, q.c1, q.c2, w', hs, .inl rfl⟩)
        have YL := Lib.hid fun (wm : World) (hs : MostB (w.heap.size + 1) wr wm) => (show (((wm.setCell ⟨w.heap.size, 0, none⟩ (.int .i64 hh.b)).setCell ⟨w.heap.size, 1, none⟩ (.int .i64 hh.r)).setCell ⟨w.heap.size, 2, none⟩ (.int .i64 hh.t)).cell? ⟨Y, 0, none⟩ = some (.int .i64 hh.b) ∧ (((wm.setCell ⟨w.heap.size, 0, none⟩ (.int .i64 hh.b)).setCell ⟨w.heap.size, 1, none⟩ (.int .i64 hh.r)).setCell ⟨w.heap.size, 2, none⟩ (.int .i64 hh.t)).cell? ⟨Y, 1, none⟩ = some (.int .i64 hh.r) ∧ (((wm.setCell ⟨w.heap.size, 0, none⟩ (.int .i64 hh.b)).setCell ⟨w.heap.size, 1, none⟩ (.int .i64 hh.r)).setCell ⟨w.heap.size, 2, none⟩ (.int .i64 hh.t)).cell? ⟨Y, 2, none⟩ = some (.int .i64 hh.t) ∧ LaidH w.heap.size (w.heap.size + 1) hh wr (((wm.setCell ⟨w.heap.size, 0, none⟩ (.int .i64 hh.b)).setCell ⟨w.heap.size, 1, none⟩ (.int .i64 hh.r)).setCell ⟨w.heap.size, 2, none⟩ (.int .i64 hh.t)) from
          have q := (((y3.at_ (hs.block Y (by omega) y3.lt)).other (by omega) 0 _).other (by omega) 1 _).other (by omega) 2 _; ⟨q.c0, q.c1, q.c2, wm, hs, .inr rfl⟩)
        have RK := Lib.hid fun (w' : World) (hs : MostB (w.heap.size + 1) wr w') => r3.at_ (hs.block w.heap.size (by omega) r3.lt)
        have CK := Lib.hid fun (w' : World) (hs : MostB (w.heap.size + 1) wr w') => c3.trans (hs.under (by omega) c3.size)
        have NBK := Lib.hid fun (w' : World) (hs : MostB (w.heap.size + 1) wr w') => NB3.most hs (by omega)
        have OWK := Lib.hid fun (w' : World) (hs : MostB (w.heap.size + 1) wr w') => OW3.most hs (by omega)
        have hmd : MostB (w.heap.size + 1) wr wr.drew := (MostB.refl _ _).below_ ((Below.refl _ _).drew)
        have HMD := Lib.hid hmd
        have hstart := YK.out _ hmd
        have HR := Lib.hid (hr3.keepK (Below.refl wr.heap.size wr).drew hr3.2.1)
        clear y3 r3 c3 hr3 hmd NB3 OW3
        have P1 := Lib.hid (l20Slot_any (w.heap.size + 1) (w.heap.size + 1) (qq) v pl wr.drew HR.out (by omega) (OWK.out _ HMD.out).holds hp40)
        go_region_held3 (fun w' => w'.cell? ⟨Y, 0, none⟩ = some (.int .i64 hh.b) ∧ w'.cell? ⟨Y, 1, none⟩ = some (.int .i64 hh.r) ∧ w'.cell? ⟨Y, 2, none⟩ = some (.int .i64 hh.t) ∧ LaidH w.heap.size (w.heap.size + 1) hh wr w')
          (first | exact hstart | exact YK.out _ m5.out | exact YL.out _ m5.out | fail)
          (first
            | (go_at_call 71; ((with_reducible refine P1.out.mono ?_); rintro e w5 ⟨x, rfl, hr5, o5⟩; have m5 := Lib.hid (HMD.out.trans (only_most o5 HR.out)); have d0 := (RK.out _ m5.out).c0; have d1 := (RK.out _ m5.out).c1; have d2 := (RK.out _ m5.out).c2; have ea := (RK.out _ m5.out).frozen 0; have eb := (RK.out _ m5.out).frozen 1; have ec := (RK.out _ m5.out).frozen 2; clear hr5 o5))
            | fail)
        obtain ⟨-, -, -, -, y9, B9⟩ := BoxH.end_ hh (RK.out _ m5.out) (CK.out _ m5.out)
        have f0 := y9.c0
        have f1 := y9.c1
        have f2 := y9.c2
        have m9 := Only3 w.heap.size w5 (.int .i64 hh.b) (.int .i64 hh.r) (.int .i64 hh.t)
        have U9 := ((NBK.out _ m5.out).most m9 (by omega)).from_ (show w.heap.size ≤ w1.heap.size by omega)
        have V9 := ((OWK.out _ m5.out).most m9 (by omega)).from_ (show w.heap.size ≤ w1.heap.size by omega)
        clear y9 m9 d0 d1 d2 ea eb ec
        go_wp2_with fail
        exact bodyPost_ret (v := .tuple #[.agg #[.int .i64 hh.b, .int .i64 hh.r, .int .i64 hh.t], _, v, .int .i64 x, .int .i64 id]) (by simp [results, Try.results32, go_sem, f0, f1, f2]) rfl ⟨x, id, hh, l, pl, _, _, by rw [HN.out]; exact hl40, hp40, rfl, U9, V9, B9⟩

end Go.Proofs.Ytbaebamiiigmlaa
