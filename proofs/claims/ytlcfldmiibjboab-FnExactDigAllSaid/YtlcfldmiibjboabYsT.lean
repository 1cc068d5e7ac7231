/-
  The contract of the model's YardTake.
-/
import Derived.Test.YtlcfldmiibjboabYv
import Derived.Test.YtlcfldmiibjboabGYh
import Derived.Test.YtlcfldmiibjboabYsC
namespace Go.Proofs.Ytlcfldmiibjboab
open Go.RowKit
set_option linter.unusedVariables false

/-- What a call gives that takes from a yard. -/
def TakeYGives (h : Int) (ss : List (List Int)) (f : Int) (w : World) (e : Ending) (w' : World) : Prop :=
  ∃ u, e = .returned (.tuple #[.agg #[.int .i64 (takeY h ss f).1.1, u], .int .i64 (takeY h ss f).2]) ∧ NewY w.heap.size w' u (takeY h ss f).1.2 ∧ Below w.heap.size w w'
/-- A row of a copy cut. -/
theorem cut_step {w5 : World} {K N2 A A' W g n uc i m c : Nat} {a : Option Addr} {us : List Value} {ss : List (List Int)} {v1 v2 : Value} {h h2 : Int} (o5 : OwnY K w5 (.slice (some ⟨g, 0, none⟩) n uc) us n (rowAt ss)) (hn : ss.length = n) (hi : i < n) (hui : us[i]? = some (.slice a (m + 1) c))
    (hr : (rowAt ss i).length = m + 1) (y : BoxY A w5 h v1) (q : BoxY A' w5 h2 v2) (x : BoxY N2 w5 h (.slice (some ⟨g, 0, none⟩) n uc)) (hA : A < K) (hA' : A' < K) (hgN : g ≠ N2) (hgK : K ≤ g) {w : World} (b5 : Below W w w5) (hWK : W ≤ K) :
    NewY K (w5.setCell ⟨g, i, none⟩ (.slice a m c)) (.slice (some ⟨g, 0, none⟩) n uc) (ss.set i ((rowAt ss i).take m)) ∧ BoxY A (w5.setCell ⟨g, i, none⟩ (.slice a m c)) h v1 ∧ BoxY A' (w5.setCell ⟨g, i, none⟩ (.slice a m c)) h2 v2 ∧ BoxY N2 (w5.setCell ⟨g, i, none⟩ (.slice a m c)) h (.slice (some ⟨g, 0, none⟩) n uc) ∧ Below W w (w5.setCell ⟨g, i, none⟩ (.slice a m c)) := by
  have far : ∀ k, k ≠ g → (w5.setCell ⟨g, i, none⟩ (.slice a m c)).heap[k]? = w5.heap[k]? := fun k hk' => Below.heap_setCell _ _ _ _ hk'
  refine ⟨?_, y.at_ (far A (by omega)), q.at_ (far A' (by omega)), x.at_ (far N2 (Ne.symm hgN)), b5.setCell (p := ⟨g, i, none⟩) (Nat.le_trans hWK hgK) _⟩
  obtain ⟨ui', hui', hoi, _⟩ := o5.row i hi
  rw [hui] at hui'
  obtain rfl := Option.some.inj hui'
  rw [hr] at hoi
  obtain ⟨gi, rfl, _⟩ := own_cell hoi (k := 0) (by omega)
  exact o5.put hn hi hui (Below.refl _ _) (own_cut hoi) (by rw [List.length_take, hr]; omega) (Nat.le_refl _) (fun _ _ _ => rfl) (.inl rfl)

theorem NewY.drew_ {K : Nat} {w : World} {v : Value} {ss : List (List Int)} (h : NewY K w v ss) : NewY K w.drew v ss := h.keep (Below.refl _ _).drew
theorem BoxY.drew_ {B : Nat} {w : World} {h : Int} {v : Value} (hb : BoxY B w h v) : BoxY B w.drew h v := hb.keep (Below.refl _ _).drew

set_option maxRecDepth 10000 in
set_option maxHeartbeats 2000000 in
theorem specYardTake_bad (h : Int) (v : Value) (ss : List (List Int)) (f : Int) (w : World) (hh : HoldsY w v ss) (hbd : ss.flatten.length ≤ 1048577) (hok : ydOk h ss = false) :
    Calls Try.prog 15 #[.agg #[.int .i64 h, v], .int .i64 f] w (TakeYGives h ss f w) := by
  have hb2 := ((Below.refl w.heap.size w).alloc (Nat.le_refl _) (.cells #[.int .i64 h, v] 29)).alloc (by simp) (.cells #[.int .i64 0, .slice none 0 0] 29)
  have HV := Lib.hid (specYardValid_any h v ss _ (hh.keep hb2) hbd)
  have hR0 : BoxY (w.heap.size + 1) ((w.alloc (.cells #[.int .i64 h, v] 29)).alloc (.cells #[.int .i64 0, .slice none 0 0] 29)) 0 (.slice none 0 0) := two_hi _ _ _
  have HR := Lib.hid hR0
  have HB := Lib.hid hb2
  unfold TakeYGives
  rw [hok] at HV
  rw [takeY_bad hok]
  clear hok hh hb2 hR0
  go_enter Try.func15, Try.ntmps15
  go_wp2_with fail
  refine HV.out.mono ?_
  rintro e w3 ⟨rfl, b3⟩
  have g3 := HR.out.keep b3
  have c0 := g3.c0
  have c1 := g3.c1
  have e0 := g3.frozen 0
  have e1 := g3.frozen 1
  have B3 := Lib.hid (HB.out.trans (b3.mono HB.out.size))
  clear b3 g3 HR HB HV
  go_wp2_with fail
  have hB := (B3.out.setCell (p := ⟨w.heap.size + 1, 0, none⟩) (Nat.le_add_right _ _) (.int .i64 0)).setCell (p := ⟨w.heap.size + 1, 1, none⟩) (Nat.le_add_right _ _) (.slice none 0 0)
  exact bodyPost_ret (v := .tuple #[.agg #[.int .i64 0, .slice none 0 0], .int .i64 (-1)]) (by simp [results, Try.results15, go_sem, c0, c1]) rfl ⟨_, rfl, NewY.zero, hB⟩

set_option maxRecDepth 10000 in
set_option maxHeartbeats 4000000 in
theorem specYardTake_good (h : Int) (v : Value) (ss : List (List Int)) (f : Int) (w : World) (hh : HoldsY w v ss) (hok : ydOk h ss = true) :
    Calls Try.prog 15 #[.agg #[.int .i64 h, v], .int .i64 f] w (TakeYGives h ss f w) := by
  have hfl25 := ydOk_size hok
  have hbd : ss.flatten.length ≤ 1048577 := by omega
  have hb2 := ((Below.refl w.heap.size w).alloc (Nat.le_refl _) (.cells #[.int .i64 h, v] 29)).alloc (by simp) (.cells #[.int .i64 0, .slice none 0 0] 29)
  have hV0 := specYardValid_any h v ss _ (hh.keep hb2) hbd
  have hY0 : BoxY w.heap.size ((w.alloc (.cells #[.int .i64 h, v] 29)).alloc (.cells #[.int .i64 0, .slice none 0 0] 29)) h v := two_lo _ _ _
  have hR0 : BoxY (w.heap.size + 1) ((w.alloc (.cells #[.int .i64 h, v] 29)).alloc (.cells #[.int .i64 0, .slice none 0 0] 29)) 0 (.slice none 0 0) := two_hi _ _ _
  obtain ⟨W2, hW2⟩ : ∃ W2, W2 = (w.alloc (.cells #[.int .i64 h, v] 29)).alloc (.cells #[.int .i64 0, .slice none 0 0] 29) := ⟨_, rfl⟩
  rw [← hW2] at hb2 hV0 hY0 hR0
  have hz2 : W2.heap.size = w.heap.size + 2 := by rw [hW2]; simp
  have HX2 := Lib.hid hW2
  have H0 := Lib.hid (And.intro hb2 (And.intro hY0 (And.intro hR0 hz2)))
  have HV := Lib.hid hV0
  rw [hok] at HV
  have HW := Lib.hid fun w' (hb : Below w.heap.size w w') => hh.keep hb
  have HC := Lib.hid fun w' (hb : Below w.heap.size w w') => l4Copy_any h v ss w' (hh.keep hb) hok
  unfold CopyGives at HC
  have hn5 : ss.length ≤ 5 := (ydOk_iff.1 hok).2.2.2.1
  have hn1 : 1 ≤ ss.length := (ydOk_iff.1 hok).2.2.1
  have HROW5 := Lib.hid fun k (hl : k < ss.length) => stOk_len (ydOk_row hok hl)
  have HYES := Lib.hid fun h0 h1 (h2 : 0 < (rowAt ss f.toNat).length) => takeY_yes (f := f) hok h0 h1 (row_top h2)
  have HNO := Lib.hid fun hf => takeY_no (f := f) hok hf
  obtain ⟨n, hn⟩ : ∃ n, n = ss.length := ⟨_, rfl⟩
  have HN := Lib.hid hn.symm
  obtain ⟨a, cap, rfl⟩ : ∃ a cap, v = .slice a ss.length cap := by obtain ⟨a, cap, h1, _⟩ := hh; exact ⟨a, cap, h1⟩
  unfold TakeYGives
  rw [← hn] at HX2 H0 HV HW HC hn5 hn1 HROW5 HYES HNO ⊢
  clear hn hh hok hb2 hV0 hY0 hR0 hW2 hz2 hbd hfl25
  by_cases hin : 0 ≤ f ∧ f < (n : Int)
  · obtain ⟨ht0, ht1⟩ := hin
    obtain ⟨i, rfl⟩ := Int.eq_ofNat_of_zero_le ht0
    have hi : i < n := by omega
    have his : i < ss.length := by rw [HN.out]; exact hi
    have HIN := Lib.hid fun w => l1In_yes (i : Int) 0 ((n : Int) - 1) w (by omega) (by omega)
    rw [Int.toNat_natCast] at HYES HNO
    have hr5 := HROW5.out i hi
    have ik : (i : Int) < (n : Int) := by omega
    go_enter Try.func15, Try.ntmps15
    go_wp2_with fail
    rw [← HX2.out]
    refine HV.out.mono ?_
    rintro e w3 ⟨rfl, b3⟩
    obtain ⟨hb2, hY0, hR0, hz2⟩ := H0.out
    have y3 := hY0.keep b3
    have q3 := hR0.keep b3
    have d0 := y3.c0
    have d1 := y3.c1
    have B3 := Lib.hid (hb2.trans (b3.mono hb2.size))
    have s3 := b3.size
    have HS3 := Lib.hid (show w.heap.size + 2 ≤ w3.heap.size by omega)
    have Y3 := Lib.hid y3
    have Q3 := Lib.hid q3
    clear hb2 hY0 hR0 hz2 b3 s3 HX2 H0 HV y3 q3
    go_wp2_with fail
    refine (HC.out _ B3.out).mono ?_
    rintro e w4 ⟨u, us, rfl, o4, b4⟩
    obtain ⟨ua, uc, rfl⟩ := own_slice o4.out
    obtain ⟨g, rfl, -, hKg, hgl, hgc, hgm, hgcell, hgfr⟩ := own_cell o4.out hi
    obtain ⟨ui, hui, hoi4, -⟩ := o4.row i hi
    obtain ⟨ra, rc, rfl⟩ := own_slice hoi4
    obtain ⟨b, off, xa, c, rfl, hbl, s0, hc1, hc2, hnil, hrow⟩ := (HW.out w (Below.refl _ _)).at_ hi
    have hb5 := (Below.refl w4.heap.size w4).alloc (Nat.le_refl _) (.cells #[.int .i64 h, .slice (some ⟨g, 0, none⟩) n uc] 29)
    have x5 := BoxY.new w4 h (.slice (some ⟨g, 0, none⟩) n uc)
    obtain ⟨w5, hw5⟩ : ∃ w5, w5 = w4.alloc (.cells #[.int .i64 h, .slice (some ⟨g, 0, none⟩) n uc] 29) := ⟨_, rfl⟩
    rw [← hw5] at hb5 x5
    have hs5 : w5.heap.size = w4.heap.size + 1 := by rw [hw5]; simp
    have b35 := b4.trans (hb5.mono b4.size)
    have y4a : ∀ o : Obj, (w4.alloc o).cell? ⟨w.heap.size, 1, none⟩ = some (.slice (some ⟨b, off, none⟩) n cap) := fun o => (((Below.refl w4.heap.size w4).alloc (Nat.le_refl _) o).cell (p := ⟨w.heap.size, 1, none⟩) (Y3.out.keep b4).lt).trans (Y3.out.keep b4).c1
    have y5 := (Y3.out.keep b4).keep hb5
    have q5 := (Q3.out.keep b4).keep hb5
    have o5 := o4.far (fun k _ hk => hb5.block k hk)
    have r5 : w5.cell? ⟨g, i, none⟩ = some (.slice ra (rowAt ss i).length rc) := (hb5.cell (p := ⟨g, i, none⟩) hgl).trans (hgcell.trans hui)
    have fr5 : w5.frozen? ⟨g, i, none⟩ = false := (hb5.frozen (p := ⟨g, i, none⟩) hgl).trans hgfr
    have hgN : g ≠ w4.heap.size := by omega
    have HX5 := Lib.hid hw5
    have y50 := y5.c0
    have y51 := y5.c1
    have x50 := x5.c0
    have x51 := x5.c1
    have B50 := B3.out.trans (b35.mono B3.out.size)
    have s5 : w5.cell? ⟨b, off + i, none⟩ = some (.slice xa (rowAt ss i).length c) := (B50.cell (p := ⟨b, off + i, none⟩) hbl).trans s0
    have O5 := Lib.hid o5
    have X5 := Lib.hid x5
    have Y5 := Lib.hid y5
    have Q5 := Lib.hid q5
    have B5 := Lib.hid B50
    have HS5 := Lib.hid (show w.heap.size + 2 ≤ w3.heap.size ∧ w3.heap.size ≤ w4.heap.size ∧ w5.heap.size = w4.heap.size + 1 from ⟨HS3.out, b4.size, hs5⟩)
    clear hb5 x5 hw5 hs5 b35 y5 q5 o5 b4 o4 d0 d1 B3 Y3 Q3 HS3 hgcell hgfr B50
    by_cases hz : (rowAt ss i).length = 0
    · have HE := Lib.hid (HNO.out fun hc => by omega)
      rw [hz] at s5
      have hq1 : w.heap.size + 1 < w3.heap.size := by have := HS5.out; omega
      have q5 := Q5.out
      have c0 := q5.c0
      have c1 := q5.c1
      have e0 := q5.frozen 0
      have e1 := q5.frozen 1
      clear q5 r5 fr5 hoi4 hrow hz hc1 s0 HYES HNO
      go_wp2_with fail
      rw [← HX5.out]
      refine (HIN.out _).mono ?_
      rintro e w' ⟨rfl, rfl⟩
      clear y4a
      go_wp2_with fail
      have hB := (B5.out.setCell (p := ⟨w.heap.size + 1, 0, none⟩) (Nat.le_add_right _ _) (.int .i64 h)).setCell (p := ⟨w.heap.size + 1, 1, none⟩) (Nat.le_add_right _ _) (.slice (some ⟨g, 0, none⟩) n uc)
      have hO := O5.out
      rw [← HN.out] at hO
      have hF := ((hO.newY.setLow (N := w.heap.size + 1) hq1 0 (.int .i64 h)).setLow (N := w.heap.size + 1) hq1 1 (.slice (some ⟨g, 0, none⟩) n uc)).from_ (show w.heap.size ≤ w3.heap.size by omega)
      rw [HN.out] at hF
      exact bodyPost_ret (v := .tuple #[.agg #[.int .i64 h, .slice (some ⟨g, 0, none⟩) n uc], .int .i64 (-1)]) (by simp [results, Try.results15, go_sem, c0, c1]) rfl ⟨_, by rw [HE.out], by rw [HE.out]; exact hF, hB⟩
    · obtain ⟨m, hm⟩ : ∃ m, (rowAt ss i).length = m + 1 := ⟨(rowAt ss i).length - 1, by omega⟩
      have HM := Lib.hid hm
      rw [hm] at r5 s5 hui hc1 hrow hr5 s0
      have S0 := Lib.hid s0
      obtain ⟨b2, off2, rfl, hbl2, s2⟩ := hrow.at_ (show m < m + 1 by omega)
      have S2 := Lib.hid s2
      clear hm hz s2 hrow s0
      go_wp2_with fail
      rw [← HX5.out]
      refine (HIN.out _).mono ?_
      rintro e w' ⟨rfl, rfl⟩
      clear y4a
      go_upto_region 7 with fail
      obtain ⟨gi, rfl, -, -, -, hrc, hrc2, -, -⟩ := own_cell (HM.out ▸ hoi4) (show 0 < m + 1 by omega)
      unfold maxLen at hrc2
      have imc : (m : Int) ≤ (rc : Int) := by omega
      have i0m : (0 : Int) ≤ (m : Int) := by omega
      have HREL := Lib.hid (cut_step O5.out HN.out hi hui HM.out Y5.out Q5.out X5.out (by have := HS5.out; omega) (by have := HS5.out; omega) hgN hKg B5.out (by have := HS5.out; omega))
      have HGN := Lib.hid hgN
      clear hoi4 hgN O5 Y5 Q5 X5 B5 hui
      go_cut [] from 38 (fun wx => Hid (NewY w3.heap.size wx (.slice (some ⟨g, 0, none⟩) n uc) (ss.set i ((rowAt ss i).take m)) ∧ BoxY w.heap.size wx h (.slice (some ⟨b, off, none⟩) n cap) ∧ BoxY (w.heap.size + 1) wx 0 (.slice none 0 0) ∧ BoxY w4.heap.size wx h (.slice (some ⟨g, 0, none⟩) n uc) ∧ Below w.heap.size w wx))
      case first =>
        go_region
        all_goals
          go_wp2_with fail
          go_meet
          have hr := HREL.out
          exact Lib.hid ⟨hr.1.drew_, hr.2.1.drew_, hr.2.2.1.drew_, hr.2.2.2.1.drew_, hr.2.2.2.2.drew⟩
      case rest =>
        have HE := Lib.hid (HYES.out ht0 ht1 (by rw [HM.out]; omega))
        rw [HM.out, Nat.add_sub_cancel] at HE
        obtain ⟨n5, y5, q5, x5, b5⟩ := hcut.out
        have hq1 : w.heap.size + 1 < w3.heap.size := by have := HS5.out; omega
        have xc0 := x5.c0
        have xc1 := x5.c1
        have yc1 := y5.c1
        have c0 := q5.c0
        have c1 := q5.c1
        have e0 := q5.frozen 0
        have e1 := q5.frozen 1
        have N5 := Lib.hid n5
        have B5 := Lib.hid b5
        have sc : wc.cell? ⟨b, off + i, none⟩ = some (.slice (some ⟨b2, off2, none⟩) (m + 1) c) := (b5.cell (p := ⟨b, off + i, none⟩) hbl).trans S0.out
        have s2c : wc.cell? ⟨b2, off2 + m, none⟩ = some (.int .i64 ((rowAt ss i).getD m 0)) := (b5.cell (p := ⟨b2, off2 + m, none⟩) hbl2).trans S2.out
        have far : ∀ (p q : Value) (d o : Nat), d ≠ w.heap.size + 1 → ((wc.setCell ⟨w.heap.size + 1, 0, none⟩ p).setCell ⟨w.heap.size + 1, 1, none⟩ q).cell? ⟨d, o, none⟩ = wc.cell? ⟨d, o, none⟩ := fun p q d o hd => (World.cell?_of_block (w := wc.setCell ⟨w.heap.size + 1, 0, none⟩ p) (Below.heap_setCell _ _ _ _ hd)).trans (World.cell?_of_block (w := wc) (Below.heap_setCell _ _ _ _ hd))
        have yca : ∀ p q : Value, ((wc.setCell ⟨w.heap.size + 1, 0, none⟩ p).setCell ⟨w.heap.size + 1, 1, none⟩ q).cell? ⟨w.heap.size, 1, none⟩ = some (.slice (some ⟨b, off, none⟩) n cap) := fun p q => (far p q _ _ (by omega)).trans yc1
        have sca : ∀ p q : Value, ((wc.setCell ⟨w.heap.size + 1, 0, none⟩ p).setCell ⟨w.heap.size + 1, 1, none⟩ q).cell? ⟨b, off + i, none⟩ = some (.slice (some ⟨b2, off2, none⟩) (m + 1) c) := fun p q => (far p q _ _ (by omega)).trans sc
        have s2a : ∀ p q : Value, ((wc.setCell ⟨w.heap.size + 1, 0, none⟩ p).setCell ⟨w.heap.size + 1, 1, none⟩ q).cell? ⟨b2, off2 + m, none⟩ = some (.int .i64 ((rowAt ss i).getD m 0)) := fun p q => (far p q _ _ (by omega)).trans s2c
        have hB := Lib.hid ((b5.setCell (p := ⟨w.heap.size + 1, 0, none⟩) (Nat.le_add_right _ _) (.int .i64 h)).setCell (p := ⟨w.heap.size + 1, 1, none⟩) (Nat.le_add_right _ _) (.slice (some ⟨g, 0, none⟩) n uc))
        have hF := Lib.hid (((n5.setLow (N := w.heap.size + 1) hq1 0 (.int .i64 h)).setLow (N := w.heap.size + 1) hq1 1 (.slice (some ⟨g, 0, none⟩) n uc)).from_ (show w.heap.size ≤ w3.heap.size by omega))
        have imm : (m : Int) < ((m + 1 : Nat) : Int) := by omega
        clear n5 y5 q5 x5 b5 far hcut N5 B5 HREL S0 S2 HYES HNO HW HC
        generalize (rowAt ss i).getD m 0 = z at HE s2c s2a
        go_wp2_with fail
        go_region
        all_goals
          go_wp2_with fail
          exact bodyPost_ret (v := .tuple #[.agg #[.int .i64 h, .slice (some ⟨g, 0, none⟩) n uc], .int .i64 z]) (by simp [results, Try.results15, go_sem, c0, c1]) rfl ⟨_, by rw [HE.out], by rw [HE.out]; exact hF.out.drew_, hB.out.drew⟩
  · have HIN := Lib.hid fun w => l1In_no f 0 ((n : Int) - 1) w (by omega)
    have HE := Lib.hid (HNO.out fun hc => hin ⟨hc.1, hc.2.1⟩)
    clear hin HYES HNO HROW5
    go_enter Try.func15, Try.ntmps15
    go_wp2_with fail
    rw [← HX2.out]
    refine HV.out.mono ?_
    rintro e w3 ⟨rfl, b3⟩
    obtain ⟨hb2, hY0, hR0, hz2⟩ := H0.out
    have y3 := hY0.keep b3
    have q3 := hR0.keep b3
    have d0 := y3.c0
    have d1 := y3.c1
    have B3 := Lib.hid (hb2.trans (b3.mono hb2.size))
    have s3 := b3.size
    have HS3 := Lib.hid (show w.heap.size + 2 ≤ w3.heap.size by omega)
    have Y3 := Lib.hid y3
    have Q3 := Lib.hid q3
    clear hb2 hY0 hR0 hz2 b3 s3 HX2 H0 HV y3 q3
    go_wp2_with fail
    refine (HC.out _ B3.out).mono ?_
    rintro e w4 ⟨u, us, rfl, o4, b4⟩
    obtain ⟨ua, uc, rfl⟩ := own_slice o4.out
    have y4a : ∀ o : Obj, (w4.alloc o).cell? ⟨w.heap.size, 1, none⟩ = some (.slice a n cap) := fun o => (((Below.refl w4.heap.size w4).alloc (Nat.le_refl _) o).cell (p := ⟨w.heap.size, 1, none⟩) (Y3.out.keep b4).lt).trans (Y3.out.keep b4).c1
    have hb5 := (Below.refl w4.heap.size w4).alloc (Nat.le_refl _) (.cells #[.int .i64 h, .slice ua n uc] 29)
    have x5 := BoxY.new w4 h (.slice ua n uc)
    obtain ⟨w5, hw5⟩ : ∃ w5, w5 = w4.alloc (.cells #[.int .i64 h, .slice ua n uc] 29) := ⟨_, rfl⟩
    rw [← hw5] at hb5 x5
    have q5 := (Q3.out.keep b4).keep hb5
    have HX5 := Lib.hid hw5
    have x50 := x5.c0
    have x51 := x5.c1
    have c0 := q5.c0
    have c1 := q5.c1
    have e0 := q5.frozen 0
    have e1 := q5.frozen 1
    have B5 := Lib.hid (B3.out.trans ((b4.trans (hb5.mono b4.size)).mono B3.out.size))
    have O5 := Lib.hid (o4.far (fun k _ hk => hb5.block k hk))
    clear hb5 x5 hw5 q5 b4 o4 HC d0 d1 B3 Y3 Q3
    go_wp2_with fail
    rw [← HX5.out]
    refine (HIN.out _).mono ?_
    rintro e w' ⟨rfl, rfl⟩
    clear y4a
    go_wp2_with fail
    have hW3 := HS3.out
    have hB := (B5.out.setCell (p := ⟨w.heap.size + 1, 0, none⟩) (Nat.le_add_right _ _) (.int .i64 h)).setCell (p := ⟨w.heap.size + 1, 1, none⟩) (Nat.le_add_right _ _) (.slice ua n uc)
    have hO := O5.out
    rw [← HN.out] at hO
    have hF := ((hO.newY.setLow (N := w.heap.size + 1) (by omega) 0 (.int .i64 h)).setLow (N := w.heap.size + 1) (by omega) 1 (.slice ua n uc)).from_ (show w.heap.size ≤ w3.heap.size by omega)
    rw [HN.out] at hF
    exact bodyPost_ret (v := .tuple #[.agg #[.int .i64 h, .slice ua n uc], .int .i64 (-1)]) (by simp [results, Try.results15, go_sem, c0, c1]) rfl ⟨_, by rw [HE.out], by rw [HE.out]; exact hF, hB⟩
theorem specYardTake_any (h : Int) (v : Value) (ss : List (List Int)) (f : Int) (w : World) (hh : HoldsY w v ss) (hbd : ss.flatten.length ≤ 1048577) :
    Calls Try.prog 15 #[.agg #[.int .i64 h, v], .int .i64 f] w (TakeYGives h ss f w) := by
  cases hok : ydOk h ss
  · exact specYardTake_bad h v ss f w hh hbd hok
  · exact specYardTake_good h v ss f w hh hok
end Go.Proofs.Ytlcfldmiibjboab
