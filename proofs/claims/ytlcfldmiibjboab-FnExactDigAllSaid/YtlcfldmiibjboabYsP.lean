/-
  The contract of the model's YardPut.
-/
import Derived.Test.YtlcfldmiibjboabYv
import Derived.Test.YtlcfldmiibjboabGYh
import Derived.Test.YtlcfldmiibjboabYsC
namespace Go.Proofs.Ytlcfldmiibjboab
open Go.RowKit
set_option linter.unusedVariables false

theorem put_flat {ss : List (List Int)} {i : Nat} {id : Int} (hi : i < ss.length) : (ss.set i (rowAt ss i ++ [id])).flatten.length = ss.flatten.length + 1 := by
  have := (flat_put ss i id hi).length_eq
  rw [this]; rfl
/-- A box laid onto a row of a copy. -/
theorem put_step {w w5 X w6 : World} {K N2 A A' g n uc i r g6 c6 : Nat} {us : List Value} {ss : List (List Int)} {ui v1 v2 : Value} {h h2 id : Int} (o5 : OwnY K w5 (.slice (some ⟨g, 0, none⟩) n uc) us n (rowAt ss)) (hn : ss.length = n) (hi : i < n) (hui : us[i]? = some ui) (hX : Below w5.heap.size w5 X)
    (h6 : w6.ownsRow K 3 1 (.slice (some ⟨g6, 0, none⟩) (r + 1) c6) (r + 1) (rowI (rowAt ss i) ++ [.int .i64 id]) ∧ Below K X w6 ∧ (ui.ownBlock = some g6 ∨ g6 = X.heap.size) ∧ ∀ j, j < X.heap.size → ui.ownBlock ≠ some j → w6.heap[j]? = X.heap[j]?) (hr : (rowAt ss i).length = r)
    (y : BoxY A w5 h v1) (q : BoxY A' w5 h2 v2) (x : BoxY N2 w5 h (.slice (some ⟨g, 0, none⟩) n uc)) (hA : A < K) (hA' : A' < K) (hub : ui.ownBlock ≠ some N2) (hgN : g ≠ N2) (hgK : K ≤ g) (b5 : Below w.heap.size w w5) (hWK : w.heap.size ≤ K) (hK5 : K ≤ w5.heap.size) :
    NewY K (w6.setCell ⟨g, i, none⟩ (.slice (some ⟨g6, 0, none⟩) (r + 1) c6)) (.slice (some ⟨g, 0, none⟩) n uc) (ss.set i (rowAt ss i ++ [id])) ∧ BoxY A (w6.setCell ⟨g, i, none⟩ (.slice (some ⟨g6, 0, none⟩) (r + 1) c6)) h v1 ∧ BoxY A' (w6.setCell ⟨g, i, none⟩ (.slice (some ⟨g6, 0, none⟩) (r + 1) c6)) h2 v2 ∧ BoxY N2 (w6.setCell ⟨g, i, none⟩ (.slice (some ⟨g6, 0, none⟩) (r + 1) c6)) h (.slice (some ⟨g, 0, none⟩) n uc) ∧ Below w.heap.size w (w6.setCell ⟨g, i, none⟩ (.slice (some ⟨g6, 0, none⟩) (r + 1) c6)) := by
  obtain ⟨q1, q2, q3, q4⟩ := h6
  have hx1 := x.lt
  have hXs := hX.size
  have far : ∀ k, k ≠ g → (w6.setCell ⟨g, i, none⟩ (.slice (some ⟨g6, 0, none⟩) (r + 1) c6)).heap[k]? = w6.heap[k]? := fun k hk' => Below.heap_setCell _ _ _ _ hk'
  refine ⟨?_, ?_, ?_, ?_, ?_⟩
  · refine o5.put hn hi hui hX (m := r + 1) ?_ (by rw [List.length_append, hr]; rfl) q2.size q4 q3
    rw [rowI_app]
    exact q1
  · exact y.at_ (by rw [far A (by omega), q2.block A hA, hX.block A y.lt])
  · exact q.at_ (by rw [far A' (by omega), q2.block A' hA', hX.block A' q.lt])
  · exact x.at_ (by rw [far N2 (Ne.symm hgN), q4 N2 (by omega) hub, hX.block N2 hx1])
  · exact (b5.trans ((hX.mono b5.size).trans (q2.mono hWK))).setCell (p := ⟨g, i, none⟩) (Nat.le_trans hWK hgK) _

/-- What a call gives that puts onto a yard. -/
def PutYGives (h : Int) (ss : List (List Int)) (t id : Int) (w : World) (e : Ending) (w' : World) : Prop :=
  ∃ u, e = .returned (.tuple #[.agg #[.int .i64 (putY h ss t id).1.1, u], .bool (putY h ss t id).2]) ∧ NewY w.heap.size w' u (putY h ss t id).1.2 ∧ Below w.heap.size w w'

set_option maxRecDepth 10000 in
set_option maxHeartbeats 2000000 in
theorem specYardPut_bad (h : Int) (v : Value) (ss : List (List Int)) (t id : Int) (w : World) (hh : HoldsY w v ss) (hbd : ss.flatten.length ≤ 1048577) (hok : ydOk h ss = false) :
    Calls Try.prog 41 #[.agg #[.int .i64 h, v], .int .i64 t, .int .i64 id] w (PutYGives h ss t id w) := by
  have hb2 := ((Below.refl w.heap.size w).alloc (Nat.le_refl _) (.cells #[.int .i64 h, v] 29)).alloc (by simp) (.cells #[.int .i64 0, .slice none 0 0] 29)
  have HV := Lib.hid (specYardValid_any h v ss _ (hh.keep hb2) hbd)
  have hR0 : BoxY (w.heap.size + 1) ((w.alloc (.cells #[.int .i64 h, v] 29)).alloc (.cells #[.int .i64 0, .slice none 0 0] 29)) 0 (.slice none 0 0) := two_hi _ _ _
  have HR := Lib.hid hR0
  have HB := Lib.hid hb2
  unfold PutYGives
  rw [hok] at HV
  rw [putY_bad hok]
  clear hok hh hb2 hR0
  go_enter Try.func41, Try.ntmps41
  go_wp2_with fail
  refine HV.out.mono ?_
  rintro e w3 ⟨rfl, b3⟩
  have g3 := HR.out.keep b3
  have c0 := g3.c0
  have c1 := g3.c1
  have e0 := g3.frozen 0
  have e1 := g3.frozen 1
  have B3 := Lib.hid (HB.out.trans (b3.mono HB.out.size))
  clear b3 g3 HR HB HV
  go_wp2_with fail
  have hB := (B3.out.setCell (p := ⟨w.heap.size + 1, 0, none⟩) (Nat.le_add_right _ _) (.int .i64 0)).setCell (p := ⟨w.heap.size + 1, 1, none⟩) (Nat.le_add_right _ _) (.slice none 0 0)
  exact bodyPost_ret (v := .tuple #[.agg #[.int .i64 0, .slice none 0 0], .bool false]) (by simp [results, Try.results41, go_sem, c0, c1]) rfl ⟨_, rfl, NewY.zero, hB⟩

set_option maxRecDepth 10000 in
set_option maxHeartbeats 4000000 in
theorem specYardPut_good (h : Int) (v : Value) (ss : List (List Int)) (t id : Int) (w : World) (hh : HoldsY w v ss) (hok : ydOk h ss = true) :
    Calls Try.prog 41 #[.agg #[.int .i64 h, v], .int .i64 t, .int .i64 id] w (PutYGives h ss t id w) := by
  obtain ⟨i0, hi, hz0, hz1, hz2⟩ := info_parts infoInt
  have HI := Lib.hid hi
  have HZ0 := Lib.hid hz0
  have HZ1 := Lib.hid hz1
  have HZ2 := Lib.hid hz2
  clear hi hz0 hz1 hz2
  have hfl25 := ydOk_size hok
  have hbd : ss.flatten.length ≤ 1048577 := by omega
  have hb2 := ((Below.refl w.heap.size w).alloc (Nat.le_refl _) (.cells #[.int .i64 h, v] 29)).alloc (by simp) (.cells #[.int .i64 0, .slice none 0 0] 29)
  have hV0 := specYardValid_any h v ss _ (hh.keep hb2) hbd
  have hY0 : BoxY w.heap.size ((w.alloc (.cells #[.int .i64 h, v] 29)).alloc (.cells #[.int .i64 0, .slice none 0 0] 29)) h v := two_lo _ _ _
  have hR0 : BoxY (w.heap.size + 1) ((w.alloc (.cells #[.int .i64 h, v] 29)).alloc (.cells #[.int .i64 0, .slice none 0 0] 29)) 0 (.slice none 0 0) := two_hi _ _ _
  obtain ⟨W2, hW2⟩ : ∃ W2, W2 = (w.alloc (.cells #[.int .i64 h, v] 29)).alloc (.cells #[.int .i64 0, .slice none 0 0] 29) := ⟨_, rfl⟩
  rw [← hW2] at hb2 hV0 hY0 hR0
  have hz2 : W2.heap.size = w.heap.size + 2 := by rw [hW2]; simp
  have HX2 := Lib.hid hW2
  have H0 := Lib.hid (And.intro hb2 (And.intro hY0 (And.intro hR0 hz2)))
  have HV := Lib.hid hV0
  rw [hok] at HV
  have HW := Lib.hid fun w' (hb : Below w.heap.size w w') => hh.keep hb
  have HC := Lib.hid fun w' (hb : Below w.heap.size w w') => l4Copy_any h v ss w' (hh.keep hb) hok
  unfold CopyGives at HC
  have hn5 : ss.length ≤ 5 := (ydOk_iff.1 hok).2.2.2.1
  have hn1 : 1 ≤ ss.length := (ydOk_iff.1 hok).2.2.1
  have HROW5 := Lib.hid fun k (hl : k < ss.length) => stOk_len (ydOk_row hok hl)
  have HYES := Lib.hid fun h0 h1 h2 => putY_yes (t := t) (id := id) hok h0 h1 h2
  have HNO := Lib.hid fun hf => putY_no (t := t) (id := id) hok hf
  obtain ⟨n, hn⟩ : ∃ n, n = ss.length := ⟨_, rfl⟩
  have HN := Lib.hid hn.symm
  obtain ⟨a, cap, rfl⟩ : ∃ a cap, v = .slice a ss.length cap := by obtain ⟨a, cap, h1, _⟩ := hh; exact ⟨a, cap, h1⟩
  unfold PutYGives
  rw [← hn] at HX2 H0 HV HW HC hn5 hn1 HROW5 HYES HNO ⊢
  have hfl0 : ss.flatten.length ≤ 25 := hfl25
  clear hn hh hok hb2 hV0 hY0 hR0 hW2 hz2 hbd hfl25
  by_cases hin : 0 ≤ t ∧ t < (n : Int)
  · obtain ⟨ht0, ht1⟩ := hin
    obtain ⟨i, rfl⟩ := Int.eq_ofNat_of_zero_le ht0
    have hi : i < n := by omega
    have his : i < ss.length := by rw [HN.out]; exact hi
    have HIN := Lib.hid fun w => l1In_yes (i : Int) 0 ((n : Int) - 1) w (by omega) (by omega)
    rw [Int.toNat_natCast] at HYES HNO
    have hr5 := HROW5.out i hi
    have hfl : (ss.set i (rowAt ss i ++ [id])).flatten.length ≤ 1048577 := by rw [put_flat his]; omega
    have HV2 := Lib.hid fun u w' hu => specYardValid_any h u (ss.set i (rowAt ss i ++ [id])) w' hu hfl
    go_enter Try.func41, Try.ntmps41
    go_wp2_with fail
    rw [← HX2.out]
    refine HV.out.mono ?_
    rintro e w3 ⟨rfl, b3⟩
    obtain ⟨hb2, hY0, hR0, hz2⟩ := H0.out
    have y3 := hY0.keep b3
    have q3 := hR0.keep b3
    have d0 := y3.c0
    have d1 := y3.c1
    have B3 := Lib.hid (hb2.trans (b3.mono hb2.size))
    have s3 := b3.size
    have HS3 := Lib.hid (show w.heap.size + 2 ≤ w3.heap.size by omega)
    have Y3 := Lib.hid y3
    have Q3 := Lib.hid q3
    clear hb2 hY0 hR0 hz2 b3 s3 HX2 H0 HV y3 q3
    go_wp2_with fail
    refine (HC.out _ B3.out).mono ?_
    rintro e w4 ⟨u, us, rfl, o4, b4⟩
    obtain ⟨ua, uc, rfl⟩ := own_slice o4.out
    obtain ⟨g, rfl, -, hKg, hgl, hgc, hgm, hgcell, hgfr⟩ := own_cell o4.out hi
    obtain ⟨ui, hui, hoi4, -⟩ := o4.row i hi
    have hub : ui.ownBlock ≠ some w4.heap.size := fun e => by have := (own_lt hoi4 _ e).2; omega
    obtain ⟨ra, rc, rfl⟩ := own_slice hoi4
    obtain ⟨r, hrr⟩ : ∃ r, r = (rowAt ss i).length := ⟨_, rfl⟩
    have HRR := Lib.hid hrr.symm
    rw [← hrr] at hui hoi4 hub hr5
    clear hrr
    have hb5 := (Below.refl w4.heap.size w4).alloc (Nat.le_refl _) (.cells #[.int .i64 h, .slice (some ⟨g, 0, none⟩) n uc] 29)
    have x5 := BoxY.new w4 h (.slice (some ⟨g, 0, none⟩) n uc)
    obtain ⟨w5, hw5⟩ : ∃ w5, w5 = w4.alloc (.cells #[.int .i64 h, .slice (some ⟨g, 0, none⟩) n uc] 29) := ⟨_, rfl⟩
    rw [← hw5] at hb5 x5
    have hs5 : w5.heap.size = w4.heap.size + 1 := by rw [hw5]; simp
    have b35 := b4.trans (hb5.mono b4.size)
    have y4a : ∀ o : Obj, (w4.alloc o).cell? ⟨w.heap.size, 1, none⟩ = some (.slice a n cap) := fun o => (((Below.refl w4.heap.size w4).alloc (Nat.le_refl _) o).cell (p := ⟨w.heap.size, 1, none⟩) (Y3.out.keep b4).lt).trans (Y3.out.keep b4).c1
    have y5 := (Y3.out.keep b4).keep hb5
    have q5 := (Q3.out.keep b4).keep hb5
    have o5 := o4.far (fun k _ hk => hb5.block k hk)
    have hoi5 := own_stay hoi4 hb5
    have r5 : w5.cell? ⟨g, i, none⟩ = some (.slice ra r rc) := (hb5.cell (p := ⟨g, i, none⟩) hgl).trans (hgcell.trans hui)
    have fr5 : w5.frozen? ⟨g, i, none⟩ = false := (hb5.frozen (p := ⟨g, i, none⟩) hgl).trans hgfr
    have hgN : g ≠ w4.heap.size := by omega
    have hoffg : (Value.slice ra r rc).ownBlock ≠ some g := fun e => by
      obtain ⟨u', hu', _, hof⟩ := o4.row i hi
      rw [hui] at hu'
      obtain rfl := Option.some.inj hu'
      exact hof g e rfl
    have HX5 := Lib.hid hw5
    have y50 := y5.c0
    have y51 := y5.c1
    have x50 := x5.c0
    have x51 := x5.c1
    have O5 := Lib.hid o5
    have X5 := Lib.hid x5
    have Y5 := Lib.hid y5
    have Q5 := Lib.hid q5
    have B5 := Lib.hid (B3.out.trans (b35.mono B3.out.size))
    have HS5 := Lib.hid (show w.heap.size + 2 ≤ w3.heap.size ∧ w3.heap.size ≤ w4.heap.size ∧ w5.heap.size = w4.heap.size + 1 from ⟨HS3.out, b4.size, hs5⟩)
    clear hb5 x5 hw5 hs5 b35 y5 q5 o5 b4 o4 d0 d1 B3 Y3 Q3 HS3 hgcell hgfr
    go_wp2_with fail
    rw [← HX5.out]
    refine (HIN.out _).mono ?_
    rintro e w' ⟨rfl, rfl⟩
    clear y4a
    go_upto_region 6 with fail
    have x51a : ∀ o : Obj, (w5.alloc o).cell? ⟨w4.heap.size, 1, none⟩ = some (.slice (some ⟨g, 0, none⟩) n uc) := fun o => (((Below.refl w5.heap.size w5).alloc (Nat.le_refl _) o).cell (p := ⟨w4.heap.size, 1, none⟩) X5.out.lt).trans x51
    have hgl5 : g < w5.heap.size := by have := HS5.out; omega
    have r5a : ∀ o : Obj, (w5.alloc o).cell? ⟨g, i, none⟩ = some (.slice ra r rc) := fun o => (((Below.refl w5.heap.size w5).alloc (Nat.le_refl _) o).cell (p := ⟨g, i, none⟩) hgl5).trans r5
    have fr5a : ∀ o : Obj, (w5.alloc o).frozen? ⟨g, i, none⟩ = false := fun o => (((Below.refl w5.heap.size w5).alloc (Nat.le_refl _) o).frozen (p := ⟨g, i, none⟩) hgl5).trans fr5
    have OI := Lib.hid fun o : Obj => own_stay hoi5 ((Below.refl w5.heap.size w5).alloc (Nat.le_refl _) o)
    have hK5 : w3.heap.size ≤ w5.heap.size := by have := HS5.out; omega
    have hN5 : w4.heap.size < w5.heap.size := X5.out.lt
    have ik : (i : Int) < (n : Int) := by omega
    have HLN := Lib.hid fun o : Obj => Nat.lt_of_lt_of_le hN5 ((Below.refl w5.heap.size w5).alloc (Nat.le_refl _) o).size
    have HLG := Lib.hid fun o : Obj => Nat.lt_of_lt_of_le hgl5 ((Below.refl w5.heap.size w5).alloc (Nat.le_refl _) o).size
    have HLK := Lib.hid fun o : Obj => Nat.le_trans hK5 ((Below.refl w5.heap.size w5).alloc (Nat.le_refl _) o).size
    have HUB := Lib.hid hub
    have HOG := Lib.hid hoffg
    have HGN := Lib.hid hgN
    clear hub hoffg hgN hoi5
    go_cut [] from 23 (fun wx => Hid (NewY w3.heap.size wx (.slice (some ⟨g, 0, none⟩) n uc) (ss.set i (rowAt ss i ++ [id])) ∧ BoxY w.heap.size wx h (.slice a n cap) ∧ BoxY (w.heap.size + 1) wx 0 (.slice none 0 0) ∧ BoxY w4.heap.size wx h (.slice (some ⟨g, 0, none⟩) n uc) ∧ Below w.heap.size w wx))
    case first =>
      (first | go_region_law (first
        | (refine step_append_y (by rfl) _ _ 25 (by rfl) w3.heap.size 3 i0 (.int .i64 0) 1 8 Try.underlying25 HI.out HZ0.out HZ1.out HZ2.out rfl (by decide) _ r (rowI (rowAt ss i)) (by rfl) (OI.out _) ⟨w5.heap.size, 0, none⟩ 1 1 [.int .i64 id] (by rfl) rfl (fun j u hu => cells_new j u hu) (by simp [Value.oneCell']) (by decide) (by unfold maxLen; omega) (by omega) (HLK.out _) ?_; intro g6 c6 w6 ho6 hb6 hg6 hk6; have HB6 := Lib.hid (And.intro ho6 (And.intro hb6 (And.intro hg6 hk6))); have x6 : w6.cell? ⟨w4.heap.size, 1, none⟩ = some (.slice (some ⟨g, 0, none⟩) n uc) := (World.cell?_of_block (hk6 w4.heap.size (HLN.out _) HUB.out)).trans (x51a _); have r6 : w6.cell? ⟨g, i, none⟩ = some (.slice ra r rc) := (World.cell?_of_block (hk6 g (HLG.out _) HOG.out)).trans (r5a _); have fr6 : w6.frozen? ⟨g, i, none⟩ = false := (World.frozen?_of_block (hk6 g (HLG.out _) HOG.out)).trans (fr5a _); clear ho6 hb6 hg6 hk6)) | fail)
      all_goals
        have HREL := Lib.hid (put_step O5.out HN.out hi hui ((Below.refl _ _).alloc (Nat.le_refl _) _).drew HB6.out HRR.out Y5.out Q5.out X5.out (by have := HS5.out; omega) (by have := HS5.out; omega) HUB.out HGN.out hKg B5.out (by have := HS5.out; omega) hK5)
        clear HB6 x6 r6 fr6
        go_wp2_with fail
        go_meet
        exact HREL
    case rest =>
      clear x51a r5a fr5a r5 fr5 x50 x51 y50 y51 X5 Y5 Q5 B5 O5 OI
      obtain ⟨n5, y5, q5, x5, b5⟩ := hcut.out
      have HV3 := Lib.hid (HV2.out _ wc n5.holds)
      have N5 := Lib.hid n5
      have Y5 := Lib.hid y5
      have Q5 := Lib.hid q5
      have X5 := Lib.hid x5
      have B5 := Lib.hid b5
      have x50 := x5.c0
      have x51 := x5.c1
      have hW3 : w.heap.size + 2 ≤ w3.heap.size := HS5.out.1
      clear n5 y5 q5 x5 b5 hcut
      cases hok2 : ydOk h (ss.set i (rowAt ss i ++ [id]))
      · rw [hok2] at HV3
        have HE := Lib.hid (HNO.out fun hc => by rw [hok2] at hc; exact absurd hc.2.2 (by decide))
        clear hok2 HYES HNO
        go_wp2_with fail
        refine HV3.out.mono ?_
        rintro e w7 ⟨rfl, b7⟩
        have b07 := B5.out.trans (b7.mono B5.out.size)
        have B7 := Lib.hid b07
        have y7 := Y5.out.keep b7
        have q7 := Q5.out.keep b7
        have y70 := y7.c0
        have y71 := y7.c1
        have Q7 := Lib.hid q7
        clear b07 y7 q7 b7 Y5 Q5 X5 x50 x51 HV3 N5
        go_wp2_with fail
        refine (HC.out _ B7.out).mono ?_
        rintro e w8 ⟨u8, us8, rfl, o8, b8⟩
        obtain ⟨a8, c8, rfl⟩ := own_slice o8.out
        have hq1 : w.heap.size + 1 < w7.heap.size := Q7.out.lt
        have q8 := Q7.out.keep b8
        have c0 := q8.c0
        have c1 := q8.c1
        have e0 := q8.frozen 0
        have e1 := q8.frozen 1
        have B8 := Lib.hid (B7.out.trans (b8.mono B7.out.size))
        have N8 := Lib.hid (o8.far (w' := w8) (fun _ _ _ => rfl))
        clear o8 b8 q8 HC y70 y71
        go_wp2_with fail
        have hB := (B8.out.setCell (p := ⟨w.heap.size + 1, 0, none⟩) (Nat.le_add_right _ _) (.int .i64 h)).setCell (p := ⟨w.heap.size + 1, 1, none⟩) (Nat.le_add_right _ _) (.slice a8 n c8)
        have hO := N8.out
        rw [← HN.out] at hO
        have hF := ((hO.newY.setLow (N := w.heap.size + 1) hq1 0 (.int .i64 h)).setLow (N := w.heap.size + 1) hq1 1 (.slice a8 n c8)).from_ (Nat.le_of_lt (Nat.lt_of_le_of_lt (Nat.le_succ _) hq1))
        rw [HN.out] at hF
        exact bodyPost_ret (v := .tuple #[.agg #[.int .i64 h, .slice a8 n c8], .bool false]) (by simp [results, Try.results41, go_sem, c0, c1]) rfl ⟨_, by rw [HE.out], by rw [HE.out]; exact hF, hB⟩
      · rw [hok2] at HV3
        have HE := Lib.hid (HYES.out ht0 ht1 hok2)
        clear hok2 HYES HNO HC
        go_wp2_with fail
        refine HV3.out.mono ?_
        rintro e w7 ⟨rfl, b7⟩
        have B7 := Lib.hid (B5.out.trans (b7.mono B5.out.size))
        have x7 := X5.out.keep b7
        have q7 := Q5.out.keep b7
        have x70 := x7.c0
        have x71 := x7.c1
        have c0 := q7.c0
        have c1 := q7.c1
        have e0 := q7.frozen 0
        have e1 := q7.frozen 1
        have N7 := Lib.hid (N5.out.keep b7)
        clear b7 x7 q7 X5 Q5 Y5 N5 HV3 x50 x51
        go_wp2_with fail
        have hB := (B7.out.setCell (p := ⟨w.heap.size + 1, 0, none⟩) (Nat.le_add_right _ _) (.int .i64 h)).setCell (p := ⟨w.heap.size + 1, 1, none⟩) (Nat.le_add_right _ _) (.slice (some ⟨g, 0, none⟩) n uc)
        have hF := ((N7.out.setLow (N := w.heap.size + 1) (by omega) 0 (.int .i64 h)).setLow (N := w.heap.size + 1) (by omega) 1 (.slice (some ⟨g, 0, none⟩) n uc)).from_ (show w.heap.size ≤ w3.heap.size by omega)
        exact bodyPost_ret (v := .tuple #[.agg #[.int .i64 h, .slice (some ⟨g, 0, none⟩) n uc], .bool true]) (by simp [results, Try.results41, go_sem, c0, c1]) rfl ⟨_, by rw [HE.out], by rw [HE.out]; exact hF, hB⟩
  · have HIN := Lib.hid fun w => l1In_no t 0 ((n : Int) - 1) w (by omega)
    have HE := Lib.hid (HNO.out fun hc => hin ⟨hc.1, hc.2.1⟩)
    clear hin HYES HNO HROW5
    go_enter Try.func41, Try.ntmps41
    go_wp2_with fail
    rw [← HX2.out]
    refine HV.out.mono ?_
    rintro e w3 ⟨rfl, b3⟩
    obtain ⟨hb2, hY0, hR0, hz2⟩ := H0.out
    have y3 := hY0.keep b3
    have q3 := hR0.keep b3
    have d0 := y3.c0
    have d1 := y3.c1
    have B3 := Lib.hid (hb2.trans (b3.mono hb2.size))
    have s3 := b3.size
    have HS3 := Lib.hid (show w.heap.size + 2 ≤ w3.heap.size by omega)
    have Y3 := Lib.hid y3
    have Q3 := Lib.hid q3
    clear hb2 hY0 hR0 hz2 b3 s3 HX2 H0 HV y3 q3
    go_wp2_with fail
    refine (HC.out _ B3.out).mono ?_
    rintro e w4 ⟨u, us, rfl, o4, b4⟩
    obtain ⟨ua, uc, rfl⟩ := own_slice o4.out
    have y4a : ∀ o : Obj, (w4.alloc o).cell? ⟨w.heap.size, 1, none⟩ = some (.slice a n cap) := fun o => (((Below.refl w4.heap.size w4).alloc (Nat.le_refl _) o).cell (p := ⟨w.heap.size, 1, none⟩) (Y3.out.keep b4).lt).trans (Y3.out.keep b4).c1
    have hb5 := (Below.refl w4.heap.size w4).alloc (Nat.le_refl _) (.cells #[.int .i64 h, .slice ua n uc] 29)
    have x5 := BoxY.new w4 h (.slice ua n uc)
    obtain ⟨w5, hw5⟩ : ∃ w5, w5 = w4.alloc (.cells #[.int .i64 h, .slice ua n uc] 29) := ⟨_, rfl⟩
    rw [← hw5] at hb5 x5
    have q5 := (Q3.out.keep b4).keep hb5
    have HX5 := Lib.hid hw5
    have x50 := x5.c0
    have x51 := x5.c1
    have c0 := q5.c0
    have c1 := q5.c1
    have e0 := q5.frozen 0
    have e1 := q5.frozen 1
    have B5 := Lib.hid (B3.out.trans ((b4.trans (hb5.mono b4.size)).mono B3.out.size))
    have O5 := Lib.hid (o4.far (fun k _ hk => hb5.block k hk))
    clear hb5 x5 hw5 q5 b4 o4 HC d0 d1 B3 Y3 Q3
    go_wp2_with fail
    rw [← HX5.out]
    refine (HIN.out _).mono ?_
    rintro e w' ⟨rfl, rfl⟩
    clear y4a
    go_wp2_with fail
    have hW3 := HS3.out
    have hB := (B5.out.setCell (p := ⟨w.heap.size + 1, 0, none⟩) (Nat.le_add_right _ _) (.int .i64 h)).setCell (p := ⟨w.heap.size + 1, 1, none⟩) (Nat.le_add_right _ _) (.slice ua n uc)
    have hO := O5.out
    rw [← HN.out] at hO
    have hF := ((hO.newY.setLow (N := w.heap.size + 1) (by omega) 0 (.int .i64 h)).setLow (N := w.heap.size + 1) (by omega) 1 (.slice ua n uc)).from_ (show w.heap.size ≤ w3.heap.size by omega)
    rw [HN.out] at hF
    exact bodyPost_ret (v := .tuple #[.agg #[.int .i64 h, .slice ua n uc], .bool false]) (by simp [results, Try.results41, go_sem, c0, c1]) rfl ⟨_, by rw [HE.out], by rw [HE.out]; exact hF, hB⟩
theorem specYardPut_any (h : Int) (v : Value) (ss : List (List Int)) (t id : Int) (w : World) (hh : HoldsY w v ss) (hbd : ss.flatten.length ≤ 1048577) :
    Calls Try.prog 41 #[.agg #[.int .i64 h, v], .int .i64 t, .int .i64 id] w (PutYGives h ss t id w) := by
  cases hok : ydOk h ss
  · exact specYardPut_bad h v ss t id w hh hbd hok
  · exact specYardPut_good h v ss t id w hh hok
end Go.Proofs.Ytlcfldmiibjboab
