/-
  The draw of uses: lists of plugs, built row by row.
-/
import Derived.Test.YthlcjojhmhoadaaGYk
import Derived.Deep.AppendLies
import Derived.Deep.OwnRows
import Derived.Deep.RegionLaw
import Derived.Deep.CutRange
import Derived.Deep.CutBlock
namespace Go.Proofs.Ythlcjojhmhoadaa
open Go.RowKit
set_option linter.unusedVariables false

/-- A draw's uses under way: the reader, the rows. -/
structure UsSt (base B p : Nat) (w wr : World) (u : Value) (us : List Value) (ss : List (List Int)) : Prop where
  rdr : Rdr base B p wr
  lt : B < w.heap.size
  own : OwnY w.heap.size wr u us ss.length (rowAt ss)
  most : MostB B w wr
theorem UsSt.far {base B p q : Nat} {w wr wx : World} {u : Value} {us : List Value} {ss : List (List Int)} (s : UsSt base B p w wr u us ss) (hm : MostB B wr wx) (hr : Rdr base B q wx) : UsSt base B q w wx u us ss := by
  have hl := s.lt
  exact ⟨hr, hl, s.own.far fun k hk hkl => hm.block k (by omega) hkl, s.most.trans hm⟩
theorem UsSt.keep {base B p : Nat} {w wr wx : World} {u : Value} {us : List Value} {ss : List (List Int)} (s : UsSt base B p w wr u us ss) (hb : Below wr.heap.size wr wx) : UsSt base B p w wx u us ss :=
  s.far ((MostB.refl B wr).below_ hb) (s.rdr.keepK hb s.rdr.2.1)
theorem UsSt.row {base B p q : Nat} {w wr w5 w6 : World} {u s : Value} {us : List Value} {ss : List (List Int)} {l : List Int} {o : Obj} {g cap : Nat} (st : UsSt base B p w wr u us ss) (hm : MostB B wr w5) (hr : Rdr base B q w5)
    (hs : w5.ownsRow wr.heap.size 3 1 s l.length (rowI l)) (ho6 : w6.ownsRow w.heap.size 27 1 (.slice (some ⟨g, 0, none⟩) (ss.length + 1) cap) (ss.length + 1) (us ++ [s]))
    (hgrow : (w5.alloc o).grownBy w6 u.ownBlock) (hg : u.ownBlock = some g ∨ g = (w5.alloc o).heap.size) :
    UsSt base B q w w6 (.slice (some ⟨g, 0, none⟩) (ss ++ [l]).length cap) (us ++ [s]) (ss ++ [l]) := by
  have hl := st.lt
  have s5 := st.far hm hr
  have hX : Below w5.heap.size w5 (w5.alloc o) := (Below.refl _ _).alloc (Nat.le_refl _) _
  have sX := s5.keep hX
  have h6 : Below w.heap.size (w5.alloc o) w6 := own_below hgrow sX.most.size fun k hk => (own_lt st.own.out k hk).1
  have e : (ss ++ [l]).length = ss.length + 1 := by simp
  have hpush : OwnY w.heap.size w6 (.slice (some ⟨g, 0, none⟩) (ss.length + 1) cap) (us ++ [s]) (ss.length + 1) (rowAt (ss ++ [l])) :=
    (st.own.congr fun k hk => (rowAt_app_lt hk).symm).pushB st.most.size hm.size (fun j hj hjl => hm.block j (by omega) hjl) hX (by rw [rowAt_app_eq]; exact hs) ho6 (fun j hj hne => hgrow.block j hj (fun e => hne e.symm)) hg
  exact ⟨sX.rdr.keepK h6 hl, hl, by rw [e]; exact hpush, sX.most.below_ h6⟩
theorem newI_two {K G : Nat} {w : World} {x y : Int} {T : TypeId} {fr : Nat × Nat} (hK : K ≤ G) (h : w.heap[G]? = some (.cells #[.int .i64 x, .int .i64 y] T fr)) : NewI K w (.slice (some ⟨G, 0, none⟩) 2 2) [x, y] :=
  ⟨some ⟨G, 0, none⟩, 2, rfl, Nat.le_refl _, by unfold maxLen; omega, .inr ⟨G, 0, rfl, hK, free_lt h, fun k hk => by
    have : k = 0 ∨ k = 1 := by simp at hk; omega
    rcases this with rfl | rfl <;> simp [World.cell?, h]⟩⟩
/-- A row more at the head of all. -/
theorem UsSt.more {base B p : Nat} {w w5 X w6 : World} {u v' : Value} {us : List Value} {ss : List (List Int)} {A T n0 : Nat} {l0 : List Int} {o : Obj} (st : UsSt base B p w w5 u us ss) (hX : Below w5.heap.size w5 X) (hAT : A ≠ T) (hAX : X.heap[A]? = some o)
    (hn : ∀ w', w'.heap[A]? = some o → NewI w.heap.size w' (.slice (some ⟨A, 0, none⟩) n0 n0) l0) (hT : w5.heap.size ≤ T) (ho6 : w6.ownsRow w5.heap.size 27 1 v' (1 + ss.length) ([.slice (some ⟨A, 0, none⟩) n0 n0] ++ us)) (hg6 : X.grownBy w6 (some T)) :
    NewY w.heap.size w6 v' (l0 :: ss) ∧ Rdr base B p w6 ∧ MostB B w w6 := by
  have h6 : Below w5.heap.size X w6 := (Below.refl _ X).grown hg6 hX.size fun k hk => by cases hk; exact hT
  have hb : Below w5.heap.size w5 w6 := hX.trans h6
  refine ⟨NewY.of_rows (us := [.slice (some ⟨A, 0, none⟩) n0 n0] ++ us) ?_ fun k hk => ?_, st.rdr.keep hb, st.most.below_ (hb.mono st.most.size)⟩
  · rw [List.length_cons, Nat.add_comm]; exact own_from ho6 st.most.size
  · cases k with
    | zero => exact ⟨_, rfl, hn w6 ((hg6.block A (free_lt hAX) (by intro e; exact hAT (Option.some.inj e))).trans hAX), NilOk.some_⟩
    | succ k =>
      obtain ⟨x, h1, h2, -⟩ := st.own.row k (by simpa using hk)
      exact ⟨x, by simpa using h1, (NewI.of_own h2).keep hb, NilOk.of_own h2⟩
/-- What a draw of uses gives. -/
def DrewUses (base B p : Nat) (w : World) (e : Ending) (w' : World) : Prop :=
  ∃ (u : Value) (ss : List (List Int)) (q : Nat), q ≤ p + 60 ∧ ss.length ≤ 7 ∧ (∀ l, l ∈ ss → l.length ≤ 6) ∧ e = .returned u ∧ NewY w.heap.size w' u ss ∧ Rdr base B q w' ∧ MostB B w w'
theorem newY_nils {K : Nat} {w : World} (hK : K ≤ w.heap.size) : NewY K (w.alloc (.cells #[.slice none 0 0, .slice none 0 0, .slice none 0 0, .slice none 0 0, .slice none 0 0, .slice none 0 0, .slice none 0 0] 27)) (.slice (some ⟨w.heap.size, 0, none⟩) 7 7) (List.replicate 7 []) :=
  ⟨some ⟨w.heap.size, 0, none⟩, 7, rfl, by simp, by unfold maxLen; omega, (fun e => by cases e), .inr ⟨w.heap.size, 0, rfl, hK, by simp, fun k hk => by
    have hk7 : k < 7 := by simpa using hk
    have h := cells_new (w := w) (cs := List.replicate 7 (.slice none 0 0)) (T := 27) k (.slice none 0 0) (by rw [List.getElem?_replicate, if_pos hk7])
    refine ⟨.slice none 0 0, ?_, ?_, fun n c e => by cases e; rfl⟩
    · have e : (⟨w.heap.size, 0, none⟩ : Addr).add k = ⟨w.heap.size, 0 + k, none⟩ := by
        unfold Addr.add
        split
        · next h => subst h; rfl
        · simp
      rw [e] at h
      exact h
    · have : rowAt (List.replicate 7 []) k = [] := by unfold rowAt; rw [List.getD_eq_getElem?_getD, List.getElem?_replicate]; split <;> rfl
      rw [this]
      exact NewI.empty (by unfold maxLen; omega)⟩⟩
theorem us_cells {K : Nat} {w X : World} {g n c : Nat} {us : List Value} {R : Nat → List Int} (h : OwnY K w (.slice (some ⟨g, 0, none⟩) n c) us n R) (hb : Below w.heap.size w X) {j : Nat} {u : Value} (hu : us[j]? = some u) : X.cell? ((⟨g, 0, none⟩ : Addr).add j) = some u := by
  have hj : j < n := by
    rw [← h.len]
    rcases Nat.lt_or_ge j us.length with h' | h'
    · exact h'
    · rw [List.getElem?_eq_none h'] at hu; cases hu
  obtain ⟨g', e, _, _, hl, _, _, hcell, _⟩ := own_cell h.out hj
  simp only [Option.some.injEq, Addr.mk.injEq, and_true] at e
  obtain rfl := e
  have ea : (⟨g, 0, none⟩ : Addr).add j = ⟨g, j, none⟩ := by
    unfold Addr.add
    split
    · next h => subst h; rfl
    · simp
  rw [ea, (hb.cell (p := ⟨g, j, none⟩) hl), hcell, hu]
theorem us_one {K : Nat} {w : World} {v : Value} {n : Nat} {us : List Value} {R : Nat → List Int} (h : OwnY K w v us n R) : ∀ u ∈ us, u.oneCell' = true := by
  intro u hu
  obtain ⟨j, hj, rfl⟩ := List.getElem_of_mem hu
  obtain ⟨x, h1, h2, -⟩ := h.row j (by rw [← h.len]; exact hj)
  rw [List.getElem?_eq_getElem hj] at h1
  obtain rfl := Option.some.inj h1
  obtain ⟨a, c, e⟩ := own_slice h2
  rw [e]; rfl
set_option maxRecDepth 10000 in
set_option maxHeartbeats 4000000 in
theorem l20Uses_any (base B p : Nat) (n : Int) (w : World) (h : Rdr base B p w) (hp : p ≤ 100000) (hn0 : 1 ≤ n) (hn1 : n ≤ 1000) :
    Calls Try.prog 40 #[.pointer (some ⟨B, 0, none⟩), .int .i64 n] w (DrewUses base B p w) := by
  obtain ⟨i0, hi, hz0, hz1, hz2⟩ := info_parts infoInt
  have HI := Lib.hid hi
  have HZ0 := Lib.hid hz0
  have HZ1 := Lib.hid hz1
  have HZ2 := Lib.hid hz2
  clear hi hz0 hz1 hz2
  obtain ⟨i1, hi, hz0, hz1, hz2⟩ := info_parts infoRow
  have GI := Lib.hid hi
  have GZ0 := Lib.hid hz0
  have GZ1 := Lib.hid hz1
  have GZ2 := Lib.hid hz2
  clear hi hz0 hz1 hz2
  have hB2 := h.2.1
  have hbase := h.1
  have st0 : UsSt base B p w (w.alloc (.cells #[] 27)) (.slice (some ⟨w.heap.size, 0, none⟩) ([] : List (List Int)).length 0) [] [] :=
    ⟨h.keep ((Below.refl _ _).alloc (Nat.le_refl _) _), hB2, ⟨own_empty (Nat.le_refl _) (heap_alloc_new _ _), rfl, fun k hk => absurd hk (Nat.not_lt_zero k), List.Pairwise.nil⟩, (MostB.refl B w).alloc _⟩
  have ST0 := Lib.hid st0
  clear st0 h
  go_enter Try.func40, Try.ntmps40
  go_wp2_with fail
  refine (pick_any base B p 3 _ ST0.out.rdr (by omega) (by omega)).mono ?_
  rintro e w1 ⟨x1, x10, x11, rfl, hr1, ho1⟩
  have ST1 := Lib.hid (ST0.out.far ho1.mostB hr1)
  clear hr1 ho1 ST0
  go_wp2_with fail
  refine (pick_any base B (p + 1) 7 _ ST1.out.rdr (by omega) (by omega)).mono ?_
  rintro e w2 ⟨x2, x20, x21, rfl, hr2, ho2⟩
  have ST2 := Lib.hid (ST1.out.far ho2.mostB hr2)
  clear hr2 ho2 ST1
  have hw0 : IntKind.i64.wrap (1 + x1) = 1 + x1 := IntWalk.i64_in _ (by omega)
  obtain ⟨j1, rfl⟩ := Int.eq_ofNat_of_zero_le x20
  have hj6 : j1 ≤ 6 := by omega
  clear x20 x21
  go_wp2_with fail
  try rw [hw0]
  obtain ⟨of, hof⟩ : ∃ o, o = 1 + x1 := ⟨_, rfl⟩
  rw [← hof]
  clear hof hw0 x10 x11
  go_loopw [5, 7] (fun va k wr => ∃ (q j : Nat) (us : List Value) (ss : List (List Int)) (g c : Nat), va = .slice (some ⟨g, 0, none⟩) ss.length c ∧ k = .int .i64 j ∧ ss.length + j ≤ 6 ∧ q ≤ p + 2 + 6 * ss.length ∧ Hid (∀ l, l ∈ ss → l.length ≤ 6) ∧ Hid (UsSt base B q w wr va us ss)) (fun _ k _ => (intOf k).toNat)
  case atStart => exact ⟨p + 1 + 1, j1, [], [], w.heap.size, 0, rfl, rfl, by simp; omega, by simp, Lib.hid (fun l hl => by cases hl), ST2⟩
  case round =>
    clear ST2
    obtain ⟨q, j, us, ss, g, c, rfl, rfl, hlj, hq, ALL, ST⟩ := hrel
    by_cases hlt : 0 < j
    · have ij : (0 : Int) < (j : Int) := by omega
      have hm5 : MostB B wr (wr.alloc (.cells #[] 3)) := (MostB.refl B wr).alloc _
      have hr5 : Rdr base B q (wr.alloc (.cells #[] 3)) := ST.out.rdr.keep ((Below.refl _ _).alloc (Nat.le_refl _) _)
      obtain ⟨KR, hKR⟩ : ∃ KR, KR = wr.heap.size := ⟨_, rfl⟩
      have HO5 := Lib.hid (show (wr.alloc (.cells #[] 3)).ownsRow KR 3 1 (.slice (some ⟨wr.heap.size, 0, none⟩) ([] : List Int).length 0) ([] : List Int).length (rowI []) by rw [hKR]; exact own_empty (Nat.le_refl _) (heap_alloc_new _ _))
      have HM5 := Lib.hid hm5
      have HR5 := Lib.hid hr5
      have hBK : B < KR := by have := ST.out.lt; have := ST.out.most.size; omega
      clear hm5 hr5
      go_wp2_with fail
      go_loopw [8, 9] (fun s k wx => ∃ (q2 m : Nat) (l : List Int) (g2 cp : Nat), s = .slice (some ⟨g2, 0, none⟩) l.length cp ∧ k = .int .i64 m ∧ m ≤ 6 ∧ l.length ≤ m ∧ q2 ≤ q + m ∧ Hid (Rdr base B q2 wx) ∧ Hid (wx.ownsRow KR 3 1 (.slice (some ⟨g2, 0, none⟩) l.length cp) l.length (rowI l)) ∧ Hid (MostB B wr wx)) (fun _ k _ => 6 - (intOf k).toNat)
      case atStart => exact ⟨q, 0, [], wr.heap.size, 0, rfl, rfl, by omega, by simp, by omega, HR5, HO5, HM5⟩
      case round =>
        clear HM5 HR5 HO5
        obtain ⟨q2, m, l, g2, cp, rfl, rfl, hm6, hlm, hq2, HR, HOW, HM⟩ := hrel
        have hws : KR ≤ wr.heap.size := by rw [hKR]; exact HM.out.size
        by_cases hm0 : m < 6
        · have im : (m : Int) < 6 := by omega
          go_wp2_with fail
          refine (pick_any base B q2 6 _ HR.out (by omega) (by omega)).mono ?_
          rintro e w6 ⟨x5, x50, x51, rfl, hr6, ho6⟩
          have HR6 := Lib.hid hr6
          have HOW6 := Lib.hid (own_most HOW.out ho6.mostB hBK)
          have HM6 := Lib.hid (HM.out.trans ho6.mostB)
          have hws6 : KR ≤ w6.heap.size := by have := ho6.mostB.size; omega
          clear hr6 ho6 HR HOW HM
          by_cases hx : x5 < of
          · have hown := HOW6.out
            go_wp2_with (at_builtin; refine wpList_append_own _ rfl _ _ 27 rfl KR 3 i0 (.int .i64 0) 1 8 Try.underlying27 HI.out HZ0.out HZ1.out HZ2.out rfl (by decide) _ _ _ rfl (hown.alloc _) ⟨w6.heap.size, 0, none⟩ 1 1 [.int .i64 m] rfl rfl (fun j u hu => cells_new j u hu) (by simp [Value.oneCell']) (by unfold maxLen; omega) (by omega) (by simp; omega) ?_; intro v' w7 hown7 hgrow _)
            have hb7 : Below KR (w6.alloc (.cells #[.int .i64 m] 3)) w7 := own_below (v := .slice (some ⟨g2, 0, none⟩) l.length cp) hgrow (by simp; omega) (fun k hk => (own_lt hown k hk).1)
            have hm7 := (HM6.out.alloc (.cells #[.int .i64 m] 3)).below_ (by rw [← hKR]; exact hb7)
            have hr7 := (HR6.out.keep ((Below.refl _ _).alloc (Nat.le_refl _) (.cells #[.int .i64 m] 3))).keepK hb7 hBK
            have hown8 := own_ints (m := [(m : Int)]) hown7 rfl rfl
            obtain ⟨g', cp', rfl, t1, t2⟩ := own_form hown8 (by simp)
            have H8 := Lib.hid hown8
            have HM7 := Lib.hid hm7
            have HR7 := Lib.hid hr7
            clear hgrow hb7 hown hown7 hm7 hr7 hown8 t1 t2
            go_wp2_with fail
            go_roundw
            case rel => exact ⟨q2 + 1, m + 1, l ++ [(m : Int)], g', cp', rfl, by go_num, by omega, by simp; omega, by omega, HR7, H8, HM7⟩
            case measure => simp [intOf]; omega
          · go_wp2_with fail
            go_roundw
            case rel => exact ⟨q2 + 1, m + 1, l, g2, cp, rfl, by go_num, by omega, by omega, by omega, HR6, HOW6, HM6⟩
            case measure => simp [intOf]; omega
        · obtain rfl : m = 6 := by omega
          have STX := Lib.hid (ST.out.far HM.out HR.out)
          have O5 := Lib.hid fun o : Obj => own_stay STX.out.own.out ((Below.refl wr.heap.size wr).alloc (Nat.le_refl _) o)
          have hlen5 : ss.length ≤ 5 := by omega
          have HSZ := Lib.hid (show w.heap.size ≤ (wr.alloc (.cells #[.slice (some ⟨g2, 0, none⟩) l.length cp] 27)).heap.size by have := STX.out.most.size; simp; omega)
          have HOK := Lib.hid (show wr.ownsRow _ 3 1 (.slice (some ⟨g2, 0, none⟩) l.length cp) l.length (rowI l) from hKR ▸ HOW.out)
          have ALL6 := Lib.hid (show ∀ x, x ∈ ss ++ [l] → x.length ≤ 6 from fun x hx => by
            rcases List.mem_append.1 hx with hx | hx
            · exact ALL.out x hx
            · rw [List.mem_singleton] at hx; subst hx; exact hlm)
          clear hm0
          go_wp2_with (at_builtin; refine wpList_append_lies _ rfl _ _ 23 rfl w.heap.size 27 i1 (.slice none 0 0) 1 24 Try.underlying23 GI.out GZ0.out GZ1.out GZ2.out rfl (by decide) _ ss.length us rfl (O5.out _) ⟨wr.heap.size, 0, none⟩ 1 1 [.slice (some ⟨g2, 0, none⟩) l.length cp] rfl rfl (fun j u hu => cells_new j u hu) (by simp [Value.oneCell']) (by decide) (by unfold maxLen; omega) (by omega) HSZ.out _ rfl ?_; intro g6 c6 w6 ho6 hg6 hgg6 _; have ST6 := Lib.hid (ST.out.row HM.out HR.out HOK.out ho6 hg6 hgg6); clear ho6 hg6 hgg6)
          go_roundw
          case rel => exact ⟨q2, j - 1, _, ss ++ [l], g6, c6, by rw [List.length_append]; rfl, by congr 1; omega, by simp; omega, by simp; omega, ALL6, Lib.hid (by have h := ST6.out; rw [List.length_append] at h; exact h)⟩
          case measure => simp [intOf]; omega
    · have hj0 : j = 0 := by omega
      clear hlt
      subst hj0
      go_wp2_with fail
      refine (odd_any base B q n _ ST.out.rdr (by omega) hn0 (by omega)).mono ?_
      rintro e w4 ⟨v, rfl, hr4, ho4⟩
      have S4 := Lib.hid (ST.out.far ho4.mostB hr4)
      clear ST hr4 ho4
      cases v
      · go_wp2_with fail
        go_ret
        exact ⟨_, ss, q + 1, by omega, by omega, ALL.out, rfl, S4.out.own.newY, S4.out.rdr, S4.out.most⟩
      · go_wp2_with fail
        refine (pick_any base B (q + 1) 3 _ S4.out.rdr (by omega) (by omega)).mono ?_
        rintro e w5 ⟨x5, x50, x51, rfl, hr5, ho5⟩
        have S5 := Lib.hid (S4.out.far ho5.mostB hr5)
        clear S4 hr5 ho5
        have USL := Lib.hid S5.out.own.len
        have HCELL := Lib.hid fun (X : World) (hb : Below w5.heap.size w5 X) j u (hu : us[j]? = some u) => (show X.cell? ((⟨g, 0, none⟩ : Addr).add j) = some u from us_cells S5.out.own hb hu)
        have H1C := Lib.hid (us_one S5.out.own)
        rcases (by omega : x5 = 0 ∨ x5 = 1 ∨ x5 = 2) with hx | hx | hx
        · subst hx
          have e3 : madeCells #[Value.slice none 0 0] 7 = #[.slice none 0 0, .slice none 0 0, .slice none 0 0, .slice none 0 0, .slice none 0 0, .slice none 0 0, .slice none 0 0] := by kernel_rfl
          have hmk : ∀ W : World, Sem.run Try.prog (Instr.makeSlice 23 (.int .i64 7) (.int .i64 7)) W = .ok (.slice (some ⟨W.heap.size, 0, none⟩) 7 7) (W.alloc (.cells #[.slice none 0 0, .slice none 0 0, .slice none 0 0, .slice none 0 0, .slice none 0 0, .slice none 0 0, .slice none 0 0] 27)) := fun W => by
            have h := run_make_row (P := Try.prog) 23 27 i1 (.slice none 0 0) Try.underlying23 GI.out GZ0.out GZ1.out rfl .i64 .i64 7 (by rw [GZ2.out]; omega) (by omega) W
            rw [e3] at h
            exact h
          have HNY := Lib.hid (newY_nils (K := w.heap.size) (w := w5) S5.out.most.size)
          have SK := Lib.hid (S5.out.keep ((Below.refl _ _).alloc (Nat.le_refl _) (.cells #[.slice none 0 0, .slice none 0 0, .slice none 0 0, .slice none 0 0, .slice none 0 0, .slice none 0 0, .slice none 0 0] 27)))
          clear e3 HCELL H1C USL
          go_wp2_with fail
          go_ret
          exact ⟨_, List.replicate 7 [], q + 1 + 1, by omega, by simp, (fun l hl => by rw [(List.mem_replicate.1 hl).2]; simp), rfl, HNY.out, SK.out.rdr, SK.out.most⟩
        · subst hx
          have hbX : Below w5.heap.size w5 ((w5.alloc (.cells #[.int .i64 6] 3)).alloc (.cells #[.slice (some ⟨w5.heap.size, 0, none⟩) 1 1] 27)) := ((Below.refl _ _).alloc (Nat.le_refl _) _).alloc (by simp) _
          have hAX : ((w5.alloc (.cells #[.int .i64 6] 3)).alloc (.cells #[.slice (some ⟨w5.heap.size, 0, none⟩) 1 1] 27)).heap[w5.heap.size]? = some (.cells #[.int .i64 6] 3 (0, 0)) := by
            have h1 : (w5.alloc (.cells #[.int .i64 6] 3)).heap[w5.heap.size]? = some (.cells #[.int .i64 6] 3 (0, 0)) := heap_alloc_new _ _
            rw [((Below.refl (w5.alloc (.cells #[.int .i64 6] 3)).heap.size _).alloc (Nat.le_refl _) _).block _ (by simp)]
            exact h1
          have hOT : ((w5.alloc (.cells #[.int .i64 6] 3)).alloc (.cells #[.slice (some ⟨w5.heap.size, 0, none⟩) 1 1] 27)).ownsRow w5.heap.size 27 1 (.slice (some ⟨w5.heap.size + 1, 0, none⟩) 1 1) 1 [.slice (some ⟨w5.heap.size, 0, none⟩) 1 1] := by
            have h1 := heap_alloc_new (w5.alloc (.cells #[.int .i64 6] 3)) (.cells #[.slice (some ⟨w5.heap.size, 0, none⟩) 1 1] 27)
            rw [show (w5.alloc (.cells #[.int .i64 6] 3)).heap.size = w5.heap.size + 1 by simp] at h1
            exact ⟨rfl, .inr ⟨w5.heap.size + 1, 1, #[.slice (some ⟨w5.heap.size, 0, none⟩) 1 1], rfl, by omega, h1, Nat.le_refl _, by unfold maxLen; omega, rfl, rfl⟩⟩
          have HMO := Lib.hid fun (v' : Value) (w6 : World) ho6 hg6 => S5.out.more (v' := v') (w6 := w6) (A := w5.heap.size) (T := w5.heap.size + 1) (n0 := 1) (l0 := [6]) hbX (by omega) hAX (fun w' h => newI_one S5.out.most.size h) (by omega) ho6 hg6
          have HOT := Lib.hid hOT
          have NEWS := Lib.hid fun j u (hu : us[j]? = some u) => HCELL.out _ hbX j u hu
          have h1c := Lib.hid H1C.out
          have hsz : w5.heap.size ≤ ((w5.alloc (.cells #[.int .i64 6] 3)).alloc (.cells #[.slice (some ⟨w5.heap.size, 0, none⟩) 1 1] 27)).heap.size := hbX.size
          clear hbX hAX hOT HCELL H1C
          go_wp2_with (at_builtin; refine wpList_append_own _ rfl _ _ 23 rfl w5.heap.size 27 i1 (.slice none 0 0) 1 24 Try.underlying23 GI.out GZ0.out GZ1.out GZ2.out rfl (by decide) _ 1 _ rfl HOT.out ⟨g, 0, none⟩ ss.length c us rfl (by rw [USL.out, Nat.mul_one]) NEWS.out h1c.out (by unfold maxLen; omega) (by omega) hsz ?_; intro v6 w6 ho6 hg6 _; have hq := HMO.out v6 w6 ho6 hg6; clear ho6 hg6)
          have HQ := Lib.hid hq
          clear hq HMO HOT
          go_ret
          exact ⟨_, [6] :: ss, q + 1 + 1, by omega, by simp; omega, (fun l hl => by
            rcases List.mem_cons.1 hl with rfl | hl
            · simp
            · exact ALL.out l hl), rfl, HQ.out⟩
        · subst hx
          have hbX : Below w5.heap.size w5 ((w5.alloc (.cells #[.int .i64 2, .int .i64 1] 3)).alloc (.cells #[.slice (some ⟨w5.heap.size, 0, none⟩) 2 2] 27)) := ((Below.refl _ _).alloc (Nat.le_refl _) _).alloc (by simp) _
          have hAX : ((w5.alloc (.cells #[.int .i64 2, .int .i64 1] 3)).alloc (.cells #[.slice (some ⟨w5.heap.size, 0, none⟩) 2 2] 27)).heap[w5.heap.size]? = some (.cells #[.int .i64 2, .int .i64 1] 3 (0, 0)) := by
            have h1 : (w5.alloc (.cells #[.int .i64 2, .int .i64 1] 3)).heap[w5.heap.size]? = some (.cells #[.int .i64 2, .int .i64 1] 3 (0, 0)) := heap_alloc_new _ _
            rw [((Below.refl (w5.alloc (.cells #[.int .i64 2, .int .i64 1] 3)).heap.size _).alloc (Nat.le_refl _) _).block _ (by simp)]
            exact h1
          have hOT : ((w5.alloc (.cells #[.int .i64 2, .int .i64 1] 3)).alloc (.cells #[.slice (some ⟨w5.heap.size, 0, none⟩) 2 2] 27)).ownsRow w5.heap.size 27 1 (.slice (some ⟨w5.heap.size + 1, 0, none⟩) 1 1) 1 [.slice (some ⟨w5.heap.size, 0, none⟩) 2 2] := by
            have h1 := heap_alloc_new (w5.alloc (.cells #[.int .i64 2, .int .i64 1] 3)) (.cells #[.slice (some ⟨w5.heap.size, 0, none⟩) 2 2] 27)
            rw [show (w5.alloc (.cells #[.int .i64 2, .int .i64 1] 3)).heap.size = w5.heap.size + 1 by simp] at h1
            exact ⟨rfl, .inr ⟨w5.heap.size + 1, 1, #[.slice (some ⟨w5.heap.size, 0, none⟩) 2 2], rfl, by omega, h1, Nat.le_refl _, by unfold maxLen; omega, rfl, rfl⟩⟩
          have HMO := Lib.hid fun (v' : Value) (w6 : World) ho6 hg6 => S5.out.more (v' := v') (w6 := w6) (A := w5.heap.size) (T := w5.heap.size + 1) (n0 := 2) (l0 := [2, 1]) hbX (by omega) hAX (fun w' h => newI_two S5.out.most.size h) (by omega) ho6 hg6
          have HOT := Lib.hid hOT
          have NEWS := Lib.hid fun j u (hu : us[j]? = some u) => HCELL.out _ hbX j u hu
          have h1c := Lib.hid H1C.out
          have hsz : w5.heap.size ≤ ((w5.alloc (.cells #[.int .i64 2, .int .i64 1] 3)).alloc (.cells #[.slice (some ⟨w5.heap.size, 0, none⟩) 2 2] 27)).heap.size := hbX.size
          clear hbX hAX hOT HCELL H1C
          go_wp2_with (at_builtin; refine wpList_append_own _ rfl _ _ 23 rfl w5.heap.size 27 i1 (.slice none 0 0) 1 24 Try.underlying23 GI.out GZ0.out GZ1.out GZ2.out rfl (by decide) _ 1 _ rfl HOT.out ⟨g, 0, none⟩ ss.length c us rfl (by rw [USL.out, Nat.mul_one]) NEWS.out h1c.out (by unfold maxLen; omega) (by omega) hsz ?_; intro v6 w6 ho6 hg6 _; have hq := HMO.out v6 w6 ho6 hg6; clear ho6 hg6)
          have HQ := Lib.hid hq
          clear hq HMO HOT
          go_ret
          exact ⟨_, [2, 1] :: ss, q + 1 + 1, by omega, by simp; omega, (fun l hl => by
            rcases List.mem_cons.1 hl with rfl | hl
            · simp
            · exact ALL.out l hl), rfl, HQ.out⟩
end Go.Proofs.Ythlcjojhmhoadaa
