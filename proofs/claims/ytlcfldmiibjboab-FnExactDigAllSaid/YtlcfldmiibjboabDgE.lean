/-
  The contract of the program's DigMoves.
-/
import Derived.Test.YtlcfldmiibjboabDgM
import Derived.Test.YtlcfldmiibjboabDgL
import Derived.Test.YtlcfldmiibjboabYiM
import Derived.Test.YtlcfldmiibjboabYiF
import Derived.Test.YtlcfldmiibjboabPaI
import Derived.Deep.RegionHeld3
import Derived.Deep.CutRange
import Derived.WalkMore
import Derived.ScopeJumps
namespace Go.Proofs.Ytlcfldmiibjboab
open Go.RowKit
set_option linter.unusedVariables false

/-- A scope with one label that is jumped back to: the way from the label on is walked once. -/
theorem scope_once {P : Program} {a : Act} {w : World} {Q : Exit → Act → World → Prop} {c X : Code} (l : Nat) (J : Act → World → Prop) (μ : Act → World → Nat) (hf : findLabel c l = some (Code.skip.seq X))
    (pass : ∀ a w, J a w → X.wp P (Exit.jump l (fun a' w' => J a' w' ∧ μ a' w' < μ a w) Q) a w)
    (first : (∀ a w, J a w → X.wp P (Exit.jump l J Q) a w) → c.wp P (Exit.jump l J Q) a w) : (Code.scope c).wp P Q a w :=
  wp_scope_jumps l J μ hf (first fun a w hJ => Code.wp_mono (fun e a' w' he => by
    cases e <;> first | exact he | exact ⟨he.1, he.2.1⟩) (pass a w hJ)) fun a w hJ => wp_seq (wp_skip (pass a w hJ))

set_option maxRecDepth 10000 in
set_option maxHeartbeats 4000000 in
theorem implDigMoves_any (h : Int) (v : Value) (ss : List (List Int)) (id : Int) (w : World) (hh : HoldsY w v ss) :
    Calls Try.prog 19 #[.agg #[.int .i64 h, v], .int .i64 id] w (DigGives h ss id w) := by
  obtain ⟨i0, hi, hz0, hz1, hz2⟩ := info_parts infoMv
  have HI := Lib.hid hi
  have HZ0 := Lib.hid hz0
  have HZ1 := Lib.hid hz1
  have HZ2 := Lib.hid hz2
  clear hi hz0 hz1 hz2
  have hb2 := (Below.refl w.heap.size w).alloc (Nat.le_refl _) (.cells #[.int .i64 h, v] 29)
  have hY0 : BoxY w.heap.size (w.alloc (.cells #[.int .i64 h, v] 29)) h v := heap_alloc_new _ _
  obtain ⟨w1, hw1⟩ : ∃ w1, w1 = w.alloc (.cells #[.int .i64 h, v] 29) := ⟨_, rfl⟩
  rw [← hw1] at hY0 hb2
  have hs1 : w1.heap.size = w.heap.size + 1 := by rw [hw1]; simp
  have hLM : LoopM (w.heap.size + 1) w.heap.size w1 h v ss (.slice none 0 0) [] :=
    ⟨⟨by simp [rowM], .inl ⟨rfl, rfl⟩⟩, hY0, by omega, StayO.of_old hh hb2 (Nat.le_refl _) (fun k hk => by simp [Value.ownBlock] at hk), by omega⟩
  have HF := Lib.hid (implYardFind_any h v ss id w1 (hh.keep hb2))
  have y0 := hY0.c0
  have y1 := hY0.c1
  have LM1 := Lib.hid hLM
  have W1 := Lib.hid hw1
  have HB1 := Lib.hid hb2
  clear hw1 hLM hb2 hY0
  unfold DigGives
  by_cases hf : findY h ss id < 0
  · have HR := Lib.hid (digM_no hf)
    generalize findY h ss id = z at HF hf
    obtain ⟨a, cap, rfl⟩ : ∃ a cap, v = .slice a ss.length cap := by obtain ⟨a, cap, h1, _⟩ := hh; exact ⟨a, cap, h1⟩
    clear hh
    go_enter Try.func19, Try.ntmps19
    go_wp2_with fail
    go_step3
    go_wp2_with fail
    rw [← W1.out]
    refine HF.out.mono ?_
    rintro e w2 ⟨rfl, b2⟩
    go_wp2_with fail
    rw [Exit.noGoto_ret]
    exact bodyPost_ret (v := .tuple #[.slice none 0 0, .bool false]) (by simp [results, Try.results19, go_sem]) rfl ⟨_, by rw [HR.out], by rw [HR.out]; exact FreeM.none_, HB1.out.trans (b2.mono HB1.out.size)⟩
  · obtain ⟨f, a, lo, up, hfe, hst⟩ := DigSt.start (h := h) (ss := ss) (id := id) (by omega)
    rw [hfe] at HF
    have hf0 : ¬ ((f : Int) < 0) := by omega
    have HST := Lib.hid hst
    clear hf hfe hst
    obtain ⟨va, vc, rfl⟩ : ∃ a cap, v = .slice a ss.length cap := by obtain ⟨a, cap, h1, _⟩ := hh; exact ⟨a, cap, h1⟩
    clear hh
    go_enter Try.func19, Try.ntmps19
    go_wp2_with fail
    refine scope_once 0 (fun a' wr => ∃ (i : Nat) (xv : Value) (tt : List (List Int)) (l : List (Int × Int)) (la : Option Addr) (c : Nat) (lo up : List Int) (u8 u9 u10 u11 u12 u13 u14 u15 u16 u17 u18 u19 u20 u21 u22 u23 u24 u25 u26 u27 u28 u29 u30 u31 u32 u33 u34 u35 u36 u37 u38 u39 u40 u41 u42 u43 u44 : Value),
      a' = { tmps := #[.agg #[.int .i64 h, .slice va ss.length vc], .int .i64 id, .pointer (some ⟨w.heap.size, 0, none⟩), undef, .slice none 0 0, .bool false, .int .i64 f, .slice la l.length c, u8, u9, u10, u11, u12, u13, u14, u15, u16, u17, u18, u19, u20, u21, u22, u23, u24, u25, u26, u27, u28, u29, u30, u31, u32, u33, u34, u35, u36, u37, u38, u39, u40, u41, u42, u43, u44], defers := [] } ∧
      Hid (DigSt h ss id f a i tt l lo up ∧ i ≤ a) ∧ Hid (LoopM (w.heap.size + 1) w.heap.size wr h xv tt (.slice la l.length c) l) ∧ Hid (Below w.heap.size w wr)) (fun a' _ => match a'.tmps.getD 7 undef with | .slice _ n _ => a - n | _ => 0) rfl ?_ ?_
    · clear HST y0 y1 LM1 HB1 HF W1 hs1
      rintro a' wr ⟨i, xv, tt, l, la, c, lo, up, u8, u9, u10, u11, u12, u13, u14, u15, u16, u17, u18, u19, u20, u21, u22, u23, u24, u25, u26, u27, u28, u29, u30, u31, u32, u33, u34, u35, u36, u37, u38, u39, u40, u41, u42, u43, u44, rfl, ST, LM, BR⟩
      obtain ⟨xa, xc, rfl⟩ := LM.out.form
      have hlt := ST.out.1.lt
      obtain ⟨b, off, x, cx, rfl, hbl, s0, hc1, hc2, -, hrow⟩ := LM.out.stay.holds.at_ hlt
      have ik : (f : Int) < (tt.length : Int) := by omega
      have i0k : (0 : Int) ≤ (f : Int) := by omega
      have hab := ST.out.1.left
      have HSA := Lib.hid fun (w' : World) (hs : Since wr w') => implStackAbove_any (.slice x (rowAt tt f).length cx) (rowAt tt f) h id w' (hrow.keep hs)
      rw [hab] at HSA
      have HK := Lib.hid fun (w' : World) (hs : Since wr w') => (show w'.cell? ⟨w.heap.size, 0, none⟩ = some (.int .i64 h) ∧ w'.cell? ⟨w.heap.size, 1, none⟩ = some (.slice (some ⟨b, off, none⟩) tt.length xc) ∧ w'.cell? ⟨b, off + f, none⟩ = some (.slice x (rowAt tt f).length cx) ∧ Since wr w' from
        ⟨(LM.out.keep hs).box.c0, (LM.out.keep hs).box.c1, (Below.cell (p := ⟨b, off + f, none⟩) hs hbl).trans s0, hs⟩)
      have hstart := HK.out _ (show Since wr wr.drew from (Below.refl _ _).drew)
      have HML := Lib.hid ST.out.1.many
      have hul := ST.out.1.len
      have ha4 := ST.out.1.four
      have hl4 : l.length ≤ 4 := by have := HML.out; omega
      clear hab s0 hrow
      generalize (rowAt tt f).length = rl at *
      go_wp2_with fail
      go_region_held3 (fun w' => w'.cell? ⟨w.heap.size, 0, none⟩ = some (.int .i64 h) ∧ w'.cell? ⟨w.heap.size, 1, none⟩ = some (.slice (some ⟨b, off, none⟩) tt.length xc) ∧ w'.cell? ⟨b, off + f, none⟩ = some (.slice x rl cx) ∧ Since wr w')
        (first | exact hstart | exact HK.out _ (Since.call (by exact (‹_ ∧ _› : _ ∧ _ ∧ _ ∧ Since wr _).2.2.2) ‹_›))
        (first
          | (go_at_call 34; ((with_reducible refine (HSA.out _ (by exact (‹_ ∧ _› : _ ∧ _ ∧ _ ∧ Since wr _).2.2.2)).mono ?_); rintro e w3 ⟨rfl, b3⟩))
          | fail)
      rename_i hheld
      have b3w : Below wr.heap.size wr w3 := hheld.2.2.2
      have LM3 := Lib.hid (LM.out.keep b3w)
      have BR3 := Lib.hid (BR.out.trans (b3w.mono BR.out.size))
      clear hheld hstart HK HSA LM BR b3w
      by_cases h0 : 0 < up.length
      · have h0i : ((up.length : Int) == 0) = false := by rw [beq_eq_false_iff_ne]; omega
        have y0 := LM3.out.box.c0
        have y1 := LM3.out.box.c1
        have HRM := Lib.hid (lowestOther_any h (.slice (some ⟨b, off, none⟩) tt.length xc) tt f w3 LM3.out.stay.holds)
        have HLOW := Lib.hid (move_low ST.out.1.ok hlt (ST.out.1.top h0))
        have HYD := Lib.hid ST.out.1.ok
        generalize hz : optI (lowN tt f tt.length) = z at HRM HLOW
        have HZ := Lib.hid hz
        clear hz
        go_wp2_with fail
        refine HRM.out.mono ?_
        rintro e w4 ⟨rfl, b4⟩
        have LM4 := Lib.hid (LM3.out.keep b4)
        have BR4 := Lib.hid (BR3.out.trans (b4.mono BR3.out.size))
        have hK4 := LM4.out.size
        clear y0 y1 b4 LM3 BR3 HRM
        have b5 : Below w4.heap.size w4 (w4.alloc (.cells #[.int .i64 f, .int .i64 z] 51)) := (Below.refl _ _).alloc (Nat.le_refl _) _
        have m5 : BoxM w4.heap.size (w4.alloc (.cells #[.int .i64 f, .int .i64 z] 51)) f z := heap_alloc_new _ _
        have xa := fun T => (LM4.out.keep ((Below.refl w4.heap.size w4).alloc (Nat.le_refl _) (.cells #[.int .i64 f, .int .i64 z] T))).box.c0
        have xb := fun T => (LM4.out.keep ((Below.refl w4.heap.size w4).alloc (Nat.le_refl _) (.cells #[.int .i64 f, .int .i64 z] T))).box.c1
        have s5 := LM4.out.keep b5
        obtain ⟨W5, hW5⟩ : ∃ W5, W5 = w4.alloc (.cells #[.int .i64 f, .int .i64 z] 51) := ⟨_, rfl⟩
        rw [← hW5] at m5 s5
        have hs5 : W5.heap.size = w4.heap.size + 1 := by rw [hW5]; simp
        have BR5 := Lib.hid (show Below w.heap.size w W5 by rw [hW5]; exact BR4.out.trans (b5.mono BR4.out.size))
        have HW5 := Lib.hid hW5
        have HMC := Lib.hid (implYardMove_any h (.slice (some ⟨b, off, none⟩) tt.length xc) tt f z W5 s5.stay.holds)
        unfold MoveYGivesF at HMC
        have LM5 := Lib.hid s5
        have M5 := Lib.hid m5
        clear b5 m5 s5 hW5 LM4 BR4
        rcases HLOW.out with ⟨hro, hmv⟩ | ⟨qt, hro, hlow, hmv0⟩
        · have HR := Lib.hid (ST.out.1.stuck h0 hro)
          rw [hmv] at HMC
          clear hro hmv ST HLOW
          go_wp2_with fail
          rw [← HW5.out]
          refine HMC.out.mono ?_
          rintro e w6 ⟨u6, rfl, n6, b6⟩
          have n6' : FreeY W5.heap.size w6.heap.size w6 u6 tt.length (rowAt tt) := n6
          obtain ⟨a6, c6, rfl⟩ := n6'.form
          have B6 := BR5.out.trans (b6.mono BR5.out.size)
          clear n6 n6'
          go_wp2_with fail
          simp only [Exit.jump]
          exact bodyPost_ret (v := .tuple #[.slice none 0 0, .bool false]) (by simp [results, Try.results19, go_sem]) rfl ⟨_, by rw [HR.out], by rw [HR.out]; exact FreeM.none_, B6.alloc B6.size _⟩
        · obtain ⟨uu, hmv, hst⟩ := ST.out.1.step h0 hro
          rw [hlow, hmv] at HMC
          have HQT := Lib.hid hlow
          have HST := Lib.hid hst
          clear hro hmv hmv0 ST hst HLOW hlow
          go_wp2_with fail
          rw [← HW5.out]
          have HMC' : Hid (Calls Try.prog 36 #[.agg #[.int .i64 h, .slice (some ⟨b, off, none⟩) tt.length xc], .agg #[.int .i64 f, .int .i64 z]] W5 fun e w' => ∃ u, e = .returned (.tuple #[.agg #[.int .i64 h, u], .bool true]) ∧ FreeY W5.heap.size w'.heap.size w' u uu.length (rowAt uu) ∧ Below W5.heap.size W5 w') := by rw [HQT.out]; exact HMC
          refine HMC'.out.mono ?_
          rintro e w6 ⟨u6, rfl, n6, b6⟩
          have n6' : NewY W5.heap.size w6 u6 uu := FreeY.newY n6
          obtain ⟨a6, c6, rfl⟩ := n6'.form
          have hYl := LM5.out.box.lt
          have hs6 := b6.size
          have s6 := LM5.out.keep b6
          have b7 : Below w6.heap.size w6 (w6.alloc (.cells #[.int .i64 h, .slice a6 uu.length c6] 29)) := (Below.refl _ _).alloc (Nat.le_refl _) _
          have LM7 := Lib.hid ((s6.keep b7).take (h' := h) ((StayO.of_new (o := (Value.slice la l.length c).ownBlock) n6' hYl (fun k hk => (own_lt LM5.out.own k hk).2)).keep b7))
          have M7 := Lib.hid (show BoxM w4.heap.size (((w6.alloc (.cells #[.int .i64 h, .slice a6 uu.length c6] 29)).setCell ⟨w.heap.size, 0, none⟩ (.int .i64 h)).setCell ⟨w.heap.size, 1, none⟩ (.slice a6 uu.length c6)) f z by
            have hne : w4.heap.size ≠ w.heap.size := by omega
            have hM5 := M5.out.lt
            unfold BoxM
            rw [Below.heap_setCell _ _ _ _ hne, Below.heap_setCell _ _ _ _ hne, b7.block w4.heap.size (by omega)]
            exact M5.out.keep b6)
          have BR7 := Lib.hid (((BR5.out.trans ((b6.trans (b7.mono hs6)).mono BR5.out.size)).setCell (p := ⟨w.heap.size, 0, none⟩) (Nat.le_refl _) (.int .i64 h)).setCell (p := ⟨w.heap.size, 1, none⟩) (Nat.le_refl _) (.slice a6 uu.length c6))
          have ya : ∀ o : Obj, (w6.alloc o).cell? ⟨w.heap.size, 0, none⟩ = some (.int .i64 h) := fun o => (s6.keep ((Below.refl w6.heap.size w6).alloc (Nat.le_refl _) o)).box.c0
          have yb : ∀ o : Obj, (w6.alloc o).cell? ⟨w.heap.size, 1, none⟩ = some (.slice (some ⟨b, off, none⟩) tt.length xc) := fun o => (s6.keep ((Below.refl w6.heap.size w6).alloc (Nat.le_refl _) o)).box.c1
          have ea : ∀ o : Obj, (w6.alloc o).frozen? ⟨w.heap.size, 0, none⟩ = false := fun o => (s6.keep ((Below.refl w6.heap.size w6).alloc (Nat.le_refl _) o)).box.frozen 0
          have eb : ∀ o : Obj, (w6.alloc o).frozen? ⟨w.heap.size, 1, none⟩ = false := fun o => (s6.keep ((Below.refl w6.heap.size w6).alloc (Nat.le_refl _) o)).box.frozen 1
          have hneY : w6.heap.size ≠ w.heap.size := by omega
          clear n6 n6' s6 b6 b7 HMC HMC' xa xb LM5 M5 BR5 HW5
          go_upto_region 12 with fail
          generalize hW7 : ((w6.alloc (.cells #[.int .i64 h, .slice a6 uu.length c6] 29)).setCell ⟨w.heap.size, 0, none⟩ (.int .i64 h)).setCell ⟨w.heap.size, 1, none⟩ (.slice a6 uu.length c6) = W7 at LM7 M7 BR7 ⊢
          clear hW7 ya yb ea eb
          have ma := M7.out.c0
          have mb := M7.out.c1
          have A8 := Lib.hid fun o : Obj => (Below.refl W7.heap.size W7).alloc (Nat.le_refl _) o
          have O8 := Lib.hid fun o : Obj => (LM7.out.keep (A8.out o)).own
          have HSZ := Lib.hid fun o : Obj => (LM7.out.keep (A8.out o)).size
          have HCN := Lib.hid fun j u hj => cells_new (w := W7) (cs := [Value.int .i64 f, .int .i64 z]) (T := 51) j u hj
          have hla : l.length < a := by have := HML.out; omega
          go_wp2_with (at_builtin; refine wpList_append_lies _ rfl _ _ 37 rfl (w.heap.size + 1) 51 i0 (.agg #[.int .i64 0, .int .i64 0]) 2 16 Try.underlying37 HI.out HZ0.out HZ1.out HZ2.out rfl (by decide) _ l.length (rowM l) rfl (O8.out _) ⟨W7.heap.size, 0, none⟩ 1 1 [.int .i64 f, .int .i64 z] rfl rfl HCN.out (by simp [Value.oneCell']) (by decide) (by unfold maxLen; omega) (by omega) (HSZ.out _) _ rfl ?_; intro g6 c9 w9 ho6 hg6 hgg6 _; have P := Lib.hid ((LM7.out.keep (A8.out _)).push ho6 hg6 hgg6); have PB := Lib.hid ((LM7.out.keep (A8.out _)).far hg6); clear ho6 hg6 hgg6)
          go_step3
          refine ⟨rfl, ⟨i + 1, _, uu, l ++ [((f : Int), (qt : Int))], some ⟨g6, 0, none⟩, c9, lo, _, _, _, _, _, _, _, _, _, _, _, _, _, _, _, _, _, _, _, _, _, _, _, _, _, _, _, _, _, _, _, _, _, _, _, _, _, _, by rw [List.length_append]; rfl, Lib.hid ⟨HST.out, by omega⟩, Lib.hid (by rw [List.length_append, ← HQT.out]; exact P.out), Lib.hid ((BR7.out.trans ((A8.out _).mono BR7.out.size)).trans (PB.out.mono (Nat.le_succ _)))⟩, ?_⟩
          show a - (l.length + 1) < a - l.length
          omega
      · have h0i : ((up.length : Int) == 0) = true := by rw [beq_iff_eq]; omega
        have HR := Lib.hid (ST.out.1.bare (by omega))
        have FM := Lib.hid (FreeM.of_own LM3.out.own)
        clear ST LM3
        go_wp2_with fail
        simp only [Exit.jump]
        exact bodyPost_ret (v := .tuple #[.slice la l.length c, .bool true]) (by simp [results, Try.results19, go_sem]) rfl ⟨_, by rw [HR.out], by rw [HR.out]; exact FM.out.wide (Nat.le_succ _) (Nat.le_refl _), BR3.out⟩
    · intro KEY
      go_wp2_with fail
      rw [← W1.out]
      refine HF.out.mono ?_
      rintro e w2 ⟨rfl, b2⟩
      have LM2 := Lib.hid (LM1.out.keep b2)
      have HB2 := Lib.hid (HB1.out.trans (b2.mono HB1.out.size))
      clear y0 y1 b2 LM1 HB1 HF W1 hs1
      have KEYH := Lib.hid KEY
      clear KEY
      go_wp2_with fail
      go_step3
      rename_i hK
      exact hK _ _ (KEYH.out _ _ ⟨0, _, ss, [], none, 0, lo, up, _, _, _, _, _, _, _, _, _, _, _, _, _, _, _, _, _, _, _, _, _, _, _, _, _, _, _, _, _, _, _, _, _, _, _, _, _, rfl, Lib.hid ⟨HST.out, by omega⟩, LM2, HB2⟩)
end Go.Proofs.Ytlcfldmiibjboab
