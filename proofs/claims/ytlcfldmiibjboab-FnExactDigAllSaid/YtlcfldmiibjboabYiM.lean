/-
  The contract of the program's YardMove.
-/
import Derived.Test.YtlcfldmiibjboabYiP
import Derived.Test.YtlcfldmiibjboabYiT
import Derived.Test.YtlcfldmiibjboabYsM
namespace Go.Proofs.Ytlcfldmiibjboab
open Go.RowKit
set_option linter.unusedVariables false

/-- What the program's call gives that moves in a yard: memory of the call's own. -/
def MoveYGivesF (h : Int) (ss : List (List Int)) (f t : Int) (w : World) (e : Ending) (w' : World) : Prop :=
  ∃ u, e = .returned (.tuple #[.agg #[.int .i64 (moveY h ss f t).1.1, u], .bool (moveY h ss f t).2]) ∧ FreeY w.heap.size w'.heap.size w' u (moveY h ss f t).1.2.length (rowAt (moveY h ss f t).1.2) ∧ Below w.heap.size w w'

set_option maxRecDepth 10000 in
set_option maxHeartbeats 2000000 in
theorem implYardMove_bad (h : Int) (v : Value) (ss : List (List Int)) (f t : Int) (w : World) (hh : HoldsY w v ss) (hok : ydOk h ss = false) :
    Calls Try.prog 36 #[.agg #[.int .i64 h, v], .agg #[.int .i64 f, .int .i64 t]] w (MoveYGivesF h ss f t w) := by
  have hb3 := (((Below.refl w.heap.size w).alloc (Nat.le_refl _) (.cells #[.int .i64 h, v] 29)).alloc (by simp) (.cells #[.int .i64 f, .int .i64 t] 51)).alloc (by simp; omega) (.cells #[.int .i64 0, .slice none 0 0] 29)
  have HV := Lib.hid (implYardValid_any h v ss _ (hh.keep hb3))
  have hR0 : BoxY (w.heap.size + 2) (((w.alloc (.cells #[.int .i64 h, v] 29)).alloc (.cells #[.int .i64 f, .int .i64 t] 51)).alloc (.cells #[.int .i64 0, .slice none 0 0] 29)) 0 (.slice none 0 0) := new3_2 _ _ _ _
  have HR := Lib.hid hR0
  have HB := Lib.hid hb3
  unfold MoveYGivesF
  rw [hok] at HV
  rw [moveY_bad hok]
  clear hok hh hb3 hR0
  go_enter Try.func36, Try.ntmps36
  go_wp2_with fail
  refine HV.out.mono ?_
  rintro e w3 ⟨rfl, b3⟩
  have g3 := HR.out.keep b3
  have c0 := g3.c0
  have c1 := g3.c1
  have e0 := g3.frozen 0
  have e1 := g3.frozen 1
  have B3 := Lib.hid (HB.out.trans (b3.mono HB.out.size))
  clear b3 g3 HR HB HV
  go_wp2_with fail
  have hB := (B3.out.setCell (p := ⟨w.heap.size + 2, 0, none⟩) (Nat.le_add_right _ _) (.int .i64 0)).setCell (p := ⟨w.heap.size + 2, 1, none⟩) (Nat.le_add_right _ _) (.slice none 0 0)
  exact bodyPost_ret (v := .tuple #[.agg #[.int .i64 0, .slice none 0 0], .bool false]) (by simp [results, Try.results36, go_sem, c0, c1]) rfl ⟨_, rfl, FreeY.zero, hB⟩

/-- A yard of the call's own, laid into the answer's place. -/
theorem FreeY.laid {K B N : Nat} {w : World} {v : Value} {n : Nat} {R : Nat → List Int} {W : Nat} (h : FreeY K B w v n R) (hN : N < K) (hW : W ≤ K) (hB : B ≤ w.heap.size) (x y : Value) : FreeY W ((w.setCell ⟨N, 0, none⟩ x).setCell ⟨N, 1, none⟩ y).heap.size ((w.setCell ⟨N, 0, none⟩ x).setCell ⟨N, 1, none⟩ y) v n R :=
  ((h.setLow hN 0 x).setLow hN 1 y).wide hW (by simpa [World.setCell] using hB)

set_option maxRecDepth 10000 in
set_option maxHeartbeats 4000000 in
theorem implYardMove_good (h : Int) (v : Value) (ss : List (List Int)) (f t : Int) (w : World) (hh : HoldsY w v ss) (hok : ydOk h ss = true) :
    Calls Try.prog 36 #[.agg #[.int .i64 h, v], .agg #[.int .i64 f, .int .i64 t]] w (MoveYGivesF h ss f t w) := by
  have hb3 := (((Below.refl w.heap.size w).alloc (Nat.le_refl _) (.cells #[.int .i64 h, v] 29)).alloc (by simp) (.cells #[.int .i64 f, .int .i64 t] 51)).alloc (by simp; omega) (.cells #[.int .i64 0, .slice none 0 0] 29)
  have hV0 := implYardValid_any h v ss _ (hh.keep hb3)
  have hY0 : BoxY w.heap.size (((w.alloc (.cells #[.int .i64 h, v] 29)).alloc (.cells #[.int .i64 f, .int .i64 t] 51)).alloc (.cells #[.int .i64 0, .slice none 0 0] 29)) h v := new3_0 _ _ _ _
  have hM0 : BoxM (w.heap.size + 1) (((w.alloc (.cells #[.int .i64 h, v] 29)).alloc (.cells #[.int .i64 f, .int .i64 t] 51)).alloc (.cells #[.int .i64 0, .slice none 0 0] 29)) f t := new3_1 _ _ _ _
  have hR0 : BoxY (w.heap.size + 2) (((w.alloc (.cells #[.int .i64 h, v] 29)).alloc (.cells #[.int .i64 f, .int .i64 t] 51)).alloc (.cells #[.int .i64 0, .slice none 0 0] 29)) 0 (.slice none 0 0) := new3_2 _ _ _ _
  obtain ⟨W3, hW3⟩ : ∃ W3, W3 = (((w.alloc (.cells #[.int .i64 h, v] 29)).alloc (.cells #[.int .i64 f, .int .i64 t] 51)).alloc (.cells #[.int .i64 0, .slice none 0 0] 29)) := ⟨_, rfl⟩
  rw [← hW3] at hb3 hV0 hY0 hM0 hR0
  have hz3 : W3.heap.size = w.heap.size + 3 := by rw [hW3]; simp
  have HX3 := Lib.hid hW3
  have H0 := Lib.hid (And.intro hb3 (And.intro hY0 (And.intro hM0 (And.intro hR0 hz3))))
  have HV := Lib.hid hV0
  rw [hok] at HV
  have HC := Lib.hid fun w' (hb : Below w.heap.size w w') => copyYard_any h v ss w' (hh.keep hb) hok
  have HT := Lib.hid fun w' (hb : Below w.heap.size w w') => implYardTake_any h v ss f w' (hh.keep hb)
  have HP := Lib.hid fun u w' (hu : HoldsY w' u (takeY h ss f).1.2) => implYardPut_any (takeY h ss f).1.1 u (takeY h ss f).1.2 t (takeY h ss f).2 w' hu
  unfold CopyGivesF at HC
  unfold TakeYGivesF at HT
  unfold PutYGivesF at HP
  have HMV := Lib.hid (show moveY h ss f t = (if (takeY h ss f).2 < 0 ∨ f = t then ((h, ss), false)
     else if (putY (takeY h ss f).1.1 (takeY h ss f).1.2 t (takeY h ss f).2).2 = true then ((putY (takeY h ss f).1.1 (takeY h ss f).1.2 t (takeY h ss f).2).1, true) else ((h, ss), false)) by unfold moveY; rw [if_pos hok])
  have HTN := Lib.hid (show (takeY h ss f).2 < 0 → takeY h ss f = ((h, ss), -1) from fun hc => by
    rcases takeY_cases h ss f with ⟨hk, _⟩ | ⟨_, _, e⟩ | ⟨_, _, _, m, x, _, x0, _, e⟩
    · rw [hok] at hk; cases hk
    · exact e
    · rw [e] at hc; simp only [] at hc; omega)
  generalize takeY h ss f = tk at HT HP HMV HTN
  obtain ⟨⟨h1, s1⟩, id⟩ := tk
  obtain ⟨a, cap, rfl⟩ : ∃ a cap, v = .slice a ss.length cap := by obtain ⟨a, cap, h1, _⟩ := hh; exact ⟨a, cap, h1⟩
  unfold MoveYGivesF
  clear hh hok hb3 hV0 hY0 hM0 hR0 hW3 hz3
  go_enter Try.func36, Try.ntmps36
  go_wp2_with fail
  rw [← HX3.out]
  refine HV.out.mono ?_
  rintro e w4 ⟨rfl, b4⟩
  obtain ⟨hb3, hY0, hM0, hR0, hz3⟩ := H0.out
  have y4 := hY0.keep b4
  have m4 := hM0.keep b4
  have q4 := hR0.keep b4
  have y40 := y4.c0
  have y41 := y4.c1
  have m40 := m4.c0
  have m41 := m4.c1
  have s4 := b4.size
  have HS4 := Lib.hid (show w.heap.size + 3 ≤ w4.heap.size by omega)
  have B4 := Lib.hid (hb3.trans (b4.mono hb3.size))
  have Y4 := Lib.hid y4
  have M4 := Lib.hid m4
  have Q4 := Lib.hid q4
  clear hb3 hY0 hM0 hR0 hz3 b4 y4 m4 q4 HX3 H0 HV s4
  by_cases hft : f = t
  · have HE := Lib.hid (show moveY h ss f t = ((h, ss), false) by rw [HMV.out, if_pos (.inr hft)])
    clear HMV HP HT HTN
    have bft : (f == t) = true := by simpa using hft
    clear hft
    go_wp2_with fail
    refine (HC.out _ B4.out).mono ?_
    rintro e w8 ⟨u8, rfl, o8, b8⟩
    obtain ⟨a8, c8, rfl⟩ := o8.form
    have hs4 := HS4.out
    have q8 := Q4.out.keep b8
    have c0 := q8.c0
    have c1 := q8.c1
    have e0 := q8.frozen 0
    have e1 := q8.frozen 1
    have B8 := Lib.hid (B4.out.trans (b8.mono B4.out.size))
    have N8 := Lib.hid o8
    clear o8 b8 q8 HC y40 y41 m40 m41
    go_wp2_with fail
    have hB := (B8.out.setCell (p := ⟨w.heap.size + 2, 0, none⟩) (Nat.le_add_right _ _) (.int .i64 h)).setCell (p := ⟨w.heap.size + 2, 1, none⟩) (Nat.le_add_right _ _) (.slice a8 ss.length c8)
    have hF := N8.out.laid (N := w.heap.size + 2) (W := w.heap.size) (by omega) (by omega) (Nat.le_refl _) (.int .i64 h) (.slice a8 ss.length c8)
    exact bodyPost_ret (v := .tuple #[.agg #[.int .i64 h, .slice a8 ss.length c8], .bool false]) (by simp [results, Try.results36, go_sem, c0, c1]) rfl ⟨_, by rw [HE.out], by rw [HE.out]; exact hF, hB⟩
  · have bft : (f == t) = false := by simpa using hft
    have HFT := Lib.hid hft
    clear hft
    go_wp2_with fail
    refine (HT.out _ B4.out).mono ?_
    rintro e w5 ⟨u1, rfl, n5', b5⟩
    have n5 : FreeY w4.heap.size w5.heap.size w5 u1 s1.length (rowAt s1) := n5'
    obtain ⟨a1, c1, rfl⟩ := n5.form
    have hs4 := HS4.out
    have hs45 := b5.size
    have hb6 := (Below.refl w5.heap.size w5).alloc (Nat.le_refl _) (.cells #[.int .i64 h1, .slice a1 s1.length c1] 29)
    have b56 := b5.trans (hb6.mono b5.size)
    have y6 := Y4.out.keep b56
    have m6 := M4.out.keep b56
    have q6 := Q4.out.keep b56
    have n6 := n5.keep hb6
    have B60 := B4.out.trans (b56.mono B4.out.size)
    have y60 := y6.c0
    have y61 := y6.c1
    have m60 := m6.c0
    have m61 := m6.c1
    have c60 : ∀ o : Obj, (w5.alloc o).cell? ⟨w.heap.size + 2, 0, none⟩ = some (.int .i64 0) := fun o => ((Q4.out.keep b5).keep ((Below.refl w5.heap.size w5).alloc (Nat.le_refl _) o)).c0
    have c61 : ∀ o : Obj, (w5.alloc o).cell? ⟨w.heap.size + 2, 1, none⟩ = some (.slice none 0 0) := fun o => ((Q4.out.keep b5).keep ((Below.refl w5.heap.size w5).alloc (Nat.le_refl _) o)).c1
    have e60 : ∀ o : Obj, (w5.alloc o).frozen? ⟨w.heap.size + 2, 0, none⟩ = false := fun o => ((Q4.out.keep b5).keep ((Below.refl w5.heap.size w5).alloc (Nat.le_refl _) o)).frozen 0
    have e61 : ∀ o : Obj, (w5.alloc o).frozen? ⟨w.heap.size + 2, 1, none⟩ = false := fun o => ((Q4.out.keep b5).keep ((Below.refl w5.heap.size w5).alloc (Nat.le_refl _) o)).frozen 1
    have N60 := Lib.hid n6
    have B600 := Lib.hid B60
    obtain ⟨W6, hW6⟩ : ∃ W6, W6 = w5.alloc (.cells #[.int .i64 h1, .slice a1 s1.length c1] 29) := ⟨_, rfl⟩
    rw [← hW6] at y6 m6 q6 n6 B60
    have hsW : W6.heap.size = w5.heap.size + 1 := by rw [hW6]; simp
    have HX6 := Lib.hid hW6
    have Y6 := Lib.hid y6
    have M6 := Lib.hid m6
    have Q6 := Lib.hid q6
    have N6 := Lib.hid n6
    have B6 := Lib.hid B60
    have hne : w5.heap.size ≠ w.heap.size + 2 := by omega
    clear hb6 b56 y6 m6 q6 n6 B60 hW6 n5 n5' b5 y40 y41 m40 m41 Y4 M4 Q4 B4 HT
    by_cases hid0 : id < 0
    · have htk := HTN.out hid0
      simp only [Prod.mk.injEq] at htk
      obtain ⟨⟨rfl, rfl⟩, rfl⟩ := htk
      have HE := Lib.hid (show moveY h1 s1 f t = ((h1, s1), false) by rw [HMV.out, if_pos (.inl hid0)])
      clear HMV HP HTN HC hid0
      go_wp2_with fail
      have hB := (B600.out.setCell (p := ⟨w.heap.size + 2, 0, none⟩) (Nat.le_add_right _ _) (.int .i64 h1)).setCell (p := ⟨w.heap.size + 2, 1, none⟩) (Nat.le_add_right _ _) (.slice a1 s1.length c1)
      have hF := N60.out.laid (N := w.heap.size + 2) (W := w.heap.size) (by omega) (by omega) (by simp) (.int .i64 h1) (.slice a1 s1.length c1)
      exact bodyPost_ret (v := .tuple #[.agg #[.int .i64 h1, .slice a1 s1.length c1], .bool false]) (by simp [results, Try.results36, go_sem, c60, c61]) rfl ⟨_, by rw [HE.out], by rw [HE.out]; exact hF, hB⟩
    · have HMV2 := Lib.hid (show moveY h ss f t = (if (putY h1 s1 t id).2 = true then ((putY h1 s1 t id).1, true) else ((h, ss), false)) by rw [HMV.out, if_neg (fun hc => hc.elim hid0 HFT.out)])
      have HP6 := Lib.hid (HP.out _ W6 N6.out.holdsY)
      clear HMV HP HTN c60 c61 e60 e61
      have HP6' : Hid (Calls Try.prog 46 #[.agg #[.int .i64 h1, .slice a1 s1.length c1], .int .i64 t, .int .i64 id] W6 fun e w' => ∃ u, e = .returned (.tuple #[.agg #[.int .i64 (putY h1 s1 t id).1.1, u], .bool (putY h1 s1 t id).2]) ∧ FreeY W6.heap.size w'.heap.size w' u (putY h1 s1 t id).1.2.length (rowAt (putY h1 s1 t id).1.2) ∧ Below W6.heap.size W6 w') := HP6
      clear HP6
      generalize putY h1 s1 t id = pp at HP6' HMV2
      obtain ⟨⟨h2, s2⟩, ok2⟩ := pp
      go_wp2_with fail
      rw [← HX6.out]
      refine HP6'.out.mono ?_
      rintro e w7 ⟨u2, rfl, n7, b7⟩
      have n7' : FreeY W6.heap.size w7.heap.size w7 u2 s2.length (rowAt s2) := n7
      obtain ⟨a2, c2, rfl⟩ := n7'.form
      have y7 := Y6.out.keep b7
      have q7 := Q6.out.keep b7
      have B7 := B6.out.trans (b7.mono B6.out.size)
      have hs7 := b7.size
      cases ok2
      · have HE := Lib.hid (show moveY h ss f t = ((h, ss), false) from HMV2.out)
        have hb8 := (Below.refl w7.heap.size w7).alloc (Nat.le_refl _) (.cells #[.int .i64 h2, .slice a2 s2.length c2] 29)
        have y80 := (y7.keep hb8).c0
        have y81 := (y7.keep hb8).c1
        have HX := Lib.hid (HC.out _ (B7.trans (hb8.mono B7.size)))
        have Q8 := Lib.hid (q7.keep hb8)
        have B8 := Lib.hid (B7.trans (hb8.mono B7.size))
        clear HMV2 HP6' n7 n7' b7 y7 q7 B7 hb8 y60 y61 m60 m61 Y6 Q6 M6 N6 B6 N60 B600
        go_wp2_with fail
        refine HX.out.mono ?_
        rintro e w9 ⟨u9, rfl, o9, b9⟩
        obtain ⟨a9, c9, rfl⟩ := o9.form
        have hq9 := Q8.out.lt
        have q9 := Q8.out.keep b9
        have c0 := q9.c0
        have c1 := q9.c1
        have e0 := q9.frozen 0
        have e1 := q9.frozen 1
        have B9 := Lib.hid (B8.out.trans (b9.mono B8.out.size))
        have N9 := Lib.hid o9
        have hws := B8.out.size
        clear o9 b9 q9 HC y80 y81
        go_wp2_with fail
        have hB := (B9.out.setCell (p := ⟨w.heap.size + 2, 0, none⟩) (Nat.le_add_right _ _) (.int .i64 h)).setCell (p := ⟨w.heap.size + 2, 1, none⟩) (Nat.le_add_right _ _) (.slice a9 ss.length c9)
        have hF := N9.out.laid (N := w.heap.size + 2) (W := w.heap.size) hq9 hws (Nat.le_refl _) (.int .i64 h) (.slice a9 ss.length c9)
        exact bodyPost_ret (v := .tuple #[.agg #[.int .i64 h, .slice a9 ss.length c9], .bool false]) (by simp [results, Try.results36, go_sem, c0, c1]) rfl ⟨_, by rw [HE.out], by rw [HE.out]; exact hF, hB⟩
      · have HE := Lib.hid (show moveY h ss f t = ((h2, s2), true) from HMV2.out)
        have hb8 := (Below.refl w7.heap.size w7).alloc (Nat.le_refl _) (.cells #[.int .i64 h2, .slice a2 s2.length c2] 29)
        have c0 : ∀ o : Obj, (w7.alloc o).cell? ⟨w.heap.size + 2, 0, none⟩ = some (.int .i64 0) := fun o => (q7.keep ((Below.refl w7.heap.size w7).alloc (Nat.le_refl _) o)).c0
        have c1 : ∀ o : Obj, (w7.alloc o).cell? ⟨w.heap.size + 2, 1, none⟩ = some (.slice none 0 0) := fun o => (q7.keep ((Below.refl w7.heap.size w7).alloc (Nat.le_refl _) o)).c1
        have e0 : ∀ o : Obj, (w7.alloc o).frozen? ⟨w.heap.size + 2, 0, none⟩ = false := fun o => (q7.keep ((Below.refl w7.heap.size w7).alloc (Nat.le_refl _) o)).frozen 0
        have e1 : ∀ o : Obj, (w7.alloc o).frozen? ⟨w.heap.size + 2, 1, none⟩ = false := fun o => (q7.keep ((Below.refl w7.heap.size w7).alloc (Nat.le_refl _) o)).frozen 1
        have B8 := Lib.hid (B7.trans (hb8.mono B7.size))
        have N8 := Lib.hid (n7'.keep hb8)
        have hne : w7.heap.size ≠ w.heap.size + 2 := by omega
        clear HMV2 HP6' n7 n7' b7 y7 q7 B7 hb8 y60 y61 m60 m61 Y6 Q6 M6 N6 B6 HC N60 B600
        go_wp2_with fail
        have hB := (B8.out.setCell (p := ⟨w.heap.size + 2, 0, none⟩) (Nat.le_add_right _ _) (.int .i64 h2)).setCell (p := ⟨w.heap.size + 2, 1, none⟩) (Nat.le_add_right _ _) (.slice a2 s2.length c2)
        have hF := N8.out.laid (N := w.heap.size + 2) (W := w.heap.size) (by omega) (by omega) (by simp) (.int .i64 h2) (.slice a2 s2.length c2)
        exact bodyPost_ret (v := .tuple #[.agg #[.int .i64 h2, .slice a2 s2.length c2], .bool true]) (by simp [results, Try.results36, go_sem, c0, c1]) rfl ⟨_, by rw [HE.out], by rw [HE.out]; exact hF, hB⟩
theorem implYardMove_any (h : Int) (v : Value) (ss : List (List Int)) (f t : Int) (w : World) (hh : HoldsY w v ss) :
    Calls Try.prog 36 #[.agg #[.int .i64 h, v], .agg #[.int .i64 f, .int .i64 t]] w (MoveYGivesF h ss f t w) := by
  cases hok : ydOk h ss
  · exact implYardMove_bad h v ss f t w hh hok
  · exact implYardMove_good h v ss f t w hh hok
end Go.Proofs.Ytlcfldmiibjboab
