/-
  The draw of a move: l20Move.
-/
import Derived.Test.YtlcfldmiibjboaaGYv
import Derived.Test.YtlcfldmiibjboaaYsM
namespace Go.Proofs.Ytlcfldmiibjboaa
open Go.RowKit
set_option linter.unusedVariables false

theorem BoxM.at_ {B : Nat} {w w' : World} {f t : Int} (hb : BoxM B w f t) (hk : w'.heap[B]? = w.heap[B]?) : BoxM B w' f t := by
  unfold BoxM at hb ⊢
  rw [hk]; exact hb
theorem BoxM.frozen {B : Nat} {w : World} {f t : Int} (hb : BoxM B w f t) (k : Nat) : w.frozen? ⟨B, k, none⟩ = false := by
  unfold BoxM at hb
  simp [World.frozen?, hb]
theorem BoxM.set0 {B : Nat} {w : World} {f t : Int} (hb : BoxM B w f t) (x : Int) : BoxM B (w.setCell ⟨B, 0, none⟩ (.int .i64 x)) x t := by
  unfold BoxM at hb ⊢
  rw [Joins.block_setCell hb]; rfl
theorem BoxM.set1 {B : Nat} {w : World} {f t : Int} (hb : BoxM B w f t) (x : Int) : BoxM B (w.setCell ⟨B, 1, none⟩ (.int .i64 x)) f x := by
  unfold BoxM at hb ⊢
  rw [Joins.block_setCell hb]; rfl
theorem BoxM.other {B N : Nat} {w : World} {f t : Int} (hb : BoxM B w f t) (hne : B ≠ N) (o : Nat) (u : Value) : BoxM B (w.setCell ⟨N, o, none⟩ u) f t := by
  unfold BoxM at hb ⊢
  rw [Below.heap_setCell _ _ _ _ hne]; exact hb
theorem BoxM.new (w : World) (f t : Int) : BoxM w.heap.size (w.alloc (.cells #[.int .i64 f, .int .i64 t] 41)) f t := heap_alloc_new _ _

/-- What a draw of a move gives. -/
def DrewMove (base B p : Nat) (w : World) (e : Ending) (w' : World) : Prop :=
  ∃ (f t : Int) (q : Nat), q ≤ p + 4 ∧ e = .returned (.agg #[.int .i64 f, .int .i64 t]) ∧ Rdr base B q w' ∧ MostB B w w'

/-- What stands while a move is drawn. -/
structure MvSt (base B p : Nat) (w wr : World) (M : Nat) (f t : Int) : Prop where
  rdr : Rdr base B p wr
  res : BoxM (w.heap.size + 1) wr 0 0
  box : BoxM M wr f t
  far : w.heap.size + 1 < M
  most : MostB B w wr
theorem MvSt.far_ {base B p q M : Nat} {w wr wx : World} {f t : Int} (hB : B < w.heap.size) (s : MvSt base B p w wr M f t) (hm : MostB B wr wx) (hr : Rdr base B q wx) : MvSt base B q w wx M f t := by
  have h1 := s.res.lt
  have h2 := s.box.lt
  have h3 := s.far
  exact ⟨hr, s.res.at_ (hm.block _ (by omega) h1), s.box.at_ (hm.block _ (by omega) h2), h3, s.most.trans hm⟩
theorem MvSt.set1 {base B p M : Nat} {w wr : World} {f t : Int} (hB : B < w.heap.size) (hb : base ≤ B) (s : MvSt base B p w wr M f t) (x : Int) : MvSt base B p w (wr.setCell ⟨M, 1, none⟩ (.int .i64 x)) M f x := by
  have h3 := s.far
  exact ⟨s.rdr.set_other (by omega) (by omega) _ _, s.res.other (by omega) _ _, s.box.set1 _, h3, s.most.below_ ((Below.refl _ _).setCell (p := ⟨M, 1, none⟩) (by show w.heap.size ≤ M; omega) _)⟩
theorem MvSt.told {base B p M : Nat} {w wr : World} {f t : Int} (hB : B < w.heap.size) (hb : base ≤ B) (s : MvSt base B p w wr M f t) :
    Rdr base B p ((wr.setCell ⟨w.heap.size + 1, 0, none⟩ (.int .i64 f)).setCell ⟨w.heap.size + 1, 1, none⟩ (.int .i64 t)) ∧ MostB B w ((wr.setCell ⟨w.heap.size + 1, 0, none⟩ (.int .i64 f)).setCell ⟨w.heap.size + 1, 1, none⟩ (.int .i64 t)) :=
  ⟨(s.rdr.set_other (by omega) (by omega) _ _).set_other (by omega) (by omega) _ _,
    (s.most.below_ ((Below.refl _ _).setCell (p := ⟨w.heap.size + 1, 0, none⟩) (Nat.le_add_right _ _) _)).below_ ((Below.refl _ _).setCell (p := ⟨w.heap.size + 1, 1, none⟩) (Nat.le_add_right _ _) _)⟩

theorem MvSt.start {base B p : Nat} {w W2 w3 w4 : World} (hB : B < w.heap.size) (hz : W2.heap.size = w.heap.size + 2) (h0 : BoxM (w.heap.size + 1) W2 0 0) (hm : MostB B w W2) (h3 : Only B W2 w3) (h4 : Only B w3 w4) (hr : Rdr base B p w4) (f t : Int) :
    MvSt base B p w (w4.alloc (.cells #[.int .i64 f, .int .i64 t] 41)) w4.heap.size f t := by
  have hz4 : w4.heap.size = w.heap.size + 2 := by rw [h4.size, h3.size, hz]
  have hb : Below w4.heap.size w4 (w4.alloc (.cells #[.int .i64 f, .int .i64 t] 41)) := (Below.refl _ _).alloc (Nat.le_refl _) _
  have r4 : BoxM (w.heap.size + 1) w4 0 0 := (h0.at_ (h3.block _ (by omega))).at_ (h4.block _ (by omega))
  exact ⟨hr.keep hb, r4.keep hb, BoxM.new _ _ _, by omega, ((hm.trans h3.mostB).trans h4.mostB).below_ (hb.mono (by omega))⟩

set_option maxRecDepth 10000 in
set_option maxHeartbeats 4000000 in
theorem l20Move_any (base B p : Nat) (h : Int) (u : Value) (ss : List (List Int)) (w : World) (hr : Rdr base B p w) (hp : p ≤ 100000) (hy : HoldsY w u ss) (h7 : ss.length ≤ 7) :
    Calls Try.prog 74 #[.pointer (some ⟨B, 0, none⟩), .agg #[.int .i64 h, u]] w (DrewMove base B p w) := by
  have hB : B < w.heap.size := hr.2.1
  have hbs : base ≤ B := hr.1
  obtain ⟨ua, uc, rfl⟩ : ∃ a c, u = .slice a ss.length c := by obtain ⟨a, c, e, _⟩ := hy; exact ⟨a, c, e⟩
  have b2 : Below w.heap.size w ((w.alloc (.cells #[.int .i64 h, .slice ua ss.length uc] 25)).alloc (.cells #[.int .i64 0, .int .i64 0] 41)) := ((Below.refl w.heap.size w).alloc (Nat.le_refl _) _).alloc (by simp) _
  have hR0 : BoxM (w.heap.size + 1) ((w.alloc (.cells #[.int .i64 h, .slice ua ss.length uc] 25)).alloc (.cells #[.int .i64 0, .int .i64 0] 41)) 0 0 := two_hi _ _ _
  have hz : ((w.alloc (.cells #[.int .i64 h, .slice ua ss.length uc] 25)).alloc (.cells #[.int .i64 0, .int .i64 0] 41)).heap.size = w.heap.size + 2 := by simp
  have hr2 := hr.keepK b2 hB
  have hm2 : MostB B w ((w.alloc (.cells #[.int .i64 h, .slice ua ss.length uc] 25)).alloc (.cells #[.int .i64 0, .int .i64 0] 41)) := (MostB.refl B w).below_ b2
  obtain ⟨n, hn⟩ : ∃ n, n = ss.length := ⟨_, rfl⟩
  rw [← hn] at b2 hR0 hz hr2 hm2 h7 ⊢
  clear hy hn hr
  have hmax : n = 0 ∨ 1 ≤ (n : Int) := by omega
  go_enter Try.func74, Try.ntmps74
  rcases hmax with hmax | hmax
  · subst hmax
    go_wp2_with fail
    obtain ⟨m, hm, hm1⟩ : ∃ m : Int, m = 1 ∧ 1 ≤ m := ⟨_, rfl, by omega⟩
    rw [← hm]
    clear hm
    refine (pick_any base B p m _ hr2 (by omega) hm1).mono ?_
    rintro e w3 ⟨f, -, -, rfl, hr3, ho3⟩
    go_wp2_with fail
    refine (pick_any base B (p + 1) m _ hr3 (by omega) hm1).mono ?_
    rintro e w4 ⟨t, -, -, rfl, hr4, ho4⟩
    have ST := Lib.hid (MvSt.start hB hz hR0 hm2 ho3 ho4 hr4 f t)
    clear hR0 hm2 hr2 hr3 ho3 hr4 ho4 b2 hz
    go_wp2_with fail
    refine (odd_any base B (p + 1 + 1) 30 _ ST.out.rdr (by omega) (by omega) (by omega)).mono ?_
    rintro e w5 ⟨v, rfl, hr5, ho5⟩
    have S5 := Lib.hid (ST.out.far_ hB ho5.mostB hr5)
    clear ST hr5 ho5
    generalize w4.heap.size = M at S5 ⊢
    cases v
    · have c0 := S5.out.box.c0
      have c1 := S5.out.box.c1
      have d0 := S5.out.res.c0
      have d1 := S5.out.res.c1
      have e0 := S5.out.res.frozen 0
      have e1 := S5.out.res.frozen 1
      go_wp2_with fail
      obtain ⟨t1, t2⟩ := S5.out.told hB hbs
      exact bodyPost_ret (v := .agg #[.int .i64 f, .int .i64 t]) (by simp [results, Try.results74, go_sem, d0, d1]) rfl ⟨f, t, _, by omega, rfl, t1, t2⟩
    · have S6 := Lib.hid (S5.out.far_ hB ((MostB.refl B w5).alloc (.cells #[.int .i64 (-1), .int .i64 m] 3)) (S5.out.rdr.keep ((Below.refl _ _).alloc (Nat.le_refl _) _)))
      have hB5 : B < w5.heap.size := by have := S5.out.res.lt; omega
      have hM5 : M ≠ w5.heap.size := by have := S5.out.box.lt; omega
      clear S5
      go_wp2_with fail
      refine (pick_any base B (p + 1 + 1 + 1) 2 _ S6.out.rdr (by omega) (by omega)).mono ?_
      rintro e w6 ⟨x6, x60, x61, rfl, hr6, ho6⟩
      have S7 := Lib.hid (S6.out.far_ hB ho6.mostB hr6)
      have k0 : w6.heap[w5.heap.size]? = some (.cells #[.int .i64 (-1), .int .i64 m] 3 (0, 0)) := by
        rw [ho6.block _ (by omega)]
        exact heap_alloc_new _ _
      have m0 : w6.cell? ⟨w5.heap.size, 0, none⟩ = some (.int .i64 (-1)) := by simp [World.cell?, k0]
      have m1 : w6.cell? ⟨w5.heap.size, 1, none⟩ = some (.int .i64 m) := by simp [World.cell?, k0]
      have b1 := S7.out.box.c1
      have f1 := S7.out.box.frozen 1
      clear S6 hr6 ho6 k0
      rcases (by omega : x6 = 0 ∨ x6 = 1) with hx | hx
      · subst hx
        have E6 := Lib.hid (S7.out.set1 hB hbs (-1))
        have c0 := E6.out.box.c0
        have c1 := E6.out.box.c1
        have d0 := E6.out.res.c0
        have d1 := E6.out.res.c1
        have e0 := E6.out.res.frozen 0
        have e1 := E6.out.res.frozen 1
        clear S7
        go_wp2_with fail
        obtain ⟨t1, t2⟩ := E6.out.told hB hbs
        exact bodyPost_ret (v := .agg #[.int .i64 f, .int .i64 (-1)]) (by simp [results, Try.results74, go_sem, d0, d1]) rfl ⟨f, -1, _, by omega, rfl, t1, t2⟩
      · subst hx
        have E6 := Lib.hid (S7.out.set1 hB hbs m)
        have c0 := E6.out.box.c0
        have c1 := E6.out.box.c1
        have d0 := E6.out.res.c0
        have d1 := E6.out.res.c1
        have e0 := E6.out.res.frozen 0
        have e1 := E6.out.res.frozen 1
        clear S7
        go_wp2_with fail
        obtain ⟨t1, t2⟩ := E6.out.told hB hbs
        exact bodyPost_ret (v := .agg #[.int .i64 f, .int .i64 m]) (by simp [results, Try.results74, go_sem, d0, d1]) rfl ⟨f, m, _, by omega, rfl, t1, t2⟩
  · go_wp2_with fail
    obtain ⟨m, hm, hm1⟩ : ∃ m : Int, m = (n : Int) ∧ 1 ≤ m := ⟨_, rfl, hmax⟩
    rw [← hm]
    clear hm
    refine (pick_any base B p m _ hr2 (by omega) hm1).mono ?_
    rintro e w3 ⟨f, -, -, rfl, hr3, ho3⟩
    go_wp2_with fail
    refine (pick_any base B (p + 1) m _ hr3 (by omega) hm1).mono ?_
    rintro e w4 ⟨t, -, -, rfl, hr4, ho4⟩
    have ST := Lib.hid (MvSt.start hB hz hR0 hm2 ho3 ho4 hr4 f t)
    clear hR0 hm2 hr2 hr3 ho3 hr4 ho4 b2 hz
    go_wp2_with fail
    refine (odd_any base B (p + 1 + 1) 30 _ ST.out.rdr (by omega) (by omega) (by omega)).mono ?_
    rintro e w5 ⟨v, rfl, hr5, ho5⟩
    have S5 := Lib.hid (ST.out.far_ hB ho5.mostB hr5)
    clear ST hr5 ho5
    generalize w4.heap.size = M at S5 ⊢
    cases v
    · have c0 := S5.out.box.c0
      have c1 := S5.out.box.c1
      have d0 := S5.out.res.c0
      have d1 := S5.out.res.c1
      have e0 := S5.out.res.frozen 0
      have e1 := S5.out.res.frozen 1
      go_wp2_with fail
      obtain ⟨t1, t2⟩ := S5.out.told hB hbs
      exact bodyPost_ret (v := .agg #[.int .i64 f, .int .i64 t]) (by simp [results, Try.results74, go_sem, d0, d1]) rfl ⟨f, t, _, by omega, rfl, t1, t2⟩
    · have S6 := Lib.hid (S5.out.far_ hB ((MostB.refl B w5).alloc (.cells #[.int .i64 (-1), .int .i64 m] 3)) (S5.out.rdr.keep ((Below.refl _ _).alloc (Nat.le_refl _) _)))
      have hB5 : B < w5.heap.size := by have := S5.out.res.lt; omega
      have hM5 : M ≠ w5.heap.size := by have := S5.out.box.lt; omega
      clear S5
      go_wp2_with fail
      refine (pick_any base B (p + 1 + 1 + 1) 2 _ S6.out.rdr (by omega) (by omega)).mono ?_
      rintro e w6 ⟨x6, x60, x61, rfl, hr6, ho6⟩
      have S7 := Lib.hid (S6.out.far_ hB ho6.mostB hr6)
      have k0 : w6.heap[w5.heap.size]? = some (.cells #[.int .i64 (-1), .int .i64 m] 3 (0, 0)) := by
        rw [ho6.block _ (by omega)]
        exact heap_alloc_new _ _
      have m0 : w6.cell? ⟨w5.heap.size, 0, none⟩ = some (.int .i64 (-1)) := by simp [World.cell?, k0]
      have m1 : w6.cell? ⟨w5.heap.size, 1, none⟩ = some (.int .i64 m) := by simp [World.cell?, k0]
      have b1 := S7.out.box.c1
      have f1 := S7.out.box.frozen 1
      clear S6 hr6 ho6 k0
      rcases (by omega : x6 = 0 ∨ x6 = 1) with hx | hx
      · subst hx
        have E6 := Lib.hid (S7.out.set1 hB hbs (-1))
        have c0 := E6.out.box.c0
        have c1 := E6.out.box.c1
        have d0 := E6.out.res.c0
        have d1 := E6.out.res.c1
        have e0 := E6.out.res.frozen 0
        have e1 := E6.out.res.frozen 1
        clear S7
        go_wp2_with fail
        obtain ⟨t1, t2⟩ := E6.out.told hB hbs
        exact bodyPost_ret (v := .agg #[.int .i64 f, .int .i64 (-1)]) (by simp [results, Try.results74, go_sem, d0, d1]) rfl ⟨f, -1, _, by omega, rfl, t1, t2⟩
      · subst hx
        have E6 := Lib.hid (S7.out.set1 hB hbs m)
        have c0 := E6.out.box.c0
        have c1 := E6.out.box.c1
        have d0 := E6.out.res.c0
        have d1 := E6.out.res.c1
        have e0 := E6.out.res.frozen 0
        have e1 := E6.out.res.frozen 1
        clear S7
        go_wp2_with fail
        obtain ⟨t1, t2⟩ := E6.out.told hB hbs
        exact bodyPost_ret (v := .agg #[.int .i64 f, .int .i64 m]) (by simp [results, Try.results74, go_sem, d0, d1]) rfl ⟨f, m, _, by omega, rfl, t1, t2⟩
end Go.Proofs.Ytlcfldmiibjboaa
