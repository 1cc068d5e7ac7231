/-
  The draw of a yard and moves: DrawYardRun.
-/
import Derived.Test.YtlcfldmiibjboaaYkS
import Derived.Test.YtlcfldmiibjboaaGYv
namespace Go.Proofs.Ytlcfldmiibjboaa
open Go.RowKit
set_option linter.unusedVariables false

/-- What a draw of a yard and moves gives its law. -/
def DrewYR (w : World) (e : Ending) (w' : World) : Prop :=
  ∃ (h : Int) (u : Value) (ss : List (List Int)) (lv : Value) (ms : List (Int × Int)), ss.length ≤ 7 ∧ ss.flatten.length ≤ 100 ∧ ms.length ≤ 41 ∧ e = .returned (.tuple #[.agg #[.int .i64 h, u], lv]) ∧ HoldsY w' u ss ∧ HoldsM w' lv ms ∧ Below w.heap.size w w'
set_option maxRecDepth 10000 in
set_option maxHeartbeats 4000000 in
theorem drawYardRun_any (a : Option Addr) (len cap : Nat) (w : World) (h : IsRow8 w a len cap) :
    Calls Try.prog 30 #[.slice a len cap] w (DrewYR w) := by
  obtain ⟨i0, hi, hz0, hz1, hz2⟩ := info_parts infoMv
  have HI := Lib.hid hi
  have HZ0 := Lib.hid hz0
  have HZ1 := Lib.hid hz1
  have HZ2 := Lib.hid hz2
  clear hi hz0 hz1 hz2
  have ba : Below w.heap.size w (w.alloc (.cells #[.int .i64 0, .slice none 0 0] 25)) := (Below.refl _ _).alloc (Nat.le_refl _) _
  have ra := BoxY.new w 0 (.slice none 0 0)
  have hz : (w.alloc (.cells #[.int .i64 0, .slice none 0 0] 25)).heap.size = w.heap.size + 1 := by simp
  go_enter Try.func30, Try.ntmps30
  go_wp2_with fail
  refine (open_any a len cap _ (row8_keep h ba)).mono ?_
  generalize (w.alloc (.cells #[.int .i64 0, .slice none 0 0] 25)) = wa at ba ra hz ⊢
  rintro e w1 ⟨rfl, hr, hb, hz1⟩
  generalize wa.heap.size = B at hz hr hb hz1 ⊢
  subst hz
  have r1 := ra.at_ (hb.block w.heap.size (Nat.lt_succ_self _))
  have b1 : Below w.heap.size w w1 := ba.trans (hb.mono (by omega))
  clear h hb ba ra
  go_wp2_with fail
  refine (l20Yard_any _ _ 0 9 w1 hr (by omega) (by omega) (by omega)).mono ?_
  rintro e w2 ⟨hh, u, ss, q, hq, hl, hf, rfl, hn, hr2, hm⟩
  obtain ⟨ua, uc, rfl⟩ := hn.form
  -- the yard in its box: W3; the list and the yard after the moves behind it: W5
  have b3 : Below w2.heap.size w2 (w2.alloc (.cells #[.int .i64 hh, .slice ua ss.length uc] 25)) := (Below.refl _ _).alloc (Nat.le_refl _) _
  have y3 := BoxY.new w2 hh (.slice ua ss.length uc)
  have hn3 := hn.keep b3
  have hm3 := hm.below_ (b3.mono hm.size)
  have hr3 := hr2.keepK b3 hr2.2.1
  have hYB : w.heap.size + 1 < w2.heap.size := hr2.2.1
  obtain ⟨W3, hW3⟩ : ∃ W3, W3 = w2.alloc (.cells #[.int .i64 hh, .slice ua ss.length uc] 25) := ⟨_, rfl⟩
  have hz3 : W3.heap.size = w2.heap.size + 1 := by rw [hW3]; simp
  rw [← hW3] at y3 hn3 hm3 hr3
  have ya := fun T => (y3.keep ((Below.refl W3.heap.size W3).alloc (Nat.le_refl _) (.cells #[] T))).c0
  have yb := fun T => (y3.keep ((Below.refl W3.heap.size W3).alloc (Nat.le_refl _) (.cells #[] T))).c1
  have s5 : RunSt (w.heap.size + 1) (w.heap.size + 1) q W3 ((W3.alloc (.cells #[] 41)).alloc (.cells #[.int .i64 hh, .slice ua ss.length uc] 25)) (W3.heap.size + 1) hh (.slice ua ss.length uc) ss W3.heap.size 0 [] := by
    have hb5 := ((Below.refl W3.heap.size W3).alloc (Nat.le_refl _) (.cells #[] 41)).alloc (by simp) (.cells #[.int .i64 hh, .slice ua ss.length uc] 25)
    refine ⟨hr3.keepK hb5 hr3.2.1, (MostB.refl _ _).below_ hb5, own_empty (Nat.le_refl _) (two_lo _ _ _), two_hi _ _ _, by omega, by omega, ?_⟩
    exact fun w' hs hb => hn3.far (Nat.le_trans hb5.size hs) fun k hk hkl => (hb k (Nat.lt_of_lt_of_le hkl hb5.size) (by omega) (by omega) (by omega)).trans (hb5.block k hkl)
  have S5 := Lib.hid s5
  have HW3 := Lib.hid hW3
  rw [hW3] at ya yb
  clear hr hm hn hr2 b3 hr3 s5
  go_wp2_with fail
  clear ya yb
  rw [← HW3.out]
  rw [hz3] at S5
  have hn3m : Hid (∀ w', MostB (w.heap.size + 1) W3 w' → BoxY w2.heap.size w' hh (.slice ua ss.length uc) ∧ HoldsY w' (.slice ua ss.length uc) ss) := Lib.hid fun w' hs =>
    ⟨y3.at_ (hs.block _ (by omega) y3.lt), (hn3.most hs (by omega)).holds⟩
  have RES := Lib.hid (And.intro r1 (And.intro b1 (And.intro hm3 (And.intro hn3 y3))))
  have hW3s := HW3.out
  generalize w2.heap.size = Y at S5 hn3m hz3 hYB ⊢
  clear HW3 y3 hn3 r1 b1 hm3 hW3s
  have S5r := S5.out.rdr
  refine (pick_any _ _ q 12 _ S5r (by omega) (by omega)).mono ?_
  rintro e w6 ⟨x6, x60, x61, rfl, hr6, ho6⟩
  obtain ⟨j1, rfl⟩ := Int.eq_ofNat_of_zero_le x60
  have S6 := Lib.hid (S5.out.go ho6.mostB hr6)
  clear S5 S5r hr6 ho6
  have hj1 : j1 ≤ 11 := by omega
  clear x60 x61
  go_wp2_with fail
  go_loopw [6, 8] (fun lv k wr => ∃ (qq j : Nat) (hx : Int) (xv : Value) (tt : List (List Int)) (g cap : Nat) (ms : List (Int × Int)), lv = .slice (some ⟨g, 0, none⟩) ms.length cap ∧ k = .int .i64 j ∧ ms.length + j ≤ 11 ∧ qq + 5 * j ≤ q + 100 ∧ tt.flatten.length ≤ 100 ∧ Hid (RunSt (w.heap.size + 1) (w.heap.size + 1) qq W3 wr (Y + 1 + 1) hx xv tt g cap ms)) (fun _ k _ => (intOf k).toNat)
  case atStart => exact ⟨q + 1, j1, hh, _, ss, Y + 1, 0, [], rfl, rfl, by simp; omega, by omega, hf, S6⟩
  case round =>
    clear S6
    obtain ⟨qq, j, hx, xv, tt, g, cp, ms, rfl, rfl, hlj, hqq, htt, RS⟩ := hrel
    by_cases hlt : 0 < j
    · obtain ⟨xs, xc, rfl⟩ : ∃ a c, xv = .slice a tt.length c := by obtain ⟨a, c, e, _⟩ := RS.out.stay.holds; exact ⟨a, c, e⟩
      obtain ⟨y7, yh⟩ := hn3m.out wr RS.out.most
      have ya := y7.c0
      have yb := y7.c1
      clear y7
      go_wp2_with fail
      refine (l20Move_any _ _ qq hh (.slice ua ss.length uc) ss wr RS.out.rdr (by omega) yh hl).mono ?_
      rintro e w7 ⟨f, t, q7, hq7, rfl, hr7, hm7⟩
      have s7 := RS.out.go hm7 hr7
      have s7r := s7.most
      clear ya yb yh hr7 hm7 RS
      have b8 : Below w7.heap.size w7 (w7.alloc (.cells #[.int .i64 f, .int .i64 t] 41)) := (Below.refl _ _).alloc (Nat.le_refl _) _
      have m8 := BoxM.new w7 f t
      have xa := fun T => (s7.keep ((Below.refl w7.heap.size w7).alloc (Nat.le_refl _) (.cells #[.int .i64 f, .int .i64 t] T))).box.c0
      have xb := fun T => (s7.keep ((Below.refl w7.heap.size w7).alloc (Nat.le_refl _) (.cells #[.int .i64 f, .int .i64 t] T))).box.c1
      have s8 := s7.keep b8
      obtain ⟨W8, hW8⟩ : ∃ W8, W8 = w7.alloc (.cells #[.int .i64 f, .int .i64 t] 41) := ⟨_, rfl⟩
      rw [← hW8] at m8 s8
      have HW8 := Lib.hid hW8
      have hmc : (moveY hx tt f t).2 = true → (moveY hx tt f t).1.2.flatten.length ≤ 100 := by
        rcases moveY_cases hx tt f t with ⟨_, e⟩ | ⟨_, e⟩ | ⟨_, uu, e, _, _, hp, _⟩
        · rw [e]; intro hc; cases hc
        · rw [e]; intro hc; cases hc
        · rw [e]; intro _; show uu.flatten.length ≤ 100; rw [hp.length_eq]; exact htt
      have HMC := Lib.hid (specYardMove_any hx (.slice xs tt.length xc) tt f t W8 s8.stay.holds (by omega))
      unfold MoveYGives at HMC
      generalize moveY hx tt f t = mv at HMC hmc
      obtain ⟨⟨h9, t9⟩, ok⟩ := mv
      have HTT := Lib.hid hmc
      clear s7 b8 hW8 hmc
      have S8 := Lib.hid s8
      have M8 := Lib.hid m8
      clear s8 m8
      go_wp2_with fail
      rw [← HW8.out]
      refine HMC.out.mono ?_
      rintro e w9 ⟨u9, rfl, n9, b9⟩
      have n9' : NewY W8.heap.size w9 u9 t9 := n9
      obtain ⟨a9, c9, rfl⟩ := n9'.form
      have hgX := S8.out.bd
      have hXl := S8.out.box.lt
      have hBl := S8.out.low
      have hWs := S8.out.most.size
      have z9 : StayY (w.heap.size + 1) g (Y + 1 + 1) w9 (.slice a9 t9.length c9) t9 := StayY.of_new n9' (by omega) (.inl hgX.1) (.inl hXl)
      have hs9 := b9.size
      have b10 : Below w9.heap.size w9 (w9.alloc (.cells #[.int .i64 h9, .slice a9 t9.length c9] 25)) := (Below.refl _ _).alloc (Nat.le_refl _) _
      have S10 := Lib.hid ((S8.out.keep b9).keep b10)
      have Z10 := Lib.hid (z9.most ((MostB.refl _ _).below_ b10))
      have ZB := Lib.hid (BoxY.new w9 h9 (.slice a9 t9.length c9))
      have M10 := Lib.hid ((M8.out.keep b9).keep b10)
      have hM10 := M8.out.lt
      have hM7 : w.heap.size + 1 ≠ w7.heap.size := by have := s7r.size; omega
      clear n9 n9' z9 HMC xa xb S8 M8 HW8
      cases ok
      · clear ZB Z10 HTT b10
        go_wp2_with fail
        refine (odd_any _ _ q7 20 _ S10.out.rdr (by omega) (by omega) (by omega)).mono ?_
        rintro e w11 ⟨v, rfl, hr11, ho11⟩
        have S11 := Lib.hid (S10.out.go ho11.mostB hr11)
        have m11 := M10.out.at_ (ho11.block _ (Ne.symm hM7))
        have ma := m11.c0
        have mb := m11.c1
        clear m11 hr11 ho11 S10 M10
        cases v
        · go_wp2_with fail
          go_roundw
          case rel => exact ⟨q7 + 1, j - 1, hx, _, tt, g, cp, ms, rfl, by congr 1; omega, by omega, by omega, htt, S11⟩
          case measure => simp [intOf]; omega
        · have A11 := Lib.hid fun o : Obj => (Below.refl w11.heap.size w11).alloc (Nat.le_refl _) o
          have O11 := Lib.hid fun o : Obj => (S11.out.keep (A11.out o)).own
          have HSZ := Lib.hid fun o : Obj => (S11.out.keep (A11.out o)).most.size
          have HCN := Lib.hid fun j u hj => cells_new (w := w11) (cs := [Value.int .i64 f, .int .i64 t]) (T := 41) j u hj
          go_wp2_with (at_builtin; refine wpList_append_lies _ rfl _ _ 46 rfl W3.heap.size 41 i0 (.agg #[.int .i64 0, .int .i64 0]) 2 16 Try.underlying46 HI.out HZ0.out HZ1.out HZ2.out rfl (by decide) _ ms.length (rowM ms) rfl (O11.out _) ⟨w11.heap.size, 0, none⟩ 1 1 [.int .i64 f, .int .i64 t] rfl rfl HCN.out (by simp [Value.oneCell']) (by decide) (by unfold maxLen; omega) (by omega) (HSZ.out _) _ rfl ?_; intro g6 c6 w6 ho6 hg6 hgg6 _; have P := Lib.hid ((S11.out.keep (A11.out _)).push ho6 hg6 hgg6); clear ho6 hg6 hgg6)
          go_roundw
          case rel => exact ⟨q7 + 1, j - 1, hx, _, tt, g6, c6, ms ++ [(f, t)], by rw [List.length_append]; rfl, by congr 1; omega, by simp; omega, by omega, htt, Lib.hid P.out.1⟩
          case measure => simp [intOf]; omega
      · have ma := fun T => ((M10.out.at_ (w' := w9.alloc (.cells #[.int .i64 h9, .slice a9 t9.length c9] T)) (by rw [Below.heap_alloc _ _ _ (by omega), Below.heap_alloc _ _ _ (by omega)]))).c0
        have mb := fun T => ((M10.out.at_ (w' := w9.alloc (.cells #[.int .i64 h9, .slice a9 t9.length c9] T)) (by rw [Below.heap_alloc _ _ _ (by omega), Below.heap_alloc _ _ _ (by omega)]))).c1
        have A11 := Lib.hid fun o : Obj => (Below.refl (w9.alloc (.cells #[.int .i64 h9, .slice a9 t9.length c9] 25)).heap.size (w9.alloc (.cells #[.int .i64 h9, .slice a9 t9.length c9] 25))).alloc (Nat.le_refl _) o
        have O11 := Lib.hid fun o : Obj => (S10.out.keep (A11.out o)).own
        have HSZ := Lib.hid fun o : Obj => (S10.out.keep (A11.out o)).most.size
        have hcn : ∀ j u, [Value.int .i64 f, .int .i64 t][j]? = some u → ((w9.alloc (.cells #[.int .i64 h9, .slice a9 t9.length c9] 25)).alloc (.cells #[.int .i64 f, .int .i64 t] 41)).cell? ((⟨w9.heap.size + 1, 0, none⟩ : Addr).add j) = some u := by
          intro j u hj
          have := cells_new (w := w9.alloc (.cells #[.int .i64 h9, .slice a9 t9.length c9] 25)) (T := 41) j u hj
          simpa using this
        have HCN := Lib.hid hcn
        clear hcn b10
        go_wp2_with (at_builtin; refine wpList_append_lies _ rfl _ _ 46 rfl W3.heap.size 41 i0 (.agg #[.int .i64 0, .int .i64 0]) 2 16 Try.underlying46 HI.out HZ0.out HZ1.out HZ2.out rfl (by decide) _ ms.length (rowM ms) rfl (O11.out _) ⟨w9.heap.size + 1, 0, none⟩ 1 1 [.int .i64 f, .int .i64 t] rfl rfl HCN.out (by simp [Value.oneCell']) (by decide) (by unfold maxLen; omega) (by omega) (HSZ.out _) _ rfl ?_; intro g6 c6 w6 ho6 hg6 hgg6 _; have P := Lib.hid ((S10.out.keep (A11.out _)).push ho6 hg6 hgg6); have zz := (ZB.out.keep (A11.out _)).at_ (P.out.2.2 _ (by simp; omega) (by omega)); have za := zz.c0; have zb := zz.c1; have xx := P.out.1.box; have xa := xx.c0; have xb := xx.c1; have xf := xx.frozen 0; have xg := xx.frozen 1; have S12 := Lib.hid (P.out.1.take (h' := h9) (P.out.2.1 _ _ (Z10.out.most ((MostB.refl _ _).below_ (A11.out _))))); clear ho6 hg6 hgg6 zz xx)
        go_roundw
        case rel => exact ⟨q7, j - 1, h9, _, t9, g6, c6, ms ++ [(f, t)], by rw [List.length_append]; rfl, by congr 1; omega, by simp; omega, by omega, HTT.out (by trivial), S12⟩
        case measure => simp [intOf]; omega
    · have hj0 : j = 0 := by omega
      clear hlt
      subst hj0
      obtain ⟨r1, b1, hm3, hn3, -⟩ := RES.out
      go_wp2_with fail
      refine (odd_any _ _ qq 40 _ RS.out.rdr (by omega) (by omega) (by omega)).mono ?_
      rintro e w6 ⟨v, rfl, hr6, ho6⟩
      have s6 := RS.out.go ho6.mostB hr6
      have hW := s6.low
      clear RS hr6 ho6
      cases v
      · have R := Lib.hid (run_res (h := hh) r1 b1 (Nat.lt_succ_self _) (hm3.trans s6.most) (hn3.most s6.most (by omega)) s6.own (by omega))
        have y6 := (hn3m.out _ s6.most).1
        have ya := y6.c0
        have yb := y6.c1
        have d0 := R.out.1.c0
        have d1 := R.out.1.c1
        have e0 := R.out.1.frozen 0
        have e1 := R.out.1.frozen 1
        clear s6 r1 b1 hm3 hn3 y6
        go_wp2_with fail
        exact bodyPost_ret (v := .tuple #[.agg #[.int .i64 hh, .slice ua ss.length uc], .slice (some ⟨g, 0, none⟩) ms.length cp]) (by simp [results, Try.results30, go_sem, d0, d1]) rfl ⟨hh, _, ss, _, ms, hl, hf, by omega, rfl, R.out.2.1, R.out.2.2.1, R.out.2.2.2⟩
      · have m2 : i0.bytes * 41 ≤ 281474976710656 := by rw [HZ2.out]; omega
        have m3 : 41 ≤ maxLen := by unfold maxLen; omega
        have sz6 := s6.most.size
        go_wp2_with (at_make; refine wpList_make_full _ rfl _ _ _ rfl w6.heap.size 41 i0 (.agg #[.int .i64 0, .int .i64 0]) 2 Try.underlying46 HI.out HZ0.out HZ1.out .i64 .i64 _ _ 41 rfl rfl rfl rfl m2 m3 (Nat.le_refl _) ?_; intro w4 hown4 hgrow; have hb4 : Below w6.heap.size w6 w4 := (Below.refl _ _).grown hgrow (Nat.le_refl _) (fun k hk => by cases hk); have m4 := s6.most.below_ (hb4.mono sz6); have R := Lib.hid (run_res (h := hh) r1 b1 (Nat.lt_succ_self _) (hm3.trans m4) (hn3.most m4 (by omega)) (moves41 hown4) (by omega)); have y6 := (hn3m.out _ m4).1; have ya := y6.c0; have yb := y6.c1; have d0 := R.out.1.c0; have d1 := R.out.1.c1; have e0 := R.out.1.frozen 0; have e1 := R.out.1.frozen 1; clear s6 r1 b1 hm3 hn3 y6 hb4 m4 hgrow hown4)
        exact bodyPost_ret (v := .tuple #[.agg #[.int .i64 hh, .slice ua ss.length uc], .slice (some ⟨w6.heap.size, 0, none⟩) 41 41]) (by simp [results, Try.results30, go_sem, d0, d1]) rfl ⟨hh, _, ss, _, List.replicate 41 (0, 0), hl, hf, by simp, rfl, R.out.2.1, R.out.2.2.1, R.out.2.2.2⟩
end Go.Proofs.Ytlcfldmiibjboaa
