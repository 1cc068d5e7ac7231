/-
  Contracts of the exact laws' own copy of a yard: new memory that holds the same and can be written.
-/
import Derived.Test.YtdmbahpifbidlaaYh
namespace Go.Proofs.Ytdmbahpifbidlaa
open Go.RowKit
set_option linter.unusedVariables false

theorem infoRow : (Try.prog.info? 28).map (fun i => (i.zero, i.size, i.bytes)) = some (some (.slice none 0 0), 1, 24) := by kernel_rfl
theorem FreeI.free_ {K : Nat} {w : World} {v : Value} {l : List Int} (h : FreeI K w v l) : FreeE K w v l := .inr h.at_
theorem FreeY.setLow {K B N : Nat} {w : World} {v : Value} {n : Nat} {R : Nat → List Int} (h : FreeY K B w v n R) (hN : N < K) (o : Nat) (x : Value) : FreeY K B (w.setCell ⟨N, o, none⟩ x) v n R :=
  h.far (by simp [World.setCell]) fun k hk _ _ => Below.heap_setCell _ _ _ _ (by show k ≠ N; omega)
theorem new_at0 (w : World) (a b : Obj) : ((w.alloc a).alloc b).heap[w.heap.size]? = some a := two_lo w a b
theorem new3_0 (w : World) (a b c : Obj) : (((w.alloc a).alloc b).alloc c).heap[w.heap.size]? = some a := (Below.heap_alloc _ _ _ (by simp; omega)).trans (two_lo w a b)
theorem new3_1 (w : World) (a b c : Obj) : (((w.alloc a).alloc b).alloc c).heap[w.heap.size + 1]? = some b := (Below.heap_alloc _ _ _ (by simp)).trans (two_hi w a b)
theorem new3_2 (w : World) (a b c : Obj) : (((w.alloc a).alloc b).alloc c).heap[w.heap.size + 2]? = some c := by
  have e := heap_alloc_new ((w.alloc a).alloc b) c
  rw [show ((w.alloc a).alloc b).heap.size = w.heap.size + 2 by simp] at e
  exact e

set_option maxHeartbeats 2000000 in
theorem toIntSS_free (v : Value) (ss : List (List Int)) (w : World) (hh : HoldsY w v ss) (hn1 : ss.length + ss.flatten.length ≤ 1048576) :
    Calls Try.prog 70 #[v] w fun e w' => ∃ u, e = .returned u ∧ FreeY w.heap.size w'.heap.size w' u ss.length (rowAt ss) ∧ Below w.heap.size w w' := by
  obtain ⟨i0, hi, hz0, hz1, hz2⟩ := info_parts infoRow
  have HU := Lib.hid hh
  obtain ⟨a, cap, rfl, -, -, -, -⟩ := hh
  have HLE := Lib.hid fun k (hk : k < ss.length) => (show (rowAt ss k).length ≤ 1048576 by
    have h1 := sumY_next hk
    have h2 := sumY_le (ss := ss) (k := k + 1) hk
    omega)
  obtain ⟨n, hn⟩ : ∃ n, n = ss.length := ⟨_, rfl⟩
  rw [← hn] at HU HLE ⊢
  have hn0 : n ≤ 1048576 := by omega
  have hb2 : i0.bytes * n ≤ 281474976710656 := by rw [hz2]; omega
  have hb3 : n ≤ maxLen := by unfold maxLen; omega
  clear hn hn1
  go_enter Try.func70, Try.ntmps70
  go_wp2_with (at_make; refine wpList_make_full _ rfl _ _ _ rfl w.heap.size 28 i0 (.slice none 0 0) 1 Try.underlying23 hi hz0 hz1 .i64 .i64 _ _ n rfl rfl rfl rfl hb2 hb3 (Nat.le_refl _) ?_; intro w1 hown hgrow)
  obtain ⟨hx1, hx2⟩ := hown
  have hbel : Below w.heap.size w w1 := (Below.refl _ _).grown hgrow (Nat.le_refl _) (fun k hk => by cases hk)
  obtain ⟨cur0, hcur0, hsz0⟩ : ∃ cur : Array Value, w1.heap[w.heap.size]? = some (.cells cur 28 (0, 0)) ∧ cur.size = n := by
    rcases hx2 with ⟨h1, _⟩ | ⟨g, cap', cur, h1, _, h3, _, _, h6, _⟩
    · cases h1
    · simp only [Value.slice.injEq, Option.some.injEq, Addr.mk.injEq] at h1
      obtain ⟨⟨rfl, -, -⟩, -, rfl⟩ := h1
      exact ⟨cur, h3, by omega⟩
  have HP1 := Lib.hid (PartY.start (R := rowAt ss) hcur0 (Nat.le_of_eq hsz0.symm))
  clear hx1 hx2 hgrow hcur0 hsz0
  generalize hG : w.heap.size = G at *
  go_loopw [4] (fun i wr => ∃ k : Nat, k ≤ n ∧ i = .int .i64 k ∧ Hid (PartY wr G n k (rowAt ss)) ∧ Below G w wr) (fun i _ => n - (intOf i).toNat)
  case atStart => exact ⟨0, by omega, rfl, HP1, hbel⟩
  case round =>
    obtain ⟨k, hk, rfl, HP, hbr⟩ := hrel
    by_cases hlt : k < n
    · have hbr0 : Below w.heap.size w wr := by rw [hG]; exact hbr
      obtain ⟨b, off, x, c, rfl, hb, s0, hc1, hc2, -, hrow⟩ := (HU.out.keep hbr0).at_ hlt
      have HT := Lib.hid (toIntS_free _ _ wr hrow (HLE.out k hlt))
      have ik : (k : Int) < (n : Int) := by omega
      have i0k : (0 : Int) ≤ (k : Int) := by omega
      have hGl := HP.out.lt
      clear hrow HU HLE hbr0
      generalize hr : rowAt ss k = row at s0 HT hc1
      have HR := Lib.hid hr
      clear hr
      go_wp2_with fail
      refine HT.out.mono ?_
      rintro e w5 ⟨u, rfl, f5, b5⟩
      obtain ⟨ua, uc, rfl⟩ := f5.holds.form
      have hsG : G ≤ wr.heap.size := by rw [← hG]; exact hbr.size
      have p5 := HP.out.keep b5
      have q0 := p5.frozen k
      obtain ⟨x0, q1⟩ := p5.cell hlt
      have HS := Lib.hid (HP.out.step b5 hlt (by rw [HR.out]; exact f5.free_))
      have hb5 := hbr.trans (b5.mono hsG)
      clear f5 b5 p5 HT s0
      go_wp2_with fail
      go_roundw
      case rel => exact ⟨k + 1, by omega, by go_num, HS, hb5.setCell (Nat.le_refl _) _⟩
      case measure => simp [intOf]; omega
    · have hkn : k = n := by omega
      subst hkn
      go_wp2_with fail
      go_ret
      refine ⟨_, rfl, ?_, by rw [hG]; exact hbr⟩
      exact HP.out.done (by omega) (Nat.le_refl _) hb3

set_option maxHeartbeats 1000000 in
/-- The exact laws' copy of a yard. -/
theorem toYard_free (h : Int) (v : Value) (ss : List (List Int)) (w : World) (hh : HoldsY w v ss) (hn1 : ss.length + ss.flatten.length ≤ 1048576) :
    Calls Try.prog 42 #[.agg #[.int .i64 h, v]] w fun e w' => ∃ u, e = .returned (.agg #[.int .i64 h, u]) ∧ FreeY w.heap.size w'.heap.size w' u ss.length (rowAt ss) ∧ Below w.heap.size w w' := by
  have HT := Lib.hid fun w' (hb : Below w.heap.size w w') => toIntSS_free v ss w' (hh.keep hb) hn1
  clear hh hn1
  obtain ⟨W3, hW3⟩ : ∃ W3, W3 = (((w.alloc (.cells #[.int .i64 h, v] 53)).alloc (.cells #[.int .i64 0, .slice none 0 0] 25)).alloc (.cells #[.int .i64 h, .slice none 0 0] 25)) := ⟨_, rfl⟩
  have h1 : BoxY (w.heap.size + 1) W3 0 (.slice none 0 0) := by rw [hW3]; exact new3_1 _ _ _ _
  have h2 : BoxY (w.heap.size + 2) W3 h (.slice none 0 0) := by rw [hW3]; exact new3_2 _ _ _ _
  have hb3 : Below w.heap.size w W3 := by rw [hW3]; exact (((Below.refl _ _).alloc (Nat.le_refl _) _).alloc (by simp) _).alloc (by simp; omega) _
  have hz3 : W3.heap.size = w.heap.size + 3 := by rw [hW3]; simp
  have HX := Lib.hid hW3
  have HT3 := Lib.hid (HT.out W3 hb3)
  have H123 := Lib.hid (And.intro h1 (And.intro h2 (And.intro hb3 hz3)))
  clear h1 h2 hb3 hz3 HT hW3
  go_enter Try.func42, Try.ntmps42
  go_wp2_with fail
  rw [← HX.out]
  refine HT3.out.mono ?_
  rintro e w4 ⟨u, rfl, f4, b4⟩
  obtain ⟨ua, uc, rfl⟩ := f4.form
  obtain ⟨h1, h2, hb3, hz3⟩ := H123.out
  have g1 := h1.keep b4
  have g2 := h2.keep b4
  have c0 := g1.c0
  have c1 := g1.c1
  have d0 := g2.c0
  have d1 := g2.c1
  have e0 := g1.frozen 0
  have e1 := g1.frozen 1
  have e2 := g2.frozen 1
  have hb4 := Lib.hid (hb3.trans (b4.mono hb3.size))
  have hf4 := Lib.hid f4
  have HZ3 := Lib.hid hz3
  have ne1 : w.heap.size + 1 ≠ w.heap.size + 2 := by omega
  clear h1 h2 hb3 hz3 g1 g2 b4 f4 HX HT3 H123
  go_wp2_with fail
  have hs := hf4.out
  rw [HZ3.out] at hs
  have hF := ((((hs.setLow (N := w.heap.size + 2) (by omega) 1 (.slice ua ss.length uc)).setLow (N := w.heap.size + 1) (by omega) 0 (.int .i64 h)).setLow (N := w.heap.size + 1) (by omega) 1 (.slice ua ss.length uc)).wide (show w.heap.size ≤ w.heap.size + 3 by omega) (Nat.le_refl _))
  have hB := ((hb4.out.setCell (p := ⟨w.heap.size + 2, 1, none⟩) (Nat.le_add_right _ _) (.slice ua ss.length uc)).setCell (p := ⟨w.heap.size + 1, 0, none⟩) (Nat.le_add_right _ _) (.int .i64 h)).setCell (p := ⟨w.heap.size + 1, 1, none⟩) (Nat.le_add_right _ _) (.slice ua ss.length uc)
  exact bodyPost_ret (v := .agg #[.int .i64 h, .slice ua ss.length uc]) (by simp [results, Try.results42, go_sem, c0, c1]) rfl ⟨_, rfl, by simpa [World.setCell] using hF, hB⟩
end Go.Proofs.Ytdmbahpifbidlaa
