/-
  Pairs in the exact laws: looking whether lists are the same, marking, looking at the marks.
-/
import Derived.Test.YtlccmgdmfchmnaaDoorPrF
namespace Go.Proofs.YtlccmgdmfchmnaaDoor
open Go.RowKit
set_option linter.unusedVariables false

theorem eqPair_same (f t : Int) (w : World) :
    Calls Tryd.prog 62 #[.agg #[.int .i64 f, .int .i64 t], .agg #[.int .i64 f, .int .i64 t]] w fun e w' => e = .returned (.bool true) ∧ Below w.heap.size w w' := by
  have b1 : (f != f) = false := by simp
  have b2 : (t != t) = false := by simp
  go_enter Tryd.func62, Tryd.ntmps62
  go_wp2
  go_ret
  exact ⟨rfl, ((Below.refl _ _).alloc (Nat.le_refl _) _).alloc (by simp) _⟩

set_option maxHeartbeats 1000000 in
theorem eqPairS_same (u v : Value) (l : List (Int × Int)) (w : World) (hu : HoldsM w u l) (hv : HoldsM w v l) :
    Calls Tryd.prog 31 #[u, v] w fun e w' => e = .returned (.bool true) ∧ Below w.heap.size w w' := by
  have HU := Lib.hid fun w' (hb : Below w.heap.size w w') => hu.keep hb
  have HV := Lib.hid fun w' (hb : Below w.heap.size w w') => hv.keep hb
  obtain ⟨a, cap, rfl, h2, h3, h4⟩ := hu
  obtain ⟨a', cap', rfl, h2', h3', h4'⟩ := hv
  have hm : l.length ≤ 9223372036854775807 := by unfold maxLen at h3; omega
  obtain ⟨n, hn⟩ : ∃ n, n = l.length := ⟨_, rfl⟩
  rw [← hn] at HU HV hm ⊢
  have hne : ((n : Int) != (n : Int)) = false := by simp
  clear hn h2 h3 h4 h2' h3' h4'
  go_enter Tryd.func31, Tryd.ntmps31
  go_wp2_with fail
  go_loopw [5] (fun i wr => ∃ k : Nat, k ≤ n ∧ i = .int .i64 k ∧ Below w.heap.size w wr) (fun i _ => n - (intOf i).toNat)
  case atStart => exact ⟨0, by omega, rfl, Below.refl _ _⟩
  case round =>
    obtain ⟨k, hk, rfl, hbr⟩ := hrel
    by_cases hlt : k < n
    · obtain ⟨b, off, hkl, rfl, h6, s0, s1⟩ := (HU.out wr hbr).at_ hlt
      obtain ⟨b', off', hkl', rfl, h6', t0, t1⟩ := (HV.out wr hbr).at_ hlt
      have HE := Lib.hid fun w => eqPair_same l[k].1 l[k].2 w
      generalize l[k].1 = f at s0 t0 HE
      generalize l[k].2 = t at s1 t1 HE
      go_wp2_with fail
      (first | go_region_with (go_at_call 62; ((with_reducible refine (HE.out _).mono ?_); rintro e w2 ⟨rfl, b2⟩)) | fail)
      all_goals
        have c2 : Below w.heap.size w w2 := hbr.trans (Below.mono (w := wr) ⟨b2.os, b2.tape, b2.output, b2.size, b2.block⟩ hbr.size)
        go_wp2_with fail
        go_roundw
        case rel => exact ⟨k + 1, by omega, by go_num, c2⟩
        case measure => simp [intOf]; omega
    · go_wp2_with fail
      go_ret
      exact ⟨rfl, hbr⟩

set_option maxHeartbeats 1000000 in
theorem markPairS_q (v : Value) (K q : Nat) (l : List (Int × Int)) (w : World) (hf : FreeQ K w v l) (hq : q + 2 * l.length ≤ 281474976710656) :
    Calls Tryd.prog 36 #[v, .int .i64 (q : Int)] w fun e w' => e = .returned (.int .i64 ((q + 2 * l.length : Nat) : Int)) ∧ HoldsM w' v (marksP q l.length) ∧ Below K w w' := by
  rcases hf with ⟨rfl, a, c, rfl, hc⟩ | ⟨g, hg, c, cur, T, rfl, h3, h4, h5, h6, h7⟩
  · go_enter Tryd.func36, Tryd.ntmps36
    go_wp2_with fail
    go_loopw [1, 5] (fun s i wr => s = .int .i64 (q : Int) ∧ i = .int .i64 0 ∧ wr = w) (fun _ _ _ => 0)
    case atStart => exact ⟨rfl, rfl, rfl⟩
    case round =>
      obtain ⟨rfl, rfl, rfl⟩ := hrel
      go_wp2_with fail
      go_ret
      exact ⟨rfl, ⟨_, _, rfl, Nat.zero_le _, hc, .inl rfl⟩, Below.refl _ _⟩
  · obtain ⟨n, hn⟩ : ∃ n, n = l.length := ⟨_, rfl⟩
    have HC := Lib.hid (show w.heap[g]? = some (.cells cur T (0, 0)) ∧ n * 2 ≤ cur.size ∧ ∀ j, j < 0 → cur[j * 2]? = some (.int .i64 ((q + 2 * j : Nat) : Int)) ∧ cur[j * 2 + 1]? = some (.int .i64 (((q + 2 * j : Nat) : Int) + 1)) from ⟨h5, by omega, fun j hj => by omega⟩)
    rw [← hn] at h3 hq ⊢
    have HG := Lib.hid hg
    have H3 := Lib.hid (And.intro h3 h4)
    clear hn h5 h6 h7 hg h3 h4
    go_enter Tryd.func36, Tryd.ntmps36
    go_wp2_with fail
    go_loopw [1, 5] (fun s i wr => ∃ (k : Nat) (cu : Array Value), k ≤ n ∧ i = .int .i64 k ∧ s = .int .i64 ((q + 2 * k : Nat) : Int) ∧ Hid (wr.heap[g]? = some (.cells cu T (0, 0)) ∧ n * 2 ≤ cu.size ∧ ∀ j, j < k → cu[j * 2]? = some (.int .i64 ((q + 2 * j : Nat) : Int)) ∧ cu[j * 2 + 1]? = some (.int .i64 (((q + 2 * j : Nat) : Int) + 1))) ∧ Hid (Below K w wr)) (fun _ i _ => n - (intOf i).toNat)
    case atStart => exact ⟨0, _, by omega, rfl, rfl, HC, Lib.hid (Below.refl _ _)⟩
    case round =>
      clear HC
      obtain ⟨k, cu, hk, rfl, rfl, HC, HBR⟩ := hrel
      by_cases hlt : k < n
      · obtain ⟨hc1, hc2, -⟩ := HC.out
        have f0 : wr.frozen? ⟨g, k * 2, none⟩ = false := by simp [World.frozen?, hc1]
        have f1 : wr.frozen? ⟨g, k * 2 + 1, none⟩ = false := by simp [World.frozen?, hc1]
        obtain ⟨x0, t0⟩ : ∃ x, wr.cell? ⟨g, k * 2, none⟩ = some x := ⟨cu[k * 2]'(by omega), by simp only [World.cell?, hc1]; exact Array.getElem?_eq_getElem _⟩
        obtain ⟨x1, t1⟩ : ∃ x, wr.cell? ⟨g, k * 2 + 1, none⟩ = some x := ⟨cu[k * 2 + 1]'(by omega), by simp only [World.cell?, hc1]; exact Array.getElem?_eq_getElem _⟩
        have HS := Lib.hid hc2
        clear hc1 hc2
        go_wp2_with fail
        go_roundw
        case rel =>
          obtain ⟨d1, d2, d3⟩ := HC.out
          refine ⟨k + 1, _, by omega, by go_num, by go_num, Lib.hid ⟨two_setP d1 _ _ _, by simpa using d2, fun j hj => ?_⟩, Lib.hid (HBR.out.trans (((Below.refl K wr).setCell (p := ⟨g, k * 2, none⟩) HG.out _).setCell (p := ⟨g, k * 2 + 1, none⟩) HG.out _))⟩
          simp only [Array.getElem?_setIfInBounds, Array.size_setIfInBounds]
          by_cases hjk : j = k
          · subst hjk
            refine ⟨?_, ?_⟩
            · rw [if_neg (by omega), if_pos rfl, if_pos (by omega)]
              all_goals (congr 2 <;> omega)
            · rw [if_pos rfl, if_pos (by omega)]
              all_goals (congr 2 <;> omega)
          · obtain ⟨q1, q2⟩ := d3 j (by omega)
            refine ⟨?_, ?_⟩
            · rw [if_neg (by omega), if_neg (by omega)]; exact q1
            · rw [if_neg (by omega), if_neg (by omega)]; exact q2
        case measure => simp [intOf]; omega
      · have hkn : k = n := by omega
        subst hkn
        obtain ⟨d1, d2, d3⟩ := HC.out
        have FM := Lib.hid (show HoldsM wr (.slice (some ⟨g, 0, none⟩) k c) (marksP q k) from FreePAt.holds (g := g) ⟨c, cu, T, by rw [marksP_len], by rw [marksP_len]; exact H3.out.1, H3.out.2, d1, by rw [marksP_len]; exact d2, fun j hj => by rw [marksP_at]; exact d3 j (by rw [marksP_len] at hj; exact hj)⟩)
        clear d1 d2 d3 HC
        go_wp2_with fail
        go_ret
        exact ⟨rfl, FM.out, HBR.out⟩

set_option maxHeartbeats 1000000 in
theorem heldPairS_marks (v : Value) (q n : Nat) (w : World) (h : HoldsM w v (marksP q n)) (hq : q + 2 * n ≤ 281474976710656) :
    Calls Tryd.prog 37 #[v, .int .i64 (q : Int)] w fun e w' => e = .returned (.int .i64 ((q + 2 * n : Nat) : Int)) ∧ w = w' := by
  have HH := Lib.hid h
  obtain ⟨a, c, rfl, -, -, -⟩ := h
  have HL := Lib.hid (marksP_len q n)
  rw [HL.out] at HH ⊢
  go_enter Tryd.func37, Tryd.ntmps37
  go_wp2_with fail
  go_loop [1, 5] (fun s i => ∃ k : Nat, k ≤ n ∧ i = .int .i64 k ∧ s = .int .i64 ((q + 2 * k : Nat) : Int)) (fun _ i => n - (intOf i).toNat)
  case atStart => exact ⟨0, by omega, rfl, rfl⟩
  case round =>
    obtain ⟨k, hk, rfl, rfl⟩ := hrel
    by_cases hlt : k < n
    · obtain ⟨b, off, hkl, rfl, h6, s0, s1⟩ := HH.out.at_ hlt
      rw [marksP_at] at s0 s1
      have b1 : (((q + 2 * k : Nat) : Int) != ((q + 2 * k : Nat) : Int)) = false := by simp
      have b2 : ((((q + 2 * k : Nat) : Int) + 1) != (((q + 2 * k : Nat) : Int) + 1)) = false := by simp
      clear hkl
      go_wp2_with fail
      go_round
      case rel => exact ⟨k + 1, by omega, by go_num, by go_num⟩
      case measure => simp [intOf]; omega
    · have hkn : k = n := by omega
      subst hkn
      go_wp2_with fail
      go_ret
      exact ⟨rfl, rfl⟩
theorem markPairS_e (v : Value) (K : Nat) (l : List (Int × Int)) (w : World) (h : FreeQ K w v l) (hm : l.length ≤ 1048576) :
    Calls Tryd.prog 36 #[v, .int .i64 1] w fun e w' => e = .returned (.int .i64 ((1 + 2 * l.length : Nat) : Int)) ∧ HoldsM w' v (marksP 1 l.length) ∧ Below K w w' := markPairS_q v K 1 l w h (by omega)
theorem heldPairS_1 (v : Value) (n : Nat) (w : World) (h : HoldsM w v (marksP 1 n)) (hm : n ≤ 1048576) :
    Calls Tryd.prog 37 #[v, .int .i64 1] w fun e w' => e = .returned (.int .i64 ((1 + 2 * n : Nat) : Int)) ∧ w = w' := heldPairS_marks v 1 n w h (by omega)
end Go.Proofs.YtlccmgdmfchmnaaDoor
