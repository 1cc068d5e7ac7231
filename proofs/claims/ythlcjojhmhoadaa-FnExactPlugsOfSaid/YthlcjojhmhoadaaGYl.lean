/-
  Contracts of the marks that the exact laws lay in yards and look for.
  What the exact laws on yards keep: their argument in a block of its own, and what the drawn comparison of the copies holds.
  What writing the marks leaves: blocks below the copies, and those behind.
-/
import Derived.Test.YthlcjojhmhoadaaGYh
namespace Go.Proofs.Ythlcjojhmhoadaa
open Go.RowKit
set_option linter.unusedVariables false

set_option maxHeartbeats 1000000 in
theorem markIntS_from (v : Value) (q len g : Nat) (l : List Int) (w : World) (hl : l.length = len) (h : FreeAt g w v l) (hm : len ≤ 281474976710656) (hq : q ≤ 281474976710656) :
    Calls Try.prog 38 #[v, .int .i64 (q : Int)] w fun e w' => e = .returned (.int .i64 ((q + len : Nat) : Int)) ∧ FreeAt g w' v (marksI q len) ∧ MostB g w w' := by
  obtain ⟨cap, rfl, h3, h4, h5, cur0, T, h6, h7, h8⟩ := h
  rw [hl] at *
  have H3 := Lib.hid h3
  have H45 := Lib.hid (And.intro h4 h5)
  clear h3 h4 h5 h8 hl
  go_enter Try.func38, Try.ntmps38
  go_wp2_with fail
  go_loopw [1, 5] (fun s i wr => ∃ (k : Nat) (cur : Array Value), k ≤ len ∧ i = .int .i64 k ∧ s = .int .i64 ((q + k : Nat) : Int) ∧ Hid (wr.heap[g]? = some (.cells cur T (0, 0)) ∧ len ≤ cur.size ∧ ∀ j, j < k → cur[j]? = some (.int .i64 ((q + j : Nat) : Int))) ∧ MostB g w wr) (fun _ i _ => len - (intOf i).toNat)
  case atStart => exact ⟨0, cur0, by omega, rfl, by rw [Nat.add_zero], Lib.hid ⟨h6, h7, fun j hj => by omega⟩, MostB.refl _ _⟩
  case round =>
    obtain ⟨k, cur, hk, rfl, rfl, HC, hbr⟩ := hrel
    by_cases hlt : k < len
    · obtain ⟨hc1, hc2, hc3⟩ := HC.out
      have f0 : wr.frozen? ⟨g, k, none⟩ = false := by simp [World.frozen?, hc1]
      obtain ⟨x0, t0⟩ : ∃ x, wr.cell? ⟨g, k, none⟩ = some x := by
        refine ⟨cur[k]'(by omega), ?_⟩
        simp only [World.cell?, hc1]
        exact Array.getElem?_eq_getElem _
      have HC3 := Lib.hid (And.intro hc1 (And.intro hc2 hc3))
      clear hc1 hc2 hc3 HC h6 h7
      go_wp2_with fail
      go_roundw
      case rel =>
        obtain ⟨d1, d2, d3⟩ := HC3.out
        refine ⟨k + 1, _, by omega, by go_num, by go_num, Lib.hid ⟨Joins.block_setCell d1 _, by simpa using d2, fun j hjk => ?_⟩, hbr.set_ _ _⟩
        rw [Array.getElem?_setIfInBounds]
        by_cases hjk' : j = k
        · subst hjk'
          rw [if_pos rfl, if_pos (by omega), Int.natCast_add]
        · rw [if_neg (by omega)]
          exact d3 j (by omega)
      case measure => simp [intOf]; omega
    · obtain ⟨d1, d2, d3⟩ := HC.out
      have he : k = len := by omega
      subst he
      clear HC
      go_wp2_with fail
      go_ret
      exact ⟨rfl, ⟨cap, by rw [marksI_length], free_lt d1, by rw [marksI_length]; exact H45.out.1, H45.out.2, cur, T, d1, by rw [marksI_length]; exact d2, fun j hj => by rw [marksI_get hj]; exact d3 j (by rw [marksI_length] at hj; exact hj)⟩, hbr⟩
theorem markIntS_zq (a : Option Addr) (q cap : Nat) (w : World) :
    Calls Try.prog 38 #[.slice a 0 cap, .int .i64 (q : Int)] w fun e w' => e = .returned (.int .i64 (q : Int)) ∧ w = w' := by
  go_enter Try.func38, Try.ntmps38
  go_wp2_with fail
  go_loop [1, 5] (fun s i => s = .int .i64 (q : Int) ∧ i = .int .i64 0) (fun _ _ => 0)
  case atStart => exact ⟨rfl, rfl⟩
  case round =>
    obtain ⟨rfl, rfl⟩ := hrel
    go_wp2_with fail
    go_ret
    exact ⟨rfl, rfl⟩
set_option maxHeartbeats 400000 in
theorem heldIntS_from (v : Value) (q len : Nat) (w : World) (h : HoldsI w v (marksI q len)) (hm : len ≤ 281474976710656) (hq : q ≤ 281474976710656) :
    Calls Try.prog 39 #[v, .int .i64 (q : Int)] w fun e w' => e = .returned (.int .i64 ((q + len : Nat) : Int)) ∧ w = w' := by
  obtain ⟨a, cap, rfl, h2, h3, h4⟩ := h
  rw [marksI_length] at *
  have H4 := Lib.hid h4
  clear h2 h3 h4
  go_enter Try.func39, Try.ntmps39
  go_wp2_with fail
  go_loop [1, 5] (fun s i => ∃ k : Nat, k ≤ len ∧ i = .int .i64 k ∧ s = .int .i64 ((q + k : Nat) : Int)) (fun _ i => len - (intOf i).toNat)
  case atStart => exact ⟨0, by omega, rfl, by rw [Nat.add_zero]⟩
  case round =>
    obtain ⟨k, hk, rfl, rfl⟩ := hrel
    by_cases hlt : k < len
    · rcases H4.out with h4 | ⟨b, off, rfl, h6, h7⟩
      · exact absurd ((marksI_length q len).symm.trans h4) (by omega)
      · have s0 : w.cell? ⟨b, off + k, none⟩ = some (.int .i64 ((q + k : Nat) : Int)) := by
          have h := h7 k (by rw [marksI_length]; exact hlt)
          rw [marksI_get] at h; exact h
        have b1 : (((q + k : Nat) : Int) != ((q + k : Nat) : Int)) = false := by simp
        clear h7
        go_wp2_with fail
        go_round
        case rel => exact ⟨k + 1, by omega, by go_num, by go_num⟩
        case measure => simp [intOf]; omega
    · have he : k = len := by omega
      subst he
      go_wp2_with fail
      go_ret
      exact ⟨rfl, rfl⟩

/-- The rows when the first i of them are marked from q on. -/
def mkR (q : Nat) (ss : List (List Int)) (i : Nat) : Nat → List Int := fun k => if k < i then marksI (q + sumY ss k) (rowAt ss k).length else rowAt ss k
theorem mkR_at (q : Nat) (ss : List (List Int)) (i : Nat) : mkR q ss i i = rowAt ss i := if_neg (by omega)
theorem mkR_next (q : Nat) (ss : List (List Int)) (i k : Nat) : upd (mkR q ss i) i (marksI (q + sumY ss i) (rowAt ss i).length) k = mkR q ss (i + 1) k := by
  by_cases h : k = i
  · subst h; rw [upd_self]; exact (if_pos (by omega)).symm
  · rw [upd_ne h]
    unfold mkR
    by_cases h2 : k < i
    · rw [if_pos h2, if_pos (by omega)]
    · rw [if_neg h2, if_neg (by omega)]
theorem mkR_nil {q : Nat} {ss : List (List Int)} {i : Nat} (h : rowAt ss i = []) (k : Nat) : mkR q ss i k = mkR q ss (i + 1) k := by
  rw [← mkR_next]
  by_cases e : k = i
  · subst e; rw [upd_self, mkR_at, h]; rfl
  · rw [upd_ne e]
/-- The marks from q on, as rows. -/
def marksY (q : Nat) (ss : List (List Int)) : List (List Int) := (List.range ss.length).map fun k => marksI (q + sumY ss k) (rowAt ss k).length
theorem marksY_len (q : Nat) (ss : List (List Int)) : (marksY q ss).length = ss.length := by simp [marksY]
theorem marksY_row {q : Nat} {ss : List (List Int)} {k : Nat} (h : k < ss.length) : rowAt (marksY q ss) k = marksI (q + sumY ss k) (rowAt ss k).length := by
  rw [rowAt_get (by rw [marksY_len]; exact h)]
  simp [marksY]
theorem mkR_end {q : Nat} {ss : List (List Int)} {k : Nat} (h : k < ss.length) : mkR q ss ss.length k = rowAt (marksY q ss) k := by
  rw [marksY_row h]; exact if_pos h

/-- What writing into blocks from K on and below B leaves. -/
structure MidB (K B : Nat) (w w' : World) : Prop where
  os : w'.os = w.os
  tape : w'.tape = w.tape
  output : w'.output = w.output
  size : w.heap.size ≤ w'.heap.size
  block : ∀ k, k < K ∨ B ≤ k → k < w.heap.size → w'.heap[k]? = w.heap[k]?
theorem MidB.refl (K B : Nat) (w : World) : MidB K B w w := ⟨rfl, rfl, rfl, Nat.le_refl _, fun _ _ _ => rfl⟩
theorem MidB.most {K B G : Nat} {a w w' : World} (h : MidB K B a w) (hm : MostB G w w') (h1 : K ≤ G) (h2 : G < B) : MidB K B a w' :=
  ⟨hm.os.trans h.os, hm.tape.trans h.tape, hm.output.trans h.output, Nat.le_trans h.size hm.size, fun k hk hl => (hm.block k (by omega) (Nat.lt_of_lt_of_le hl h.size)).trans (h.block k hk hl)⟩
theorem MidB.below {K B : Nat} {w w' : World} (h : MidB K B w w') (hK : K ≤ w.heap.size) : Below K w w' :=
  ⟨h.os, h.tape, h.output, h.size, fun k hk => h.block k (.inl hk) (by omega)⟩
theorem FreeY.mid {K B K' B' : Nat} {w w' : World} {v : Value} {n : Nat} {R : Nat → List Int} (h : FreeY K B w v n R) (hm : MidB K' B' w w') (hd : B' ≤ K) : FreeY K B w' v n R :=
  h.far hm.size fun k hk _ hl => hm.block k (.inr (by omega)) hl

set_option maxHeartbeats 2000000 in
theorem markIntSS_free (v : Value) (K B q : Nat) (ss : List (List Int)) (w : World) (hf : FreeY K B w v ss.length (rowAt ss)) (hq : q + ss.flatten.length ≤ 281474976710656) (hln : ss.length ≤ 1048576) :
    Calls Try.prog 37 #[v, .int .i64 (q : Int)] w fun e w' => e = .returned (.int .i64 ((q + ss.flatten.length : Nat) : Int)) ∧ HoldsY w' v (marksY q ss) ∧ MidB K B w w' := by
  obtain ⟨a, cap, rfl⟩ := hf.form
  have HSUM := Lib.hid fun k (hk : k < ss.length) => And.intro (sumY_next hk) (sumY_le (ss := ss) (k := k + 1) hk)
  have HEND := Lib.hid (sumY_end ss)
  have HROW := Lib.hid fun k (hk : k < ss.length) => mkR_end (q := q) hk
  have HF0 := Lib.hid hf
  obtain ⟨n, hn⟩ : ∃ n, n = ss.length := ⟨_, rfl⟩
  have HN := Lib.hid hn.symm
  rw [← hn] at HSUM HEND HROW HF0 hln ⊢
  have HQ := Lib.hid hq
  clear hn hf hq
  go_enter Try.func37, Try.ntmps37
  go_wp2_with fail
  go_loopw [1, 5] (fun s i wr => ∃ (k m : Nat), k ≤ n ∧ i = .int .i64 k ∧ s = .int .i64 (m : Int) ∧ Hid (m = q + sumY ss k) ∧ Hid (FreeY K B wr (.slice a n cap) n (mkR q ss k)) ∧ Hid (MidB K B w wr)) (fun _ i _ => n - (intOf i).toNat)
  case atStart => exact ⟨0, q, by omega, rfl, rfl, Lib.hid (by rw [sumY_start]; rfl), Lib.hid (HF0.out.congr fun k hk => (if_neg (by omega)).symm), Lib.hid (MidB.refl _ _ _)⟩
  case round =>
    obtain ⟨k, m, hk, rfl, rfl, HM, HF, HB⟩ := hrel
    by_cases hlt : k < n
    · obtain ⟨g, u, rfl, hKg, hgB, hgl, hc1, hc2, s0, f0, hrow⟩ := HF.out.row hlt
      rw [mkR_at] at hrow
      have ik : (k : Int) < (n : Int) := by omega
      have i0k : (0 : Int) ≤ (k : Int) := by omega
      have hS := HSUM.out k hlt
      have hQ := HQ.out
      unfold maxLen at hc2
      have hm1 : m ≤ 281474976710656 := by have := HM.out; omega
      by_cases hz : rowAt ss k = []
      · obtain ⟨x, c, rfl⟩ : ∃ x c, u = .slice x 0 c := by
          rcases hrow with ⟨_, a', c', rfl, _⟩ | ⟨G, _, _, _, ⟨c', rfl, _⟩, _⟩
          · exact ⟨_, _, rfl⟩
          · exact ⟨_, _, by rw [hz]; rfl⟩
        have HZ := Lib.hid (markIntS_zq x m c wr)
        have HM2 := Lib.hid (show m = q + sumY ss (k + 1) by have := HM.out; rw [hz] at hS; simp at hS; omega)
        have HF2 := Lib.hid (HF.out.congr fun j _ => mkR_nil hz j)
        clear hrow hz hS hQ HF
        go_wp2_with fail
        refine HZ.out.mono ?_
        rintro e w' ⟨rfl, rfl⟩
        go_wp2_with fail
        go_roundw
        case rel => exact ⟨k + 1, m, by omega, by go_num, rfl, HM2, HF2, HB⟩
        case measure => simp [intOf]; omega
      · rcases hrow with ⟨h, _⟩ | ⟨G, hKG, hGB, hGg, hfr, hset⟩
        · exact absurd h hz
        · have hfr0 := hfr
          obtain ⟨c, rfl, _⟩ := hfr
          have hlen : (rowAt ss k).length ≤ 281474976710656 := by omega
          have HK := Lib.hid (markIntS_from _ m (rowAt ss k).length G (rowAt ss k) wr rfl hfr0 hlen hm1)
          have HM2 := Lib.hid (show m + (rowAt ss k).length = q + sumY ss (k + 1) by have := HM.out; omega)
          have HSET := Lib.hid fun w' (hm : MostB G wr w') h => (hset w' (marksI m (rowAt ss k).length) hm h hz).congr (R' := mkR q ss (k + 1)) fun j _ => by rw [HM.out]; exact mkR_next q ss k j
          have HB2 := Lib.hid fun w' (hm : MostB G wr w') => HB.out.most hm hKG hGB
          clear hz hset hfr0 hS hQ HF HB
          generalize hr : (rowAt ss k).length = r at s0 HK HM2 HSET hlen
          clear hr
          go_wp2_with fail
          refine HK.out.mono ?_
          rintro e w' ⟨rfl, h5, m5⟩
          have HF3 := Lib.hid (HSET.out w' m5 h5)
          have HB3 := Lib.hid (HB2.out w' m5)
          clear h5 m5 HSET HB2 HK s0
          go_wp2_with fail
          go_roundw
          case rel => exact ⟨k + 1, m + r, by omega, by go_num, rfl, HM2, HF3, HB3⟩
          case measure => simp [intOf]; omega
    · have hkn : k = n := by omega
      subst hkn
      have hm : m = q + ss.flatten.length := by have := HM.out; have := HEND.out; omega
      subst hm
      go_wp2_with fail
      go_ret
      refine ⟨rfl, HF.out.holds ?_ ?_, HB.out⟩
      · rw [marksY_len]; exact HN.out
      · exact fun j hj => HROW.out j hj
end Go.Proofs.Ythlcjojhmhoadaa
namespace Go.Proofs.Ythlcjojhmhoadaa
open Go.ChangeShapes Go.WideShapes Go.RowKit
set_option linter.unusedVariables false

end Go.Proofs.Ythlcjojhmhoadaa
namespace Go.Proofs.Ythlcjojhmhoadaa
open Go.ChangeShapes Go.WideShapes Go.RowKit
set_option linter.unusedVariables false

theorem FreeAt.mid {K B g : Nat} {w w' : World} {v : Value} {l : List Int} (h : FreeAt g w v l) (hm : MidB K B w w') (hg : B ≤ g) : FreeAt g w' v l := h.far hm.size (hm.block g (.inr hg) h.lt)
theorem FreeE.mid {K B N : Nat} {w w' : World} {v : Value} {l : List Int} (h : FreeE N w v l) (hm : MidB K B w w') (hN : B ≤ N) : FreeE N w' v l := by
  rcases h with h | ⟨g, hg, hf⟩
  · exact .inl h
  · exact .inr ⟨g, hg, hf.mid hm (Nat.le_trans hN hg)⟩
end Go.Proofs.Ythlcjojhmhoadaa
