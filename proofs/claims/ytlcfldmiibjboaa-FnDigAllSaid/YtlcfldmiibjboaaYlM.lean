/-
  Contracts of the exact laws' own copies, comparisons and marks of moves and lists of moves.
-/
import Derived.Test.YtlcfldmiibjboaaYmM
import Derived.Test.YtlcfldmiibjboaaYsM
import Derived.Test.YtlcfldmiibjboaaGYl
import Derived.Deep.RegionWith
import Derived.Deep.Draws
import Derived.Laws.Rows
namespace Go.Proofs.Ytlcfldmiibjboaa
open Go.RowKit
set_option linter.unusedVariables false

theorem toMove_any (f t : Int) (w : World) :
    Calls Try.prog 39 #[.agg #[.int .i64 f, .int .i64 t]] w fun e w' => e = .returned (.agg #[.int .i64 f, .int .i64 t]) ∧ Below w.heap.size w w' := by
  go_enter Try.func39, Try.ntmps39
  go_wp2
  exact bodyPost_ret (v := .agg #[.int .i64 f, .int .i64 t]) (by simp [results, Try.results39, go_sem]) rfl
    ⟨rfl, (((Below.refl _ _).alloc (Nat.le_refl _) _).alloc (by simp) _).alloc (by simp; omega) _⟩
theorem szMoveS_any (a : Option Addr) (len cap : Nat) (left : Int) (w : World) (h0 : 0 ≤ left) (h1 : left ≤ 1048576) (hm : len ≤ 9223372036854775807) :
    Calls Try.prog 40 #[.slice a len cap, .int .i64 left] w fun e w' => e = .returned (.int .i64 (if left < len then -1 else left - len)) ∧ w = w' := by
  by_cases h : left < len
  · rw [if_pos h]
    go_enter Try.func40, Try.ntmps40
    go_wp2
    go_ret
    exact ⟨rfl, rfl⟩
  · rw [if_neg h]
    go_enter Try.func40, Try.ntmps40
    go_wp2
    go_ret
    exact ⟨rfl, rfl⟩

/-- A list of moves that is empty, or at the head of a block from K on and below B that can be written. -/
def FreeM (K B : Nat) (w : World) (v : Value) (l : List (Int × Int)) : Prop :=
  (l = [] ∧ ∃ a cap, v = .slice a 0 cap ∧ cap ≤ maxLen) ∨
  ∃ (g cap : Nat) (cur : Array Value) (T : TypeId), v = .slice (some ⟨g, 0, none⟩) l.length cap ∧ (K ≤ g ∧ g < B) ∧ l.length ≤ cap ∧ cap ≤ maxLen ∧ w.heap[g]? = some (.cells cur T (0, 0)) ∧ l.length * 2 ≤ cur.size ∧
    ∀ k (hk : k < l.length), cur[k * 2]? = some (.int .i64 l[k].1) ∧ cur[k * 2 + 1]? = some (.int .i64 l[k].2)
theorem FreeM.keep {K B : Nat} {w w' : World} {v : Value} {l : List (Int × Int)} (h : FreeM K B w v l) (hb : Below w.heap.size w w') : FreeM K B w' v l := by
  rcases h with h | ⟨g, cap, cur, T, h1, h2, h3, h4, h5, h6⟩
  · exact .inl h
  · exact .inr ⟨g, cap, cur, T, h1, h2, h3, h4, by rw [hb.block g (free_lt h5)]; exact h5, h6⟩
theorem FreeM.mid {K M N B : Nat} {w w' : World} {v : Value} {l : List (Int × Int)} (h : FreeM K M w v l) (hm : MidB N B w w') (hB : B ≤ K) : FreeM K M w' v l := by
  rcases h with h | ⟨g, cap, cur, T, h1, h2, h3, h4, h5, h6⟩
  · exact .inl h
  · exact .inr ⟨g, cap, cur, T, h1, h2, h3, h4, by rw [hm.block g (.inr (Nat.le_trans hB h2.1)) (free_lt h5)]; exact h5, h6⟩
theorem FreeM.holds {K B : Nat} {w : World} {v : Value} {l : List (Int × Int)} (h : FreeM K B w v l) : HoldsM w v l := by
  rcases h with ⟨rfl, a, cap, rfl, hc⟩ | ⟨g, cap, cur, T, h1, h2, h3, h4, h5, h6, h7⟩
  · exact ⟨a, cap, rfl, Nat.zero_le _, hc, .inl rfl⟩
  · refine ⟨_, cap, h1, h3, h4, .inr ⟨g, 0, rfl, free_lt h5, fun k hk => ?_⟩⟩
    obtain ⟨q1, q2⟩ := h7 k hk
    refine ⟨?_, ?_⟩
    · rw [Nat.zero_add, World.cell?, h5]; exact q1
    · rw [Nat.zero_add, World.cell?, h5]; exact q2
theorem FreeM.form {K B : Nat} {w : World} {v : Value} {l : List (Int × Int)} (h : FreeM K B w v l) : ∃ a cap, v = .slice a l.length cap := by
  rcases h with ⟨rfl, a, cap, rfl, _⟩ | ⟨g, cap, cur, T, rfl, _⟩
  · exact ⟨_, _, rfl⟩
  · exact ⟨_, _, rfl⟩
theorem infoMvL : (Try.prog.info? 41).map (fun i => (i.zero, i.size, i.bytes)) = some (some (.agg #[.int .i64 0, .int .i64 0]), 2, 16) := by kernel_rfl
theorem two_set {w : World} {G : Nat} {cur : Array Value} {T : TypeId} (h : w.heap[G]? = some (.cells cur T (0, 0))) (o : Nat) (v0 v1 : Value) :
    ((w.setCell ⟨G, o, none⟩ v0).setCell ⟨G, o + 1, none⟩ v1).heap[G]? = some (.cells ((cur.setIfInBounds o v0).setIfInBounds (o + 1) v1) T (0, 0)) :=
  Joins.block_setCell (Joins.block_setCell h v0) v1

set_option maxHeartbeats 1000000 in
theorem toMoveS_some (b off len cap : Nat) (l : List (Int × Int)) (w : World) (hl : l.length = len) (hn : len ≤ 1048576) (hp : 0 < len) (hb : b < w.heap.size)
    (hc : ∀ k (hk : k < l.length), w.cell? ⟨b, off + k * 2, none⟩ = some (.int .i64 l[k].1) ∧ w.cell? ⟨b, off + k * 2 + 1, none⟩ = some (.int .i64 l[k].2)) :
    Calls Try.prog 41 #[.slice (some ⟨b, off, none⟩) len cap] w fun e w' => ∃ v, e = .returned v ∧ FreeM w.heap.size w'.heap.size w' v l ∧ Below w.heap.size w w' := by
  obtain ⟨i0, hi, hz0, hz1, hz2⟩ := info_parts infoMvL
  have hb2 : i0.bytes * len ≤ 281474976710656 := by rw [hz2]; omega
  have hb3 : len ≤ maxLen := by unfold maxLen; omega
  go_enter Try.func41, Try.ntmps41
  go_wp2_with (at_make; refine wpList_make_full _ rfl _ _ _ rfl w.heap.size 41 i0 (.agg #[.int .i64 0, .int .i64 0]) 2 Try.underlying46 hi hz0 hz1 .i64 .i64 _ _ len rfl rfl rfl rfl hb2 hb3 (Nat.le_refl _) ?_; intro w1 hown hgrow)
  obtain ⟨hx1, hx2⟩ := hown
  have hbel : Below w.heap.size w w1 := (Below.refl _ _).grown hgrow (Nat.le_refl _) (fun k hk => by cases hk)
  obtain ⟨cur0, hcur0, hsz0⟩ : ∃ cur : Array Value, w1.heap[w.heap.size]? = some (.cells cur 41 (0, 0)) ∧ cur.size = len * 2 := by
    rcases hx2 with ⟨h1, _⟩ | ⟨g, cap', cur, h1, _, h3, _, _, h6, _⟩
    · cases h1
    · simp only [Value.slice.injEq, Option.some.injEq, Addr.mk.injEq] at h1
      obtain ⟨⟨rfl, -, -⟩, -, rfl⟩ := h1
      exact ⟨cur, h3, h6⟩
  clear hx1 hx2 hgrow
  generalize hG : w.heap.size = G at *
  go_loopw [4] (fun i wr => ∃ (k : Nat) (cur : Array Value), k ≤ len ∧ i = .int .i64 k ∧ Hid (wr.heap[G]? = some (.cells cur 41 (0, 0)) ∧ cur.size = len * 2 ∧ ∀ j (hj : j < l.length), j < k → cur[j * 2]? = some (.int .i64 l[j].1) ∧ cur[j * 2 + 1]? = some (.int .i64 l[j].2)) ∧ Below G w wr) (fun i _ => len - (intOf i).toNat)
  case atStart => exact ⟨0, cur0, by omega, rfl, Lib.hid ⟨hcur0, hsz0, fun j _ hj => by omega⟩, hbel⟩
  case round =>
    obtain ⟨k, cur, hk, rfl, HC, hbr⟩ := hrel
    by_cases hlt : k < len
    · have hkl : k < l.length := by omega
      have s0 : wr.cell? ⟨b, off + k * 2, none⟩ = some (.int .i64 l[k].1) := (hbr.cell (p := ⟨b, off + k * 2, none⟩) hb).trans (hc k hkl).1
      have s1 : wr.cell? ⟨b, off + k * 2 + 1, none⟩ = some (.int .i64 l[k].2) := (hbr.cell (p := ⟨b, off + k * 2 + 1, none⟩) hb).trans (hc k hkl).2
      have HT := Lib.hid fun w => toMove_any l[k].1 l[k].2 w
      go_wp2_with fail
      refine (HT.out _).mono ?_
      rintro e w2 ⟨rfl, b2⟩
      clear s0 s1
      obtain ⟨hc1, hc2, hc3⟩ := HC.out
      have hG2 : G < wr.heap.size := free_lt hc1
      have hw2 : w2.heap[G]? = some (.cells cur 41 (0, 0)) := (b2.block G hG2).trans hc1
      have hcell : ∀ o, w2.cell? ⟨G, o, none⟩ = cur[o]? := fun o => by simp [World.cell?, hw2]
      have hfr : ∀ o, w2.frozen? ⟨G, o, none⟩ = false := fun o => by simp [World.frozen?, hw2]
      have ht : ∀ o, o < len * 2 → ∃ v, w2.cell? ⟨G, o, none⟩ = some v := fun o ho => ⟨_, by rw [hcell]; exact Array.getElem?_eq_getElem (by omega)⟩
      obtain ⟨x0, t0⟩ := ht (k * 2) (by omega)
      obtain ⟨x1, t1⟩ := ht (k * 2 + 1) (by omega)
      have HC3 := Lib.hid (And.intro hw2 (And.intro hc2 hc3))
      have f0 := hfr (k * 2)
      have f1 := hfr (k * 2 + 1)
      have hb2 := hbr.trans (b2.mono (Nat.le_of_lt hG2))
      clear ht hc1 hc2 hc3 hw2 hcell hfr HC
      go_wp2_with fail
      go_roundw
      case rel =>
        obtain ⟨d1, d2, d3⟩ := HC3.out
        refine ⟨k + 1, _, by omega, by go_num, Lib.hid ⟨two_set d1 _ _ _, by simpa using d2, fun j hj hjk => ?_⟩, ?_⟩
        · simp only [Array.getElem?_setIfInBounds, Array.size_setIfInBounds]
          by_cases hjk' : j = k
          · subst hjk'
            refine ⟨?_, ?_⟩
            · rw [if_neg (by omega), if_pos rfl, if_pos (by omega)]
            · rw [if_pos rfl, if_pos (by omega)]
          · obtain ⟨q1, q2⟩ := d3 j hj (by omega)
            refine ⟨?_, ?_⟩
            · rw [if_neg (by omega), if_neg (by omega)]; exact q1
            · rw [if_neg (by omega), if_neg (by omega)]; exact q2
        · exact (hb2.setCell (Nat.le_refl _) _).setCell (Nat.le_refl _) _
      case measure => simp [intOf]; omega
    · obtain ⟨d1, d2, d3⟩ := HC.out
      clear HC
      go_wp2_with fail
      go_ret
      exact ⟨_, rfl, .inr ⟨G, len, cur, _, by rw [hl]; rfl, ⟨by rw [hG]; exact Nat.le_refl _, free_lt d1⟩, by omega, hb3, d1, by omega, fun j hj => d3 j hj (by omega)⟩, by rw [hG]; exact hbr⟩

theorem toMoveS_zero (a : Option Addr) (cap : Nat) (w : World) :
    Calls Try.prog 41 #[.slice a 0 cap] w fun e w' => ∃ v, e = .returned v ∧ FreeM w.heap.size w'.heap.size w' v [] ∧ Below w.heap.size w w' := by
  obtain ⟨i0, hi, hz0, hz1, hz2⟩ := info_parts infoMvL
  have hb2 : i0.bytes * 0 ≤ 281474976710656 := by omega
  have hb3 : 0 ≤ maxLen := by omega
  go_enter Try.func41, Try.ntmps41
  go_wp2_with (at_make; refine wpList_make_full _ rfl _ _ _ rfl w.heap.size 41 i0 (.agg #[.int .i64 0, .int .i64 0]) 2 Try.underlying46 hi hz0 hz1 .i64 .i64 _ _ 0 rfl rfl rfl rfl hb2 hb3 (Nat.le_refl _) ?_; intro w1 hown hgrow)
  have hbel : Below w.heap.size w w1 := (Below.refl _ _).grown hgrow (Nat.le_refl _) (fun k hk => by cases hk)
  clear hown hgrow
  go_loop [4] (fun i => i = .int .i64 0) (fun _ => 0)
  case atStart => rfl
  case round =>
    obtain rfl := hrel
    go_wp2_with fail
    go_ret
    exact ⟨_, rfl, .inl ⟨rfl, _, _, rfl, hb3⟩, hbel⟩

/-- The exact laws' copy of a list of moves: new memory that holds the same moves. -/
theorem toMoveS_any (v : Value) (l : List (Int × Int)) (w : World) (h : HoldsM w v l) (hn : l.length ≤ 1048576) :
    Calls Try.prog 41 #[v] w fun e w' => ∃ u, e = .returned u ∧ FreeM w.heap.size w'.heap.size w' u l ∧ Below w.heap.size w w' := by
  obtain ⟨a, cap, rfl, h2, h3, h4⟩ := h
  by_cases hz : l.length = 0
  · obtain rfl := List.eq_nil_of_length_eq_zero hz
    exact toMoveS_zero a cap w
  · rcases h4 with h4 | ⟨b, off, rfl, h6, h7⟩
    · exact absurd h4 hz
    · exact toMoveS_some b off l.length cap l w rfl hn (by omega) h6 h7

theorem eqMove_same (f t : Int) (w : World) :
    Calls Try.prog 82 #[.agg #[.int .i64 f, .int .i64 t], .agg #[.int .i64 f, .int .i64 t]] w fun e w' => e = .returned (.bool true) ∧ Below w.heap.size w w' := by
  have b1 : (f != f) = false := by simp
  have b2 : (t != t) = false := by simp
  go_enter Try.func82, Try.ntmps82
  go_wp2
  go_ret
  exact ⟨rfl, ((Below.refl _ _).alloc (Nat.le_refl _) _).alloc (by simp) _⟩

set_option maxHeartbeats 1000000 in
theorem eqMoveS_same (u v : Value) (l : List (Int × Int)) (w : World) (hu : HoldsM w u l) (hv : HoldsM w v l) :
    Calls Try.prog 42 #[u, v] w fun e w' => e = .returned (.bool true) ∧ Below w.heap.size w w' := by
  have HU := Lib.hid fun w' (hb : Below w.heap.size w w') => hu.keep hb
  have HV := Lib.hid fun w' (hb : Below w.heap.size w w') => hv.keep hb
  obtain ⟨a, cap, rfl, h2, h3, h4⟩ := hu
  obtain ⟨a', cap', rfl, h2', h3', h4'⟩ := hv
  have hm : l.length ≤ 9223372036854775807 := by unfold maxLen at h3; omega
  obtain ⟨n, hn⟩ : ∃ n, n = l.length := ⟨_, rfl⟩
  rw [← hn] at HU HV hm ⊢
  have hne : ((n : Int) != (n : Int)) = false := by simp
  clear hn h2 h3 h4 h2' h3' h4'
  go_enter Try.func42, Try.ntmps42
  go_wp2_with fail
  go_loopw [5] (fun i wr => ∃ k : Nat, k ≤ n ∧ i = .int .i64 k ∧ Below w.heap.size w wr) (fun i _ => n - (intOf i).toNat)
  case atStart => exact ⟨0, by omega, rfl, Below.refl _ _⟩
  case round =>
    obtain ⟨k, hk, rfl, hbr⟩ := hrel
    by_cases hlt : k < n
    · obtain ⟨b, off, hkl, rfl, h6, s0, s1⟩ := (HU.out wr hbr).at_ hlt
      obtain ⟨b', off', hkl', rfl, h6', t0, t1⟩ := (HV.out wr hbr).at_ hlt
      have HE := Lib.hid fun w => eqMove_same l[k].1 l[k].2 w
      generalize l[k].1 = f at s0 t0 HE
      generalize l[k].2 = t at s1 t1 HE
      go_wp2_with fail
      (first | go_region_with (go_at_call 82; ((with_reducible refine (HE.out _).mono ?_); rintro e w2 ⟨rfl, b2⟩)) | fail)
      all_goals
        have c2 : Below w.heap.size w w2 := hbr.trans (Below.mono (w := wr) ⟨b2.os, b2.tape, b2.output, b2.size, b2.block⟩ hbr.size)
        go_wp2_with fail
        go_roundw
        case rel => exact ⟨k + 1, by omega, by go_num, c2⟩
        case measure => simp [intOf]; omega
    · go_wp2_with fail
      go_ret
      exact ⟨rfl, hbr⟩

/-- Marks laid into a list of moves: nothing but blocks from K on and below B turns. -/
def MarkedM (K B : Nat) (w : World) (e : Ending) (w' : World) : Prop := ∃ q : Int, 0 ≤ q ∧ e = .returned (.int .i64 q) ∧ MidB K B w w'
set_option maxHeartbeats 1000000 in
theorem markMoveS_any (v : Value) (K B q : Nat) (l : List (Int × Int)) (w : World) (hf : FreeM K B w v l) (hq : q + 2 * l.length ≤ 281474976710656) :
    Calls Try.prog 43 #[v, .int .i64 (q : Int)] w (MarkedM K B w) := by
  obtain ⟨a, c, rfl⟩ := hf.form
  have hcell : l.length = 0 ∨ ∃ g, a = some ⟨g, 0, none⟩ ∧ (K ≤ g ∧ g < B) ∧ ∃ (cur : Array Value) (T : TypeId), w.heap[g]? = some (.cells cur T (0, 0)) ∧ l.length * 2 ≤ cur.size := by
    rcases hf with ⟨rfl, _⟩ | ⟨g, cap, cur, T, h1, h2, h3, h4, h5, h6, _⟩
    · exact .inl rfl
    · simp only [Value.slice.injEq, true_and] at h1
      exact .inr ⟨g, h1.1, h2, cur, T, h5, h6⟩
  have HC := Lib.hid hcell
  obtain ⟨n, hn⟩ : ∃ n, n = l.length := ⟨_, rfl⟩
  rw [← hn] at HC hq ⊢
  clear hf hcell hn
  go_enter Try.func43, Try.ntmps43
  go_wp2_with fail
  go_loopw [1, 5] (fun s i wr => ∃ (k : Nat), k ≤ n ∧ i = .int .i64 k ∧ s = .int .i64 ((q + 2 * k : Nat) : Int) ∧ Hid (n = 0 ∨ ∃ g, a = some ⟨g, 0, none⟩ ∧ (K ≤ g ∧ g < B) ∧ ∃ (cur : Array Value) (T : TypeId), wr.heap[g]? = some (.cells cur T (0, 0)) ∧ n * 2 ≤ cur.size) ∧ Hid (MidB K B w wr)) (fun _ i _ => n - (intOf i).toNat)
  case atStart => exact ⟨0, by omega, rfl, rfl, HC, Lib.hid (MidB.refl _ _ _)⟩
  case round =>
    clear HC
    obtain ⟨k, hk, rfl, rfl, HC, HBR⟩ := hrel
    by_cases hlt : k < n
    · rcases HC.out with hc | ⟨g, rfl, hg, cur, T, hc1, hc2⟩
      · omega
      have f0 : wr.frozen? ⟨g, k * 2, none⟩ = false := by simp [World.frozen?, hc1]
      have f1 : wr.frozen? ⟨g, k * 2 + 1, none⟩ = false := by simp [World.frozen?, hc1]
      obtain ⟨x0, t0⟩ : ∃ x, wr.cell? ⟨g, k * 2, none⟩ = some x := ⟨cur[k * 2]'(by omega), by simp only [World.cell?, hc1]; exact Array.getElem?_eq_getElem _⟩
      obtain ⟨x1, t1⟩ : ∃ x, wr.cell? ⟨g, k * 2 + 1, none⟩ = some x := ⟨cur[k * 2 + 1]'(by omega), by simp only [World.cell?, hc1]; exact Array.getElem?_eq_getElem _⟩
      have HC3 := Lib.hid (And.intro hc1 hc2)
      have HG := Lib.hid hg
      clear hc1 hc2 HC hg
      go_wp2_with fail
      go_roundw
      case rel =>
        obtain ⟨d1, d2⟩ := HC3.out
        exact ⟨k + 1, by omega, by go_num, by go_num, Lib.hid (.inr ⟨g, rfl, HG.out, _, T, two_set d1 _ _ _, by simpa using d2⟩), Lib.hid (HBR.out.most (((MostB.refl g wr).set_ _ _).set_ _ _) HG.out.1 HG.out.2)⟩
      case measure => simp [intOf]; omega
    · go_wp2_with fail
      go_ret
      exact ⟨_, by omega, rfl, HBR.out⟩
end Go.Proofs.Ytlcfldmiibjboaa
