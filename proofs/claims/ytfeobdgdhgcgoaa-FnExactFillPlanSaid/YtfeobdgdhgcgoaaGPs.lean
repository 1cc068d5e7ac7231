/-
  Boxes in memory of their own that can be written: the exact laws' copies of boxes, and the marks that they lay.
  How long the answers on plans are. Nothing of the program.
  The laws' comparison of two slices of numbers: both outcomes.
-/
import Derived.Test.YtfeobdgdhgcgoaaGBx
import Derived.Test.YtfeobdgdhgcgoaaGBase
import Derived.Test.YtfeobdgdhgcgoaaPlC
namespace Go.Proofs.Ytfeobdgdhgcgoaa
open Go.RowKit
set_option linter.unusedVariables false

/-- Boxes at the head of a block from K on, none of it frozen. -/
def FreeBx (K : Nat) (w : World) (v : Value) (l : List Bx) : Prop :=
  ∃ g cap, v = .slice (some ⟨g, 0, none⟩) l.length cap ∧ K ≤ g ∧ g < w.heap.size ∧ l.length ≤ cap ∧ cap ≤ maxLen ∧ ∃ cur T, w.heap[g]? = some (.cells cur T (0, 0)) ∧ l.length * 5 ≤ cur.size ∧ ∀ k (hk : k < l.length), ∀ j, j < 5 → cur[k * 5 + j]? = l[k].cells[j]?
theorem FreeBx.holds {K : Nat} {w : World} {v : Value} {l : List Bx} (h : FreeBx K w v l) : HoldsBx w v l := by
  obtain ⟨g, cap, h1, h2, h3, h4, h5, cur, T, h6, h7, h8⟩ := h
  exact ⟨_, cap, h1, h4, h5, .inr ⟨g, 0, rfl, h3, fun k hk j hj => by rw [Nat.zero_add]; simp only [World.cell?, h6]; exact h8 k hk j hj⟩⟩
theorem FreeBx.keep {K : Nat} {w w' : World} {v : Value} {l : List Bx} (h : FreeBx K w v l) (hb : Below w.heap.size w w') : FreeBx K w' v l := by
  obtain ⟨g, cap, h1, h2, h3, h4, h5, cur, T, h6, h7⟩ := h
  exact ⟨g, cap, h1, h2, Nat.lt_of_lt_of_le h3 hb.size, h4, h5, cur, T, by rw [hb.block g h3]; exact h6, h7⟩

theorem FreeBx.blk {K : Nat} {w : World} {v : Value} {l : List Bx} (h : FreeBx K w v l) : ∀ g, v.ownBlock = some g → K ≤ g ∧ g < w.heap.size := by
  obtain ⟨g, cap, rfl, h2, h3, _⟩ := h
  intro g' e
  simp only [Value.ownBlock, Option.some.injEq] at e
  subst e
  exact ⟨h2, h3⟩
theorem FreeI.blk {K : Nat} {w : World} {v : Value} {l : List Int} (h : FreeI K w v l) : ∀ g, v.ownBlock = some g → K ≤ g ∧ g < w.heap.size := by
  obtain ⟨g, cap, rfl, h2, h3, _⟩ := h
  intro g' e
  simp only [Value.ownBlock, Option.some.injEq] at e
  subst e
  exact ⟨h2, h3⟩
theorem FreeI.most {K B : Nat} {w w' : World} {v : Value} {l : List Int} (h : FreeI K w v l) (hm : MostB B w w') (hB : B < K) : FreeI K w' v l := by
  obtain ⟨g, cap, h1, h2, h3, h4, h5, cur, T, h6, h7⟩ := h
  exact ⟨g, cap, h1, h2, Nat.lt_of_lt_of_le h3 hm.size, h4, h5, cur, T, by rw [hm.block g (by omega) h3]; exact h6, h7⟩

set_option maxHeartbeats 1000000 in
theorem toBoxS_freeS (b off len cap : Nat) (l : List Bx) (w : World) (hl : l.length = len) (hn : len ≤ 1048576) (hp : 0 < len) (hb : b < w.heap.size)
    (hc : ∀ k (hk : k < l.length), ∀ j, j < 5 → w.cell? ⟨b, off + (k * 5 + j), none⟩ = l[k].cells[j]?) :
    Calls Try.prog 30 #[.slice (some ⟨b, off, none⟩) len cap] w fun e w' => ∃ v, e = .returned v ∧ FreeBx w.heap.size w' v l ∧ Below w.heap.size w w' := by
  obtain ⟨i0, hi, hz0, hz1, hz2⟩ := info_parts infoBox
  have hb2 : i0.bytes * len ≤ 281474976710656 := by rw [hz2]; omega
  have hb3 : len ≤ maxLen := by unfold maxLen; omega
  go_enter Try.func30, Try.ntmps30
  go_wp2_with (at_make; refine wpList_make_full _ rfl _ _ _ rfl w.heap.size 33 i0 (.agg #[.int .i64 0, .int .i64 0, .int .i64 0, .int .i64 0, .bool false]) 5 Try.underlying23 hi hz0 hz1 .i64 .i64 _ _ len rfl rfl rfl rfl hb2 hb3 (Nat.le_refl _) ?_; intro w1 hown hgrow)
  obtain ⟨hx1, hx2⟩ := hown
  have hbel : Below w.heap.size w w1 := (Below.refl _ _).grown hgrow (Nat.le_refl _) (fun k hk => by cases hk)
  obtain ⟨cur0, hcur0, hsz0⟩ : ∃ cur : Array Value, w1.heap[w.heap.size]? = some (.cells cur 33 (0, 0)) ∧ cur.size = len * 5 := by
    rcases hx2 with ⟨h1, _⟩ | ⟨g, cap', cur, h1, _, h3, _, _, h6, _⟩
    · cases h1
    · simp only [Value.slice.injEq, Option.some.injEq, Addr.mk.injEq] at h1
      obtain ⟨⟨rfl, -, -⟩, -, rfl⟩ := h1
      exact ⟨cur, h3, h6⟩
  clear hx1 hx2 hgrow
  generalize hG : w.heap.size = G at *
  go_loopw [4] (fun i wr => ∃ (k : Nat) (cur : Array Value), k ≤ len ∧ i = .int .i64 k ∧ Hid (wr.heap[G]? = some (.cells cur 33 (0, 0)) ∧ cur.size = len * 5 ∧ ∀ j (hj : j < l.length), j < k → ∀ i, i < 5 → cur[j * 5 + i]? = l[j].cells[i]?) ∧ Below G w wr) (fun i _ => len - (intOf i).toNat)
  case atStart => exact ⟨0, cur0, by omega, rfl, Lib.hid ⟨hcur0, hsz0, fun j _ hj => by omega⟩, hbel⟩
  case round =>
    obtain ⟨k, cur, hk, rfl, HC, hbr⟩ := hrel
    by_cases hlt : k < len
    · have hkl : k < l.length := by omega
      have hs : ∀ j, j < 5 → wr.cell? ⟨b, off + (k * 5 + j), none⟩ = l[k].cells[j]? := fun j hj => (hbr.cell (p := ⟨b, off + (k * 5 + j), none⟩) hb).trans (hc k hkl j hj)
      have s0 : wr.cell? ⟨b, off + k * 5, none⟩ = some (.int .i64 l[k].i) := hs 0 (by omega)
      have s1 : wr.cell? ⟨b, off + k * 5 + 1, none⟩ = some (.int .i64 l[k].g) := hs 1 (by omega)
      have s2 : wr.cell? ⟨b, off + k * 5 + 2, none⟩ = some (.int .i64 l[k].c) := hs 2 (by omega)
      have s3 : wr.cell? ⟨b, off + k * 5 + 3, none⟩ = some (.int .i64 l[k].p) := hs 3 (by omega)
      have s4 : wr.cell? ⟨b, off + k * 5 + 4, none⟩ = some (.bool l[k].d) := hs 4 (by omega)
      clear hs
      have HT := Lib.hid fun w => toBox_any l[k].i l[k].g l[k].c l[k].p l[k].d w
      go_wp2_with fail
      refine (HT.out _).mono ?_
      rintro e w2 ⟨rfl, b2⟩
      clear s0 s1 s2 s3 s4
      obtain ⟨hc1, hc2, hc3⟩ := HC.out
      have hG2 : G < wr.heap.size := by
        rcases Nat.lt_or_ge G wr.heap.size with h | h
        · exact h
        · rw [Array.getElem?_eq_none h] at hc1; cases hc1
      have hw2 : w2.heap[G]? = some (.cells cur 33 (0, 0)) := (b2.block G hG2).trans hc1
      have hcell : ∀ o, w2.cell? ⟨G, o, none⟩ = cur[o]? := fun o => by simp [World.cell?, hw2]
      have hfr : ∀ o, w2.frozen? ⟨G, o, none⟩ = false := fun o => by simp [World.frozen?, hw2]
      have ht : ∀ o, o < len * 5 → ∃ v, w2.cell? ⟨G, o, none⟩ = some v := fun o ho => ⟨_, by rw [hcell]; exact Array.getElem?_eq_getElem (by omega)⟩
      obtain ⟨x0, t0⟩ := ht (k * 5) (by omega)
      obtain ⟨x1, t1⟩ := ht (k * 5 + 1) (by omega)
      obtain ⟨x2, t2⟩ := ht (k * 5 + 2) (by omega)
      obtain ⟨x3, t3⟩ := ht (k * 5 + 3) (by omega)
      obtain ⟨x4, t4⟩ := ht (k * 5 + 4) (by omega)
      have HC3 := Lib.hid (And.intro hw2 (And.intro hc2 hc3))
      have f0 := hfr (k * 5)
      have f1 := hfr (k * 5 + 1)
      have f2 := hfr (k * 5 + 2)
      have f3 := hfr (k * 5 + 3)
      have f4 := hfr (k * 5 + 4)
      have hb2 := hbr.trans (b2.mono (Nat.le_of_lt hG2))
      clear ht hc1 hc2 hc3 hw2 hcell hfr HC
      go_wp2_with fail
      go_roundw
      case rel =>
        obtain ⟨d1, d2, d3⟩ := HC3.out
        refine ⟨k + 1, _, by omega, by go_num, Lib.hid ⟨five_set d1 _ _ _ _ _ _, by simpa using d2, fun j hj hjk i hi => ?_⟩, ?_⟩
        · rw [five_get cur (k * 5) 0 (by omega) l[k]]
          by_cases hjk' : j = k
          · subst hjk'
            rw [if_pos (by omega), show j * 5 + i - j * 5 = i by omega]
          · rw [if_neg (by omega)]
            exact d3 j hj (by omega) i hi
        · exact ((((hb2.setCell (Nat.le_refl _) _).setCell (Nat.le_refl _) _).setCell (Nat.le_refl _) _).setCell (Nat.le_refl _) _).setCell (Nat.le_refl _) _
      case measure => simp [intOf]; omega
    · obtain ⟨d1, d2, d3⟩ := HC.out
      have HC' := HC
      clear HC
      go_wp2_with fail
      go_ret
      have hGr : G < wr.heap.size := by
        rcases Nat.lt_or_ge G wr.heap.size with h | h
        · exact h
        · rw [Array.getElem?_eq_none h] at d1; cases d1
      refine ⟨_, rfl, ⟨G, len, by rw [hl]; rfl, by rw [hG]; exact Nat.le_refl _, hGr, by omega, hb3, cur, 33, d1, by omega, fun j hj i hi => d3 j hj (by omega) i hi⟩, by rw [hG]; exact hbr⟩

theorem toBoxS_freeZ (a : Option Addr) (cap : Nat) (w : World) :
    Calls Try.prog 30 #[.slice a 0 cap] w fun e w' => ∃ v, e = .returned v ∧ FreeBx w.heap.size w' v [] ∧ Below w.heap.size w w' := by
  obtain ⟨i0, hi, hz0, hz1, hz2⟩ := info_parts infoBox
  have hb2 : i0.bytes * 0 ≤ 281474976710656 := by omega
  have hb3 : 0 ≤ maxLen := by omega
  go_enter Try.func30, Try.ntmps30
  go_wp2_with (at_make; refine wpList_make_full _ rfl _ _ _ rfl w.heap.size 33 i0 (.agg #[.int .i64 0, .int .i64 0, .int .i64 0, .int .i64 0, .bool false]) 5 Try.underlying23 hi hz0 hz1 .i64 .i64 _ _ 0 rfl rfl rfl rfl hb2 hb3 (Nat.le_refl _) ?_; intro w1 hown hgrow)
  have hbel : Below w.heap.size w w1 := (Below.refl _ _).grown hgrow (Nat.le_refl _) (fun k hk => by cases hk)
  obtain ⟨cur0, hcur0⟩ : ∃ cur : Array Value, w1.heap[w.heap.size]? = some (.cells cur 33 (0, 0)) := by
    rcases hown.2 with ⟨h1, _⟩ | ⟨g, cap', cur, h1, _, h3, _⟩
    · cases h1
    · simp only [Value.slice.injEq, Option.some.injEq, Addr.mk.injEq] at h1
      obtain ⟨⟨rfl, -, -⟩, -, -⟩ := h1
      exact ⟨cur, h3⟩
  have HCUR := Lib.hid hcur0
  clear hown hgrow hcur0
  go_loop [4] (fun i => i = .int .i64 0) (fun _ => 0)
  case atStart => rfl
  case round =>
    obtain rfl := hrel
    go_wp2_with fail
    go_ret
    exact ⟨_, rfl, ⟨w.heap.size, 0, rfl, Nat.le_refl _, free_lt HCUR.out, Nat.le_refl _, hb3, cur0, 33, HCUR.out, Nat.zero_le _, fun j hj => by simp at hj⟩, hbel⟩

/-- The exact laws' copy of boxes: new memory that holds the same and can be written. -/
theorem toBoxS_free (v : Value) (l : List Bx) (w : World) (h : HoldsBx w v l) (hn : l.length ≤ 1048576) :
    Calls Try.prog 30 #[v] w fun e w' => ∃ u, e = .returned u ∧ FreeBx w.heap.size w' u l ∧ Below w.heap.size w w' := by
  obtain ⟨a, cap, rfl, h2, h3, h4⟩ := h
  by_cases hz : l.length = 0
  · obtain rfl := List.eq_nil_of_length_eq_zero hz
    exact toBoxS_freeZ a cap w
  · rcases h4 with h4 | ⟨b, off, rfl, h6, h7⟩
    · exact absurd h4 hz
    · exact toBoxS_freeS b off l.length cap l w rfl hn (by omega) h6 h7

set_option maxHeartbeats 1000000 in
/-- The marks laid in boxes: nothing but their block is turned. -/
theorem markBoxS_any (K : Nat) (v : Value) (l : List Bx) (w : World) (h : FreeBx K w v l) (hm : l.length ≤ 1048576) :
    Calls Try.prog 33 #[v, .int .i64 1] w fun e w' => e = .returned (.int .i64 ((1 + l.length * 5 : Nat) : Int)) ∧ ∃ g, K ≤ g ∧ v.ownBlock = some g ∧ g < w.heap.size ∧ MostB g w w' := by
  obtain ⟨g, cap, rfl, h2, h3, h4, h5, cur0, T, h6, h7, -⟩ := h
  have HG := Lib.hid (And.intro h2 h3)
  obtain ⟨n, hn⟩ : ∃ n, n = l.length := ⟨_, rfl⟩
  rw [← hn] at h7 hm ⊢
  clear h2 h3 h4 h5 hn
  go_enter Try.func33, Try.ntmps33
  go_wp2_with fail
  go_loopw [1, 5] (fun s i wr => ∃ (k : Nat) (cur : Array Value), k ≤ n ∧ i = .int .i64 k ∧ s = .int .i64 ((1 + k * 5 : Nat) : Int) ∧ Hid (wr.heap[g]? = some (.cells cur T (0, 0)) ∧ n * 5 ≤ cur.size) ∧ MostB g w wr) (fun _ i _ => n - (intOf i).toNat)
  case atStart => exact ⟨0, cur0, by omega, rfl, rfl, Lib.hid ⟨h6, h7⟩, MostB.refl _ _⟩
  case round =>
    obtain ⟨k, cur, hk, rfl, rfl, HC, hbr⟩ := hrel
    by_cases hlt : k < n
    · obtain ⟨hc1, hc2⟩ := HC.out
      have hcell : ∀ o, wr.cell? ⟨g, o, none⟩ = cur[o]? := fun o => by simp [World.cell?, hc1]
      have hfr : ∀ o, wr.frozen? ⟨g, o, none⟩ = false := fun o => by simp [World.frozen?, hc1]
      have ht : ∀ o, o < n * 5 → ∃ v, wr.cell? ⟨g, o, none⟩ = some v := fun o ho => ⟨_, by rw [hcell]; exact Array.getElem?_eq_getElem (by omega)⟩
      obtain ⟨x0, t0⟩ := ht (k * 5) (by omega)
      obtain ⟨x1, t1⟩ := ht (k * 5 + 1) (by omega)
      obtain ⟨x2, t2⟩ := ht (k * 5 + 2) (by omega)
      obtain ⟨x3, t3⟩ := ht (k * 5 + 3) (by omega)
      obtain ⟨x4, t4⟩ := ht (k * 5 + 4) (by omega)
      have f0 := hfr (k * 5)
      have f1 := hfr (k * 5 + 1)
      have f2 := hfr (k * 5 + 2)
      have f3 := hfr (k * 5 + 3)
      have f4 := hfr (k * 5 + 4)
      obtain ⟨q, hq⟩ : ∃ q : Int, q = ((1 + k * 5 : Nat) : Int) := ⟨_, rfl⟩
      have z1 : IntKind.i64.wrap (q + 1) = q + 1 := IntWalk.i64_in _ (by omega)
      have z2 : IntKind.i64.wrap (q + 1 + 1) = q + 1 + 1 := IntWalk.i64_in _ (by omega)
      have z3 : IntKind.i64.wrap (q + 1 + 1 + 1) = q + 1 + 1 + 1 := IntWalk.i64_in _ (by omega)
      have z4 : IntKind.i64.wrap (q + 1 + 1 + 1 + 1) = q + 1 + 1 + 1 + 1 := IntWalk.i64_in _ (by omega)
      have z5 : IntKind.i64.wrap (q + 1 + 1 + 1 + 1 + 1) = q + 1 + 1 + 1 + 1 + 1 := IntWalk.i64_in _ (by omega)
      have HQ := Lib.hid hq
      rw [← hq]
      clear ht hc1 hc2 hcell hfr h6 h7 hq
      go_wp2_with fail
      go_roundw
      case rel =>
        obtain ⟨d1, d2⟩ := HC.out
        refine ⟨k + 1, _, by omega, by go_num, by rw [HQ.out]; congr 1; omega, Lib.hid ⟨five_set d1 _ _ _ _ _ _, by simpa using d2⟩, ((((hbr.set_ _ _).set_ _ _).set_ _ _).set_ _ _).set_ _ _⟩
      case measure => simp [intOf]; omega
    · have he : k = n := by omega
      subst he
      clear h6 h7 HC
      go_wp2_with fail
      go_ret
      exact ⟨rfl, g, HG.out.1, rfl, HG.out.2, hbr⟩

set_option maxHeartbeats 1000000 in
/-- The marks laid in numbers, from any number on. -/
theorem markIntS_from (K : Nat) (v : Value) (l : List Int) (q : Nat) (w : World) (h : FreeI K w v l) (hm : l.length ≤ 1048576) (hq : q ≤ 100000000) :
    Calls Try.prog 34 #[v, .int .i64 q] w fun e w' => e = .returned (.int .i64 ((q + l.length : Nat) : Int)) ∧ ∃ g, K ≤ g ∧ v.ownBlock = some g ∧ g < w.heap.size ∧ MostB g w w' := by
  obtain ⟨g, cap, rfl, h2, h3, h4, h5, cur0, T, h6, h7, -⟩ := h
  have HG := Lib.hid (And.intro h2 h3)
  obtain ⟨n, hn⟩ : ∃ n, n = l.length := ⟨_, rfl⟩
  rw [← hn] at h7 hm ⊢
  clear h2 h3 h4 h5 hn
  go_enter Try.func34, Try.ntmps34
  go_wp2_with fail
  go_loopw [1, 5] (fun s i wr => ∃ (k : Nat) (cur : Array Value), k ≤ n ∧ i = .int .i64 k ∧ s = .int .i64 ((q + k : Nat) : Int) ∧ Hid (wr.heap[g]? = some (.cells cur T (0, 0)) ∧ n ≤ cur.size) ∧ MostB g w wr) (fun _ i _ => n - (intOf i).toNat)
  case atStart => exact ⟨0, cur0, by omega, rfl, rfl, Lib.hid ⟨h6, h7⟩, MostB.refl _ _⟩
  case round =>
    obtain ⟨k, cur, hk, rfl, rfl, HC, hbr⟩ := hrel
    by_cases hlt : k < n
    · obtain ⟨hc1, hc2⟩ := HC.out
      have f0 : wr.frozen? ⟨g, k, none⟩ = false := by simp [World.frozen?, hc1]
      obtain ⟨x0, t0⟩ : ∃ x, wr.cell? ⟨g, k, none⟩ = some x := by
        refine ⟨cur[k]'(by omega), ?_⟩
        simp only [World.cell?, hc1]
        exact Array.getElem?_eq_getElem _
      clear hc1 hc2 h6 h7
      go_wp2_with fail
      go_roundw
      case rel =>
        obtain ⟨d1, d2⟩ := HC.out
        exact ⟨k + 1, _, by omega, by go_num, by go_num, Lib.hid ⟨Joins.block_setCell d1 _, by simpa using d2⟩, hbr.set_ _ _⟩
      case measure => simp [intOf]; omega
    · have he : k = n := by omega
      subst he
      clear h6 h7 HC
      go_wp2_with fail
      go_ret
      exact ⟨rfl, g, HG.out.1, rfl, HG.out.2, hbr⟩
end Go.Proofs.Ytfeobdgdhgcgoaa
namespace Go.Proofs.Ytfeobdgdhgcgoaa
set_option linter.unusedVariables false

theorem putP_lenX {h : Hl} {bok : Bool} {ids p : List Int} {s id : Int} {n : Nat} (hp : p.length ≤ n) : (putP h bok ids p s id).1.length ≤ n := by
  rcases putP_cases h bok ids p s id with ⟨_, e⟩ | ⟨_, e⟩ | ⟨_, _, _, _, _, _, e⟩ <;> rw [e] <;> simp [hp]
theorem takeP_lenX {h : Hl} {bok : Bool} {ids p : List Int} {s : Int} {n : Nat} (hp : p.length ≤ n) : (takeP h bok ids p s).1.length ≤ n := by
  rcases takeP_cases h bok ids p s with ⟨_, e⟩ | ⟨_, e⟩ | ⟨_, _, _, _, _, _, e⟩ <;> rw [e] <;> simp [hp]
theorem idsP_lenX {h : Hl} {bok : Bool} {ids p : List Int} {n : Nat} (hp : p.length ≤ n) : (idsP h bok ids p).length ≤ n := by
  unfold idsP
  split
  · exact Nat.le_trans (List.length_filter_le _ _) hp
  · simp
theorem nextI_lenX {h : Hl} {bok : Bool} {ids p : List Int} {n : Nat} (hp : p.length ≤ n) : (nextI h bok ids p).length ≤ n := by
  unfold nextI nextP
  split
  · rw [List.length_map]; exact Nat.le_trans (List.length_filter_le _ _) (by rw [List.length_range]; exact hp)
  · simp
end Go.Proofs.Ytfeobdgdhgcgoaa
namespace Go.Proofs.Ytfeobdgdhgcgoaa
open Go.RowKit

theorem sameP_yes (u v : Value) (l : List Int) (w : World) (hu : HoldsI w u l) (hv : HoldsI w v l) :
    Calls Try.prog 11 #[u, v] w fun e w' => e = .returned (.bool true) ∧ Below w.heap.size w w' := by
  have := sameInts_any u v l l w hu hv
  rwa [decide_eq_true (rfl : l = l)] at this
theorem sameP_no (u v : Value) (l m : List Int) (w : World) (hu : HoldsI w u l) (hv : HoldsI w v m) (h : ¬ l = m) :
    Calls Try.prog 11 #[u, v] w fun e w' => e = .returned (.bool false) ∧ Below w.heap.size w w' := by
  have := sameInts_any u v l m w hu hv
  rwa [decide_eq_false h] at this
end Go.Proofs.Ytfeobdgdhgcgoaa
