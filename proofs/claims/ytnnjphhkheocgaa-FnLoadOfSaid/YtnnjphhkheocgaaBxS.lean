/-
  Contracts of the exact laws' own helpers over slices of boxes: their size, their copy, their comparison.
-/
import Derived.Test.YtnnjphhkheocgaaBx
import Derived.Test.YtnnjphhkheocgaaBxOpen
import Derived.OwnWalk
import Derived.Lib.SmallJoins
namespace Go.Proofs.Ytnnjphhkheocgaa
open Go.RowKit
set_option linter.unusedVariables false

/-- A slice value that holds these boxes in a world. -/
def HoldsBx (w : World) (v : Value) (l : List Bx) : Prop :=
  ∃ (a : Option Addr) (cap : Nat), v = .slice a l.length cap ∧ l.length ≤ cap ∧ cap ≤ maxLen ∧
    (l.length = 0 ∨ ∃ b off, a = some ⟨b, off, none⟩ ∧ b < w.heap.size ∧ ∀ k (hk : k < l.length), ∀ j, j < 5 → w.cell? ⟨b, off + (k * 5 + j), none⟩ = l[k].cells[j]?)

theorem HoldsBx.keep {w w' : World} {v : Value} {l : List Bx} (h : HoldsBx w v l) (hb : Below w.heap.size w w') : HoldsBx w' v l := by
  obtain ⟨a, cap, h1, h2, h3, h4⟩ := h
  refine ⟨a, cap, h1, h2, h3, ?_⟩
  rcases h4 with h4 | ⟨b, off, h5, h6, h7⟩
  · exact .inl h4
  · exact .inr ⟨b, off, h5, Nat.lt_of_lt_of_le h6 hb.size, fun k hk j hj => (hb.cell (p := ⟨b, off + (k * 5 + j), none⟩) h6).trans (h7 k hk j hj)⟩

theorem HoldsBx.of_came {w : World} {a : Option Addr} {len cap : Nat} {l : List Bx} (h : IsBoxes w a len cap l) : HoldsBx w (.slice a len cap) l ∧ l.length = len := by
  rcases h with ⟨rfl, rfl, rfl, rfl⟩ | ⟨x, rfl, h1, h2, h3, h4, h5⟩
  · exact ⟨⟨none, 0, rfl, Nat.le_refl _, by simp [maxLen], .inl rfl⟩, rfl⟩
  · refine ⟨⟨some x, cap, by rw [h3], by omega, h2, ?_⟩, h3⟩
    by_cases hz : l.length = 0
    · exact .inl hz
    · right
      obtain ⟨b, off, spot⟩ := x
      have hc := h5 0 (by omega) 0 (by omega)
      have hc' : w.cell? ((⟨b, off, spot⟩ : Addr).add (0 * 5 + 0)) = some (.int .i64 l[0].i) := hc
      have hspot : spot = none := by simpa [Addr.add] using World.cell?_spot hc'
      subst hspot
      refine ⟨b, off, rfl, World.block_lt_of_cell? _ _ hc', fun k hk j hj => ?_⟩
      rw [← Go.WideShapes.add_plain]
      exact h5 k hk j hj

theorem szBoxS_any (a : Option Addr) (len cap : Nat) (left : Int) (w : World) (h0 : 0 ≤ left) (h1 : left ≤ 1048576) (hm : len ≤ maxLen) :
    Calls Try.prog 30 #[.slice a len cap, .int .i64 left] w fun e w' => e = .returned (.int .i64 (if left < len then -1 else left - len)) ∧ w = w' := by
  unfold maxLen at hm
  by_cases h : left < len
  · rw [if_pos h]
    go_enter Try.func30, Try.ntmps30
    go_wp2
    go_ret
    exact ⟨rfl, rfl⟩
  · rw [if_neg h]
    go_enter Try.func30, Try.ntmps30
    go_wp2
    go_ret
    exact ⟨rfl, rfl⟩

theorem five_set {w : World} {G : Nat} {cur : Array Value} {T : TypeId} (h : w.heap[G]? = some (.cells cur T (0, 0))) (o : Nat) (v0 v1 v2 v3 v4 : Value) :
    (((((w.setCell ⟨G, o, none⟩ v0).setCell ⟨G, o + 1, none⟩ v1).setCell ⟨G, o + 2, none⟩ v2).setCell ⟨G, o + 3, none⟩ v3).setCell ⟨G, o + 4, none⟩ v4).heap[G]? =
      some (.cells (((((cur.setIfInBounds o v0).setIfInBounds (o + 1) v1).setIfInBounds (o + 2) v2).setIfInBounds (o + 3) v3).setIfInBounds (o + 4) v4) T (0, 0)) :=
  Joins.block_setCell (Joins.block_setCell (Joins.block_setCell (Joins.block_setCell (Joins.block_setCell h v0) v1) v2) v3) v4
theorem five_get (cur : Array Value) (o n : Nat) (hn : o + 5 ≤ cur.size) (b : Bx) (i : Nat) :
    (((((cur.setIfInBounds o (.int .i64 b.i)).setIfInBounds (o + 1) (.int .i64 b.g)).setIfInBounds (o + 2) (.int .i64 b.c)).setIfInBounds (o + 3) (.int .i64 b.p)).setIfInBounds (o + 4) (.bool b.d))[i]? =
      if o ≤ i ∧ i < o + 5 then b.cells[i - o]? else cur[i]? := by
  simp only [Array.getElem?_setIfInBounds, Array.size_setIfInBounds]
  by_cases h : o ≤ i ∧ i < o + 5
  · rw [if_pos h]
    obtain rfl | rfl | rfl | rfl | rfl : i = o ∨ i = o + 1 ∨ i = o + 2 ∨ i = o + 3 ∨ i = o + 4 := by omega
    · rw [if_neg (by omega), if_neg (by omega), if_neg (by omega), if_neg (by omega), if_pos rfl, if_pos (by omega), Nat.sub_self]; rfl
    · rw [if_neg (by omega), if_neg (by omega), if_neg (by omega), if_pos rfl, if_pos (by omega), show o + 1 - o = 1 by omega]; rfl
    · rw [if_neg (by omega), if_neg (by omega), if_pos rfl, if_pos (by omega), show o + 2 - o = 2 by omega]; rfl
    · rw [if_neg (by omega), if_pos rfl, if_pos (by omega), show o + 3 - o = 3 by omega]; rfl
    · rw [if_pos rfl, if_pos (by omega), show o + 4 - o = 4 by omega]; rfl
  · rw [if_neg h, if_neg (by omega), if_neg (by omega), if_neg (by omega), if_neg (by omega), if_neg (by omega)]

theorem infoBox : (Try.prog.info? 62).map (fun i => (i.zero, i.size, i.bytes)) = some (some (.agg #[.int .i64 0, .int .i64 0, .int .i64 0, .int .i64 0, .bool false]), 5, 40) := by kernel_rfl

set_option maxHeartbeats 1000000 in
theorem toBoxS_some (b off len cap : Nat) (l : List Bx) (w : World) (hl : l.length = len) (hn : len ≤ 1048576) (hp : 0 < len) (hb : b < w.heap.size)
    (hc : ∀ k (hk : k < l.length), ∀ j, j < 5 → w.cell? ⟨b, off + (k * 5 + j), none⟩ = l[k].cells[j]?) :
    Calls Try.prog 32 #[.slice (some ⟨b, off, none⟩) len cap] w fun e w' => ∃ v, e = .returned v ∧ HoldsBx w' v l ∧ Below w.heap.size w w' := by
  obtain ⟨i0, hi, hz0, hz1, hz2⟩ := info_parts infoBox
  have hb2 : i0.bytes * len ≤ 281474976710656 := by rw [hz2]; omega
  have hb3 : len ≤ maxLen := by unfold maxLen; omega
  go_enter Try.func32, Try.ntmps32
  go_wp2_with (at_make; refine wpList_make_full _ rfl _ _ _ rfl w.heap.size 62 i0 (.agg #[.int .i64 0, .int .i64 0, .int .i64 0, .int .i64 0, .bool false]) 5 Try.underlying25 hi hz0 hz1 .i64 .i64 _ _ len rfl rfl rfl rfl hb2 hb3 (Nat.le_refl _) ?_; intro w1 hown hgrow)
  obtain ⟨hx1, hx2⟩ := hown
  have hbel : Below w.heap.size w w1 := (Below.refl _ _).grown hgrow (Nat.le_refl _) (fun k hk => by cases hk)
  obtain ⟨cur0, hcur0, hsz0⟩ : ∃ cur : Array Value, w1.heap[w.heap.size]? = some (.cells cur 62 (0, 0)) ∧ cur.size = len * 5 := by
    rcases hx2 with ⟨h1, _⟩ | ⟨g, cap', cur, h1, _, h3, _, _, h6, _⟩
    · cases h1
    · simp only [Value.slice.injEq, Option.some.injEq, Addr.mk.injEq] at h1
      obtain ⟨⟨rfl, -, -⟩, -, rfl⟩ := h1
      exact ⟨cur, h3, h6⟩
  clear hx1 hx2 hgrow
  generalize hG : w.heap.size = G at *
  go_loopw [4] (fun i wr => ∃ (k : Nat) (cur : Array Value), k ≤ len ∧ i = .int .i64 k ∧ Hid (wr.heap[G]? = some (.cells cur 62 (0, 0)) ∧ cur.size = len * 5 ∧ ∀ j (hj : j < l.length), j < k → ∀ i, i < 5 → cur[j * 5 + i]? = l[j].cells[i]?) ∧ Below G w wr) (fun i _ => len - (intOf i).toNat)
  case atStart => exact ⟨0, cur0, by omega, rfl, Lib.hid ⟨hcur0, hsz0, fun j _ hj => by omega⟩, hbel⟩
  case round =>
    obtain ⟨k, cur, hk, rfl, HC, hbr⟩ := hrel
    by_cases hlt : k < len
    · have hkl : k < l.length := by omega
      have hs : ∀ j, j < 5 → wr.cell? ⟨b, off + (k * 5 + j), none⟩ = l[k].cells[j]? := fun j hj => (hbr.cell (p := ⟨b, off + (k * 5 + j), none⟩) hb).trans (hc k hkl j hj)
      have s0 : wr.cell? ⟨b, off + k * 5, none⟩ = some (.int .i64 l[k].i) := hs 0 (by omega)
      have s1 : wr.cell? ⟨b, off + k * 5 + 1, none⟩ = some (.int .i64 l[k].g) := hs 1 (by omega)
      have s2 : wr.cell? ⟨b, off + k * 5 + 2, none⟩ = some (.int .i64 l[k].c) := hs 2 (by omega)
      have s3 : wr.cell? ⟨b, off + k * 5 + 3, none⟩ = some (.int .i64 l[k].p) := hs 3 (by omega)
      have s4 : wr.cell? ⟨b, off + k * 5 + 4, none⟩ = some (.bool l[k].d) := hs 4 (by omega)
      clear hs
      have HT := Lib.hid fun w => toBox_any l[k].i l[k].g l[k].c l[k].p l[k].d w
      go_wp2_with fail
      refine (HT.out _).mono ?_
      rintro e w2 ⟨rfl, b2⟩
      clear s0 s1 s2 s3 s4
      obtain ⟨hc1, hc2, hc3⟩ := HC.out
      have hG2 : G < wr.heap.size := by
        rcases Nat.lt_or_ge G wr.heap.size with h | h
        · exact h
        · rw [Array.getElem?_eq_none h] at hc1; cases hc1
      have hw2 : w2.heap[G]? = some (.cells cur 62 (0, 0)) := (b2.block G hG2).trans hc1
      have hcell : ∀ o, w2.cell? ⟨G, o, none⟩ = cur[o]? := fun o => by simp [World.cell?, hw2]
      have hfr : ∀ o, w2.frozen? ⟨G, o, none⟩ = false := fun o => by simp [World.frozen?, hw2]
      have ht : ∀ o, o < len * 5 → ∃ v, w2.cell? ⟨G, o, none⟩ = some v := fun o ho => ⟨_, by rw [hcell]; exact Array.getElem?_eq_getElem (by omega)⟩
      obtain ⟨x0, t0⟩ := ht (k * 5) (by omega)
      obtain ⟨x1, t1⟩ := ht (k * 5 + 1) (by omega)
      obtain ⟨x2, t2⟩ := ht (k * 5 + 2) (by omega)
      obtain ⟨x3, t3⟩ := ht (k * 5 + 3) (by omega)
      obtain ⟨x4, t4⟩ := ht (k * 5 + 4) (by omega)
      have HC3 := Lib.hid (And.intro hw2 (And.intro hc2 hc3))
      have f0 := hfr (k * 5)
      have f1 := hfr (k * 5 + 1)
      have f2 := hfr (k * 5 + 2)
      have f3 := hfr (k * 5 + 3)
      have f4 := hfr (k * 5 + 4)
      have hb2 := hbr.trans (b2.mono (Nat.le_of_lt hG2))
      clear ht hc1 hc2 hc3 hw2 hcell hfr HC
      go_wp2_with fail
      go_roundw
      case rel =>
        obtain ⟨d1, d2, d3⟩ := HC3.out
        refine ⟨k + 1, _, by omega, by go_num, Lib.hid ⟨five_set d1 _ _ _ _ _ _, by simpa using d2, fun j hj hjk i hi => ?_⟩, ?_⟩
        · rw [five_get cur (k * 5) 0 (by omega) l[k]]
          by_cases hjk' : j = k
          · subst hjk'
            rw [if_pos (by omega), show j * 5 + i - j * 5 = i by omega]
          · rw [if_neg (by omega)]
            exact d3 j hj (by omega) i hi
        · exact ((((hb2.setCell (Nat.le_refl _) _).setCell (Nat.le_refl _) _).setCell (Nat.le_refl _) _).setCell (Nat.le_refl _) _).setCell (Nat.le_refl _) _
      case measure => simp [intOf]; omega
    · obtain ⟨d1, d2, d3⟩ := HC.out
      have HC' := HC
      clear HC
      go_wp2_with fail
      go_ret
      have hGr : G < wr.heap.size := by
        rcases Nat.lt_or_ge G wr.heap.size with h | h
        · exact h
        · rw [Array.getElem?_eq_none h] at d1; cases d1
      refine ⟨_, rfl, ⟨some ⟨G, 0, none⟩, len, by rw [hl]; rfl, by omega, hb3, .inr ⟨G, 0, rfl, hGr, fun j hj i hi => ?_⟩⟩, by rw [hG]; exact hbr⟩
      have e : wr.cell? ⟨G, 0 + (j * 5 + i), none⟩ = cur[j * 5 + i]? := by rw [Nat.zero_add]; simp [World.cell?, d1]
      rw [e]
      exact d3 j hj (by omega) i hi

theorem toBoxS_zero (a : Option Addr) (cap : Nat) (w : World) :
    Calls Try.prog 32 #[.slice a 0 cap] w fun e w' => ∃ v, e = .returned v ∧ HoldsBx w' v [] ∧ Below w.heap.size w w' := by
  obtain ⟨i0, hi, hz0, hz1, hz2⟩ := info_parts infoBox
  have hb2 : i0.bytes * 0 ≤ 281474976710656 := by omega
  have hb3 : 0 ≤ maxLen := by omega
  go_enter Try.func32, Try.ntmps32
  go_wp2_with (at_make; refine wpList_make_full _ rfl _ _ _ rfl w.heap.size 62 i0 (.agg #[.int .i64 0, .int .i64 0, .int .i64 0, .int .i64 0, .bool false]) 5 Try.underlying25 hi hz0 hz1 .i64 .i64 _ _ 0 rfl rfl rfl rfl hb2 hb3 (Nat.le_refl _) ?_; intro w1 hown hgrow)
  have hbel : Below w.heap.size w w1 := (Below.refl _ _).grown hgrow (Nat.le_refl _) (fun k hk => by cases hk)
  clear hown hgrow
  go_loop [4] (fun i => i = .int .i64 0) (fun _ => 0)
  case atStart => rfl
  case round =>
    obtain rfl := hrel
    go_wp2_with fail
    go_ret
    exact ⟨_, rfl, ⟨some ⟨w.heap.size, 0, none⟩, 0, rfl, Nat.le_refl _, hb3, .inl rfl⟩, hbel⟩

/-- The exact laws' copy of a slice of boxes: new memory that holds the same boxes. -/
theorem toBoxS_any (v : Value) (l : List Bx) (w : World) (h : HoldsBx w v l) (hn : l.length ≤ 1048576) :
    Calls Try.prog 32 #[v] w fun e w' => ∃ u, e = .returned u ∧ HoldsBx w' u l ∧ Below w.heap.size w w' := by
  obtain ⟨a, cap, rfl, h2, h3, h4⟩ := h
  by_cases hz : l.length = 0
  · obtain rfl := List.eq_nil_of_length_eq_zero hz
    exact toBoxS_zero a cap w
  · rcases h4 with h4 | ⟨b, off, rfl, h6, h7⟩
    · exact absurd h4 hz
    · exact toBoxS_some b off l.length cap l w rfl hn (by omega) h6 h7
end Go.Proofs.Ytnnjphhkheocgaa
