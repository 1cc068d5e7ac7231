/-
  Slices of numbers in memory of their own that can be written: the exact laws' copies, and the marks that they lay and look for.
-/
import Derived.Test.YtdmbahpifbidlaaInS
import Derived.Test.YtdmbahpifbidlaaOwI
import Derived.Test.YtdmbahpifbidlaaIe
namespace Go.Proofs.Ytdmbahpifbidlaa
open Go.RowKit
set_option linter.unusedVariables false

/-- A slice at the head of a block from K on, none of it frozen. -/
def FreeI (K : Nat) (w : World) (v : Value) (l : List Int) : Prop :=
  ∃ g cap, v = .slice (some ⟨g, 0, none⟩) l.length cap ∧ K ≤ g ∧ g < w.heap.size ∧ l.length ≤ cap ∧ cap ≤ maxLen ∧ ∃ cur T, w.heap[g]? = some (.cells cur T (0, 0)) ∧ l.length ≤ cur.size ∧ ∀ k (hk : k < l.length), cur[k]? = some (.int .i64 l[k])
theorem free_lt {w : World} {g : Nat} {o : Obj} (h : w.heap[g]? = some o) : g < w.heap.size := by
  rcases Nat.lt_or_ge g w.heap.size with h' | h'
  · exact h'
  · rw [Array.getElem?_eq_none h'] at h; cases h
theorem FreeI.new {K : Nat} {w : World} {v : Value} {l : List Int} (h : FreeI K w v l) : NewI K w v l := by
  obtain ⟨g, cap, h1, h2, h3, h4, h5, cur, T, h6, h7, h8⟩ := h
  exact ⟨some ⟨g, 0, none⟩, cap, h1, h4, h5, .inr ⟨g, 0, rfl, h2, h3, fun k hk => by rw [Nat.zero_add]; simp only [World.cell?, h6]; exact h8 k hk⟩⟩
theorem FreeI.holds {K : Nat} {w : World} {v : Value} {l : List Int} (h : FreeI K w v l) : HoldsI w v l := h.new.holds
theorem FreeI.keep {K : Nat} {w w' : World} {v : Value} {l : List Int} (h : FreeI K w v l) (hb : Below w.heap.size w w') : FreeI K w' v l := by
  obtain ⟨g, cap, h1, h2, h3, h4, h5, cur, T, h6, h7⟩ := h
  exact ⟨g, cap, h1, h2, Nat.lt_of_lt_of_le h3 hb.size, h4, h5, cur, T, by rw [hb.block g h3]; exact h6, h7⟩

set_option maxHeartbeats 1000000 in
theorem toIntS_freeS (b off len cap : Nat) (l : List Int) (w : World) (hl : l.length = len) (hn : len ≤ 1048576) (hp : 0 < len) (hb : b < w.heap.size)
    (hc : ∀ k (hk : k < l.length), w.cell? ⟨b, off + k, none⟩ = some (.int .i64 l[k])) :
    Calls Try.prog 85 #[.slice (some ⟨b, off, none⟩) len cap] w fun e w' => ∃ v, e = .returned v ∧ FreeI w.heap.size w' v l ∧ Below w.heap.size w w' := by
  obtain ⟨i0, hi, hz0, hz1, hz2⟩ := info_parts infoInt
  have hb2 : i0.bytes * len ≤ 281474976710656 := by rw [hz2]; omega
  have hb3 : len ≤ maxLen := by unfold maxLen; omega
  go_enter Try.func85, Try.ntmps85
  go_wp2_with (at_make; refine wpList_make_full _ rfl _ _ _ rfl w.heap.size 3 i0 (.int .i64 0) 1 Try.underlying28 hi hz0 hz1 .i64 .i64 _ _ len rfl rfl rfl rfl hb2 hb3 (Nat.le_refl _) ?_; intro w1 hown hgrow)
  obtain ⟨hx1, hx2⟩ := hown
  have hbel : Below w.heap.size w w1 := (Below.refl _ _).grown hgrow (Nat.le_refl _) (fun k hk => by cases hk)
  obtain ⟨cur0, hcur0, hsz0⟩ : ∃ cur : Array Value, w1.heap[w.heap.size]? = some (.cells cur 3 (0, 0)) ∧ cur.size = len := by
    rcases hx2 with ⟨h1, _⟩ | ⟨g, cap', cur, h1, _, h3, _, _, h6, _⟩
    · cases h1
    · simp only [Value.slice.injEq, Option.some.injEq, Addr.mk.injEq] at h1
      obtain ⟨⟨rfl, -, -⟩, -, rfl⟩ := h1
      exact ⟨cur, h3, by omega⟩
  clear hx1 hx2 hgrow
  generalize hG : w.heap.size = G at *
  go_loopw [4] (fun i wr => ∃ (k : Nat) (cur : Array Value), k ≤ len ∧ i = .int .i64 k ∧ Hid (wr.heap[G]? = some (.cells cur 3 (0, 0)) ∧ cur.size = len ∧ ∀ j (hj : j < l.length), j < k → cur[j]? = some (.int .i64 l[j])) ∧ Below G w wr) (fun i _ => len - (intOf i).toNat)
  case atStart => exact ⟨0, cur0, by omega, rfl, Lib.hid ⟨hcur0, hsz0, fun j _ hj => by omega⟩, hbel⟩
  case round =>
    obtain ⟨k, cur, hk, rfl, HC, hbr⟩ := hrel
    by_cases hlt : k < len
    · have hkl : k < l.length := by omega
      have s0 : wr.cell? ⟨b, off + k, none⟩ = some (.int .i64 l[k]) := (hbr.cell (p := ⟨b, off + k, none⟩) hb).trans (hc k hkl)
      obtain ⟨hc1, hc2, hc3⟩ := HC.out
      have t0 : wr.cell? ⟨G, k, none⟩ = some (cur[k]'(by omega)) := by
        simp only [World.cell?, hc1]
        exact Array.getElem?_eq_getElem _
      have f0 : wr.frozen? ⟨G, k, none⟩ = false := by simp [World.frozen?, hc1]
      obtain ⟨x0, t0'⟩ : ∃ x, wr.cell? ⟨G, k, none⟩ = some x := ⟨_, t0⟩
      have HC3 := Lib.hid (And.intro hc1 (And.intro hc2 hc3))
      clear t0 hc1 hc2 hc3 HC
      go_wp2_with fail
      go_roundw
      case rel =>
        obtain ⟨d1, d2, d3⟩ := HC3.out
        refine ⟨k + 1, _, by omega, by go_num, Lib.hid ⟨Joins.block_setCell d1 _, by simpa using d2, fun j hj hjk => ?_⟩, hbr.setCell (Nat.le_refl _) _⟩
        rw [Array.getElem?_setIfInBounds]
        by_cases hjk' : j = k
        · subst hjk'
          rw [if_pos rfl, if_pos (by omega)]
        · rw [if_neg (by omega)]
          exact d3 j hj (by omega)
      case measure => simp [intOf]; omega
    · obtain ⟨d1, d2, d3⟩ := HC.out
      clear HC
      go_wp2_with fail
      go_ret
      have hGr : G < wr.heap.size := by
        rcases Nat.lt_or_ge G wr.heap.size with h | h
        · exact h
        · rw [Array.getElem?_eq_none h] at d1; cases d1
      refine ⟨_, rfl, ?_⟩
      rw [hG]
      exact ⟨⟨G, len, by rw [hl]; rfl, Nat.le_refl _, hGr, by omega, hb3, cur, 3, d1, by omega, fun j hj => d3 j hj (by omega)⟩, hbr⟩

theorem toIntS_freeZ (a : Option Addr) (cap : Nat) (w : World) :
    Calls Try.prog 85 #[.slice a 0 cap] w fun e w' => ∃ v, e = .returned v ∧ FreeI w.heap.size w' v [] ∧ Below w.heap.size w w' := by
  obtain ⟨i0, hi, hz0, hz1, hz2⟩ := info_parts infoInt
  have hb2 : i0.bytes * 0 ≤ 281474976710656 := by omega
  have hb3 : 0 ≤ maxLen := by omega
  go_enter Try.func85, Try.ntmps85
  go_wp2_with (at_make; refine wpList_make_full _ rfl _ _ _ rfl w.heap.size 3 i0 (.int .i64 0) 1 Try.underlying28 hi hz0 hz1 .i64 .i64 _ _ 0 rfl rfl rfl rfl hb2 hb3 (Nat.le_refl _) ?_; intro w1 hown hgrow)
  have hbel : Below w.heap.size w w1 := (Below.refl _ _).grown hgrow (Nat.le_refl _) (fun k hk => by cases hk)
  obtain ⟨cur0, hcur0⟩ : ∃ cur : Array Value, w1.heap[w.heap.size]? = some (.cells cur 3 (0, 0)) := by
    rcases hown.2 with ⟨h1, _⟩ | ⟨g, cap', cur, h1, _, h3, _⟩
    · cases h1
    · simp only [Value.slice.injEq, Option.some.injEq, Addr.mk.injEq] at h1
      obtain ⟨⟨rfl, -, -⟩, -, -⟩ := h1
      exact ⟨cur, h3⟩
  have HCUR := Lib.hid hcur0
  clear hown hgrow hcur0
  go_loop [4] (fun i => i = .int .i64 0) (fun _ => 0)
  case atStart => rfl
  case round =>
    obtain rfl := hrel
    go_wp2_with fail
    go_ret
    exact ⟨_, rfl, ⟨w.heap.size, 0, rfl, Nat.le_refl _, free_lt HCUR.out, Nat.le_refl _, hb3, cur0, 3, HCUR.out, Nat.zero_le _, fun j hj => by simp at hj⟩, hbel⟩

/-- The exact laws' copy of a slice of int's: new memory that holds the same and can be written. -/
theorem toIntS_free (v : Value) (l : List Int) (w : World) (h : HoldsI w v l) (hn : l.length ≤ 1048576) :
    Calls Try.prog 85 #[v] w fun e w' => ∃ u, e = .returned u ∧ FreeI w.heap.size w' u l ∧ Below w.heap.size w w' := by
  obtain ⟨a, cap, rfl, h2, h3, h4⟩ := h
  by_cases hz : l.length = 0
  · obtain rfl := List.eq_nil_of_length_eq_zero hz
    exact toIntS_freeZ a cap w
  · rcases h4 with h4 | ⟨b, off, rfl, h6, h7⟩
    · exact absurd h4 hz
    · exact toIntS_freeS b off l.length cap l w rfl hn (by omega) h6 h7
end Go.Proofs.Ytdmbahpifbidlaa
