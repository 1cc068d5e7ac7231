/-
  Contracts of the exact laws' own copies, comparisons and marks of moves and lists of moves.
-/
import Derived.Test.YtmpcidemlobooaaYmM
import Derived.Test.YtmpcidemlobooaaYsM
import Derived.Test.YtmpcidemlobooaaGYl
import Derived.Deep.RegionWith
import Derived.Deep.Draws
import Derived.Laws.Rows
namespace Go.Proofs.Ytmpcidemlobooaa
open Go.RowKit
set_option linter.unusedVariables false

/-- A list of moves that is empty, or at the head of a block from K on and below B that can be written. -/
def FreeM (K B : Nat) (w : World) (v : Value) (l : List (Int × Int)) : Prop :=
  (l = [] ∧ ∃ a cap, v = .slice a 0 cap ∧ cap ≤ maxLen) ∨
  ∃ (g cap : Nat) (cur : Array Value) (T : TypeId), v = .slice (some ⟨g, 0, none⟩) l.length cap ∧ (K ≤ g ∧ g < B) ∧ l.length ≤ cap ∧ cap ≤ maxLen ∧ w.heap[g]? = some (.cells cur T (0, 0)) ∧ l.length * 2 ≤ cur.size ∧
    ∀ k (hk : k < l.length), cur[k * 2]? = some (.int .i64 l[k].1) ∧ cur[k * 2 + 1]? = some (.int .i64 l[k].2)
theorem FreeM.keep {K B : Nat} {w w' : World} {v : Value} {l : List (Int × Int)} (h : FreeM K B w v l) (hb : Below w.heap.size w w') : FreeM K B w' v l := by
  rcases h with h | ⟨g, cap, cur, T, h1, h2, h3, h4, h5, h6⟩
  · exact .inl h
  · exact .inr ⟨g, cap, cur, T, h1, h2, h3, h4, by rw [hb.block g (free_lt h5)]; exact h5, h6⟩
theorem FreeM.mid {K M N B : Nat} {w w' : World} {v : Value} {l : List (Int × Int)} (h : FreeM K M w v l) (hm : MidB N B w w') (hB : B ≤ K) : FreeM K M w' v l := by
  rcases h with h | ⟨g, cap, cur, T, h1, h2, h3, h4, h5, h6⟩
  · exact .inl h
  · exact .inr ⟨g, cap, cur, T, h1, h2, h3, h4, by rw [hm.block g (.inr (Nat.le_trans hB h2.1)) (free_lt h5)]; exact h5, h6⟩
theorem FreeM.holds {K B : Nat} {w : World} {v : Value} {l : List (Int × Int)} (h : FreeM K B w v l) : HoldsM w v l := by
  rcases h with ⟨rfl, a, cap, rfl, hc⟩ | ⟨g, cap, cur, T, h1, h2, h3, h4, h5, h6, h7⟩
  · exact ⟨a, cap, rfl, Nat.zero_le _, hc, .inl rfl⟩
  · refine ⟨_, cap, h1, h3, h4, .inr ⟨g, 0, rfl, free_lt h5, fun k hk => ?_⟩⟩
    obtain ⟨q1, q2⟩ := h7 k hk
    refine ⟨?_, ?_⟩
    · rw [Nat.zero_add, World.cell?, h5]; exact q1
    · rw [Nat.zero_add, World.cell?, h5]; exact q2
theorem FreeM.form {K B : Nat} {w : World} {v : Value} {l : List (Int × Int)} (h : FreeM K B w v l) : ∃ a cap, v = .slice a l.length cap := by
  rcases h with ⟨rfl, a, cap, rfl, _⟩ | ⟨g, cap, cur, T, rfl, _⟩
  · exact ⟨_, _, rfl⟩
  · exact ⟨_, _, rfl⟩
theorem infoMvL : (Try.prog.info? 40).map (fun i => (i.zero, i.size, i.bytes)) = some (some (.agg #[.int .i64 0, .int .i64 0]), 2, 16) := by kernel_rfl
theorem two_set {w : World} {G : Nat} {cur : Array Value} {T : TypeId} (h : w.heap[G]? = some (.cells cur T (0, 0))) (o : Nat) (v0 v1 : Value) :
    ((w.setCell ⟨G, o, none⟩ v0).setCell ⟨G, o + 1, none⟩ v1).heap[G]? = some (.cells ((cur.setIfInBounds o v0).setIfInBounds (o + 1) v1) T (0, 0)) :=
  Joins.block_setCell (Joins.block_setCell h v0) v1

theorem eqMove_same (f t : Int) (w : World) :
    Calls Try.prog 74 #[.agg #[.int .i64 f, .int .i64 t], .agg #[.int .i64 f, .int .i64 t]] w fun e w' => e = .returned (.bool true) ∧ Below w.heap.size w w' := by
  have b1 : (f != f) = false := by simp
  have b2 : (t != t) = false := by simp
  go_enter Try.func74, Try.ntmps74
  go_wp2
  go_ret
  exact ⟨rfl, ((Below.refl _ _).alloc (Nat.le_refl _) _).alloc (by simp) _⟩

set_option maxHeartbeats 1000000 in
theorem eqMoveS_same (u v : Value) (l : List (Int × Int)) (w : World) (hu : HoldsM w u l) (hv : HoldsM w v l) :
    Calls Try.prog 39 #[u, v] w fun e w' => e = .returned (.bool true) ∧ Below w.heap.size w w' := by
  have HU := Lib.hid fun w' (hb : Below w.heap.size w w') => hu.keep hb
  have HV := Lib.hid fun w' (hb : Below w.heap.size w w') => hv.keep hb
  obtain ⟨a, cap, rfl, h2, h3, h4⟩ := hu
  obtain ⟨a', cap', rfl, h2', h3', h4'⟩ := hv
  have hm : l.length ≤ 9223372036854775807 := by unfold maxLen at h3; omega
  obtain ⟨n, hn⟩ : ∃ n, n = l.length := ⟨_, rfl⟩
  rw [← hn] at HU HV hm ⊢
  have hne : ((n : Int) != (n : Int)) = false := by simp
  clear hn h2 h3 h4 h2' h3' h4'
  go_enter Try.func39, Try.ntmps39
  go_wp2_with fail
  go_loopw [5] (fun i wr => ∃ k : Nat, k ≤ n ∧ i = .int .i64 k ∧ Below w.heap.size w wr) (fun i _ => n - (intOf i).toNat)
  case atStart => exact ⟨0, by omega, rfl, Below.refl _ _⟩
  case round =>
    obtain ⟨k, hk, rfl, hbr⟩ := hrel
    by_cases hlt : k < n
    · obtain ⟨b, off, hkl, rfl, h6, s0, s1⟩ := (HU.out wr hbr).at_ hlt
      obtain ⟨b', off', hkl', rfl, h6', t0, t1⟩ := (HV.out wr hbr).at_ hlt
      have HE := Lib.hid fun w => eqMove_same l[k].1 l[k].2 w
      generalize l[k].1 = f at s0 t0 HE
      generalize l[k].2 = t at s1 t1 HE
      go_wp2_with fail
      (first | go_region_with (go_at_call 74; ((with_reducible refine (HE.out _).mono ?_); rintro e w2 ⟨rfl, b2⟩)) | fail)
      all_goals
        have c2 : Below w.heap.size w w2 := hbr.trans (Below.mono (w := wr) ⟨b2.os, b2.tape, b2.output, b2.size, b2.block⟩ hbr.size)
        go_wp2_with fail
        go_roundw
        case rel => exact ⟨k + 1, by omega, by go_num, c2⟩
        case measure => simp [intOf]; omega
    · go_wp2_with fail
      go_ret
      exact ⟨rfl, hbr⟩

/-- Marks laid into a list of moves: nothing but blocks from K on and below B turns. -/
def MarkedM (K B : Nat) (w : World) (e : Ending) (w' : World) : Prop := ∃ q : Int, 0 ≤ q ∧ e = .returned (.int .i64 q) ∧ MidB K B w w'
set_option maxHeartbeats 1000000 in
theorem markMoveS_any (v : Value) (K B q : Nat) (l : List (Int × Int)) (w : World) (hf : FreeM K B w v l) (hq : q + 2 * l.length ≤ 281474976710656) :
    Calls Try.prog 41 #[v, .int .i64 (q : Int)] w (MarkedM K B w) := by
  obtain ⟨a, c, rfl⟩ := hf.form
  have hcell : l.length = 0 ∨ ∃ g, a = some ⟨g, 0, none⟩ ∧ (K ≤ g ∧ g < B) ∧ ∃ (cur : Array Value) (T : TypeId), w.heap[g]? = some (.cells cur T (0, 0)) ∧ l.length * 2 ≤ cur.size := by
    rcases hf with ⟨rfl, _⟩ | ⟨g, cap, cur, T, h1, h2, h3, h4, h5, h6, _⟩
    · exact .inl rfl
    · simp only [Value.slice.injEq, true_and] at h1
      exact .inr ⟨g, h1.1, h2, cur, T, h5, h6⟩
  have HC := Lib.hid hcell
  obtain ⟨n, hn⟩ : ∃ n, n = l.length := ⟨_, rfl⟩
  rw [← hn] at HC hq ⊢
  clear hf hcell hn
  go_enter Try.func41, Try.ntmps41
  go_wp2_with fail
  go_loopw [1, 5] (fun s i wr => ∃ (k : Nat), k ≤ n ∧ i = .int .i64 k ∧ s = .int .i64 ((q + 2 * k : Nat) : Int) ∧ Hid (n = 0 ∨ ∃ g, a = some ⟨g, 0, none⟩ ∧ (K ≤ g ∧ g < B) ∧ ∃ (cur : Array Value) (T : TypeId), wr.heap[g]? = some (.cells cur T (0, 0)) ∧ n * 2 ≤ cur.size) ∧ Hid (MidB K B w wr)) (fun _ i _ => n - (intOf i).toNat)
  case atStart => exact ⟨0, by omega, rfl, rfl, HC, Lib.hid (MidB.refl _ _ _)⟩
  case round =>
    clear HC
    obtain ⟨k, hk, rfl, rfl, HC, HBR⟩ := hrel
    by_cases hlt : k < n
    · rcases HC.out with hc | ⟨g, rfl, hg, cur, T, hc1, hc2⟩
      · omega
      have f0 : wr.frozen? ⟨g, k * 2, none⟩ = false := by simp [World.frozen?, hc1]
      have f1 : wr.frozen? ⟨g, k * 2 + 1, none⟩ = false := by simp [World.frozen?, hc1]
      obtain ⟨x0, t0⟩ : ∃ x, wr.cell? ⟨g, k * 2, none⟩ = some x := ⟨cur[k * 2]'(by omega), by simp only [World.cell?, hc1]; exact Array.getElem?_eq_getElem _⟩
      obtain ⟨x1, t1⟩ : ∃ x, wr.cell? ⟨g, k * 2 + 1, none⟩ = some x := ⟨cur[k * 2 + 1]'(by omega), by simp only [World.cell?, hc1]; exact Array.getElem?_eq_getElem _⟩
      have HC3 := Lib.hid (And.intro hc1 hc2)
      have HG := Lib.hid hg
      clear hc1 hc2 HC hg
      go_wp2_with fail
      go_roundw
      case rel =>
        obtain ⟨d1, d2⟩ := HC3.out
        exact ⟨k + 1, by omega, by go_num, by go_num, Lib.hid (.inr ⟨g, rfl, HG.out, _, T, two_set d1 _ _ _, by simpa using d2⟩), Lib.hid (HBR.out.most (((MostB.refl g wr).set_ _ _).set_ _ _) HG.out.1 HG.out.2)⟩
      case measure => simp [intOf]; omega
    · go_wp2_with fail
      go_ret
      exact ⟨_, by omega, rfl, HBR.out⟩
end Go.Proofs.Ytmpcidemlobooaa
