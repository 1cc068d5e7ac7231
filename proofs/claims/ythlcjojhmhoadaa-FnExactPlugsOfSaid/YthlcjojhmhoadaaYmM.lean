/-
  Lists of moves in memory; plain mathematics of runs.
-/
import Derived.Test.YthlcjojhmhoadaaGYh
namespace Go.Proofs.Ythlcjojhmhoadaa
open Go.RowKit
set_option linter.unusedVariables false

/-- A slice value that holds these moves in a world. -/
def HoldsM (w : World) (v : Value) (ms : List (Int × Int)) : Prop :=
  ∃ (a : Option Addr) (cap : Nat), v = .slice a ms.length cap ∧ ms.length ≤ cap ∧ cap ≤ maxLen ∧
    (ms.length = 0 ∨ ∃ b off, a = some ⟨b, off, none⟩ ∧ b < w.heap.size ∧ ∀ k (hk : k < ms.length), w.cell? ⟨b, off + k * 2, none⟩ = some (.int .i64 ms[k].1) ∧ w.cell? ⟨b, off + k * 2 + 1, none⟩ = some (.int .i64 ms[k].2))
theorem HoldsM.keep {w w' : World} {v : Value} {ms : List (Int × Int)} (h : HoldsM w v ms) (hb : Below w.heap.size w w') : HoldsM w' v ms := by
  obtain ⟨a, cap, h1, h2, h3, h4⟩ := h
  refine ⟨a, cap, h1, h2, h3, h4.imp id fun ⟨b, off, h5, h6, h7⟩ => ⟨b, off, h5, Nat.lt_of_lt_of_le h6 hb.size, fun k hk => ?_⟩⟩
  exact ⟨(hb.cell (p := ⟨b, off + k * 2, none⟩) h6).trans (h7 k hk).1, (hb.cell (p := ⟨b, off + k * 2 + 1, none⟩) h6).trans (h7 k hk).2⟩
theorem HoldsM.at_ {w : World} {a : Option Addr} {n cap : Nat} {ms : List (Int × Int)} (h : HoldsM w (.slice a n cap) ms) {k : Nat} (hk : k < n) : ∃ b off, ∃ hk' : k < ms.length, a = some ⟨b, off, none⟩ ∧ b < w.heap.size ∧ w.cell? ⟨b, off + k * 2, none⟩ = some (.int .i64 ms[k].1) ∧ w.cell? ⟨b, off + k * 2 + 1, none⟩ = some (.int .i64 ms[k].2) := by
  obtain ⟨a', cap', he, h2, h3, h4⟩ := h
  simp only [Value.slice.injEq] at he
  obtain ⟨rfl, hn, rfl⟩ := he
  have hk' : k < ms.length := by omega
  rcases h4 with h4 | ⟨b, off, h5, h6, h7⟩
  · omega
  · exact ⟨b, off, hk', h5, h6, (h7 k hk').1, (h7 k hk').2⟩
theorem HoldsM.len {w : World} {a : Option Addr} {n cap : Nat} {ms : List (Int × Int)} (h : HoldsM w (.slice a n cap) ms) : n = ms.length ∧ n ≤ cap ∧ cap ≤ 9223372036854775807 := by
  obtain ⟨a', cap', he, h2, h3, h4⟩ := h
  simp only [Value.slice.injEq] at he
  obtain ⟨rfl, hn, rfl⟩ := he
  exact ⟨hn, by omega, by unfold maxLen at h3; omega⟩

theorem runS_app {h : Int} {ss : List (List Int)} {xs : List (Int × Int)} {tt : List (List Int)} (hd : Done h ss xs tt) (ys : List (Int × Int)) : runS h ss (xs ++ ys) = ((runS h tt ys).1, xs.length + (runS h tt ys).2) := by
  induction hd with
  | nil ss => simp
  | cons ss m tt xs uu he _ ih =>
    rw [List.cons_append, runS, he]
    simp only [if_true, ih, List.length_cons]
    congr 1
    omega
/-- The moves stop at the first that cannot be done. -/
theorem runY_stop {h : Int} {ss : List (List Int)} {ms : List (Int × Int)} {tt : List (List Int)} {k : Nat} (hk : ydOk h ss = true) (h40 : ms.length ≤ 40) (hl : k < ms.length) (hd : Done h ss (ms.take k) tt) (hm : (moveY h tt ms[k].1 ms[k].2).2 = false) : runY h ss ms = ((h, tt), (k : Int)) := by
  unfold runY
  rw [if_pos ⟨hk, h40⟩]
  have e : ms = ms.take k ++ ms[k] :: ms.drop (k + 1) := by rw [← List.drop_eq_getElem_cons hl, List.take_append_drop]
  have h1 := runS_app hd (ms[k] :: ms.drop (k + 1))
  rw [← e] at h1
  have h2 : runS h tt (ms[k] :: ms.drop (k + 1)) = (tt, 0) := by rw [runS, hm]; rfl
  rw [h1, h2, List.length_take, Nat.min_eq_left (by omega)]
  rfl
theorem runY_full {h : Int} {ss : List (List Int)} {ms : List (Int × Int)} {tt : List (List Int)} (hk : ydOk h ss = true) (h40 : ms.length ≤ 40) (hd : Done h ss ms tt) : runY h ss ms = ((h, tt), (ms.length : Int)) := by
  unfold runY
  rw [if_pos ⟨hk, h40⟩, hd.run]
theorem runY_bad {h : Int} {ss : List (List Int)} {ms : List (Int × Int)} (hk : ydOk h ss = false ∨ 40 < ms.length) : runY h ss ms = ((0, []), 0) := by
  unfold runY
  rw [if_neg]
  rintro ⟨h1, h2⟩
  rcases hk with hk | hk
  · rw [hk] at h1; cases h1
  · omega
theorem Done.step {h : Int} {ss : List (List Int)} {ms : List (Int × Int)} {tt uu : List (List Int)} {k : Nat} (hl : k < ms.length) (hd : Done h ss (ms.take k) tt) (hm : moveY h tt ms[k].1 ms[k].2 = ((h, uu), true)) : Done h ss (ms.take (k + 1)) uu := by
  rw [← List.take_append_getElem hl]
  exact hd.snoc hm
end Go.Proofs.Ythlcjojhmhoadaa
