/-
  Contracts of the exact laws' own copies, comparisons and marks of moves and lists of moves.
-/
import Derived.Test.YtlcfldmiibjboabYmM
import Derived.Test.YtlcfldmiibjboabYsM
import Derived.Test.YtlcfldmiibjboabGYl
import Derived.Deep.RegionWith
import Derived.Deep.Draws
import Derived.Laws.Rows
namespace Go.Proofs.Ytlcfldmiibjboab
open Go.RowKit
set_option linter.unusedVariables false

/-- A list of moves that is empty, or at the head of a block from K on and below B that can be written. -/
def FreeM (K B : Nat) (w : World) (v : Value) (l : List (Int × Int)) : Prop :=
  (l = [] ∧ ∃ a cap, v = .slice a 0 cap ∧ cap ≤ maxLen) ∨
  ∃ (g cap : Nat) (cur : Array Value) (T : TypeId), v = .slice (some ⟨g, 0, none⟩) l.length cap ∧ (K ≤ g ∧ g < B) ∧ l.length ≤ cap ∧ cap ≤ maxLen ∧ w.heap[g]? = some (.cells cur T (0, 0)) ∧ l.length * 2 ≤ cur.size ∧
    ∀ k (hk : k < l.length), cur[k * 2]? = some (.int .i64 l[k].1) ∧ cur[k * 2 + 1]? = some (.int .i64 l[k].2)
theorem FreeM.keep {K B : Nat} {w w' : World} {v : Value} {l : List (Int × Int)} (h : FreeM K B w v l) (hb : Below w.heap.size w w') : FreeM K B w' v l := by
  rcases h with h | ⟨g, cap, cur, T, h1, h2, h3, h4, h5, h6⟩
  · exact .inl h
  · exact .inr ⟨g, cap, cur, T, h1, h2, h3, h4, by rw [hb.block g (free_lt h5)]; exact h5, h6⟩
theorem FreeM.mid {K M N B : Nat} {w w' : World} {v : Value} {l : List (Int × Int)} (h : FreeM K M w v l) (hm : MidB N B w w') (hB : B ≤ K) : FreeM K M w' v l := by
  rcases h with h | ⟨g, cap, cur, T, h1, h2, h3, h4, h5, h6⟩
  · exact .inl h
  · exact .inr ⟨g, cap, cur, T, h1, h2, h3, h4, by rw [hm.block g (.inr (Nat.le_trans hB h2.1)) (free_lt h5)]; exact h5, h6⟩
theorem FreeM.holds {K B : Nat} {w : World} {v : Value} {l : List (Int × Int)} (h : FreeM K B w v l) : HoldsM w v l := by
  rcases h with ⟨rfl, a, cap, rfl, hc⟩ | ⟨g, cap, cur, T, h1, h2, h3, h4, h5, h6, h7⟩
  · exact ⟨a, cap, rfl, Nat.zero_le _, hc, .inl rfl⟩
  · refine ⟨_, cap, h1, h3, h4, .inr ⟨g, 0, rfl, free_lt h5, fun k hk => ?_⟩⟩
    obtain ⟨q1, q2⟩ := h7 k hk
    refine ⟨?_, ?_⟩
    · rw [Nat.zero_add, World.cell?, h5]; exact q1
    · rw [Nat.zero_add, World.cell?, h5]; exact q2
theorem FreeM.form {K B : Nat} {w : World} {v : Value} {l : List (Int × Int)} (h : FreeM K B w v l) : ∃ a cap, v = .slice a l.length cap := by
  rcases h with ⟨rfl, a, cap, rfl, _⟩ | ⟨g, cap, cur, T, rfl, _⟩
  · exact ⟨_, _, rfl⟩
  · exact ⟨_, _, rfl⟩
theorem infoMvL : (Try.prog.info? 51).map (fun i => (i.zero, i.size, i.bytes)) = some (some (.agg #[.int .i64 0, .int .i64 0]), 2, 16) := by kernel_rfl
theorem two_set {w : World} {G : Nat} {cur : Array Value} {T : TypeId} (h : w.heap[G]? = some (.cells cur T (0, 0))) (o : Nat) (v0 v1 : Value) :
    ((w.setCell ⟨G, o, none⟩ v0).setCell ⟨G, o + 1, none⟩ v1).heap[G]? = some (.cells ((cur.setIfInBounds o v0).setIfInBounds (o + 1) v1) T (0, 0)) :=
  Joins.block_setCell (Joins.block_setCell h v0) v1

/-- Marks laid into a list of moves: nothing but blocks from K on and below B turns. -/
def MarkedM (K B : Nat) (w : World) (e : Ending) (w' : World) : Prop := ∃ q : Int, 0 ≤ q ∧ e = .returned (.int .i64 q) ∧ MidB K B w w'
end Go.Proofs.Ytlcfldmiibjboab
