/-
  Rows of numbers of the call's own.
-/
import Derived.Test.YtdmbahpifbidlaaMo
import Derived.Test.YtdmbahpifbidlaaInS
namespace Go.Proofs.Ytdmbahpifbidlaa
open Go.RowKit
set_option linter.unusedVariables false

/-- The cells of a list of numbers. -/
def rowI (l : List Int) : List Value := l.map (.int .i64)
theorem rowI_app (l l' : List Int) : rowI (l ++ l') = rowI l ++ rowI l' := by simp [rowI]
theorem rowI_len (l : List Int) : (rowI l).length = l.length := by simp [rowI]
theorem own_ints {w : World} {base : Nat} {e : TypeId} {v : Value} {l m : List Int} {n : Nat} {xs : List Value} (h : w.ownsRow base e 1 v (l.length + n) (rowI l ++ xs)) (hm : m.length = n) (hx : xs = rowI m) : w.ownsRow base e 1 v (l ++ m).length (rowI (l ++ m)) := by
  subst hm hx
  rw [rowI_app, List.length_append]; exact h
/-- A slice of numbers that lies from block K on. -/
def NewI (K : Nat) (w : World) (v : Value) (l : List Int) : Prop :=
  ∃ (a : Option Addr) (cap : Nat), v = .slice a l.length cap ∧ l.length ≤ cap ∧ cap ≤ maxLen ∧
    (l.length = 0 ∨ ∃ b off, a = some ⟨b, off, none⟩ ∧ K ≤ b ∧ b < w.heap.size ∧ ∀ k (hk : k < l.length), w.cell? ⟨b, off + k, none⟩ = some (.int .i64 l[k]))
theorem NewI.holds {K : Nat} {w : World} {v : Value} {l : List Int} (h : NewI K w v l) : HoldsI w v l := by
  obtain ⟨a, cap, h1, h2, h3, h4⟩ := h
  exact ⟨a, cap, h1, h2, h3, h4.imp id fun ⟨b, off, h5, _, h6, h7⟩ => ⟨b, off, h5, h6, h7⟩⟩
theorem NewI.most {K B : Nat} {w w' : World} {v : Value} {l : List Int} (h : NewI K w v l) (hm : MostB B w w') (hB : B < K) : NewI K w' v l := by
  obtain ⟨a, cap, h1, h2, h3, h4⟩ := h
  refine ⟨a, cap, h1, h2, h3, ?_⟩
  rcases h4 with h4 | ⟨b, off, h5, h6, h7, h8⟩
  · exact .inl h4
  · exact .inr ⟨b, off, h5, h6, Nat.lt_of_lt_of_le h7 hm.size, fun k hk => (World.cell?_of_block (w := w) (hm.block b (by omega) h7)).trans (h8 k hk)⟩
theorem NewI.from_ {K K' : Nat} {w : World} {v : Value} {l : List Int} (h : NewI K w v l) (hk : K' ≤ K) : NewI K' w v l := by
  obtain ⟨a, cap, h1, h2, h3, h4⟩ := h
  exact ⟨a, cap, h1, h2, h3, h4.imp id fun ⟨b, off, h5, h6, h7⟩ => ⟨b, off, h5, by omega, h7⟩⟩
theorem NewI.of_own {w : World} {base : Nat} {e : TypeId} {v : Value} {l : List Int} (h : w.ownsRow base e 1 v l.length (rowI l)) : NewI base w v l := by
  rcases h.2 with ⟨rfl, h0⟩ | ⟨g, cap, cur, rfl, hb, hg, hc, hm, hs, hx⟩
  · exact ⟨none, 0, by rw [h0], by omega, by simp [maxLen], .inl h0⟩
  · have hlt := (own_lt h g (by simp [Value.ownBlock])).2
    refine ⟨some ⟨g, 0, none⟩, cap, rfl, hc, hm, .inr ⟨g, 0, rfl, hb, hlt, fun k hk => ?_⟩⟩
    have e1 : (rowI l)[k]? = some (.int .i64 l[k]) := by simp [rowI, List.getElem?_map, List.getElem?_eq_getElem hk]
    rw [← hx, List.getElem?_take, if_pos (by omega)] at e1
    simp only [World.cell?, hg]
    simpa using e1
theorem HoldsI.row {w : World} {b off cap : Nat} {l : List Int} (h : HoldsI w (.slice (some ⟨b, off, none⟩) l.length cap) l) (j : Nat) (u : Value) (hu : (rowI l)[j]? = some u) : w.cell? ((⟨b, off, none⟩ : Addr).add j) = some u := by
  have hj : j < l.length := by
    rcases Nat.lt_or_ge j l.length with h' | h'
    · exact h'
    · rw [List.getElem?_eq_none (by rw [rowI_len]; exact h')] at hu; cases hu
  obtain ⟨a, cap', he, _, _, h4⟩ := h
  simp only [Value.slice.injEq, true_and] at he
  obtain ⟨rfl, rfl⟩ := he
  rcases h4 with h4 | ⟨b', off', h5, h6, h7⟩
  · omega
  · simp only [Option.some.injEq, Addr.mk.injEq, and_true] at h5
    obtain ⟨rfl, rfl⟩ := h5
    have e : (⟨b, off, none⟩ : Addr).add j = ⟨b, off + j, none⟩ := by
      unfold Addr.add
      split
      · next h => subst h; rfl
      · rfl
    rw [e, h7 j hj, ← hu]
    simp [rowI, hj]
theorem rowI_one (l : List Int) : ∀ u ∈ rowI l, u.oneCell' = true := by
  intro u hu
  obtain ⟨x, _, rfl⟩ := List.mem_map.1 hu
  rfl
theorem NewI.empty {K : Nat} {w : World} {a : Option Addr} {cap : Nat} (h : cap ≤ maxLen) : NewI K w (.slice a 0 cap) [] := ⟨a, cap, rfl, Nat.zero_le _, h, .inl rfl⟩
theorem NewI.keep {K : Nat} {w w' : World} {v : Value} {l : List Int} (h : NewI K w v l) (hb : Below w.heap.size w w') : NewI K w' v l := by
  obtain ⟨a, cap, h1, h2, h3, h4⟩ := h
  refine ⟨a, cap, h1, h2, h3, ?_⟩
  rcases h4 with h4 | ⟨b, off, h5, h6, h7, h8⟩
  · exact .inl h4
  · exact .inr ⟨b, off, h5, h6, Nat.lt_of_lt_of_le h7 hb.size, fun k hk => (hb.cell (p := ⟨b, off + k, none⟩) h7).trans (h8 k hk)⟩
theorem HoldsI.rowA {w : World} {x : Addr} {cap : Nat} {l : List Int} (h : HoldsI w (.slice (some x) l.length cap) l) (j : Nat) (u : Value) (hu : (rowI l)[j]? = some u) : w.cell? (x.add j) = some u := by
  have hj : j < l.length := by
    rcases Nat.lt_or_ge j l.length with h' | h'
    · exact h'
    · rw [List.getElem?_eq_none (by rw [rowI_len]; exact h')] at hu; cases hu
  have h0 := h
  obtain ⟨a, cap', he, _, _, h4⟩ := h
  simp only [Value.slice.injEq, true_and] at he
  obtain ⟨rfl, rfl⟩ := he
  rcases h4 with h4 | ⟨b', off', h5, _⟩
  · omega
  · obtain rfl := Option.some.inj h5
    exact HoldsI.row h0 j u hu
theorem own_put {w : World} {base : Nat} {e : TypeId} {v : Value} {l : List Int} {id : Int} (h : w.ownsRow base e 1 v (l.length + 1) (rowI l ++ [.int .i64 id])) : w.ownsRow base e 1 v (l ++ [id]).length (rowI (l ++ [id])) := own_ints (m := [id]) h rfl rfl
end Go.Proofs.Ytdmbahpifbidlaa
