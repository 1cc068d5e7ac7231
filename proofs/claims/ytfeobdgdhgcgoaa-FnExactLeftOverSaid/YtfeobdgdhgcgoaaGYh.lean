/-
  Yards in memory: lists of lists of numbers that are read; that can be written, each row in a block of its own.
  Contracts of the exact laws' own copy of a yard: new memory that holds the same and can be written.
  The contract of the model's l4Sorted: a number laid at its place in a list.
  Yards whose rows the call itself made, each in a block of its own; yards that lie from a block on.
  A row of a yard that the call made, written and laid into its place.
  append(s, make([]int, k)...), s a slice at the head of a block of our own: the operation that is handed the number k in the place of a slice.
-/
import Derived.Test.YtfeobdgdhgcgoaaGYd
import Derived.Test.YtfeobdgdhgcgoaaGBase
import Derived.Deep.RegionLaw
import Derived.Lib.AppendZerosOnto
namespace Go.Proofs.Ytfeobdgdhgcgoaa
open Go.RowKit
set_option linter.unusedVariables false

/-- A nil slice has no room. -/
def NilOk (v : Value) : Prop := ∀ n c, v = .slice none n c → c = 0
theorem NilOk.some_ {x : Addr} {n c : Nat} : NilOk (.slice (some x) n c) := fun _ _ e => by cases e
theorem NilOk.of_own {w : World} {base n size : Nat} {e : TypeId} {v : Value} {xs : List Value} (h : w.ownsRow base e size v n xs) : NilOk v := by
  rcases h.2 with ⟨rfl, _⟩ | ⟨g, cap, cur, rfl, _⟩
  · intro n c e; cases e; rfl
  · exact NilOk.some_
theorem NilOk.of_free {K : Nat} {w : World} {v : Value} {l : List Int} (h : FreeE K w v l) : NilOk v := by
  rcases h with ⟨rfl, a, cap, rfl, hc, hn⟩ | ⟨g, hg, cap, rfl, _⟩
  · intro n c e; cases e; exact hn rfl
  · exact NilOk.some_

/-- A slice value that holds these lists of numbers in a world. -/
def HoldsY (w : World) (v : Value) (ss : List (List Int)) : Prop :=
  ∃ (a : Option Addr) (cap : Nat), v = .slice a ss.length cap ∧ ss.length ≤ cap ∧ cap ≤ maxLen ∧ (a = none → cap = 0) ∧
    (ss.length = 0 ∨ ∃ b off, a = some ⟨b, off, none⟩ ∧ b < w.heap.size ∧ ∀ k, k < ss.length → ∃ u, w.cell? ⟨b, off + k, none⟩ = some u ∧ HoldsI w u (rowAt ss k) ∧ NilOk u)
theorem HoldsY.keep {w w' : World} {v : Value} {ss : List (List Int)} (h : HoldsY w v ss) (hb : Below w.heap.size w w') : HoldsY w' v ss := by
  obtain ⟨a, cap, h1, h2, h3, h0, h4⟩ := h
  refine ⟨a, cap, h1, h2, h3, h0, ?_⟩
  rcases h4 with h4 | ⟨b, off, h5, h6, h7⟩
  · exact .inl h4
  · refine .inr ⟨b, off, h5, Nat.lt_of_lt_of_le h6 hb.size, fun k hk => ?_⟩
    obtain ⟨u, hu, hr, hn⟩ := h7 k hk
    exact ⟨u, (hb.cell (p := ⟨b, off + k, none⟩) h6).trans hu, hr.keep hb, hn⟩
theorem HoldsY.at_ {w : World} {a : Option Addr} {n cap : Nat} {ss : List (List Int)} (h : HoldsY w (.slice a n cap) ss) {k : Nat} (hk : k < n) :
    ∃ b off x c, a = some ⟨b, off, none⟩ ∧ b < w.heap.size ∧ w.cell? ⟨b, off + k, none⟩ = some (.slice x (rowAt ss k).length c) ∧ (rowAt ss k).length ≤ c ∧ c ≤ 9223372036854775807 ∧ (x = none → c = 0) ∧ HoldsI w (.slice x (rowAt ss k).length c) (rowAt ss k) := by
  obtain ⟨a', cap', he, h2, h3, h0, h4⟩ := h
  simp only [Value.slice.injEq] at he
  obtain ⟨rfl, hn, rfl⟩ := he
  rcases h4 with h4 | ⟨b, off, h5, h6, h7⟩
  · omega
  · obtain ⟨u, hu, hr, hnil⟩ := h7 k (by omega)
    have hr0 := hr
    obtain ⟨x, c, rfl, q2, q3, _⟩ := hr
    exact ⟨b, off, x, c, h5, h6, hu, q2, by unfold maxLen at q3; omega, fun e => hnil _ _ (by rw [e]), hr0⟩
theorem HoldsY.len {w : World} {a : Option Addr} {n cap : Nat} {ss : List (List Int)} (h : HoldsY w (.slice a n cap) ss) : n = ss.length ∧ n ≤ cap ∧ cap ≤ 9223372036854775807 ∧ (a = none → n = 0 ∧ cap = 0) := by
  obtain ⟨a', cap', he, h2, h3, h0, h4⟩ := h
  simp only [Value.slice.injEq] at he
  obtain ⟨rfl, hn, rfl⟩ := he
  exact ⟨hn, by omega, by unfold maxLen at h3; omega, fun e => by have := h0 e; omega⟩
theorem HoldsI.at_ {w : World} {a : Option Addr} {n cap : Nat} {l : List Int} (h : HoldsI w (.slice a n cap) l) {k : Nat} (hk : k < n) :
    ∃ b off, a = some ⟨b, off, none⟩ ∧ b < w.heap.size ∧ w.cell? ⟨b, off + k, none⟩ = some (.int .i64 (l.getD k 0)) := by
  obtain ⟨a', cap', he, h2, h3, h4⟩ := h
  simp only [Value.slice.injEq] at he
  obtain ⟨rfl, hn, rfl⟩ := he
  rcases h4 with h4 | ⟨b, off, h5, h6, h7⟩
  · omega
  · exact ⟨b, off, h5, h6, by rw [getD_i (by omega)]; exact h7 k (by omega)⟩
theorem own_stay {w w' : World} {base n size : Nat} {e : TypeId} {v : Value} {xs : List Value} (h : w.ownsRow base e size v n xs) (hb : Below w.heap.size w w') : w'.ownsRow base e size v n xs := own_keep h fun k _ hl => hb.block k hl

/-- A slice of no elements. -/
def NoneE (v : Value) : Prop := ∃ a cap, v = .slice a 0 cap ∧ cap ≤ maxLen ∧ (a = none → cap = 0)
/-- A row in block G that can be written, or none. -/
def RowW (K B g G : Nat) (w : World) (u : Value) (l : List Int) : Prop := (l = [] ∧ NoneE u) ∨ (K ≤ G ∧ G < B ∧ G ≠ g ∧ FreeAt G w u l)
/-- A yard's rows in blocks of their own, from K on and below B, that can be written. -/
def FreeY (K B : Nat) (w : World) (v : Value) (n : Nat) (R : Nat → List Int) : Prop :=
  (n = 0 ∧ NoneE v) ∨
  ∃ (g cap : Nat) (cur : Array Value) (T : TypeId) (us : Nat → Value) (G : Nat → Nat), v = .slice (some ⟨g, 0, none⟩) n cap ∧ K ≤ g ∧ g < B ∧ n ≤ cap ∧ cap ≤ maxLen ∧
    w.heap[g]? = some (.cells cur T (0, 0)) ∧ n ≤ cur.size ∧ (∀ k, k < n → cur[k]? = some (us k)) ∧ (∀ k, k < n → RowW K B g (G k) w (us k) (R k)) ∧
    ∀ j k, j < n → k < n → j ≠ k → R j ≠ [] → R k ≠ [] → G j ≠ G k
theorem FreeAt.far {g : Nat} {w w' : World} {v : Value} {l : List Int} (h : FreeAt g w v l) (hs : w.heap.size ≤ w'.heap.size) (hb : w'.heap[g]? = w.heap[g]?) : FreeAt g w' v l := by
  obtain ⟨cap, h1, h3, h4, h5, cur, T, h6, h7⟩ := h
  exact ⟨cap, h1, Nat.lt_of_lt_of_le h3 hs, h4, h5, cur, T, by rw [hb]; exact h6, h7⟩
theorem FreeY.far {K B : Nat} {w w' : World} {v : Value} {n : Nat} {R : Nat → List Int} (h : FreeY K B w v n R) (hs : w.heap.size ≤ w'.heap.size) (hb : ∀ k, K ≤ k → k < B → k < w.heap.size → w'.heap[k]? = w.heap[k]?) : FreeY K B w' v n R := by
  rcases h with h | ⟨g, cap, cur, T, us, G, h1, h2, h3, h4, h5, h6, h7, h8, h9, h10⟩
  · exact .inl h
  · refine .inr ⟨g, cap, cur, T, us, G, h1, h2, h3, h4, h5, by rw [hb g h2 h3 (free_lt h6)]; exact h6, h7, h8, fun k hk => ?_, h10⟩
    rcases h9 k hk with q | ⟨q1, q2, q3, q4⟩
    · exact .inl q
    · exact .inr ⟨q1, q2, q3, q4.far hs (hb _ q1 q2 q4.lt)⟩
theorem FreeY.keep {K B : Nat} {w w' : World} {v : Value} {n : Nat} {R : Nat → List Int} (h : FreeY K B w v n R) (hb : Below w.heap.size w w') : FreeY K B w' v n R := h.far hb.size fun k _ _ hk => hb.block k hk
theorem FreeY.wide {K K' B B' : Nat} {w : World} {v : Value} {n : Nat} {R : Nat → List Int} (h : FreeY K B w v n R) (hK : K' ≤ K) (hB : B ≤ B') : FreeY K' B' w v n R := by
  rcases h with h | ⟨g, cap, cur, T, us, G, h1, h2, h3, h4, h5, h6, h7, h8, h9, h10⟩
  · exact .inl h
  · refine .inr ⟨g, cap, cur, T, us, G, h1, by omega, by omega, h4, h5, h6, h7, h8, fun k hk => ?_, h10⟩
    rcases h9 k hk with q | ⟨q1, q2, q3, q4⟩
    · exact .inl q
    · exact .inr ⟨by omega, by omega, q3, q4⟩
theorem RowW.free {K B g G : Nat} {w : World} {u : Value} {l : List Int} (h : RowW K B g G w u l) : FreeE K w u l := by
  rcases h with ⟨rfl, a, cap, h⟩ | ⟨q1, q2, q3, q4⟩
  · exact .inl ⟨rfl, a, cap, h⟩
  · exact .inr ⟨G, q1, q4⟩
theorem FreeY.holds {K B : Nat} {w : World} {v : Value} {n : Nat} {R : Nat → List Int} (h : FreeY K B w v n R) {ss : List (List Int)} (hn : ss.length = n) (hR : ∀ k, k < n → R k = rowAt ss k) : HoldsY w v ss := by
  subst hn
  rcases h with ⟨h, a, cap, rfl, h2, h3⟩ | ⟨g, cap, cur, T, us, G, h1, h2, h3, h4, h5, h6, h7, h8, h9, h10⟩
  · exact ⟨a, cap, by rw [h], by omega, h2, h3, .inl h⟩
  · refine ⟨some ⟨g, 0, none⟩, cap, h1, h4, h5, (fun e => by cases e), .inr ⟨g, 0, rfl, free_lt h6, fun k hk => ⟨us k, ?_, ?_, ?_⟩⟩⟩
    · rw [Nat.zero_add]
      simp only [World.cell?, h6]
      exact h8 k hk
    · rw [← hR k hk]; exact (h9 k hk).free.holds
    · exact NilOk.of_free (h9 k hk).free
theorem FreeY.holdsY {K B : Nat} {w : World} {v : Value} {ss : List (List Int)} (h : FreeY K B w v ss.length (rowAt ss)) : HoldsY w v ss := h.holds rfl fun _ _ => rfl
theorem FreeY.congr {K B : Nat} {w : World} {v : Value} {n : Nat} {R R' : Nat → List Int} (h : FreeY K B w v n R) (hR : ∀ k, k < n → R k = R' k) : FreeY K B w v n R' := by
  rcases h with h | ⟨g, cap, cur, T, us, G, h1, h2, h3, h4, h5, h6, h7, h8, h9, h10⟩
  · exact .inl h
  · exact .inr ⟨g, cap, cur, T, us, G, h1, h2, h3, h4, h5, h6, h7, h8, fun k hk => by rw [← hR k hk]; exact h9 k hk, fun j k hj hk => by rw [← hR j hj, ← hR k hk]; exact h10 j k hj hk⟩
theorem FreeY.nilOk {K B : Nat} {w : World} {v : Value} {n : Nat} {R : Nat → List Int} (h : FreeY K B w v n R) : NilOk v := by
  rcases h with ⟨_, a, cap, rfl, h2, h3⟩ | ⟨g, cap, cur, T, us, G, rfl, _⟩
  · intro n c e; cases e; exact h3 rfl
  · exact NilOk.some_
theorem FreeY.form {K B : Nat} {w : World} {v : Value} {n : Nat} {R : Nat → List Int} (h : FreeY K B w v n R) : ∃ a cap, v = .slice a n cap := by
  rcases h with ⟨rfl, a, cap, rfl, _⟩ | ⟨g, cap, cur, T, us, G, rfl, _⟩
  · exact ⟨_, _, rfl⟩
  · exact ⟨_, _, rfl⟩
theorem HoldsI.form {w : World} {v : Value} {l : List Int} (h : HoldsI w v l) : ∃ a cap, v = .slice a l.length cap := by
  obtain ⟨a, cap, h, _⟩ := h
  exact ⟨a, cap, h⟩
theorem FreeY.zero {K B : Nat} {w : World} {R : Nat → List Int} : FreeY K B w (.slice none 0 0) 0 R := .inl ⟨rfl, none, 0, rfl, by unfold maxLen; omega, fun _ => rfl⟩
/-- R with another list at place i. -/
def upd {α : Type} (R : Nat → α) (i : Nat) (l : α) : Nat → α := fun k => if k = i then l else R k
theorem upd_self {α : Type} (R : Nat → α) (i : Nat) (l : α) : upd R i l i = l := if_pos rfl
theorem upd_ne {α : Type} {R : Nat → α} {i k : Nat} {l : α} (h : k ≠ i) : upd R i l k = R k := if_neg h
theorem upd_set {ss : List (List Int)} {i k : Nat} {l : List Int} (hi : i < ss.length) : upd (rowAt ss) i l k = rowAt (ss.set i l) k := by
  by_cases h : k = i
  · subst h; rw [upd_self, rowAt_set_self hi]
  · rw [upd_ne h, rowAt_set_ne (Ne.symm h)]
/-- One row of a yard, and what writing into it leaves. -/
theorem FreeY.row {K B : Nat} {w : World} {a : Option Addr} {n cap : Nat} {R : Nat → List Int} (h : FreeY K B w (.slice a n cap) n R) {i : Nat} (hi : i < n) :
    ∃ (g : Nat) (u : Value), a = some ⟨g, 0, none⟩ ∧ K ≤ g ∧ g < B ∧ g < w.heap.size ∧ n ≤ cap ∧ cap ≤ maxLen ∧ w.cell? ⟨g, i, none⟩ = some u ∧ w.frozen? ⟨g, i, none⟩ = false ∧
      ((R i = [] ∧ NoneE u) ∨ ∃ G, K ≤ G ∧ G < B ∧ G ≠ g ∧ FreeAt G w u (R i) ∧ ∀ w' l', MostB G w w' → FreeAt G w' u l' → R i ≠ [] → FreeY K B w' (.slice a n cap) n (upd R i l')) := by
  rcases h with ⟨h, _⟩ | ⟨g, cap', cur, T, us, G, h1, h2, h3, h4, h5, h6, h7, h8, h9, h10⟩
  · omega
  simp only [Value.slice.injEq, true_and] at h1
  obtain ⟨rfl, rfl⟩ := h1
  refine ⟨g, us i, rfl, h2, h3, free_lt h6, h4, h5, ?_, by simp [World.frozen?, h6], ?_⟩
  · simp only [World.cell?, h6]; exact h8 i hi
  rcases h9 i hi with q | ⟨q1, q2, q3, q4⟩
  · exact .inl q
  refine .inr ⟨G i, q1, q2, q3, q4, fun w' l' hm hf hne => .inr ⟨g, cap, cur, T, us, G, rfl, h2, h3, h4, h5, by rw [hm.block g (Ne.symm q3) (free_lt h6)]; exact h6, h7, h8, fun k hk => ?_, fun j k hj hk hjk hRj hRk => ?_⟩⟩
  · by_cases e : k = i
    · subst e; rw [upd_self]; exact .inr ⟨q1, q2, q3, hf⟩
    · rw [upd_ne e]
      by_cases hz : R k = []
      · rcases h9 k hk with p | ⟨p1, p2, p3, p4⟩
        · exact .inl p
        · by_cases eG : G k = G i
          · -- an empty row in the block of another one: it still is an empty slice
            obtain ⟨c, r1, r3, r4, r5, _⟩ := p4
            rw [hz] at r1
            exact .inl ⟨hz, some ⟨G k, 0, none⟩, c, r1, r5, fun e => by cases e⟩
          · exact .inr ⟨p1, p2, p3, p4.far hm.size (hm.block _ eG p4.lt)⟩
      · rcases h9 k hk with p | ⟨p1, p2, p3, p4⟩
        · exact absurd p.1 hz
        · exact .inr ⟨p1, p2, p3, p4.far hm.size (hm.block _ (h10 k i hk hi e hz hne) p4.lt)⟩
  · by_cases e1 : j = i
    · subst e1
      rw [upd_ne (Ne.symm hjk)] at hRk
      exact h10 j k hj hk hjk hne hRk
    · rw [upd_ne e1] at hRj
      by_cases e2 : k = i
      · subst e2
        exact h10 j k hj hk hjk hRj hne
      · rw [upd_ne e2] at hRk
        exact h10 j k hj hk hjk hRj hRk
/-- A new row laid into a yard. -/
theorem FreeY.put {K B : Nat} {w : World} {g n cap : Nat} {R : Nat → List Int} (h : FreeY K B w (.slice (some ⟨g, 0, none⟩) n cap) n R) {i : Nat} (hi : i < n) (hB : B ≤ w.heap.size) {u : Value} {l : List Int} (hu : FreeE B w u l) :
    FreeY K w.heap.size (w.setCell ⟨g, i, none⟩ u) (.slice (some ⟨g, 0, none⟩) n cap) n (upd R i l) := by
  rcases h with ⟨h, _⟩ | ⟨g', cap', cur, T, us, G, h1, h2, h3, h4, h5, h6, h7, h8, h9, h10⟩
  · omega
  simp only [Value.slice.injEq, true_and, Option.some.injEq, Addr.mk.injEq, and_true] at h1
  obtain ⟨rfl, rfl⟩ := h1
  have far : ∀ k, k ≠ g → (w.setCell ⟨g, i, none⟩ u).heap[k]? = w.heap[k]? := fun k hk => Below.heap_setCell _ _ _ _ hk
  have hsz : (w.setCell ⟨g, i, none⟩ u).heap.size = w.heap.size := by simp [World.setCell]
  have hblk := Joins.block_setCell h6 (i := i) u
  obtain ⟨G', hG'⟩ : ∃ G' : Nat, (l = [] ∧ NoneE u) ∨ (B ≤ G' ∧ FreeAt G' w u l) := by
    rcases hu with ⟨q1, q2⟩ | ⟨G', q1, q2⟩
    · exact ⟨0, .inl ⟨q1, q2⟩⟩
    · exact ⟨G', .inr ⟨q1, q2⟩⟩
  refine .inr ⟨g, cap, _, T, upd us i u, upd G i G', rfl, h2, by omega, h4, h5, hblk, by simpa using h7, fun k hk => ?_, fun k hk => ?_, fun j k hj hk hjk hRj hRk => ?_⟩
  · rw [Array.getElem?_setIfInBounds]
    by_cases e : i = k
    · subst e; rw [if_pos rfl, if_pos (by omega), upd_self]
    · rw [if_neg e, upd_ne (Ne.symm e)]; exact h8 k hk
  · by_cases e : k = i
    · subst e
      rw [upd_self, upd_self, upd_self]
      rcases hG' with q | ⟨q1, q2⟩
      · exact .inl q
      · exact .inr ⟨by omega, q2.lt, by omega, q2.far (Nat.le_of_eq hsz.symm) (far _ (by omega))⟩
    · rw [upd_ne e, upd_ne e, upd_ne e]
      rcases h9 k hk with q | ⟨q1, q2, q3, q4⟩
      · exact .inl q
      · exact .inr ⟨q1, by omega, q3, q4.far (Nat.le_of_eq hsz.symm) (far _ q3)⟩
  · by_cases e1 : j = i
    · subst e1
      rw [upd_self, upd_ne (Ne.symm hjk)]
      rw [upd_self] at hRj
      rw [upd_ne (Ne.symm hjk)] at hRk
      rcases hG' with q | ⟨q1, q2⟩
      · exact absurd q.1 hRj
      · rcases h9 k hk with p | ⟨p1, p2, p3, p4⟩
        · exact absurd p.1 hRk
        · omega
    · rw [upd_ne e1] at hRj
      rw [upd_ne e1]
      by_cases e2 : k = i
      · subst e2
        rw [upd_self]
        rw [upd_self] at hRk
        rcases hG' with q | ⟨q1, q2⟩
        · exact absurd q.1 hRk
        · rcases h9 j hj with p | ⟨p1, p2, p3, p4⟩
          · exact absurd p.1 hRj
          · omega
      · rw [upd_ne e2] at hRk
        rw [upd_ne e2]
        exact h10 j k hj hk hjk hRj hRk

/-- The first i rows of a yard that is being laid, in the block g. -/
def PartY (w : World) (g n i : Nat) (R : Nat → List Int) : Prop :=
  ∃ (cur : Array Value) (T : TypeId) (us : Nat → Value) (G : Nat → Nat), w.heap[g]? = some (.cells cur T (0, 0)) ∧ n ≤ cur.size ∧ (∀ k, k < i → cur[k]? = some (us k)) ∧
    (∀ k, k < i → RowW (g + 1) w.heap.size g (G k) w (us k) (R k)) ∧ ∀ j k, j < i → k < i → j ≠ k → R j ≠ [] → R k ≠ [] → G j ≠ G k
theorem PartY.start {w : World} {g n : Nat} {R : Nat → List Int} {cur : Array Value} {T : TypeId} (h : w.heap[g]? = some (.cells cur T (0, 0))) (hn : n ≤ cur.size) : PartY w g n 0 R :=
  ⟨cur, T, fun _ => .bool false, fun _ => 0, h, hn, fun k hk => by omega, fun k hk => by omega, fun j k hj => by omega⟩
theorem PartY.lt {w : World} {g n i : Nat} {R : Nat → List Int} (h : PartY w g n i R) : g < w.heap.size := by
  obtain ⟨cur, T, us, G, h1, _⟩ := h
  exact free_lt h1
theorem PartY.frozen {w : World} {g n i : Nat} {R : Nat → List Int} (h : PartY w g n i R) (k : Nat) : w.frozen? ⟨g, k, none⟩ = false := by
  obtain ⟨cur, T, us, G, h1, _⟩ := h
  simp [World.frozen?, h1]
theorem PartY.cell {w : World} {g n i : Nat} {R : Nat → List Int} (h : PartY w g n i R) {k : Nat} (hk : k < n) : ∃ x, w.cell? ⟨g, k, none⟩ = some x := by
  obtain ⟨cur, T, us, G, h1, h2, _⟩ := h
  simp only [World.cell?, h1]
  exact ⟨_, Array.getElem?_eq_getElem (by omega)⟩
theorem PartY.keep {w w' : World} {g n i : Nat} {R : Nat → List Int} (h : PartY w g n i R) (hb : Below w.heap.size w w') : PartY w' g n i R := by
  obtain ⟨cur, T, us, G, h1, h2, h3, h4, h5⟩ := h
  refine ⟨cur, T, us, G, by rw [hb.block g (free_lt h1)]; exact h1, h2, h3, fun k hk => ?_, h5⟩
  rcases h4 k hk with q | ⟨q1, q2, q3, q4⟩
  · exact .inl q
  · exact .inr ⟨q1, Nat.lt_of_lt_of_le q2 hb.size, q3, q4.keep hb⟩
theorem PartY.step {w w' : World} {g n i : Nat} {R : Nat → List Int} (h : PartY w g n i R) (hb : Below w.heap.size w w') (hi : i < n) {u : Value} (hu : FreeE w.heap.size w' u (R i)) : PartY (w'.setCell ⟨g, i, none⟩ u) g n (i + 1) R := by
  obtain ⟨cur, T, us, G, h1, h2, h3, h4, h5⟩ := h
  have hg := free_lt h1
  have h1' : w'.heap[g]? = some (.cells cur T (0, 0)) := by rw [hb.block g hg]; exact h1
  have far : ∀ k, k ≠ g → (w'.setCell ⟨g, i, none⟩ u).heap[k]? = w'.heap[k]? := fun k hk => Below.heap_setCell _ _ _ _ hk
  have hsz : (w'.setCell ⟨g, i, none⟩ u).heap.size = w'.heap.size := by simp [World.setCell]
  have hbs := hb.size
  obtain ⟨G', hG'⟩ : ∃ G' : Nat, (R i = [] ∧ NoneE u) ∨ (w.heap.size ≤ G' ∧ FreeAt G' w' u (R i)) := by
    rcases hu with ⟨q1, q2⟩ | ⟨G', q1, q2⟩
    · exact ⟨0, .inl ⟨q1, q2⟩⟩
    · exact ⟨G', .inr ⟨q1, q2⟩⟩
  refine ⟨_, T, upd us i u, upd G i G', Joins.block_setCell h1' (i := i) u, by simpa using h2, fun k hk => ?_, fun k hk => ?_, fun j k hj hk hjk hRj hRk => ?_⟩
  · rw [Array.getElem?_setIfInBounds]
    by_cases e : i = k
    · subst e; rw [if_pos rfl, if_pos (by omega), upd_self]
    · rw [if_neg e, upd_ne (Ne.symm e)]; exact h3 k (by omega)
  · rw [hsz]
    by_cases e : k = i
    · subst e
      rw [upd_self, upd_self]
      rcases hG' with q | ⟨q1, q2⟩
      · exact .inl q
      · exact .inr ⟨by omega, q2.lt, by omega, q2.far (Nat.le_of_eq hsz.symm) (far _ (by omega))⟩
    · rw [upd_ne e, upd_ne e]
      rcases h4 k (by omega) with q | ⟨q1, q2, q3, q4⟩
      · exact .inl q
      · exact .inr ⟨q1, by omega, q3, (q4.keep hb).far (Nat.le_of_eq hsz.symm) (far _ q3)⟩
  · by_cases e1 : j = i
    · subst e1
      rw [upd_self, upd_ne (Ne.symm hjk)]
      rcases hG' with q | ⟨q1, q2⟩
      · exact absurd q.1 hRj
      · rcases h4 k (by omega) with p | ⟨p1, p2, p3, p4⟩
        · exact absurd p.1 hRk
        · omega
    · rw [upd_ne e1]
      by_cases e2 : k = i
      · subst e2
        rw [upd_self]
        rcases hG' with q | ⟨q1, q2⟩
        · exact absurd q.1 hRk
        · rcases h4 j (by omega) with p | ⟨p1, p2, p3, p4⟩
          · exact absurd p.1 hRj
          · omega
      · rw [upd_ne e2]
        exact h5 j k (by omega) (by omega) hjk hRj hRk
theorem PartY.done {w : World} {K g n cap : Nat} {R : Nat → List Int} (h : PartY w g n n R) (hK : K ≤ g) (hc : n ≤ cap) (hm : cap ≤ maxLen) : FreeY K w.heap.size w (.slice (some ⟨g, 0, none⟩) n cap) n R := by
  obtain ⟨cur, T, us, G, h1, h2, h3, h4, h5⟩ := h
  refine .inr ⟨g, cap, cur, T, us, G, rfl, hK, free_lt h1, hc, hm, h1, h2, h3, fun k hk => ?_, h5⟩
  rcases h4 k hk with q | ⟨q1, q2, q3, q4⟩
  · exact .inl q
  · exact .inr ⟨by omega, q2, q3, q4⟩
end Go.Proofs.Ytfeobdgdhgcgoaa
namespace Go.Proofs.Ytfeobdgdhgcgoaa
open Go.RowKit
set_option linter.unusedVariables false

theorem infoRow : (Try.prog.info? 25).map (fun i => (i.zero, i.size, i.bytes)) = some (some (.slice none 0 0), 1, 24) := by kernel_rfl
theorem FreeI.free_ {K : Nat} {w : World} {v : Value} {l : List Int} (h : FreeI K w v l) : FreeE K w v l := .inr h.at_
theorem FreeY.setLow {K B N : Nat} {w : World} {v : Value} {n : Nat} {R : Nat → List Int} (h : FreeY K B w v n R) (hN : N < K) (o : Nat) (x : Value) : FreeY K B (w.setCell ⟨N, o, none⟩ x) v n R :=
  h.far (by simp [World.setCell]) fun k hk _ _ => Below.heap_setCell _ _ _ _ (by show k ≠ N; omega)
theorem new_at0 (w : World) (a b : Obj) : ((w.alloc a).alloc b).heap[w.heap.size]? = some a := two_lo w a b
theorem new3_0 (w : World) (a b c : Obj) : (((w.alloc a).alloc b).alloc c).heap[w.heap.size]? = some a := (Below.heap_alloc _ _ _ (by simp; omega)).trans (two_lo w a b)
theorem new3_1 (w : World) (a b c : Obj) : (((w.alloc a).alloc b).alloc c).heap[w.heap.size + 1]? = some b := (Below.heap_alloc _ _ _ (by simp)).trans (two_hi w a b)
theorem new3_2 (w : World) (a b c : Obj) : (((w.alloc a).alloc b).alloc c).heap[w.heap.size + 2]? = some c := by
  have e := heap_alloc_new ((w.alloc a).alloc b) c
  rw [show ((w.alloc a).alloc b).heap.size = w.heap.size + 2 by simp] at e
  exact e

end Go.Proofs.Ytfeobdgdhgcgoaa
namespace Go.Proofs.Ytfeobdgdhgcgoaa
open Go.RowKit
set_option linter.unusedVariables false

theorem insI_split : ∀ (l : List Int) (n : Int) (k : Nat), k ≤ l.length → (∀ j (hj : j < l.length), j < k → l[j] < n) → (k = l.length ∨ ∃ hk : k < l.length, n ≤ l[k]) → insI l n = l.take k ++ n :: l.drop k
  | [], n, k, h1, _, _ => by
    obtain rfl : k = 0 := by simpa using h1
    rfl
  | a :: l, n, 0, _, _, h => by
    rcases h with h | ⟨_, h⟩
    · simp at h
    · have h' : n ≤ a := h
      rw [insI, if_neg (by omega)]; rfl
  | a :: l, n, k + 1, h1, h2, h3 => by
    have h' : a < n := h2 0 (by simp) (by omega)
    rw [insI, if_pos h', insI_split l n k (by simpa using h1) (fun j hj hjk => h2 (j + 1) (by simpa using hj) (by omega)) ?_]
    · rfl
    · rcases h3 with h3 | ⟨hk, h3⟩
      · exact .inl (by simpa using h3)
      · exact .inr ⟨by simpa using hk, h3⟩
theorem insI_len (l : List Int) (n : Int) : (insI l n).length = l.length + 1 := (insI_perm l n).length_eq
theorem drop_cells {w : World} {b off cap m k : Nat} {l : List Int} (h : HoldsI w (.slice (some ⟨b, off, none⟩) m cap) l) (hk : k < m) (j : Nat) (u : Value) (hu : (rowI (l.drop k))[j]? = some u) : w.cell? ((⟨b, off + k, none⟩ : Addr).add j) = some u := by
  have hm : m = l.length := by
    obtain ⟨a, c, he, _⟩ := h
    simp only [Value.slice.injEq] at he
    exact he.2.1
  subst hm
  have h2 := HoldsI.drop k hk h
  rw [← List.length_drop] at h2
  exact HoldsI.rowA h2 j u hu
theorem sorted_own {w : World} {base : Nat} {e : TypeId} {v : Value} {l : List Int} {n : Int} {k c : Nat} (h : w.ownsRow base e 1 v c (rowI (l.take k) ++ [.int .i64 n] ++ rowI (l.drop k))) (hi : insI l n = l.take k ++ n :: l.drop k) (hc : c = l.length + 1) : w.ownsRow base e 1 v (insI l n).length (rowI (insI l n)) := by
  rw [insI_len, ← hc, hi, rowI_app]
  have : rowI (n :: l.drop k) = [.int .i64 n] ++ rowI (l.drop k) := rfl
  rw [this, ← List.append_assoc]
  exact h
theorem sorted_own0 {w : World} {base : Nat} {e : TypeId} {v : Value} {l : List Int} {n : Int} {k c : Nat} (h : w.ownsRow base e 1 v c (rowI (l.take k) ++ [.int .i64 n] ++ [])) (hi : insI l n = l.take k ++ n :: l.drop k) (hk : l.length = k) (hc : c = l.length + 1) : w.ownsRow base e 1 v (insI l n).length (rowI (insI l n)) := by
  refine sorted_own (k := k) ?_ hi hc
  rw [List.drop_eq_nil_of_le (by omega)]
  exact h
theorem own_from {w : World} {base base' n size : Nat} {e : TypeId} {v : Value} {xs : List Value} (h : w.ownsRow base e size v n xs) (hb : base' ≤ base) : w.ownsRow base' e size v n xs := by
  refine ⟨h.1, ?_⟩
  rcases h.2 with h2 | ⟨g, cap, cur, rfl, hg, h3⟩
  · exact .inl h2
  · exact .inr ⟨g, cap, cur, rfl, Nat.le_trans hb hg, h3⟩

/-- What a call gives that lays a number at its place. -/
def SortedGives (l : List Int) (n : Int) (w : World) (e : Ending) (w' : World) : Prop :=
  ∃ v, e = .returned v ∧ w'.ownsRow w.heap.size 3 1 v (insI l n).length (rowI (insI l n)) ∧ Below w.heap.size w w'

end Go.Proofs.Ytfeobdgdhgcgoaa
namespace Go.Proofs.Ytfeobdgdhgcgoaa
open Go.RowKit
set_option linter.unusedVariables false

section
variable {P : Program} {w : World}
/-- An append of nil in a region that draws. -/
theorem step_append_n {ops : Array Oper} {o : Oper} {a : Act} {K : Act → World → Prop} {Q : Exit → Act → World → Prop} {E : Prop} (hw : Region.wanted o (yielded ops a.tmps) = true) (s x : Operand) (t : TypeId)
    (ho : o.op = .call { callee := .builtin .append, args := #[s, x], argTypes := #[t, t] })
    (base : Nat) (e : TypeId) (i : TypeInfo) (size : Nat) (ht : P.underlying t = some (.slice e)) (hi : P.info? e = some i)
    (v : Value) (n : Nat) (xs : List Value) (hs : a.eval s = v) (hown : w.ownsRow base e size v n xs) (hx : a.eval x = .slice none 0 0)
    (h : K (a.put o.dst v) w) : if Region.wanted o (yielded ops a.tmps) = true then Oper.wp P o a w K Q else E := by
  rw [if_pos hw]
  have hrun := run_append_owned_none (P := P) (w := w) base t o.type e i size ht hi v n xs hown
  unfold Oper.wp
  simp [execOp, ho, resolve, invoke, builtin, hs, hx, hrun, Result.andThen]
  exact h
/-- An append in a region that draws, and where the new row lies. -/
theorem step_append_y {ops : Array Oper} {o : Oper} {a : Act} {K : Act → World → Prop} {Q : Exit → Act → World → Prop} {E : Prop} (hw : Region.wanted o (yielded ops a.tmps) = true) (s x : Operand) (t : TypeId)
    (ho : o.op = .call { callee := .builtin .append, args := #[s, x], argTypes := #[t, t] })
    (base : Nat) (e : TypeId) (i : TypeInfo) (z : Value) (size bytes : Nat) (ht : P.underlying t = some (.slice e)) (hi : P.info? e = some i) (hz : i.zero = some z)
    (hsize : i.size = size) (hby : i.bytes = bytes) (hzs : z.cells.size = size) (hsz : 0 < size)
    (v : Value) (n : Nat) (xs : List Value) (hs : a.eval s = v) (hown : w.ownsRow base e size v n xs)
    (ad : Addr) (m c : Nat) (news : List Value) (hx : a.eval x = .slice (some ad) m c) (hl : news.length = m * size) (hnews : ∀ j u, news[j]? = some u → w.cell? (ad.add j) = some u) (h1 : ∀ u ∈ news, u.oneCell' = true)
    (hm : 0 < m) (h63 : n + m ≤ maxLen) (hbytes : (n + m) * bytes ≤ 140737488355328) (hbase : base ≤ w.heap.size)
    (h : ∀ g cap w', w'.ownsRow base e size (.slice (some ⟨g, 0, none⟩) (n + m) cap) (n + m) (xs ++ news) → Below base w w' → (v.ownBlock = some g ∨ g = w.heap.size) → (∀ k, k < w.heap.size → v.ownBlock ≠ some k → w'.heap[k]? = w.heap[k]?) → K (a.put o.dst (.slice (some ⟨g, 0, none⟩) (n + m) cap)) w') :
    if Region.wanted o (yielded ops a.tmps) = true then Oper.wp P o a w K Q else E := by
  rw [if_pos hw]
  exact wp_append_lies w s x t ho base e i z size bytes ht hi hz hsize hby hzs hsz v n xs hs hown ad m c news hx hl hnews h1 hm h63 hbytes hbase w.heap.size rfl
    (fun g cap w' q1 q2 q3 q4 => h g cap w' q1 ((Below.refl _ _).grown q2 hbase (fun k hk => (own_lt hown k hk).1)) q3 (fun k hl hne => q2.block k hl (fun e => hne e.symm)))
end
theorem own_slice {w : World} {base n size : Nat} {e : TypeId} {v : Value} {xs : List Value} (h : w.ownsRow base e size v n xs) : ∃ a c, v = .slice a n c := by
  rcases h.2 with ⟨rfl, rfl⟩ | ⟨g, cap, cur, rfl, _⟩
  · exact ⟨_, _, rfl⟩
  · exact ⟨_, _, rfl⟩

/-- A yard that the call made: its rows lie in blocks of their own, from K on. -/
structure OwnY (K : Nat) (w : World) (v : Value) (us : List Value) (n : Nat) (R : Nat → List Int) : Prop where
  out : w.ownsRow K 25 1 v n us
  len : us.length = n
  row : ∀ k, k < n → ∃ u, us[k]? = some u ∧ w.ownsRow K 3 1 u (R k).length (rowI (R k)) ∧ ∀ b, u.ownBlock = some b → v.ownBlock ≠ some b
  apart : us.Pairwise fun x y => ∀ b, x.ownBlock = some b → y.ownBlock ≠ some b
theorem OwnY.start (K : Nat) (w : World) (R : Nat → List Int) : OwnY K w (.slice none 0 0) [] 0 R :=
  ⟨⟨rfl, .inl ⟨rfl, rfl⟩⟩, rfl, fun k hk => by omega, List.Pairwise.nil⟩
theorem OwnY.far {K : Nat} {w w' : World} {v : Value} {us : List Value} {n : Nat} {R : Nat → List Int} (h : OwnY K w v us n R) (hb : ∀ k, K ≤ k → k < w.heap.size → w'.heap[k]? = w.heap[k]?) : OwnY K w' v us n R :=
  ⟨own_keep h.out hb, h.len, fun k hk => by
    obtain ⟨u, h1, h2, h3⟩ := h.row k hk
    exact ⟨u, h1, own_keep h2 hb, h3⟩, h.apart⟩
theorem OwnY.setLow {K N : Nat} {w : World} {v : Value} {us : List Value} {n : Nat} {R : Nat → List Int} (h : OwnY K w v us n R) (hN : N < K) (o : Nat) (x : Value) : OwnY K (w.setCell ⟨N, o, none⟩ x) v us n R :=
  h.far fun k hk _ => Below.heap_setCell _ _ _ _ (by show k ≠ N; omega)
theorem OwnY.from_ {K K' : Nat} {w : World} {v : Value} {us : List Value} {n : Nat} {R : Nat → List Int} (h : OwnY K w v us n R) (hK : K' ≤ K) : OwnY K' w v us n R :=
  ⟨own_from h.out hK, h.len, fun k hk => by
    obtain ⟨u, h1, h2, h3⟩ := h.row k hk
    exact ⟨u, h1, own_from h2 hK, h3⟩, h.apart⟩
theorem OwnY.push {K : Nat} {wr w5 X w6 : World} {v : Value} {us : List Value} {k : Nat} {R : Nat → List Int} {u5 : Value} {g cap : Nat} (h : OwnY K wr v us k R) (hK : K ≤ wr.heap.size) (hb5 : Below wr.heap.size wr w5) (hbX : Below w5.heap.size w5 X)
    (hu5 : w5.ownsRow wr.heap.size 3 1 u5 (R k).length (rowI (R k))) (ho6 : w6.ownsRow K 25 1 (.slice (some ⟨g, 0, none⟩) (k + 1) cap) (k + 1) (us ++ [u5]))
    (hblk : ∀ j, j < X.heap.size → v.ownBlock ≠ some j → w6.heap[j]? = X.heap[j]?) (hg : v.ownBlock = some g ∨ g = X.heap.size) : OwnY K w6 (.slice (some ⟨g, 0, none⟩) (k + 1) cap) (us ++ [u5]) (k + 1) R := by
  have s1 := hb5.size
  have s2 := hbX.size
  have hvlt : ∀ b, v.ownBlock = some b → b < wr.heap.size := fun b hb => (own_lt h.out b hb).2
  have hold : ∀ j, j < wr.heap.size → v.ownBlock ≠ some j → w6.heap[j]? = wr.heap[j]? := fun j hj hne => by
    rw [hblk j (by omega) hne, hbX.block j (by omega), hb5.block j hj]
  have gne : ∀ b, b < X.heap.size → v.ownBlock ≠ some b → g ≠ b := fun b hb hne e => by
    rcases hg with hg | hg
    · exact hne (by rw [hg, e])
    · omega
  refine ⟨ho6, by rw [List.length_append, h.len]; rfl, fun j hj => ?_, ?_⟩
  · by_cases e : j = k
    · subst e
      refine ⟨u5, ?_, ?_, fun b hb => ?_⟩
      · rw [List.getElem?_append_right (by rw [h.len]; exact Nat.le_refl _), h.len, Nat.sub_self]; rfl
      · refine own_from (base := wr.heap.size) ?_ hK
        refine own_keep hu5 fun b hb hbl => ?_
        rw [hblk b (by omega) (fun e => by have := hvlt b e; omega), hbX.block b hbl]
      · have hbl := own_lt hu5 b hb
        intro e2
        have : g = b := by simpa [Value.ownBlock] using e2
        exact gne b (by omega) (fun e3 => by have := hvlt b e3; omega) this
    · obtain ⟨u, h1, h2, h3⟩ := h.row j (by omega)
      refine ⟨u, ?_, ?_, fun b hb => ?_⟩
      · rw [List.getElem?_append_left (by rw [h.len]; omega)]; exact h1
      · refine ⟨h2.1, ?_⟩
        rcases h2.2 with q | ⟨g', cap', cur, rfl, q1, q2, q3⟩
        · exact .inl q
        · refine .inr ⟨g', cap', cur, rfl, q1, ?_, q3⟩
          rw [hold g' (free_lt q2) (h3 g' rfl)]; exact q2
      · have hbl := own_lt h2 b hb
        intro e2
        have : g = b := by simpa [Value.ownBlock] using e2
        exact gne b (by omega) (h3 b hb) this
  · refine List.pairwise_append.2 ⟨h.apart, List.pairwise_singleton _ _, fun x hx y hy b hb => ?_⟩
    rw [List.mem_singleton] at hy
    subst hy
    intro hc
    have h5 := own_lt hu5 b hc
    obtain ⟨j, hj, rfl⟩ := List.getElem_of_mem hx
    obtain ⟨u, h1, h2, _⟩ := h.row j (by rw [← h.len]; exact hj)
    rw [List.getElem?_eq_getElem hj] at h1
    obtain rfl := Option.some.inj h1
    have := own_lt h2 b hb
    omega

/-- A slice value that holds these lists of numbers, in blocks from K on. -/
def NewY (K : Nat) (w : World) (v : Value) (ss : List (List Int)) : Prop :=
  ∃ (a : Option Addr) (cap : Nat), v = .slice a ss.length cap ∧ ss.length ≤ cap ∧ cap ≤ maxLen ∧ (a = none → cap = 0) ∧
    (ss.length = 0 ∨ ∃ b off, a = some ⟨b, off, none⟩ ∧ K ≤ b ∧ b < w.heap.size ∧ ∀ k, k < ss.length → ∃ u, w.cell? ⟨b, off + k, none⟩ = some u ∧ NewI K w u (rowAt ss k) ∧ NilOk u)
theorem NewY.holds {K : Nat} {w : World} {v : Value} {ss : List (List Int)} (h : NewY K w v ss) : HoldsY w v ss := by
  obtain ⟨a, cap, h1, h2, h3, h0, h4⟩ := h
  refine ⟨a, cap, h1, h2, h3, h0, h4.imp id fun ⟨b, off, h5, _, h6, h7⟩ => ⟨b, off, h5, h6, fun k hk => ?_⟩⟩
  obtain ⟨u, q1, q2, q3⟩ := h7 k hk
  exact ⟨u, q1, q2.holds, q3⟩
theorem NewY.keep {K : Nat} {w w' : World} {v : Value} {ss : List (List Int)} (h : NewY K w v ss) (hb : Below w.heap.size w w') : NewY K w' v ss := by
  obtain ⟨a, cap, h1, h2, h3, h0, h4⟩ := h
  refine ⟨a, cap, h1, h2, h3, h0, h4.imp id fun ⟨b, off, h5, h8, h6, h7⟩ => ⟨b, off, h5, h8, Nat.lt_of_lt_of_le h6 hb.size, fun k hk => ?_⟩⟩
  obtain ⟨u, q1, q2, q3⟩ := h7 k hk
  exact ⟨u, (hb.cell (p := ⟨b, off + k, none⟩) h6).trans q1, q2.keep hb, q3⟩
theorem NewY.most {K B : Nat} {w w' : World} {v : Value} {ss : List (List Int)} (h : NewY K w v ss) (hm : MostB B w w') (hB : B < K) : NewY K w' v ss := by
  obtain ⟨a, cap, h1, h2, h3, h0, h4⟩ := h
  refine ⟨a, cap, h1, h2, h3, h0, h4.imp id fun ⟨b, off, h5, h8, h6, h7⟩ => ⟨b, off, h5, h8, Nat.lt_of_lt_of_le h6 hm.size, fun k hk => ?_⟩⟩
  obtain ⟨u, q1, q2, q3⟩ := h7 k hk
  exact ⟨u, (World.cell?_of_block (w := w) (hm.block b (by omega) h6)).trans q1, q2.most hm hB, q3⟩
theorem NewY.from_ {K K' : Nat} {w : World} {v : Value} {ss : List (List Int)} (h : NewY K w v ss) (hk : K' ≤ K) : NewY K' w v ss := by
  obtain ⟨a, cap, h1, h2, h3, h0, h4⟩ := h
  refine ⟨a, cap, h1, h2, h3, h0, h4.imp id fun ⟨b, off, h5, h8, h6, h7⟩ => ⟨b, off, h5, by omega, h6, fun k hk' => ?_⟩⟩
  obtain ⟨u, q1, q2, q3⟩ := h7 k hk'
  exact ⟨u, q1, q2.from_ hk, q3⟩
theorem NewY.zero {K : Nat} {w : World} : NewY K w (.slice none 0 0) [] := ⟨none, 0, rfl, Nat.le_refl _, by unfold maxLen; omega, fun _ => rfl, .inl rfl⟩
theorem own_cell {w : World} {base n : Nat} {e : TypeId} {a : Option Addr} {m cap : Nat} {us : List Value} (h : w.ownsRow base e 1 (.slice a m cap) n us) {k : Nat} (hk : k < n) : ∃ g, a = some ⟨g, 0, none⟩ ∧ m = n ∧ base ≤ g ∧ g < w.heap.size ∧ n ≤ cap ∧ cap ≤ maxLen ∧ w.cell? ⟨g, k, none⟩ = us[k]? ∧ w.frozen? ⟨g, k, none⟩ = false := by
  rcases h.2 with ⟨_, h0⟩ | ⟨g, cap', cur, hv, hb, hg, hc, hm, hs, hx⟩
  · omega
  · simp only [Value.slice.injEq] at hv
    obtain ⟨rfl, rfl, rfl⟩ := hv
    refine ⟨g, rfl, rfl, hb, free_lt hg, hc, hm, ?_, by simp [World.frozen?, hg]⟩
    rw [← hx, List.getElem?_take, if_pos (by omega)]
    simp [World.cell?, hg]
theorem OwnY.newY {K : Nat} {w : World} {v : Value} {us : List Value} {ss : List (List Int)} (h : OwnY K w v us ss.length (rowAt ss)) : NewY K w v ss := by
  obtain ⟨a, c, rfl⟩ := own_slice h.out
  have hnil := NilOk.of_own h.out
  have hcc : ss.length ≤ c ∧ c ≤ maxLen := by
    rcases h.out.2 with ⟨e, _⟩ | ⟨g, cap', cur, hv, hb, hg, hc, hm, _⟩
    · simp only [Value.slice.injEq] at e
      unfold maxLen; omega
    · simp only [Value.slice.injEq] at hv
      obtain ⟨_, _, rfl⟩ := hv
      exact ⟨hc, hm⟩
  refine ⟨a, c, rfl, hcc.1, hcc.2, fun e => hnil _ _ (by rw [e]), ?_⟩
  by_cases hz : ss.length = 0
  · exact .inl hz
  · obtain ⟨g, rfl, _, hb, hl, _⟩ := own_cell h.out (k := 0) (by omega)
    refine .inr ⟨g, 0, rfl, hb, hl, fun k hk => ?_⟩
    obtain ⟨u, h1, h2, h3⟩ := h.row k hk
    obtain ⟨g', e, _, _, _, _, _, hcell, _⟩ := own_cell h.out hk
    simp only [Option.some.injEq, Addr.mk.injEq, and_true] at e
    obtain rfl := e
    exact ⟨u, by rw [Nat.zero_add, hcell, h1], NewI.of_own h2, NilOk.of_own h2⟩
end Go.Proofs.Ytfeobdgdhgcgoaa
namespace Go.Proofs.Ytfeobdgdhgcgoaa
open Go.RowKit
set_option linter.unusedVariables false

/-- A row of such a yard that was written, laid into its place. -/
theorem OwnY.put {K : Nat} {w4 X w6 : World} {g cp n i m g6 c6 : Nat} {us : List Value} {ss : List (List Int)} {ui : Value} {l : List Int} (h : OwnY K w4 (.slice (some ⟨g, 0, none⟩) n cp) us n (rowAt ss)) (hn : ss.length = n) (hi : i < n) (hu : us[i]? = some ui)
    (hX : Below w4.heap.size w4 X) (ho : w6.ownsRow K 3 1 (.slice (some ⟨g6, 0, none⟩) m c6) m (rowI l)) (hm : l.length = m) (hs : X.heap.size ≤ w6.heap.size) (hk : ∀ j, j < X.heap.size → ui.ownBlock ≠ some j → w6.heap[j]? = X.heap[j]?) (hg : ui.ownBlock = some g6 ∨ g6 = X.heap.size) :
    NewY K (w6.setCell ⟨g, i, none⟩ (.slice (some ⟨g6, 0, none⟩) m c6)) (.slice (some ⟨g, 0, none⟩) n cp) (ss.set i l) := by
  subst hn hm
  obtain ⟨gg, e, _, hKg, hgl, hc1, hc2, hcell, _⟩ := own_cell h.out hi
  simp only [Option.some.injEq, Addr.mk.injEq, and_true] at e
  subst e
  have hXs := hX.size
  obtain ⟨ui', hui, hoi, hoff⟩ := h.row i hi
  rw [hu] at hui
  obtain rfl := Option.some.inj hui
  have hoffg : ui.ownBlock ≠ some g := fun e => hoff g e rfl
  have hg6 : g6 ≠ g := by
    rcases hg with hg | hg
    · intro e; exact hoffg (by rw [hg, e])
    · omega
  have hgw6 : w6.heap[g]? = w4.heap[g]? := by rw [hk g (by omega) hoffg, hX.block g hgl]
  obtain ⟨cur, hcur⟩ : ∃ cur, w4.heap[g]? = some (.cells cur 25 (0, 0)) := by
    rcases h.out.2 with ⟨e, _⟩ | ⟨g', cap', cur, hv, hb, hg', _⟩
    · cases e
    · simp only [Value.slice.injEq, Option.some.injEq, Addr.mk.injEq] at hv
      obtain ⟨⟨rfl, _⟩, _⟩ := hv
      exact ⟨cur, hg'⟩
  have far : ∀ k, k ≠ g → (w6.setCell ⟨g, i, none⟩ (.slice (some ⟨g6, 0, none⟩) l.length c6)).heap[k]? = w6.heap[k]? := fun k hk' => Below.heap_setCell _ _ _ _ hk'
  have hsz : (w6.setCell ⟨g, i, none⟩ (.slice (some ⟨g6, 0, none⟩) l.length c6)).heap.size = w6.heap.size := by simp [World.setCell]
  have hgb := Joins.block_setCell (i := i) (hgw6.trans hcur) (.slice (some ⟨g6, 0, none⟩) l.length c6)
  refine ⟨some ⟨g, 0, none⟩, cp, by rw [List.length_set], by rw [List.length_set]; exact hc1, hc2, (fun e => by cases e), .inr ⟨g, 0, rfl, hKg, by rw [hsz]; omega, fun k hk' => ?_⟩⟩
  rw [List.length_set] at hk'
  by_cases e : k = i
  · subst e
    rw [rowAt_set_self hk']
    refine ⟨.slice (some ⟨g6, 0, none⟩) l.length c6, ?_, ?_, NilOk.some_⟩
    · rw [Nat.zero_add]
      have h1 : cur[k]? = some ui := by
        rw [← hu, ← hcell]
        simp [World.cell?, hcur]
      obtain ⟨hlt, _⟩ := Array.getElem?_eq_some_iff.1 h1
      simp only [World.cell?, hgb]
      rw [Array.getElem?_setIfInBounds, if_pos rfl, if_pos hlt]
      rfl
    · have hn6 := NewI.of_own ho
      obtain ⟨a, c, q1, q2, q3, q4⟩ := hn6
      refine ⟨a, c, q1, q2, q3, q4.imp id fun ⟨b, off, q5, q6, q7, q8⟩ => ⟨b, off, q5, q6, by rw [hsz]; exact q7, fun j hj => ?_⟩⟩
      have hbg : b = g6 := by
        simp only [Value.slice.injEq] at q1
        have := q1.1.trans q5
        simp only [Option.some.injEq, Addr.mk.injEq] at this
        exact this.1.symm
      rw [World.cell?_of_block (w := w6) (far b (by omega))]
      exact q8 j hj
  · rw [rowAt_set_ne (Ne.symm e)]
    obtain ⟨uk, huk, hok, hoffk⟩ := h.row k hk'
    refine ⟨uk, ?_, ?_, NilOk.of_own hok⟩
    · obtain ⟨g', e', _, _, _, _, _, hck, _⟩ := own_cell h.out hk'
      simp only [Option.some.injEq, Addr.mk.injEq, and_true] at e'
      subst e'
      have h1 : cur[k]? = some uk := by
        rw [← huk, ← hck]
        simp [World.cell?, hcur]
      rw [Nat.zero_add]
      simp only [World.cell?, hgb]
      rw [Array.getElem?_setIfInBounds, if_neg (Ne.symm e)]
      simpa using h1
    · have hne : ∀ b, uk.ownBlock = some b → ui.ownBlock ≠ some b := by
        intro b hb hc
        have hp := List.pairwise_iff_getElem.1 h.apart
        have hl := h.len
        have e1 : us[k]'(by omega) = uk := by
          rw [List.getElem?_eq_getElem (by omega)] at huk; exact Option.some.inj huk
        have e2 : us[i]'(by omega) = ui := by
          rw [List.getElem?_eq_getElem (by omega)] at hu; exact Option.some.inj hu
        rcases Nat.lt_or_gt_of_ne e with hlt | hlt
        · exact hp k i (by omega) (by omega) hlt b (by rw [e1]; exact hb) (by rw [e2]; exact hc)
        · exact hp i k (by omega) (by omega) hlt b (by rw [e2]; exact hc) (by rw [e1]; exact hb)
      refine NewI.of_own (e := 3) ⟨hok.1, ?_⟩
      rcases hok.2 with q | ⟨b, capk, curk, rfl, q1, q2, q3⟩
      · exact .inl q
      · have hbl := free_lt q2
        refine .inr ⟨b, capk, curk, rfl, q1, ?_, q3⟩
        rw [far b (fun e => hoffk b rfl (by rw [e]; rfl)), hk b (by omega) (hne b rfl), hX.block b hbl]
        exact q2
theorem own_cut {w : World} {base m c : Nat} {e : TypeId} {a : Option Addr} {l : List Int} (h : w.ownsRow base e 1 (.slice a (m + 1) c) (m + 1) (rowI l)) : w.ownsRow base e 1 (.slice a m c) m (rowI (l.take m)) := by
  have hl : l.length = m + 1 := by have := h.1; rw [rowI_len] at this; omega
  rcases h.2 with ⟨e, _⟩ | ⟨g, cap, cur, hv, q1, q2, q3, q4, q5, q6⟩
  · simp only [Value.slice.injEq] at e; omega
  · simp only [Value.slice.injEq, true_and] at hv
    obtain ⟨rfl, rfl⟩ := hv
    refine ⟨by rw [rowI_len, List.length_take]; omega, .inr ⟨g, c, cur, rfl, q1, q2, by omega, q4, q5, ?_⟩⟩
    have : rowI (l.take m) = (rowI l).take m := by unfold rowI; rw [List.map_take]
    rw [this, ← q6, List.take_take]
    congr 1
    omega
theorem NewY.setLow {K N : Nat} {w : World} {v : Value} {ss : List (List Int)} (h : NewY K w v ss) (hN : N < K) (o : Nat) (x : Value) : NewY K (w.setCell ⟨N, o, none⟩ x) v ss :=
  h.most (MostB.set_ (MostB.refl N w) o x) hN
theorem NewY.form {K : Nat} {w : World} {v : Value} {ss : List (List Int)} (h : NewY K w v ss) : ∃ a c, v = .slice a ss.length c := by
  obtain ⟨a, c, h, _⟩ := h
  exact ⟨a, c, h⟩
end Go.Proofs.Ytfeobdgdhgcgoaa
namespace Go.Proofs.Ytfeobdgdhgcgoaa
open Go.RowKit
set_option linter.unusedVariables false

section
variable {P : Program}
theorem zeros_int (k : Nat) : (Builtin.zeroCells (Value.int .i64 0).cells k).toList = List.replicate k (Value.int .i64 0) := by
  apply List.ext_getElem
  · simp [Builtin.zeroCells, Value.cells]
  · intro j h1 h2
    simp [Builtin.zeroCells, Value.cells, Nat.mod_one]

theorem run_append_own_zeros (w : World) (base : Nat) (t tn ty e : TypeId) (i : TypeInfo) (kq kn : IntKind) (ht : P.underlying t = some (.slice e)) (htn : P.underlying tn = some (.int kn)) (hi : P.info? e = some i) (hz : i.zero = some (.int .i64 0))
    (hsize : i.size = 1) (hby : i.bytes = 8) (g n cap : Nat) (xs : List Value) (hown : w.ownsRow base e 1 (.slice (some ⟨g, 0, none⟩) n cap) n xs)
    (k : Nat) (h0 : 0 < k) (hk : k ≤ 1048576) (hn : n ≤ 1048576) (hbase : base ≤ w.heap.size) :
    ∃ g' cap' w', (Builtin.append_ #[t, tn] ty #[.slice (some ⟨g, 0, none⟩) n cap, .int kq k]).run P w = .ok (.slice (some ⟨g', 0, none⟩) (n + k) cap') w' ∧
      w'.ownsRow base e 1 (.slice (some ⟨g', 0, none⟩) (n + k) cap') (n + k) (xs ++ List.replicate k (Value.int .i64 0)) ∧ w.grownBy w' (some g) := by
  have hlen : (xs ++ List.replicate k (Value.int .i64 0)).length = (n + k) * 1 := by rw [List.length_append, hown.1, List.length_replicate]; omega
  obtain ⟨hx1, ⟨h, -⟩ | ⟨g1, cap1, cur, he, hbg, hg, hnc, hcm, hcs, htake⟩⟩ := id hown
  · cases h
  simp only [Value.slice.injEq, Option.some.injEq, Addr.mk.injEq] at he
  obtain ⟨⟨rfl, -, -⟩, -, rfl⟩ := he
  by_cases hroom : n + k ≤ cap
  · have hz1 : ∀ u ∈ List.replicate k (Value.int .i64 0), u.oneCell' = true := by
      intro u hu
      rw [List.eq_of_mem_replicate hu]; rfl
    have hst := run_storeCells_at P g (n * 1) e (List.replicate k (Value.int .i64 0)) 0 cur w hg (by rw [List.length_replicate, hcs]; omega) hz1
    simp only [Nat.add_zero] at hst
    have hw : IntKind.i64.wrap (k : Int) = k := by rw [IntKind.wrap_i64]; omega
    have hneg : ¬ ((k : Int) < 0) := by omega
    have hk0 : k ≠ 0 := by omega
    have h48i : ¬ (281474976710656 < (k : Int) * 8) := by omega
    refine ⟨g, cap, _, ?_, ⟨hlen, .inr ⟨g, cap, _, rfl, hbg, setRow_heap w g cur (cur.toList.take (n * 1) ++ List.replicate k (Value.int .i64 0) ++ cur.toList.drop (n * 1 + (List.replicate k (Value.int .i64 0)).length)).toArray e _ hg, hroom, hcm, ?_, ?_⟩⟩, ⟨rfl, rfl, rfl, by simp, fun j _ hj => setRow_other w g j _ (fun e => hj (by rw [e]))⟩⟩
    · simp [Builtin.append_, run_underlying ht, run_underlying htn, sizeOf, typeInfo, zeroValue, hi, hz, hsize, hby, asInt, asIntOf, hw, hneg, hk0, h48i, hroom, zeros_int, Addr.add_lit]
      simp at hst
      rw [hst]
      rfl
    · simp only [List.size_toArray, List.length_append, List.length_take, List.length_drop, Array.length_toList, List.length_replicate]
      omega
    · rw [htake, ← hlen]
      exact List.take_left
  · have holds : ∀ j u, xs[j]? = some u → w.cell? ((⟨g, 0, none⟩ : Addr).add j) = some u := hown.cells (g := g) rfl
    have hf := run_firstCells_some (P := P) w.drew i.size n ⟨g, 0, none⟩ n cap xs (by rw [hsize]; exact hx1) (fun j u hu => holds j u hu)
    have hr := Lib.run_append_grow_zeros (P := P) w t tn ty e i (.int .i64 0) kq kn ht htn hi hz (some ⟨g, 0, none⟩) n cap xs hf k h0 (by omega) (by omega) (by omega) (by rw [hby]; omega) (growslice_fits (by omega) (by rw [hby]; omega))
    have hge := grownCap_ge w (n + k) cap e
    have hcm' : grownCap w (n + k) cap e ≤ maxLen := grownCap_le_maxLen w (n + k) cap e (by unfold maxLen; omega)
    refine ⟨_, _, _, hr, ⟨hlen, .inr ⟨w.heap.size, _, _, rfl, hbase, heap_alloc_new w.drew _, hge, hcm', ?_, ?_⟩⟩, ⟨rfl, rfl, rfl, by simp, fun j hj _ => heap_alloc_old w.drew _ (r := j) hj⟩⟩
    · simp only [Array.size_append, List.size_toArray, size_zeroCells, hx1]
      simp [Value.cells]
      omega
    · simp only [Array.toList_append, List.append_assoc, zeros_int]
      rw [← List.append_assoc, ← hlen]
      exact List.take_left
end
end Go.Proofs.Ytfeobdgdhgcgoaa
