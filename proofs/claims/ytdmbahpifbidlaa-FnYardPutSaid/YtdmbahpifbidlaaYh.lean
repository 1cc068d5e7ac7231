/-
  Yards in memory: lists of lists of numbers that are read; that can be written, each row in a block of its own.
-/
import Derived.Test.YtdmbahpifbidlaaYmMath
import Derived.Test.YtdmbahpifbidlaaOwI
import Derived.Test.YtdmbahpifbidlaaInCut
import Derived.Test.YtdmbahpifbidlaaMkI
namespace Go.Proofs.Ytdmbahpifbidlaa
open Go.RowKit
set_option linter.unusedVariables false

/-- A nil slice has no room. -/
def NilOk (v : Value) : Prop := ∀ n c, v = .slice none n c → c = 0
theorem NilOk.some_ {x : Addr} {n c : Nat} : NilOk (.slice (some x) n c) := fun _ _ e => by cases e
theorem NilOk.of_own {w : World} {base n size : Nat} {e : TypeId} {v : Value} {xs : List Value} (h : w.ownsRow base e size v n xs) : NilOk v := by
  rcases h.2 with ⟨rfl, _⟩ | ⟨g, cap, cur, rfl, _⟩
  · intro n c e; cases e; rfl
  · exact NilOk.some_
theorem NilOk.of_free {K : Nat} {w : World} {v : Value} {l : List Int} (h : FreeE K w v l) : NilOk v := by
  rcases h with ⟨rfl, a, cap, rfl, hc, hn⟩ | ⟨g, hg, cap, rfl, _⟩
  · intro n c e; cases e; exact hn rfl
  · exact NilOk.some_

/-- A slice value that holds these lists of numbers in a world. -/
def HoldsY (w : World) (v : Value) (ss : List (List Int)) : Prop :=
  ∃ (a : Option Addr) (cap : Nat), v = .slice a ss.length cap ∧ ss.length ≤ cap ∧ cap ≤ maxLen ∧ (a = none → cap = 0) ∧
    (ss.length = 0 ∨ ∃ b off, a = some ⟨b, off, none⟩ ∧ b < w.heap.size ∧ ∀ k, k < ss.length → ∃ u, w.cell? ⟨b, off + k, none⟩ = some u ∧ HoldsI w u (rowAt ss k) ∧ NilOk u)
theorem HoldsY.keep {w w' : World} {v : Value} {ss : List (List Int)} (h : HoldsY w v ss) (hb : Below w.heap.size w w') : HoldsY w' v ss := by
  obtain ⟨a, cap, h1, h2, h3, h0, h4⟩ := h
  refine ⟨a, cap, h1, h2, h3, h0, ?_⟩
  rcases h4 with h4 | ⟨b, off, h5, h6, h7⟩
  · exact .inl h4
  · refine .inr ⟨b, off, h5, Nat.lt_of_lt_of_le h6 hb.size, fun k hk => ?_⟩
    obtain ⟨u, hu, hr, hn⟩ := h7 k hk
    exact ⟨u, (hb.cell (p := ⟨b, off + k, none⟩) h6).trans hu, hr.keep hb, hn⟩
theorem HoldsY.at_ {w : World} {a : Option Addr} {n cap : Nat} {ss : List (List Int)} (h : HoldsY w (.slice a n cap) ss) {k : Nat} (hk : k < n) :
    ∃ b off x c, a = some ⟨b, off, none⟩ ∧ b < w.heap.size ∧ w.cell? ⟨b, off + k, none⟩ = some (.slice x (rowAt ss k).length c) ∧ (rowAt ss k).length ≤ c ∧ c ≤ 9223372036854775807 ∧ (x = none → c = 0) ∧ HoldsI w (.slice x (rowAt ss k).length c) (rowAt ss k) := by
  obtain ⟨a', cap', he, h2, h3, h0, h4⟩ := h
  simp only [Value.slice.injEq] at he
  obtain ⟨rfl, hn, rfl⟩ := he
  rcases h4 with h4 | ⟨b, off, h5, h6, h7⟩
  · omega
  · obtain ⟨u, hu, hr, hnil⟩ := h7 k (by omega)
    have hr0 := hr
    obtain ⟨x, c, rfl, q2, q3, _⟩ := hr
    exact ⟨b, off, x, c, h5, h6, hu, q2, by unfold maxLen at q3; omega, fun e => hnil _ _ (by rw [e]), hr0⟩
theorem HoldsY.len {w : World} {a : Option Addr} {n cap : Nat} {ss : List (List Int)} (h : HoldsY w (.slice a n cap) ss) : n = ss.length ∧ n ≤ cap ∧ cap ≤ 9223372036854775807 ∧ (a = none → n = 0 ∧ cap = 0) := by
  obtain ⟨a', cap', he, h2, h3, h0, h4⟩ := h
  simp only [Value.slice.injEq] at he
  obtain ⟨rfl, hn, rfl⟩ := he
  exact ⟨hn, by omega, by unfold maxLen at h3; omega, fun e => by have := h0 e; omega⟩
theorem HoldsI.at_ {w : World} {a : Option Addr} {n cap : Nat} {l : List Int} (h : HoldsI w (.slice a n cap) l) {k : Nat} (hk : k < n) :
    ∃ b off, a = some ⟨b, off, none⟩ ∧ b < w.heap.size ∧ w.cell? ⟨b, off + k, none⟩ = some (.int .i64 (l.getD k 0)) := by
  obtain ⟨a', cap', he, h2, h3, h4⟩ := h
  simp only [Value.slice.injEq] at he
  obtain ⟨rfl, hn, rfl⟩ := he
  rcases h4 with h4 | ⟨b, off, h5, h6, h7⟩
  · omega
  · exact ⟨b, off, h5, h6, by rw [getD_i (by omega)]; exact h7 k (by omega)⟩
theorem own_stay {w w' : World} {base n size : Nat} {e : TypeId} {v : Value} {xs : List Value} (h : w.ownsRow base e size v n xs) (hb : Below w.heap.size w w') : w'.ownsRow base e size v n xs := own_keep h fun k _ hl => hb.block k hl

/-- A yard in a block of its own. -/
def BoxY (B : Nat) (w : World) (h : Int) (v : Value) : Prop := w.heap[B]? = some (.cells #[.int .i64 h, v] 25 (0, 0))
theorem BoxY.lt {B : Nat} {w : World} {h : Int} {v : Value} (hb : BoxY B w h v) : B < w.heap.size := free_lt hb
theorem BoxY.c0 {B : Nat} {w : World} {h : Int} {v : Value} (hb : BoxY B w h v) : w.cell? ⟨B, 0, none⟩ = some (.int .i64 h) := by
  unfold BoxY at hb
  simp [World.cell?, hb]
theorem BoxY.c1 {B : Nat} {w : World} {h : Int} {v : Value} (hb : BoxY B w h v) : w.cell? ⟨B, 1, none⟩ = some v := by
  unfold BoxY at hb
  simp [World.cell?, hb]
theorem BoxY.keep {B : Nat} {w w' : World} {h : Int} {v : Value} (hb : BoxY B w h v) (hk : Below w.heap.size w w') : BoxY B w' h v := by
  have := hb.lt
  unfold BoxY at hb ⊢
  rw [hk.block B this]; exact hb
theorem BoxY.new (w : World) (h : Int) (v : Value) : BoxY w.heap.size (w.alloc (.cells #[.int .i64 h, v] 25)) h v := heap_alloc_new _ _
theorem BoxY.frozen {B : Nat} {w : World} {h : Int} {v : Value} (hb : BoxY B w h v) (k : Nat) : w.frozen? ⟨B, k, none⟩ = false := by
  unfold BoxY at hb
  simp [World.frozen?, hb]
theorem BoxY.set0 {B : Nat} {w : World} {h : Int} {v : Value} (hb : BoxY B w h v) (h' : Int) : BoxY B (w.setCell ⟨B, 0, none⟩ (.int .i64 h')) h' v := by
  unfold BoxY at hb ⊢
  rw [Joins.block_setCell hb]; rfl
theorem BoxY.set1 {B : Nat} {w : World} {h : Int} {v : Value} (hb : BoxY B w h v) (v' : Value) : BoxY B (w.setCell ⟨B, 1, none⟩ v') h v' := by
  unfold BoxY at hb ⊢
  rw [Joins.block_setCell hb]; rfl
theorem BoxY.other {B N : Nat} {w : World} {h : Int} {v : Value} (hb : BoxY B w h v) (hne : B ≠ N) (o : Nat) (u : Value) : BoxY B (w.setCell ⟨N, o, none⟩ u) h v := by
  unfold BoxY at hb ⊢
  rw [Below.heap_setCell _ _ _ _ hne]; exact hb

/-- A slice of no elements. -/
def NoneE (v : Value) : Prop := ∃ a cap, v = .slice a 0 cap ∧ cap ≤ maxLen ∧ (a = none → cap = 0)
/-- A row in block G that can be written, or none. -/
def RowW (K B g G : Nat) (w : World) (u : Value) (l : List Int) : Prop := (l = [] ∧ NoneE u) ∨ (K ≤ G ∧ G < B ∧ G ≠ g ∧ FreeAt G w u l)
/-- A yard's rows in blocks of their own, from K on and below B, that can be written. -/
def FreeY (K B : Nat) (w : World) (v : Value) (n : Nat) (R : Nat → List Int) : Prop :=
  (n = 0 ∧ NoneE v) ∨
  ∃ (g cap : Nat) (cur : Array Value) (T : TypeId) (us : Nat → Value) (G : Nat → Nat), v = .slice (some ⟨g, 0, none⟩) n cap ∧ K ≤ g ∧ g < B ∧ n ≤ cap ∧ cap ≤ maxLen ∧
    w.heap[g]? = some (.cells cur T (0, 0)) ∧ n ≤ cur.size ∧ (∀ k, k < n → cur[k]? = some (us k)) ∧ (∀ k, k < n → RowW K B g (G k) w (us k) (R k)) ∧
    ∀ j k, j < n → k < n → j ≠ k → R j ≠ [] → R k ≠ [] → G j ≠ G k
theorem FreeAt.far {g : Nat} {w w' : World} {v : Value} {l : List Int} (h : FreeAt g w v l) (hs : w.heap.size ≤ w'.heap.size) (hb : w'.heap[g]? = w.heap[g]?) : FreeAt g w' v l := by
  obtain ⟨cap, h1, h3, h4, h5, cur, T, h6, h7⟩ := h
  exact ⟨cap, h1, Nat.lt_of_lt_of_le h3 hs, h4, h5, cur, T, by rw [hb]; exact h6, h7⟩
theorem FreeY.far {K B : Nat} {w w' : World} {v : Value} {n : Nat} {R : Nat → List Int} (h : FreeY K B w v n R) (hs : w.heap.size ≤ w'.heap.size) (hb : ∀ k, K ≤ k → k < B → k < w.heap.size → w'.heap[k]? = w.heap[k]?) : FreeY K B w' v n R := by
  rcases h with h | ⟨g, cap, cur, T, us, G, h1, h2, h3, h4, h5, h6, h7, h8, h9, h10⟩
  · exact .inl h
  · refine .inr ⟨g, cap, cur, T, us, G, h1, h2, h3, h4, h5, by rw [hb g h2 h3 (free_lt h6)]; exact h6, h7, h8, fun k hk => ?_, h10⟩
    rcases h9 k hk with q | ⟨q1, q2, q3, q4⟩
    · exact .inl q
    · exact .inr ⟨q1, q2, q3, q4.far hs (hb _ q1 q2 q4.lt)⟩
theorem FreeY.keep {K B : Nat} {w w' : World} {v : Value} {n : Nat} {R : Nat → List Int} (h : FreeY K B w v n R) (hb : Below w.heap.size w w') : FreeY K B w' v n R := h.far hb.size fun k _ _ hk => hb.block k hk
theorem FreeY.wide {K K' B B' : Nat} {w : World} {v : Value} {n : Nat} {R : Nat → List Int} (h : FreeY K B w v n R) (hK : K' ≤ K) (hB : B ≤ B') : FreeY K' B' w v n R := by
  rcases h with h | ⟨g, cap, cur, T, us, G, h1, h2, h3, h4, h5, h6, h7, h8, h9, h10⟩
  · exact .inl h
  · refine .inr ⟨g, cap, cur, T, us, G, h1, by omega, by omega, h4, h5, h6, h7, h8, fun k hk => ?_, h10⟩
    rcases h9 k hk with q | ⟨q1, q2, q3, q4⟩
    · exact .inl q
    · exact .inr ⟨by omega, by omega, q3, q4⟩
theorem RowW.free {K B g G : Nat} {w : World} {u : Value} {l : List Int} (h : RowW K B g G w u l) : FreeE K w u l := by
  rcases h with ⟨rfl, a, cap, h⟩ | ⟨q1, q2, q3, q4⟩
  · exact .inl ⟨rfl, a, cap, h⟩
  · exact .inr ⟨G, q1, q4⟩
theorem FreeY.holds {K B : Nat} {w : World} {v : Value} {n : Nat} {R : Nat → List Int} (h : FreeY K B w v n R) {ss : List (List Int)} (hn : ss.length = n) (hR : ∀ k, k < n → R k = rowAt ss k) : HoldsY w v ss := by
  subst hn
  rcases h with ⟨h, a, cap, rfl, h2, h3⟩ | ⟨g, cap, cur, T, us, G, h1, h2, h3, h4, h5, h6, h7, h8, h9, h10⟩
  · exact ⟨a, cap, by rw [h], by omega, h2, h3, .inl h⟩
  · refine ⟨some ⟨g, 0, none⟩, cap, h1, h4, h5, (fun e => by cases e), .inr ⟨g, 0, rfl, free_lt h6, fun k hk => ⟨us k, ?_, ?_, ?_⟩⟩⟩
    · rw [Nat.zero_add]
      simp only [World.cell?, h6]
      exact h8 k hk
    · rw [← hR k hk]; exact (h9 k hk).free.holds
    · exact NilOk.of_free (h9 k hk).free
theorem FreeY.holdsY {K B : Nat} {w : World} {v : Value} {ss : List (List Int)} (h : FreeY K B w v ss.length (rowAt ss)) : HoldsY w v ss := h.holds rfl fun _ _ => rfl
theorem FreeY.congr {K B : Nat} {w : World} {v : Value} {n : Nat} {R R' : Nat → List Int} (h : FreeY K B w v n R) (hR : ∀ k, k < n → R k = R' k) : FreeY K B w v n R' := by
  rcases h with h | ⟨g, cap, cur, T, us, G, h1, h2, h3, h4, h5, h6, h7, h8, h9, h10⟩
  · exact .inl h
  · exact .inr ⟨g, cap, cur, T, us, G, h1, h2, h3, h4, h5, h6, h7, h8, fun k hk => by rw [← hR k hk]; exact h9 k hk, fun j k hj hk => by rw [← hR j hj, ← hR k hk]; exact h10 j k hj hk⟩
theorem FreeY.nilOk {K B : Nat} {w : World} {v : Value} {n : Nat} {R : Nat → List Int} (h : FreeY K B w v n R) : NilOk v := by
  rcases h with ⟨_, a, cap, rfl, h2, h3⟩ | ⟨g, cap, cur, T, us, G, rfl, _⟩
  · intro n c e; cases e; exact h3 rfl
  · exact NilOk.some_
theorem FreeY.form {K B : Nat} {w : World} {v : Value} {n : Nat} {R : Nat → List Int} (h : FreeY K B w v n R) : ∃ a cap, v = .slice a n cap := by
  rcases h with ⟨rfl, a, cap, rfl, _⟩ | ⟨g, cap, cur, T, us, G, rfl, _⟩
  · exact ⟨_, _, rfl⟩
  · exact ⟨_, _, rfl⟩
theorem HoldsI.form {w : World} {v : Value} {l : List Int} (h : HoldsI w v l) : ∃ a cap, v = .slice a l.length cap := by
  obtain ⟨a, cap, h, _⟩ := h
  exact ⟨a, cap, h⟩
theorem FreeY.zero {K B : Nat} {w : World} {R : Nat → List Int} : FreeY K B w (.slice none 0 0) 0 R := .inl ⟨rfl, none, 0, rfl, by unfold maxLen; omega, fun _ => rfl⟩
/-- R with another list at place i. -/
def upd {α : Type} (R : Nat → α) (i : Nat) (l : α) : Nat → α := fun k => if k = i then l else R k
theorem upd_self {α : Type} (R : Nat → α) (i : Nat) (l : α) : upd R i l i = l := if_pos rfl
theorem upd_ne {α : Type} {R : Nat → α} {i k : Nat} {l : α} (h : k ≠ i) : upd R i l k = R k := if_neg h
theorem upd_set {ss : List (List Int)} {i k : Nat} {l : List Int} (hi : i < ss.length) : upd (rowAt ss) i l k = rowAt (ss.set i l) k := by
  by_cases h : k = i
  · subst h; rw [upd_self, rowAt_set_self hi]
  · rw [upd_ne h, rowAt_set_ne (Ne.symm h)]
/-- One row of a yard, and what writing into it leaves. -/
theorem FreeY.row {K B : Nat} {w : World} {a : Option Addr} {n cap : Nat} {R : Nat → List Int} (h : FreeY K B w (.slice a n cap) n R) {i : Nat} (hi : i < n) :
    ∃ (g : Nat) (u : Value), a = some ⟨g, 0, none⟩ ∧ K ≤ g ∧ g < B ∧ g < w.heap.size ∧ n ≤ cap ∧ cap ≤ maxLen ∧ w.cell? ⟨g, i, none⟩ = some u ∧ w.frozen? ⟨g, i, none⟩ = false ∧
      ((R i = [] ∧ NoneE u) ∨ ∃ G, K ≤ G ∧ G < B ∧ G ≠ g ∧ FreeAt G w u (R i) ∧ ∀ w' l', MostB G w w' → FreeAt G w' u l' → R i ≠ [] → FreeY K B w' (.slice a n cap) n (upd R i l')) := by
  rcases h with ⟨h, _⟩ | ⟨g, cap', cur, T, us, G, h1, h2, h3, h4, h5, h6, h7, h8, h9, h10⟩
  · omega
  simp only [Value.slice.injEq, true_and] at h1
  obtain ⟨rfl, rfl⟩ := h1
  refine ⟨g, us i, rfl, h2, h3, free_lt h6, h4, h5, ?_, by simp [World.frozen?, h6], ?_⟩
  · simp only [World.cell?, h6]; exact h8 i hi
  rcases h9 i hi with q | ⟨q1, q2, q3, q4⟩
  · exact .inl q
  refine .inr ⟨G i, q1, q2, q3, q4, fun w' l' hm hf hne => .inr ⟨g, cap, cur, T, us, G, rfl, h2, h3, h4, h5, by rw [hm.block g (Ne.symm q3) (free_lt h6)]; exact h6, h7, h8, fun k hk => ?_, fun j k hj hk hjk hRj hRk => ?_⟩⟩
  · by_cases e : k = i
    · subst e; rw [upd_self]; exact .inr ⟨q1, q2, q3, hf⟩
    · rw [upd_ne e]
      by_cases hz : R k = []
      · rcases h9 k hk with p | ⟨p1, p2, p3, p4⟩
        · exact .inl p
        · by_cases eG : G k = G i
          · -- an empty row in the block of another one: it still is an empty slice
            obtain ⟨c, r1, r3, r4, r5, _⟩ := p4
            rw [hz] at r1
            exact .inl ⟨hz, some ⟨G k, 0, none⟩, c, r1, r5, fun e => by cases e⟩
          · exact .inr ⟨p1, p2, p3, p4.far hm.size (hm.block _ eG p4.lt)⟩
      · rcases h9 k hk with p | ⟨p1, p2, p3, p4⟩
        · exact absurd p.1 hz
        · exact .inr ⟨p1, p2, p3, p4.far hm.size (hm.block _ (h10 k i hk hi e hz hne) p4.lt)⟩
  · by_cases e1 : j = i
    · subst e1
      rw [upd_ne (Ne.symm hjk)] at hRk
      exact h10 j k hj hk hjk hne hRk
    · rw [upd_ne e1] at hRj
      by_cases e2 : k = i
      · subst e2
        exact h10 j k hj hk hjk hRj hne
      · rw [upd_ne e2] at hRk
        exact h10 j k hj hk hjk hRj hRk
/-- A new row laid into a yard. -/
theorem FreeY.put {K B : Nat} {w : World} {g n cap : Nat} {R : Nat → List Int} (h : FreeY K B w (.slice (some ⟨g, 0, none⟩) n cap) n R) {i : Nat} (hi : i < n) (hB : B ≤ w.heap.size) {u : Value} {l : List Int} (hu : FreeE B w u l) :
    FreeY K w.heap.size (w.setCell ⟨g, i, none⟩ u) (.slice (some ⟨g, 0, none⟩) n cap) n (upd R i l) := by
  rcases h with ⟨h, _⟩ | ⟨g', cap', cur, T, us, G, h1, h2, h3, h4, h5, h6, h7, h8, h9, h10⟩
  · omega
  simp only [Value.slice.injEq, true_and, Option.some.injEq, Addr.mk.injEq, and_true] at h1
  obtain ⟨rfl, rfl⟩ := h1
  have far : ∀ k, k ≠ g → (w.setCell ⟨g, i, none⟩ u).heap[k]? = w.heap[k]? := fun k hk => Below.heap_setCell _ _ _ _ hk
  have hsz : (w.setCell ⟨g, i, none⟩ u).heap.size = w.heap.size := by simp [World.setCell]
  have hblk := Joins.block_setCell h6 (i := i) u
  obtain ⟨G', hG'⟩ : ∃ G' : Nat, (l = [] ∧ NoneE u) ∨ (B ≤ G' ∧ FreeAt G' w u l) := by
    rcases hu with ⟨q1, q2⟩ | ⟨G', q1, q2⟩
    · exact ⟨0, .inl ⟨q1, q2⟩⟩
    · exact ⟨G', .inr ⟨q1, q2⟩⟩
  refine .inr ⟨g, cap, _, T, upd us i u, upd G i G', rfl, h2, by omega, h4, h5, hblk, by simpa using h7, fun k hk => ?_, fun k hk => ?_, fun j k hj hk hjk hRj hRk => ?_⟩
  · rw [Array.getElem?_setIfInBounds]
    by_cases e : i = k
    · subst e; rw [if_pos rfl, if_pos (by omega), upd_self]
    · rw [if_neg e, upd_ne (Ne.symm e)]; exact h8 k hk
  · by_cases e : k = i
    · subst e
      rw [upd_self, upd_self, upd_self]
      rcases hG' with q | ⟨q1, q2⟩
      · exact .inl q
      · exact .inr ⟨by omega, q2.lt, by omega, q2.far (Nat.le_of_eq hsz.symm) (far _ (by omega))⟩
    · rw [upd_ne e, upd_ne e, upd_ne e]
      rcases h9 k hk with q | ⟨q1, q2, q3, q4⟩
      · exact .inl q
      · exact .inr ⟨q1, by omega, q3, q4.far (Nat.le_of_eq hsz.symm) (far _ q3)⟩
  · by_cases e1 : j = i
    · subst e1
      rw [upd_self, upd_ne (Ne.symm hjk)]
      rw [upd_self] at hRj
      rw [upd_ne (Ne.symm hjk)] at hRk
      rcases hG' with q | ⟨q1, q2⟩
      · exact absurd q.1 hRj
      · rcases h9 k hk with p | ⟨p1, p2, p3, p4⟩
        · exact absurd p.1 hRk
        · omega
    · rw [upd_ne e1] at hRj
      rw [upd_ne e1]
      by_cases e2 : k = i
      · subst e2
        rw [upd_self]
        rw [upd_self] at hRk
        rcases hG' with q | ⟨q1, q2⟩
        · exact absurd q.1 hRk
        · rcases h9 j hj with p | ⟨p1, p2, p3, p4⟩
          · exact absurd p.1 hRj
          · omega
      · rw [upd_ne e2] at hRk
        rw [upd_ne e2]
        exact h10 j k hj hk hjk hRj hRk

/-- The first i rows of a yard that is being laid, in the block g. -/
def PartY (w : World) (g n i : Nat) (R : Nat → List Int) : Prop :=
  ∃ (cur : Array Value) (T : TypeId) (us : Nat → Value) (G : Nat → Nat), w.heap[g]? = some (.cells cur T (0, 0)) ∧ n ≤ cur.size ∧ (∀ k, k < i → cur[k]? = some (us k)) ∧
    (∀ k, k < i → RowW (g + 1) w.heap.size g (G k) w (us k) (R k)) ∧ ∀ j k, j < i → k < i → j ≠ k → R j ≠ [] → R k ≠ [] → G j ≠ G k
theorem PartY.start {w : World} {g n : Nat} {R : Nat → List Int} {cur : Array Value} {T : TypeId} (h : w.heap[g]? = some (.cells cur T (0, 0))) (hn : n ≤ cur.size) : PartY w g n 0 R :=
  ⟨cur, T, fun _ => .bool false, fun _ => 0, h, hn, fun k hk => by omega, fun k hk => by omega, fun j k hj => by omega⟩
theorem PartY.lt {w : World} {g n i : Nat} {R : Nat → List Int} (h : PartY w g n i R) : g < w.heap.size := by
  obtain ⟨cur, T, us, G, h1, _⟩ := h
  exact free_lt h1
theorem PartY.frozen {w : World} {g n i : Nat} {R : Nat → List Int} (h : PartY w g n i R) (k : Nat) : w.frozen? ⟨g, k, none⟩ = false := by
  obtain ⟨cur, T, us, G, h1, _⟩ := h
  simp [World.frozen?, h1]
theorem PartY.cell {w : World} {g n i : Nat} {R : Nat → List Int} (h : PartY w g n i R) {k : Nat} (hk : k < n) : ∃ x, w.cell? ⟨g, k, none⟩ = some x := by
  obtain ⟨cur, T, us, G, h1, h2, _⟩ := h
  simp only [World.cell?, h1]
  exact ⟨_, Array.getElem?_eq_getElem (by omega)⟩
theorem PartY.keep {w w' : World} {g n i : Nat} {R : Nat → List Int} (h : PartY w g n i R) (hb : Below w.heap.size w w') : PartY w' g n i R := by
  obtain ⟨cur, T, us, G, h1, h2, h3, h4, h5⟩ := h
  refine ⟨cur, T, us, G, by rw [hb.block g (free_lt h1)]; exact h1, h2, h3, fun k hk => ?_, h5⟩
  rcases h4 k hk with q | ⟨q1, q2, q3, q4⟩
  · exact .inl q
  · exact .inr ⟨q1, Nat.lt_of_lt_of_le q2 hb.size, q3, q4.keep hb⟩
theorem PartY.step {w w' : World} {g n i : Nat} {R : Nat → List Int} (h : PartY w g n i R) (hb : Below w.heap.size w w') (hi : i < n) {u : Value} (hu : FreeE w.heap.size w' u (R i)) : PartY (w'.setCell ⟨g, i, none⟩ u) g n (i + 1) R := by
  obtain ⟨cur, T, us, G, h1, h2, h3, h4, h5⟩ := h
  have hg := free_lt h1
  have h1' : w'.heap[g]? = some (.cells cur T (0, 0)) := by rw [hb.block g hg]; exact h1
  have far : ∀ k, k ≠ g → (w'.setCell ⟨g, i, none⟩ u).heap[k]? = w'.heap[k]? := fun k hk => Below.heap_setCell _ _ _ _ hk
  have hsz : (w'.setCell ⟨g, i, none⟩ u).heap.size = w'.heap.size := by simp [World.setCell]
  have hbs := hb.size
  obtain ⟨G', hG'⟩ : ∃ G' : Nat, (R i = [] ∧ NoneE u) ∨ (w.heap.size ≤ G' ∧ FreeAt G' w' u (R i)) := by
    rcases hu with ⟨q1, q2⟩ | ⟨G', q1, q2⟩
    · exact ⟨0, .inl ⟨q1, q2⟩⟩
    · exact ⟨G', .inr ⟨q1, q2⟩⟩
  refine ⟨_, T, upd us i u, upd G i G', Joins.block_setCell h1' (i := i) u, by simpa using h2, fun k hk => ?_, fun k hk => ?_, fun j k hj hk hjk hRj hRk => ?_⟩
  · rw [Array.getElem?_setIfInBounds]
    by_cases e : i = k
    · subst e; rw [if_pos rfl, if_pos (by omega), upd_self]
    · rw [if_neg e, upd_ne (Ne.symm e)]; exact h3 k (by omega)
  · rw [hsz]
    by_cases e : k = i
    · subst e
      rw [upd_self, upd_self]
      rcases hG' with q | ⟨q1, q2⟩
      · exact .inl q
      · exact .inr ⟨by omega, q2.lt, by omega, q2.far (Nat.le_of_eq hsz.symm) (far _ (by omega))⟩
    · rw [upd_ne e, upd_ne e]
      rcases h4 k (by omega) with q | ⟨q1, q2, q3, q4⟩
      · exact .inl q
      · exact .inr ⟨q1, by omega, q3, (q4.keep hb).far (Nat.le_of_eq hsz.symm) (far _ q3)⟩
  · by_cases e1 : j = i
    · subst e1
      rw [upd_self, upd_ne (Ne.symm hjk)]
      rcases hG' with q | ⟨q1, q2⟩
      · exact absurd q.1 hRj
      · rcases h4 k (by omega) with p | ⟨p1, p2, p3, p4⟩
        · exact absurd p.1 hRk
        · omega
    · rw [upd_ne e1]
      by_cases e2 : k = i
      · subst e2
        rw [upd_self]
        rcases hG' with q | ⟨q1, q2⟩
        · exact absurd q.1 hRk
        · rcases h4 j (by omega) with p | ⟨p1, p2, p3, p4⟩
          · exact absurd p.1 hRj
          · omega
      · rw [upd_ne e2]
        exact h5 j k (by omega) (by omega) hjk hRj hRk
theorem PartY.done {w : World} {K g n cap : Nat} {R : Nat → List Int} (h : PartY w g n n R) (hK : K ≤ g) (hc : n ≤ cap) (hm : cap ≤ maxLen) : FreeY K w.heap.size w (.slice (some ⟨g, 0, none⟩) n cap) n R := by
  obtain ⟨cur, T, us, G, h1, h2, h3, h4, h5⟩ := h
  refine .inr ⟨g, cap, cur, T, us, G, rfl, hK, free_lt h1, hc, hm, h1, h2, h3, fun k hk => ?_, h5⟩
  rcases h4 k hk with q | ⟨q1, q2, q3, q4⟩
  · exact .inl q
  · exact .inr ⟨by omega, q2, q3, q4⟩
end Go.Proofs.Ytdmbahpifbidlaa
