/-
  What draws and appends share: rows of the call's own beside the reader, and what stays of memory.
-/
import Derived.Test.YtdmbahpifbidlaaRd
import Derived.OwnWalk
import Derived.Deep.Draws
import Derived.Laws.Rows
import Derived.Deep.RegionHeld3
import Derived.Deep.AppendLies
namespace Go.Proofs.Ytdmbahpifbidlaa
open Go.RowKit
set_option linter.unusedVariables false

/-- What a draw leaves: of the old blocks none but block B has turned; there may be new ones. -/
structure MostB (B : Nat) (w w' : World) : Prop where
  os : w'.os = w.os
  tape : w'.tape = w.tape
  output : w'.output = w.output
  size : w.heap.size ≤ w'.heap.size
  block : ∀ k, k ≠ B → k < w.heap.size → w'.heap[k]? = w.heap[k]?

theorem Rdr.set_other {base B p : Nat} {w : World} (h : Rdr base B p w) {N : Nat} (hN : N ≠ B) (hb : base ≤ N) (j : Nat) (v : Value) : Rdr base B p (w.setCell ⟨N, j, none⟩ v) := by
  obtain ⟨h0, h1, h2, h3, h4⟩ := h
  have e : ∀ b o, b ≠ N → (w.setCell ⟨N, j, none⟩ v).cell? ⟨b, o, none⟩ = w.cell? ⟨b, o, none⟩ := fun b o hb => World.cell?_setCell_other _ _ _ _ (by intro e; cases e; exact hb rfl)
  refine ⟨h0, by simpa [World.setCell] using h1, by rw [e B 1 (Ne.symm hN)]; exact h2, by simpa using h3, ?_⟩
  rcases h4 with ⟨a, cap, h⟩ | ⟨b, off, len, cap, hb', hl, hl', hs, hc⟩
  · exact .inl ⟨a, cap, by rw [e B 0 (Ne.symm hN)]; exact h⟩
  · refine .inr ⟨b, off, len, cap, hb', hl, hl', by rw [e B 0 (Ne.symm hN)]; exact hs, fun i hi => ?_⟩
    obtain ⟨c, c0, c1, hci⟩ := hc i hi
    exact ⟨c, c0, c1, by rw [e b (off + i) (by omega)]; exact hci⟩
theorem MostB.refl (B : Nat) (w : World) : MostB B w w := ⟨rfl, rfl, rfl, Nat.le_refl _, fun _ _ _ => rfl⟩
theorem MostB.trans {B : Nat} {a b c : World} (h : MostB B a b) (k : MostB B b c) : MostB B a c :=
  ⟨k.os.trans h.os, k.tape.trans h.tape, k.output.trans h.output, Nat.le_trans h.size k.size, fun i hi hl => (k.block i hi (Nat.lt_of_lt_of_le hl h.size)).trans (h.block i hi hl)⟩
theorem Only.mostB {B : Nat} {w w' : World} (h : Only B w w') : MostB B w w' := ⟨h.os, h.tape, h.output, Nat.le_of_eq h.size.symm, fun k hk _ => h.block k hk⟩
theorem MostB.below_ {B : Nat} {a w w' : World} (h : MostB B a w) (hb : Below a.heap.size w w') : MostB B a w' :=
  ⟨hb.os.trans h.os, hb.tape.trans h.tape, hb.output.trans h.output, Nat.le_trans h.size hb.size, fun i hi hl => (hb.block i hl).trans (h.block i hi hl)⟩
theorem MostB.alloc {B : Nat} {a w : World} (h : MostB B a w) (o : Obj) : MostB B a (w.alloc o) := h.below_ ((Below.refl _ _).alloc h.size o)
theorem MostB.under {B base : Nat} {w w' : World} (h : MostB B w w') (hb : base ≤ B) (hs : base ≤ w.heap.size) : Below base w w' :=
  ⟨h.os, h.tape, h.output, h.size, fun k hk => h.block k (by omega) (by omega)⟩
/-- A reader stands in every world that kept all blocks below one above it. -/
theorem Rdr.keepK {base B p K : Nat} {w w' : World} (h : Rdr base B p w) (hb : Below K w w') (hK : B < K) : Rdr base B p w' := by
  obtain ⟨h0, h1, h2, h3, h4⟩ := h
  have hB : ∀ o, w'.cell? ⟨B, o, none⟩ = w.cell? ⟨B, o, none⟩ := fun o => hb.cell (p := ⟨B, o, none⟩) hK
  refine ⟨h0, Nat.lt_of_lt_of_le h1 hb.size, by rw [hB]; exact h2, (hb.frozen (p := ⟨B, 1, none⟩) hK).trans h3, ?_⟩
  rcases h4 with ⟨a, cap, h⟩ | ⟨b, off, len, cap, hb', hl, hl', hs, hc⟩
  · exact .inl ⟨a, cap, by rw [hB]; exact h⟩
  · refine .inr ⟨b, off, len, cap, hb', hl, hl', by rw [hB]; exact hs, fun i hi => ?_⟩
    obtain ⟨c, c0, c1, hci⟩ := hc i hi
    exact ⟨c, c0, c1, (hb.cell (p := ⟨b, off + i, none⟩) (by show b < K; omega)).trans hci⟩
theorem own_lt {w : World} {base n size : Nat} {e : TypeId} {v : Value} {xs : List Value} (h : w.ownsRow base e size v n xs) (k : Nat) (hk : v.ownBlock = some k) : base ≤ k ∧ k < w.heap.size := by
  rcases h.2 with ⟨rfl, _⟩ | ⟨g, cap, cur, rfl, hb, hg, _⟩
  · simp [Value.ownBlock] at hk
  · have e : g = k := by simpa [Value.ownBlock] using hk
    subst e
    refine ⟨hb, ?_⟩
    rcases Nat.lt_or_ge g w.heap.size with h' | h'
    · exact h'
    · rw [Array.getElem?_eq_none h'] at hg; cases hg
/-- An owned row stays where its block stays. -/
theorem own_keep {w w' : World} {base n size : Nat} {e : TypeId} {v : Value} {xs : List Value} (h : w.ownsRow base e size v n xs) (hk : ∀ k, base ≤ k → k < w.heap.size → w'.heap[k]? = w.heap[k]?) : w'.ownsRow base e size v n xs := by
  refine ⟨h.1, ?_⟩
  rcases h.2 with h2 | ⟨g, cap, cur, rfl, hb, hg, h3⟩
  · exact .inl h2
  · have := (own_lt h g (by simp [Value.ownBlock])).2
    exact .inr ⟨g, cap, cur, rfl, hb, by rw [hk g hb this]; exact hg, h3⟩
theorem own_most {w w' : World} {base n size B : Nat} {e : TypeId} {v : Value} {xs : List Value} (h : w.ownsRow base e size v n xs) (hm : MostB B w w') (hB : B < base) : w'.ownsRow base e size v n xs :=
  own_keep h fun k hk hl => hm.block k (by omega) hl
/-- Behind an append to a row of the call's own nothing elder has turned. -/
theorem own_below {w w1 : World} {K : Nat} {v : Value} (hg : w.grownBy w1 v.ownBlock) (hK : K ≤ w.heap.size) (hv : ∀ k, v.ownBlock = some k → K ≤ k) : Below K w w1 := (Below.refl K w).grown hg hK hv

theorem cells_new {w : World} {cs : List Value} {T : TypeId} (j : Nat) (u : Value) (hu : cs[j]? = some u) : (w.alloc (.cells cs.toArray T)).cell? ((⟨w.heap.size, 0, none⟩ : Addr).add j) = some u := by
  have e : (⟨w.heap.size, 0, none⟩ : Addr).add j = ⟨w.heap.size, j, none⟩ := by
    unfold Addr.add
    split
    · next h => subst h; rfl
    · simp
  rw [e, World.cell?_alloc_new]
  simpa using hu
theorem own_form {w : World} {base n size : Nat} {e : TypeId} {v : Value} {xs : List Value} (h : w.ownsRow base e size v n xs) (hn : 0 < n) : ∃ g cap, v = .slice (some ⟨g, 0, none⟩) n cap ∧ n ≤ cap ∧ cap ≤ maxLen := by
  rcases h.2 with ⟨_, h0⟩ | ⟨g, cap, cur, hv, _, _, hc, hm, _⟩
  · omega
  · exact ⟨g, cap, hv, hc, hm⟩

theorem own_empty {w : World} {base g size : Nat} {e : TypeId} (hb : base ≤ g) (hg : w.heap[g]? = some (.cells #[] e (0, 0))) : w.ownsRow base e size (.slice (some ⟨g, 0, none⟩) 0 0) 0 [] :=
  ⟨by simp, .inr ⟨g, 0, #[], rfl, hb, hg, Nat.le_refl _, Nat.zero_le _, by simp, by simp⟩⟩
section
variable {P : Program} {w : World}
/-- The append's law, the operation's guard said by whatever is known of it. -/
theorem step_append_w {ops : Array Oper} {o : Oper} {a : Act} {K : Act → World → Prop} {Q : Exit → Act → World → Prop} {E : Prop} (hw : Region.wanted o (yielded ops a.tmps) = true) (s x : Operand) (t : TypeId)
    (ho : o.op = .call { callee := .builtin .append, args := #[s, x], argTypes := #[t, t] })
    (base : Nat) (e : TypeId) (i : TypeInfo) (z : Value) (size bytes : Nat) (ht : P.underlying t = some (.slice e)) (hi : P.info? e = some i) (hz : i.zero = some z)
    (hsize : i.size = size) (hby : i.bytes = bytes) (hzs : z.cells.size = size) (hsz : 0 < size)
    (v : Value) (n : Nat) (xs : List Value) (hs : a.eval s = v) (hown : w.ownsRow base e size v n xs)
    (ad : Addr) (m c : Nat) (news : List Value) (hx : a.eval x = .slice (some ad) m c) (hl : news.length = m * size) (hnews : ∀ j u, news[j]? = some u → w.cell? (ad.add j) = some u) (h1 : ∀ u ∈ news, u.oneCell' = true)
    (hm : 0 < m) (h63 : n + m ≤ maxLen) (hbytes : (n + m) * bytes ≤ 140737488355328) (hbase : base ≤ w.heap.size)
    (h : ∀ g cap w', w'.ownsRow base e size (.slice (some ⟨g, 0, none⟩) (n + m) cap) (n + m) (xs ++ news) → Below base w w' → g < w'.heap.size → (∀ k, base ≤ k → k < w.heap.size → v.ownBlock ≠ some k → w'.heap[k]? = w.heap[k]?) → K (a.put o.dst (.slice (some ⟨g, 0, none⟩) (n + m) cap)) w') :
    if Region.wanted o (yielded ops a.tmps) = true then Oper.wp P o a w K Q else E := by
  rw [if_pos hw]
  exact wp_append_lies w s x t ho base e i z size bytes ht hi hz hsize hby hzs hsz v n xs hs hown ad m c news hx hl hnews h1 hm h63 hbytes hbase w.heap.size rfl
    (fun g cap w' q1 q2 q3 q4 => h g cap w' q1 ((Below.refl _ _).grown q2 hbase (fun k hk => (own_lt hown k hk).1)) q4 (fun k hk hl hne => q2.block k hl (fun e => hne e.symm)))
end

theorem own_zero {w : World} {base g size : Nat} {e : TypeId} (hb : base ≤ g) (hg : w.heap[g]? = some (.cells #[] e (0, 0))) : w.ownsRow base e size (.slice (some ⟨g, 0, none⟩) 0 0) 0 [] :=
  ⟨by simp, .inr ⟨g, 0, #[], rfl, hb, hg, Nat.le_refl _, Nat.zero_le _, by simp, by simp⟩⟩
/-- What holds of a region's worlds beside the cells that it loads: nothing elder than the region has turned. -/
def Since (w0 w : World) : Prop := Below w0.heap.size w0 w
theorem Since.drew {w0 w : World} (h : Since w0 w) : Since w0 w.drew := Below.drew h
theorem Since.alloc {w0 w : World} (h : Since w0 w) (o : Obj) : Since w0 (w.alloc o) := Below.alloc h h.size o
theorem Since.call {w0 w w1 : World} (h : Since w0 w) (hb : Below w.heap.size w w1) : Since w0 w1 := Below.trans h (hb.mono h.size)
theorem Since.on {w0 w w1 : World} (h : Since w0 w) (hb : Below w0.heap.size w w1) : Since w0 w1 := Below.trans h hb
theorem cells_kept {w w0 : World} {NB : Nat} {cs : List Value} {T : TypeId} {fr : Nat × Nat} (h0 : w0.heap[NB]? = some (.cells cs.toArray T fr)) (hk : w.heap[NB]? = w0.heap[NB]?) (j : Nat) (u : Value) (hu : cs[j]? = some u) : w.cell? ((⟨NB, 0, none⟩ : Addr).add j) = some u := by
  have e : (⟨NB, 0, none⟩ : Addr).add j = ⟨NB, j, none⟩ := by
    unfold Addr.add
    split
    · next h => subst h; rfl
    · simp
  rw [e]
  simp only [World.cell?, hk, h0]
  simpa using hu
theorem two_lo (w : World) (a b : Obj) : ((w.alloc a).alloc b).heap[w.heap.size]? = some a := (Below.heap_alloc _ _ _ (by simp)).trans (heap_alloc_new w a)
theorem two_hi (w : World) (a b : Obj) : ((w.alloc a).alloc b).heap[w.heap.size + 1]? = some b := by
  have e := heap_alloc_new (w.alloc a) b
  rw [show (w.alloc a).heap.size = w.heap.size + 1 by simp] at e
  exact e
theorem kept_hi {w4 w5 : World} {base : Nat} {cs : List Value} {T : TypeId} (hb : base ≤ w4.heap.size) (hk : ∀ k, base ≤ k → k < ((w4.alloc (.cells #[] T)).alloc (.cells cs.toArray T)).heap.size → (Value.slice (some ⟨w4.heap.size, 0, none⟩) 0 0).ownBlock ≠ some k → w5.heap[k]? = ((w4.alloc (.cells #[] T)).alloc (.cells cs.toArray T)).heap[k]?) (j : Nat) (u : Value) (hu : cs[j]? = some u) :
    w5.cell? ((⟨w4.heap.size + 1, 0, none⟩ : Addr).add j) = some u :=
  cells_kept (two_hi w4 (.cells #[] T) (.cells cs.toArray T)) (hk _ (by omega) (by simp) (by simp [Value.ownBlock])) j u hu
theorem kept_lo {w4 w5 : World} {base : Nat} {cs : List Value} {T : TypeId} (hb : base ≤ w4.heap.size) (hk : ∀ k, base ≤ k → k < ((w4.alloc (.cells cs.toArray T)).alloc (.cells #[] T)).heap.size → (Value.slice (some ⟨w4.heap.size + 1, 0, none⟩) 0 0).ownBlock ≠ some k → w5.heap[k]? = ((w4.alloc (.cells cs.toArray T)).alloc (.cells #[] T)).heap[k]?) (j : Nat) (u : Value) (hu : cs[j]? = some u) :
    w5.cell? ((⟨w4.heap.size, 0, none⟩ : Addr).add j) = some u :=
  cells_kept (two_lo w4 (.cells cs.toArray T) (.cells #[] T)) (hk _ hb (by simp; omega) (by simp [Value.ownBlock])) j u hu
theorem Since.size0 {w0 w : World} (h : Since w0 w) : w0.heap.size ≤ w.heap.size := h.size
section
variable {P : Program} {w : World}
/-- The append's law in a drawn region, whatever number is appended; the operation's guard said by whatever is known of it. -/
theorem step_append_o {ops : Array Oper} {o : Oper} {a : Act} {K : Act → World → Prop} {Q : Exit → Act → World → Prop} {E : Prop} (hw : Region.wanted o (yielded ops a.tmps) = true) (s x : Operand) (t : TypeId)
    (ho : o.op = .call { callee := .builtin .append, args := #[s, x], argTypes := #[t, t] })
    (base : Nat) (e : TypeId) (i : TypeInfo) (z : Value) (size bytes : Nat) (ht : P.underlying t = some (.slice e)) (hi : P.info? e = some i) (hz : i.zero = some z)
    (hsize : i.size = size) (hby : i.bytes = bytes) (hzs : z.cells.size = size) (hsz : 0 < size)
    (v : Value) (n : Nat) (xs : List Value) (hs : a.eval s = v) (hown : w.ownsRow base e size v n xs)
    (ad : Addr) (m c : Nat) (news : List Value) (hx : a.eval x = .slice (some ad) m c) (hl : news.length = m * size) (hnews : ∀ j u, news[j]? = some u → w.cell? (ad.add j) = some u) (h1 : ∀ u ∈ news, u.oneCell' = true)
    (h63 : n + m ≤ maxLen) (hbytes : (n + m) * bytes ≤ 140737488355328) (hbase : base ≤ w.heap.size)
    (h : ∀ v' w', w'.ownsRow base e size v' (n + m) (xs ++ news) → Below base w w' → (v' = .slice none 0 0 ↔ v = .slice none 0 0 ∧ m = 0) → K (a.put o.dst v') w') :
    if Region.wanted o (yielded ops a.tmps) = true then Oper.wp P o a w K Q else E := by
  rw [if_pos hw]
  exact wp_append_own w s x t ho base e i z size bytes ht hi hz hsize hby hzs hsz v n xs hs hown ad m c news hx hl hnews h1 h63 hbytes hbase
    (fun v' w' q1 q2 q3 => h v' w' q1 ((Below.refl _ _).grown q2 hbase (fun k hk => (own_lt hown k hk).1)) q3)
end
end Go.Proofs.Ytdmbahpifbidlaa
