/-
  Appends of boxes inside a region that draws its order; what such a region's worlds bear.
-/
import Derived.Test.YthdhephcegbjmaaDrL
import Derived.Deep.RegionHeld3
import Derived.Deep.AppendLies
namespace Go.Proofs.Ythdhephcegbjmaa
open Go.RowKit
set_option linter.unusedVariables false

section
variable {P : Program} {w : World}
/-- The append's law, the operation's guard said by whatever is known of it. -/
theorem step_append_w {ops : Array Oper} {o : Oper} {a : Act} {K : Act → World → Prop} {Q : Exit → Act → World → Prop} {E : Prop} (hw : Region.wanted o (yielded ops a.tmps) = true) (s x : Operand) (t : TypeId)
    (ho : o.op = .call { callee := .builtin .append, args := #[s, x], argTypes := #[t, t] })
    (base : Nat) (e : TypeId) (i : TypeInfo) (z : Value) (size bytes : Nat) (ht : P.underlying t = some (.slice e)) (hi : P.info? e = some i) (hz : i.zero = some z)
    (hsize : i.size = size) (hby : i.bytes = bytes) (hzs : z.cells.size = size) (hsz : 0 < size)
    (v : Value) (n : Nat) (xs : List Value) (hs : a.eval s = v) (hown : w.ownsRow base e size v n xs)
    (ad : Addr) (m c : Nat) (news : List Value) (hx : a.eval x = .slice (some ad) m c) (hl : news.length = m * size) (hnews : ∀ j u, news[j]? = some u → w.cell? (ad.add j) = some u) (h1 : ∀ u ∈ news, u.oneCell' = true)
    (hm : 0 < m) (h63 : n + m ≤ maxLen) (hbytes : (n + m) * bytes ≤ 140737488355328) (hbase : base ≤ w.heap.size)
    (h : ∀ g cap w', w'.ownsRow base e size (.slice (some ⟨g, 0, none⟩) (n + m) cap) (n + m) (xs ++ news) → Below base w w' → g < w'.heap.size → (∀ k, base ≤ k → k < w.heap.size → v.ownBlock ≠ some k → w'.heap[k]? = w.heap[k]?) → K (a.put o.dst (.slice (some ⟨g, 0, none⟩) (n + m) cap)) w') :
    if Region.wanted o (yielded ops a.tmps) = true then Oper.wp P o a w K Q else E := by
  rw [if_pos hw]
  exact wp_append_lies w s x t ho base e i z size bytes ht hi hz hsize hby hzs hsz v n xs hs hown ad m c news hx hl hnews h1 hm h63 hbytes hbase w.heap.size rfl
    (fun g cap w' q1 q2 q3 q4 => h g cap w' q1 ((Below.refl _ _).grown q2 hbase (fun k hk => (own_lt hown k hk).1)) q4 (fun k hk hl hne => q2.block k hl (fun e => hne e.symm)))
end

theorem own_zero {w : World} {base g size : Nat} {e : TypeId} (hb : base ≤ g) (hg : w.heap[g]? = some (.cells #[] e (0, 0))) : w.ownsRow base e size (.slice (some ⟨g, 0, none⟩) 0 0) 0 [] :=
  ⟨by simp, .inr ⟨g, 0, #[], rfl, hb, hg, Nat.le_refl _, Nat.zero_le _, by simp, by simp⟩⟩
theorem HoldsBx.row {w : World} {b off cap : Nat} {l : List Bx} (h : HoldsBx w (.slice (some ⟨b, off, none⟩) l.length cap) l) (j : Nat) (u : Value) (hu : (rowB l)[j]? = some u) : w.cell? ((⟨b, off, none⟩ : Addr).add j) = some u := by
  have hj : j < (rowB l).length := by
    rcases Nat.lt_or_ge j (rowB l).length with h' | h'
    · exact h'
    · rw [List.getElem?_eq_none h'] at hu; cases hu
  rw [rowB_len] at hj
  obtain ⟨a, cap', he, _, _, h4⟩ := h
  simp only [Value.slice.injEq, true_and] at he
  obtain ⟨rfl, rfl⟩ := he
  rcases h4 with h4 | ⟨b', off', h5, h6, h7⟩
  · omega
  · simp only [Option.some.injEq, Addr.mk.injEq, and_true] at h5
    obtain ⟨rfl, rfl⟩ := h5
    have e : (⟨b, off, none⟩ : Addr).add j = ⟨b, off + j, none⟩ := by
      unfold Addr.add
      split
      · next h => subst h; rfl
      · rfl
    have hk : j / 5 < l.length := by omega
    have e2 := h7 (j / 5) hk (j % 5) (Nat.mod_lt _ (by omega))
    rw [← rowB_at l (j / 5) hk (j % 5) (Nat.mod_lt _ (by omega)), show j / 5 * 5 + j % 5 = j by omega] at e2
    rw [e, e2, hu]
theorem rowB_one : ∀ (l : List Bx), ∀ u ∈ rowB l, u.oneCell' = true := by
  intro l u hu
  obtain ⟨b, _, hb⟩ := List.mem_flatMap.1 hu
  simp only [Bx.cells, List.mem_cons, List.not_mem_nil, or_false] at hb
  rcases hb with rfl | rfl | rfl | rfl | rfl <;> rfl

/-- What holds of a region's worlds beside the cells that it loads: nothing elder than the region has turned. -/
def Since (w0 w : World) : Prop := Below w0.heap.size w0 w
/-- Five cells of an elder block, in every later world. -/
theorem five_since {w0 w : World} {b off : Nat} {v0 v1 v2 v3 v4 : Value} (hlt : b < w0.heap.size)
    (h : w0.cell? ⟨b, off, none⟩ = some v0 ∧ w0.cell? ⟨b, off + 1, none⟩ = some v1 ∧ w0.cell? ⟨b, off + 2, none⟩ = some v2 ∧ w0.cell? ⟨b, off + 3, none⟩ = some v3 ∧ w0.cell? ⟨b, off + 4, none⟩ = some v4) (hb : Since w0 w) :
    w.cell? ⟨b, off, none⟩ = some v0 ∧ w.cell? ⟨b, off + 1, none⟩ = some v1 ∧ w.cell? ⟨b, off + 2, none⟩ = some v2 ∧ w.cell? ⟨b, off + 3, none⟩ = some v3 ∧ w.cell? ⟨b, off + 4, none⟩ = some v4 ∧ Since w0 w := by
  have k : ∀ o, w.cell? ⟨b, o, none⟩ = w0.cell? ⟨b, o, none⟩ := fun o => Below.cell (p := ⟨b, o, none⟩) hb hlt
  exact ⟨by rw [k]; exact h.1, by rw [k]; exact h.2.1, by rw [k]; exact h.2.2.1, by rw [k]; exact h.2.2.2.1, by rw [k]; exact h.2.2.2.2, hb⟩
theorem Since.drew {w0 w : World} (h : Since w0 w) : Since w0 w.drew := Below.drew h
theorem Since.alloc {w0 w : World} (h : Since w0 w) (o : Obj) : Since w0 (w.alloc o) := Below.alloc h h.size o
theorem Since.call {w0 w w1 : World} (h : Since w0 w) (hb : Below w.heap.size w w1) : Since w0 w1 := Below.trans h (hb.mono h.size)
theorem Since.on {w0 w w1 : World} (h : Since w0 w) (hb : Below w0.heap.size w w1) : Since w0 w1 := Below.trans h hb
end Go.Proofs.Ythdhephcegbjmaa
