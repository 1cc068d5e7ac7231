/-
  Yards whose rows the call itself made, each in a block of its own; yards that lie from a block on.
-/
import Derived.Test.YtdmbahpifbidlaaYh
import Derived.Test.YtdmbahpifbidlaaYlB
import Derived.Test.YtdmbahpifbidlaaYsS
namespace Go.Proofs.Ytdmbahpifbidlaa
open Go.RowKit
set_option linter.unusedVariables false

section
variable {P : Program} {w : World}
/-- An append of nil in a region that draws. -/
theorem step_append_n {ops : Array Oper} {o : Oper} {a : Act} {K : Act → World → Prop} {Q : Exit → Act → World → Prop} {E : Prop} (hw : Region.wanted o (yielded ops a.tmps) = true) (s x : Operand) (t : TypeId)
    (ho : o.op = .call { callee := .builtin .append, args := #[s, x], argTypes := #[t, t] })
    (base : Nat) (e : TypeId) (i : TypeInfo) (size : Nat) (ht : P.underlying t = some (.slice e)) (hi : P.info? e = some i)
    (v : Value) (n : Nat) (xs : List Value) (hs : a.eval s = v) (hown : w.ownsRow base e size v n xs) (hx : a.eval x = .slice none 0 0)
    (h : K (a.put o.dst v) w) : if Region.wanted o (yielded ops a.tmps) = true then Oper.wp P o a w K Q else E := by
  rw [if_pos hw]
  have hrun := run_append_owned_none (P := P) (w := w) base t o.type e i size ht hi v n xs hown
  unfold Oper.wp
  simp [execOp, ho, resolve, invoke, builtin, hs, hx, hrun, Result.andThen]
  exact h
/-- An append in a region that draws, and where the new row lies. -/
theorem step_append_y {ops : Array Oper} {o : Oper} {a : Act} {K : Act → World → Prop} {Q : Exit → Act → World → Prop} {E : Prop} (hw : Region.wanted o (yielded ops a.tmps) = true) (s x : Operand) (t : TypeId)
    (ho : o.op = .call { callee := .builtin .append, args := #[s, x], argTypes := #[t, t] })
    (base : Nat) (e : TypeId) (i : TypeInfo) (z : Value) (size bytes : Nat) (ht : P.underlying t = some (.slice e)) (hi : P.info? e = some i) (hz : i.zero = some z)
    (hsize : i.size = size) (hby : i.bytes = bytes) (hzs : z.cells.size = size) (hsz : 0 < size)
    (v : Value) (n : Nat) (xs : List Value) (hs : a.eval s = v) (hown : w.ownsRow base e size v n xs)
    (ad : Addr) (m c : Nat) (news : List Value) (hx : a.eval x = .slice (some ad) m c) (hl : news.length = m * size) (hnews : ∀ j u, news[j]? = some u → w.cell? (ad.add j) = some u) (h1 : ∀ u ∈ news, u.oneCell' = true)
    (hm : 0 < m) (h63 : n + m ≤ maxLen) (hbytes : (n + m) * bytes ≤ 140737488355328) (hbase : base ≤ w.heap.size)
    (h : ∀ g cap w', w'.ownsRow base e size (.slice (some ⟨g, 0, none⟩) (n + m) cap) (n + m) (xs ++ news) → Below base w w' → (v.ownBlock = some g ∨ g = w.heap.size) → (∀ k, k < w.heap.size → v.ownBlock ≠ some k → w'.heap[k]? = w.heap[k]?) → K (a.put o.dst (.slice (some ⟨g, 0, none⟩) (n + m) cap)) w') :
    if Region.wanted o (yielded ops a.tmps) = true then Oper.wp P o a w K Q else E := by
  rw [if_pos hw]
  exact wp_append_lies w s x t ho base e i z size bytes ht hi hz hsize hby hzs hsz v n xs hs hown ad m c news hx hl hnews h1 hm h63 hbytes hbase w.heap.size rfl
    (fun g cap w' q1 q2 q3 q4 => h g cap w' q1 ((Below.refl _ _).grown q2 hbase (fun k hk => (own_lt hown k hk).1)) q3 (fun k hl hne => q2.block k hl (fun e => hne e.symm)))
end
theorem own_slice {w : World} {base n size : Nat} {e : TypeId} {v : Value} {xs : List Value} (h : w.ownsRow base e size v n xs) : ∃ a c, v = .slice a n c := by
  rcases h.2 with ⟨rfl, rfl⟩ | ⟨g, cap, cur, rfl, _⟩
  · exact ⟨_, _, rfl⟩
  · exact ⟨_, _, rfl⟩

/-- A yard that the call made: its rows lie in blocks of their own, from K on. -/
structure OwnY (K : Nat) (w : World) (v : Value) (us : List Value) (n : Nat) (R : Nat → List Int) : Prop where
  out : w.ownsRow K 28 1 v n us
  len : us.length = n
  row : ∀ k, k < n → ∃ u, us[k]? = some u ∧ w.ownsRow K 3 1 u (R k).length (rowI (R k)) ∧ ∀ b, u.ownBlock = some b → v.ownBlock ≠ some b
  apart : us.Pairwise fun x y => ∀ b, x.ownBlock = some b → y.ownBlock ≠ some b
theorem OwnY.start (K : Nat) (w : World) (R : Nat → List Int) : OwnY K w (.slice none 0 0) [] 0 R :=
  ⟨⟨rfl, .inl ⟨rfl, rfl⟩⟩, rfl, fun k hk => by omega, List.Pairwise.nil⟩
theorem OwnY.far {K : Nat} {w w' : World} {v : Value} {us : List Value} {n : Nat} {R : Nat → List Int} (h : OwnY K w v us n R) (hb : ∀ k, K ≤ k → k < w.heap.size → w'.heap[k]? = w.heap[k]?) : OwnY K w' v us n R :=
  ⟨own_keep h.out hb, h.len, fun k hk => by
    obtain ⟨u, h1, h2, h3⟩ := h.row k hk
    exact ⟨u, h1, own_keep h2 hb, h3⟩, h.apart⟩
theorem OwnY.setLow {K N : Nat} {w : World} {v : Value} {us : List Value} {n : Nat} {R : Nat → List Int} (h : OwnY K w v us n R) (hN : N < K) (o : Nat) (x : Value) : OwnY K (w.setCell ⟨N, o, none⟩ x) v us n R :=
  h.far fun k hk _ => Below.heap_setCell _ _ _ _ (by show k ≠ N; omega)
theorem OwnY.from_ {K K' : Nat} {w : World} {v : Value} {us : List Value} {n : Nat} {R : Nat → List Int} (h : OwnY K w v us n R) (hK : K' ≤ K) : OwnY K' w v us n R :=
  ⟨own_from h.out hK, h.len, fun k hk => by
    obtain ⟨u, h1, h2, h3⟩ := h.row k hk
    exact ⟨u, h1, own_from h2 hK, h3⟩, h.apart⟩
theorem OwnY.push {K : Nat} {wr w5 X w6 : World} {v : Value} {us : List Value} {k : Nat} {R : Nat → List Int} {u5 : Value} {g cap : Nat} (h : OwnY K wr v us k R) (hK : K ≤ wr.heap.size) (hb5 : Below wr.heap.size wr w5) (hbX : Below w5.heap.size w5 X)
    (hu5 : w5.ownsRow wr.heap.size 3 1 u5 (R k).length (rowI (R k))) (ho6 : w6.ownsRow K 28 1 (.slice (some ⟨g, 0, none⟩) (k + 1) cap) (k + 1) (us ++ [u5]))
    (hblk : ∀ j, j < X.heap.size → v.ownBlock ≠ some j → w6.heap[j]? = X.heap[j]?) (hg : v.ownBlock = some g ∨ g = X.heap.size) : OwnY K w6 (.slice (some ⟨g, 0, none⟩) (k + 1) cap) (us ++ [u5]) (k + 1) R := by
  have s1 := hb5.size
  have s2 := hbX.size
  have hvlt : ∀ b, v.ownBlock = some b → b < wr.heap.size := fun b hb => (own_lt h.out b hb).2
  have hold : ∀ j, j < wr.heap.size → v.ownBlock ≠ some j → w6.heap[j]? = wr.heap[j]? := fun j hj hne => by
    rw [hblk j (by omega) hne, hbX.block j (by omega), hb5.block j hj]
  have gne : ∀ b, b < X.heap.size → v.ownBlock ≠ some b → g ≠ b := fun b hb hne e => by
    rcases hg with hg | hg
    · exact hne (by rw [hg, e])
    · omega
  refine ⟨ho6, by rw [List.length_append, h.len]; rfl, fun j hj => ?_, ?_⟩
  · by_cases e : j = k
    · subst e
      refine ⟨u5, ?_, ?_, fun b hb => ?_⟩
      · rw [List.getElem?_append_right (by rw [h.len]; exact Nat.le_refl _), h.len, Nat.sub_self]; rfl
      · refine own_from (base := wr.heap.size) ?_ hK
        refine own_keep hu5 fun b hb hbl => ?_
        rw [hblk b (by omega) (fun e => by have := hvlt b e; omega), hbX.block b hbl]
      · have hbl := own_lt hu5 b hb
        intro e2
        have : g = b := by simpa [Value.ownBlock] using e2
        exact gne b (by omega) (fun e3 => by have := hvlt b e3; omega) this
    · obtain ⟨u, h1, h2, h3⟩ := h.row j (by omega)
      refine ⟨u, ?_, ?_, fun b hb => ?_⟩
      · rw [List.getElem?_append_left (by rw [h.len]; omega)]; exact h1
      · refine ⟨h2.1, ?_⟩
        rcases h2.2 with q | ⟨g', cap', cur, rfl, q1, q2, q3⟩
        · exact .inl q
        · refine .inr ⟨g', cap', cur, rfl, q1, ?_, q3⟩
          rw [hold g' (free_lt q2) (h3 g' rfl)]; exact q2
      · have hbl := own_lt h2 b hb
        intro e2
        have : g = b := by simpa [Value.ownBlock] using e2
        exact gne b (by omega) (h3 b hb) this
  · refine List.pairwise_append.2 ⟨h.apart, List.pairwise_singleton _ _, fun x hx y hy b hb => ?_⟩
    rw [List.mem_singleton] at hy
    subst hy
    intro hc
    have h5 := own_lt hu5 b hc
    obtain ⟨j, hj, rfl⟩ := List.getElem_of_mem hx
    obtain ⟨u, h1, h2, _⟩ := h.row j (by rw [← h.len]; exact hj)
    rw [List.getElem?_eq_getElem hj] at h1
    obtain rfl := Option.some.inj h1
    have := own_lt h2 b hb
    omega

/-- A slice value that holds these lists of numbers, in blocks from K on. -/
def NewY (K : Nat) (w : World) (v : Value) (ss : List (List Int)) : Prop :=
  ∃ (a : Option Addr) (cap : Nat), v = .slice a ss.length cap ∧ ss.length ≤ cap ∧ cap ≤ maxLen ∧ (a = none → cap = 0) ∧
    (ss.length = 0 ∨ ∃ b off, a = some ⟨b, off, none⟩ ∧ K ≤ b ∧ b < w.heap.size ∧ ∀ k, k < ss.length → ∃ u, w.cell? ⟨b, off + k, none⟩ = some u ∧ NewI K w u (rowAt ss k) ∧ NilOk u)
theorem NewY.holds {K : Nat} {w : World} {v : Value} {ss : List (List Int)} (h : NewY K w v ss) : HoldsY w v ss := by
  obtain ⟨a, cap, h1, h2, h3, h0, h4⟩ := h
  refine ⟨a, cap, h1, h2, h3, h0, h4.imp id fun ⟨b, off, h5, _, h6, h7⟩ => ⟨b, off, h5, h6, fun k hk => ?_⟩⟩
  obtain ⟨u, q1, q2, q3⟩ := h7 k hk
  exact ⟨u, q1, q2.holds, q3⟩
theorem NewY.keep {K : Nat} {w w' : World} {v : Value} {ss : List (List Int)} (h : NewY K w v ss) (hb : Below w.heap.size w w') : NewY K w' v ss := by
  obtain ⟨a, cap, h1, h2, h3, h0, h4⟩ := h
  refine ⟨a, cap, h1, h2, h3, h0, h4.imp id fun ⟨b, off, h5, h8, h6, h7⟩ => ⟨b, off, h5, h8, Nat.lt_of_lt_of_le h6 hb.size, fun k hk => ?_⟩⟩
  obtain ⟨u, q1, q2, q3⟩ := h7 k hk
  exact ⟨u, (hb.cell (p := ⟨b, off + k, none⟩) h6).trans q1, q2.keep hb, q3⟩
theorem NewY.most {K B : Nat} {w w' : World} {v : Value} {ss : List (List Int)} (h : NewY K w v ss) (hm : MostB B w w') (hB : B < K) : NewY K w' v ss := by
  obtain ⟨a, cap, h1, h2, h3, h0, h4⟩ := h
  refine ⟨a, cap, h1, h2, h3, h0, h4.imp id fun ⟨b, off, h5, h8, h6, h7⟩ => ⟨b, off, h5, h8, Nat.lt_of_lt_of_le h6 hm.size, fun k hk => ?_⟩⟩
  obtain ⟨u, q1, q2, q3⟩ := h7 k hk
  exact ⟨u, (World.cell?_of_block (w := w) (hm.block b (by omega) h6)).trans q1, q2.most hm hB, q3⟩
theorem NewY.from_ {K K' : Nat} {w : World} {v : Value} {ss : List (List Int)} (h : NewY K w v ss) (hk : K' ≤ K) : NewY K' w v ss := by
  obtain ⟨a, cap, h1, h2, h3, h0, h4⟩ := h
  refine ⟨a, cap, h1, h2, h3, h0, h4.imp id fun ⟨b, off, h5, h8, h6, h7⟩ => ⟨b, off, h5, by omega, h6, fun k hk' => ?_⟩⟩
  obtain ⟨u, q1, q2, q3⟩ := h7 k hk'
  exact ⟨u, q1, q2.from_ hk, q3⟩
theorem NewY.zero {K : Nat} {w : World} : NewY K w (.slice none 0 0) [] := ⟨none, 0, rfl, Nat.le_refl _, by unfold maxLen; omega, fun _ => rfl, .inl rfl⟩
theorem own_cell {w : World} {base n : Nat} {e : TypeId} {a : Option Addr} {m cap : Nat} {us : List Value} (h : w.ownsRow base e 1 (.slice a m cap) n us) {k : Nat} (hk : k < n) : ∃ g, a = some ⟨g, 0, none⟩ ∧ m = n ∧ base ≤ g ∧ g < w.heap.size ∧ n ≤ cap ∧ cap ≤ maxLen ∧ w.cell? ⟨g, k, none⟩ = us[k]? ∧ w.frozen? ⟨g, k, none⟩ = false := by
  rcases h.2 with ⟨_, h0⟩ | ⟨g, cap', cur, hv, hb, hg, hc, hm, hs, hx⟩
  · omega
  · simp only [Value.slice.injEq] at hv
    obtain ⟨rfl, rfl, rfl⟩ := hv
    refine ⟨g, rfl, rfl, hb, free_lt hg, hc, hm, ?_, by simp [World.frozen?, hg]⟩
    rw [← hx, List.getElem?_take, if_pos (by omega)]
    simp [World.cell?, hg]
theorem OwnY.newY {K : Nat} {w : World} {v : Value} {us : List Value} {ss : List (List Int)} (h : OwnY K w v us ss.length (rowAt ss)) : NewY K w v ss := by
  obtain ⟨a, c, rfl⟩ := own_slice h.out
  have hnil := NilOk.of_own h.out
  have hcc : ss.length ≤ c ∧ c ≤ maxLen := by
    rcases h.out.2 with ⟨e, _⟩ | ⟨g, cap', cur, hv, hb, hg, hc, hm, _⟩
    · simp only [Value.slice.injEq] at e
      unfold maxLen; omega
    · simp only [Value.slice.injEq] at hv
      obtain ⟨_, _, rfl⟩ := hv
      exact ⟨hc, hm⟩
  refine ⟨a, c, rfl, hcc.1, hcc.2, fun e => hnil _ _ (by rw [e]), ?_⟩
  by_cases hz : ss.length = 0
  · exact .inl hz
  · obtain ⟨g, rfl, _, hb, hl, _⟩ := own_cell h.out (k := 0) (by omega)
    refine .inr ⟨g, 0, rfl, hb, hl, fun k hk => ?_⟩
    obtain ⟨u, h1, h2, h3⟩ := h.row k hk
    obtain ⟨g', e, _, _, _, _, _, hcell, _⟩ := own_cell h.out hk
    simp only [Option.some.injEq, Addr.mk.injEq, and_true] at e
    obtain rfl := e
    exact ⟨u, by rw [Nat.zero_add, hcell, h1], NewI.of_own h2, NilOk.of_own h2⟩
end Go.Proofs.Ytdmbahpifbidlaa
