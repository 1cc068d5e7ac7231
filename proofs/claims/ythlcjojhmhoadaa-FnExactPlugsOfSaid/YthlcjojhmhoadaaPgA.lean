/-
  The best plugs as the model walks them; the append in a drawn region.
-/
import Derived.Test.YthlcjojhmhoadaaPgS
import Derived.Laws.AppendOwnNone
import Derived.Deep.QuietTactic
import Derived.BigQuiet
namespace Go.Proofs.Ythlcjojhmhoadaa
open Go.RowKit
set_option linter.unusedVariables false

namespace PgA
theorem add_at (b off j : Nat) : (⟨b, off, none⟩ : Addr).add j = ⟨b, off + j, none⟩ := by
  unfold Addr.add
  split
  · next h => subst h; rfl
  · simp
theorem alloc_get (w : World) (o : Obj) (k : Nat) : (w.alloc o).heap[k]? = if k = w.heap.size then some o else w.heap[k]? := by
  show (w.heap.push o)[k]? = _
  rw [Array.getElem?_push]
theorem drew_get (w : World) (k : Nat) : w.drew.heap[k]? = w.heap[k]? := rfl
theorem alloc_sz (w : World) (o : Obj) : (w.alloc o).heap.size = w.heap.size + 1 := by simp
theorem cutT {a b : Prop} (h : a) (k : a → b) : b := k h
theorem ne_s2 (n : Nat) : (n = n + 1 + 1) = False := eq_false (by omega)
theorem ne_s3 (n : Nat) : (n = n + 1 + 1 + 1) = False := eq_false (by omega)
theorem ne_s4 (n : Nat) : (n = n + 1 + 1 + 1 + 1) = False := eq_false (by omega)
theorem drew_sz (w : World) : w.drew.heap.size = w.heap.size := rfl
/-- The append's law in a drawn region: whatever number is appended, and what stays. -/
theorem step_append_g {P : Program} {w : World} {ops : Array Oper} {o : Oper} {a : Act} {K : Act → World → Prop} {Q : Exit → Act → World → Prop} {E : Prop} (hw : Region.wanted o (yielded ops a.tmps) = true) (s x : Operand) (t : TypeId)
    (ho : o.op = .call { callee := .builtin .append, args := #[s, x], argTypes := #[t, t] })
    (base : Nat) (e : TypeId) (i : TypeInfo) (z : Value) (size bytes : Nat) (ht : P.underlying t = some (.slice e)) (hi : P.info? e = some i) (hz : i.zero = some z)
    (hsize : i.size = size) (hby : i.bytes = bytes) (hzs : z.cells.size = size) (hsz : 0 < size)
    (v : Value) (n : Nat) (xs : List Value) (hs : a.eval s = v) (hown : w.ownsRow base e size v n xs)
    (ad : Addr) (m c : Nat) (news : List Value) (hx : a.eval x = .slice (some ad) m c) (hl : news.length = m * size) (hnews : ∀ j u, news[j]? = some u → w.cell? (ad.add j) = some u) (h1 : ∀ u ∈ news, u.oneCell' = true)
    (h63 : n + m ≤ maxLen) (hbytes : (n + m) * bytes ≤ 140737488355328) (hbase : base ≤ w.heap.size)
    (h : ∀ v' w', w'.ownsRow base e size v' (n + m) (xs ++ news) → Below base w w' → (∀ k, k < w.heap.size → v.ownBlock ≠ some k → w'.heap[k]? = w.heap[k]?) → K (a.put o.dst v') w') :
    if Region.wanted o (yielded ops a.tmps) = true then Oper.wp P o a w K Q else E := by
  rw [if_pos hw]
  exact wp_append_own w s x t ho base e i z size bytes ht hi hz hsize hby hzs hsz v n xs hs hown ad m c news hx hl hnews h1 h63 hbytes hbase
    (fun v' w' q1 q2 q3 => h v' w' q1 ((Below.refl _ _).grown q2 hbase (fun k hk => (own_lt hown k hk).1)) (fun k hl hne => q2.block k hl (fun e => hne e.symm)))
theorem one_news {w : World} {N : Nat} {x : Value} (h : w.cell? ⟨N, 0, none⟩ = some x) : ∀ j u, [x][j]? = some u → w.cell? ((⟨N, 0, none⟩ : Addr).add j) = some u := by
  intro j u hu
  cases j with
  | zero => simp at hu; subst hu; exact h
  | succ j => simp at hu
theorem one_kept {w w7 : World} {N : Nat} {x v : Value} (hk : ∀ k, k < w.heap.size → v.ownBlock ≠ some k → w7.heap[k]? = w.heap[k]?) (hlt : N < w.heap.size) (hne : v.ownBlock ≠ some N) (hc : w.cell? ⟨N, 0, none⟩ = some x) : w7.cell? ⟨N, 0, none⟩ = some x :=
  (World.cell?_of_block (w := w) (hk N hlt hne)).trans hc
theorem more_row {w : World} {K : Nat} {v : Value} {os : List Int} {y : Int} (h : w.ownsRow K 3 1 v (os.length + 1) (rowI os ++ [.int .i64 y])) : HoldsI w v (os ++ [y]) :=
  (NewI.of_own (by rw [List.length_append, show os.length + [y].length = os.length + 1 by simp, rowI_app]; exact h)).holds
end PgA
/-- What the walk over the plugs of a box has tried, whole lists, and the best of them. -/
def candF (us : List Int) (rest : List (List Int)) (ps : List Int) (j : Nat) : List (List Int) := ((us.take j).filter fun x => !decide (x ∈ ps)).map fun x => (ps ++ [x]) ++ bestS rest (ps ++ [x])
def bestF (us : List Int) (rest : List (List Int)) (ps : List Int) (j : Nat) : List Int := pickP (candF us rest ps j)
theorem bestF_zero (us : List Int) (rest : List (List Int)) (ps : List Int) : bestF us rest ps 0 = [] := by
  unfold bestF candF; rw [List.take_zero]; rfl
theorem take_one {us : List Int} {j : Nat} (hj : j < us.length) : us.take (j + 1) = us.take j ++ [us.getD j 0] := by
  rw [getD_ps hj, List.take_append_getElem hj]
theorem bestF_skip {us : List Int} {rest : List (List Int)} {ps : List Int} {j : Nat} (hj : j < us.length) (h : us.getD j 0 ∈ ps) : bestF us rest ps (j + 1) = bestF us rest ps j := by
  unfold bestF candF
  rw [take_one hj, List.filter_append]
  congr 2
  simp only [List.filter_cons, List.filter_nil, decide_eq_true h, Bool.not_true, Bool.false_eq_true, if_false, List.append_nil]
theorem bestF_next {us : List Int} {rest : List (List Int)} {ps : List Int} {j : Nat} (hj : j < us.length) (h : us.getD j 0 ∉ ps) :
    bestF us rest ps (j + 1) = if bestF us rest ps j = [] ∨ manyP (bestF us rest ps j) < manyP ((ps ++ [us.getD j 0]) ++ bestS rest (ps ++ [us.getD j 0])) then (ps ++ [us.getD j 0]) ++ bestS rest (ps ++ [us.getD j 0]) else bestF us rest ps j := by
  have e : candF us rest ps (j + 1) = candF us rest ps j ++ [(ps ++ [us.getD j 0]) ++ bestS rest (ps ++ [us.getD j 0])] := by
    unfold candF
    rw [take_one hj, List.filter_append, List.map_append]
    congr 1
    simp only [List.filter_cons, List.filter_nil, decide_eq_false h, Bool.not_false, if_true, List.map_cons, List.map_nil]
  unfold bestF pickP
  rw [e, pickA_app]
theorem pickA_full (ps : List Int) : ∀ (l : List (List Int)) (best : List Int), best ≠ [] → (∀ x, x ∈ l → x ≠ []) → pickA (ps ++ best) (l.map (ps ++ ·)) = ps ++ pickA best l
  | [], _, _, _ => rfl
  | x :: l, best, hb, hl => by
    have hx := hl x (List.mem_cons_self ..)
    have hl' : ∀ y, y ∈ l → y ≠ [] := fun y hy => hl y (List.mem_cons_of_mem _ hy)
    rw [List.map_cons]
    unfold pickA
    have e : (ps ++ best = [] ∨ manyP (ps ++ best) < manyP (ps ++ x)) ↔ (best = [] ∨ manyP best < manyP x) := by
      rw [manyP_app, manyP_app]
      constructor
      · rintro (h | h)
        · exact .inl (List.append_eq_nil_iff.1 h).2
        · exact .inr (by omega)
      · rintro (h | h)
        · exact absurd h hb
        · exact .inr (by omega)
    by_cases h : best = [] ∨ manyP best < manyP x
    · rw [if_pos (e.2 h), if_pos h]; exact pickA_full ps l x hx hl'
    · rw [if_neg (fun hc => h (e.1 hc)), if_neg h]; exact pickA_full ps l best hb hl'
theorem pickP_full {ps : List Int} {l : List (List Int)} (hl : ∀ x, x ∈ l → x ≠ []) (hn : l ≠ []) : pickP (l.map (ps ++ ·)) = ps ++ pickP l := by
  cases l with
  | nil => exact absurd rfl hn
  | cons x l =>
    unfold pickP
    rw [List.map_cons]
    unfold pickA
    rw [if_pos (.inl rfl), if_pos (.inl rfl)]
    exact pickA_full ps l x (hl x (List.mem_cons_self ..)) fun y hy => hl y (List.mem_cons_of_mem _ hy)
theorem bestF_end (us : List Int) (rest : List (List Int)) (ps : List Int) :
    (if bestF us rest ps us.length = [] ∨ manyP (bestF us rest ps us.length) < manyP ((ps ++ [-1]) ++ bestS rest (ps ++ [-1])) then (ps ++ [-1]) ++ bestS rest (ps ++ [-1]) else bestF us rest ps us.length) = ps ++ bestS (us :: rest) ps := by
  have e : (candF us rest ps us.length) ++ [(ps ++ [-1]) ++ bestS rest (ps ++ [-1])] = ((candP us ps).map fun x => x :: bestS rest (ps ++ [x])).map (ps ++ ·) := by
    unfold candF candP
    rw [List.take_length, List.map_map, List.map_append]
    congr 1
    · refine List.map_congr_left fun x _ => ?_
      simp
    · simp
  have h1 : bestF us rest ps us.length = pickP (candF us rest ps us.length) := rfl
  rw [h1]
  unfold pickP
  rw [← pickA_app, e]
  refine pickP_full (fun x hx => ?_) (by simp [candP])
  obtain ⟨y, -, rfl⟩ := List.mem_map.1 hx
  exact List.cons_ne_nil _ _
theorem pickP_in (l : List (List Int)) (hl : ∀ x, x ∈ l → x ≠ []) : pickP l = [] ∨ pickP l ∈ l := by
  by_cases hn : l = []
  · subst hn; exact .inl rfl
  · obtain ⟨i, hi, h, -⟩ := pickP_law hl hn
    exact .inr (by rw [h]; exact List.getElem_mem hi)
theorem bestS_len : ∀ (rest : List (List Int)) (ps : List Int), (bestS rest ps).length = rest.length
  | [], _ => rfl
  | us :: rest, ps => by
    have hne : ∀ x, x ∈ ((candP us ps).map fun x => x :: bestS rest (ps ++ [x])) → x ≠ [] := fun x hx => by
      obtain ⟨y, -, rfl⟩ := List.mem_map.1 hx
      exact List.cons_ne_nil _ _
    have hnil : ((candP us ps).map fun x => x :: bestS rest (ps ++ [x])) ≠ [] := by simp [candP]
    obtain ⟨i, hi, h, -⟩ := pickP_law hne hnil
    obtain ⟨y, -, hy⟩ := List.mem_map.1 (List.getElem_mem hi)
    have e : bestS (us :: rest) ps = y :: bestS rest (ps ++ [y]) := by rw [hy]; exact h
    rw [e, List.length_cons, List.length_cons, bestS_len rest]
theorem bestF_len (us : List Int) (rest : List (List Int)) (ps : List Int) (j : Nat) : (bestF us rest ps j).length ≤ ps.length + 1 + rest.length := by
  unfold bestF
  rcases pickP_in (candF us rest ps j) (fun x hx => by
    obtain ⟨y, -, rfl⟩ := List.mem_map.1 hx
    simp) with h | h
  · rw [h]; simp
  · obtain ⟨y, -, hy⟩ := List.mem_map.1 h
    rw [← hy, List.length_append, List.length_append, bestS_len]
    simp
/-- The lists that still stand behind some plugs. -/
theorem drop_len {u : List (List Int)} {us : List Int} {rest : List (List Int)} {k : Nat} (h : u.drop k = us :: rest) : k + 1 + rest.length = u.length := by
  have := congrArg List.length h
  rw [List.length_drop, List.length_cons] at this
  omega
theorem drop_at {u : List (List Int)} {us : List Int} {rest : List (List Int)} {k : Nat} (h : u.drop k = us :: rest) : k < u.length ∧ rowAt u k = us ∧ u.drop (k + 1) = rest := by
  have hk : k < u.length := by
    have := congrArg List.length h
    rw [List.length_drop, List.length_cons] at this
    omega
  rw [List.drop_eq_getElem_cons hk] at h
  have h2 := List.cons.inj h
  exact ⟨hk, by rw [rowAt_get hk]; exact h2.1, h2.2⟩
end Go.Proofs.Ythlcjojhmhoadaa
