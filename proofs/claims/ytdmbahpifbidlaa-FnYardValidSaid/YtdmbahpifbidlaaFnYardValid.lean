/-
  For every code of bytes the law on YardValid (the model's answer; with a further empty stack a valid yard is valid, as far as there may be; without stacks it is not) returns true and leaves its argument as it was. Conditions: none beyond the form's own reach.
-/
import Derived.Test.YtdmbahpifbidlaaRows
import Derived.Test.YtdmbahpifbidlaaGBase
import Derived.WalkKit
import Derived.ProofKit
import Derived.OpenShut
import Derived.ShutString
import Derived.ChangeOld
import Derived.Below
import Derived.Test.YtdmbahpifbidlaaGCr
import Derived.Test.YtdmbahpifbidlaaGYv
import Derived.Test.YtdmbahpifbidlaaGYh
import Derived.Test.YtdmbahpifbidlaaYv
import Derived.Test.YtdmbahpifbidlaaYiS
import Derived.Test.YtdmbahpifbidlaaGYk
import Derived.Test.YtdmbahpifbidlaaYsC
namespace Go.Proofs.Ytdmbahpifbidlaa.fnYardValid
open Go.ChangeShapes Go.WideShapes Go.ChangeAt Go.RowKit
open Go.ChangeMaps (open_string shut_string)
set_option linter.unusedVariables false


/-- What the walk is told of a slice of integers that came in. -/
def IsRow (k : IntKind) (w : World) (a : Option Addr) (len cap : Nat) (zs : List Int) : Prop :=
  (a = none ∧ len = 0 ∧ cap = 0 ∧ zs = []) ∨
  ∃ x, a = some x ∧ len ≤ cap ∧ cap ≤ maxLen ∧ zs.length = cap ∧ (∀ i, i < zs.length → w.cell? (x.add i) = some (.int k (zs.getD i 0))) ∧ ∀ n ∈ zs, (Lit.int k n).wf = true

theorem add_at (b off j : Nat) : (⟨b, off, none⟩ : Addr).add j = ⟨b, off + j, none⟩ := by
  unfold Addr.add
  split
  · next h => subst h; rfl
  · simp
theorem alloc_get (w : World) (o : Obj) (k : Nat) : (w.alloc o).heap[k]? = if k = w.heap.size then some o else w.heap[k]? := by
  show (w.heap.push o)[k]? = _
  rw [Array.getElem?_push]
theorem drew_get (w : World) (k : Nat) : w.drew.heap[k]? = w.heap[k]? := rfl
theorem alloc_sz (w : World) (o : Obj) : (w.alloc o).heap.size = w.heap.size + 1 := by simp
theorem cutT {a b : Prop} (h : a) (k : a → b) : b := k h
theorem ne_s2 (n : Nat) : (n = n + 1 + 1) = False := eq_false (by omega)
theorem ne_s3 (n : Nat) : (n = n + 1 + 1 + 1) = False := eq_false (by omega)
theorem ne_s4 (n : Nat) : (n = n + 1 + 1 + 1 + 1) = False := eq_false (by omega)
theorem drew_sz (w : World) : w.drew.heap.size = w.heap.size := rfl
theorem held_cells {w : World} {ad : Addr} {n c : Nat} {ss : List (List Int)} (h : HoldsY w (.slice (some ad) n c) ss) :
    ∃ us : List Value, us.length = n ∧ (∀ w', Since w w' → ∀ j u, us[j]? = some u → w'.cell? (ad.add j) = some u) ∧ (∀ k, k < n → ∃ u, us[k]? = some u ∧ HoldsI w u (rowAt ss k) ∧ NilOk u) ∧ ∀ u ∈ us, u.oneCell' = true := by
  obtain ⟨a', cap', he, h2, h3, h0, h4⟩ := h
  simp only [Value.slice.injEq] at he
  obtain ⟨rfl, rfl, rfl⟩ := he
  rcases h4 with h4 | ⟨b, off, h5, h6, h7⟩
  · exact ⟨[], by rw [h4]; rfl, fun _ _ j u hu => by simp at hu, fun k hk => by omega, fun u hu => by simp at hu⟩
  · obtain rfl := Option.some.inj h5
    refine ⟨(List.range ss.length).map fun k => (w.cell? ⟨b, off + k, none⟩).getD (.slice none 0 0), by simp, fun w' hs j u hu => ?_, fun k hk => ?_, fun u hu => ?_⟩
    · have hj : j < ss.length := by
        rcases Nat.lt_or_ge j ss.length with h | h
        · exact h
        · rw [List.getElem?_eq_none (by simpa using h)] at hu; cases hu
      obtain ⟨x, q1, _, _⟩ := h7 j hj
      rw [List.getElem?_map, List.getElem?_range hj] at hu
      simp [q1] at hu
      subst hu
      rw [add_at]
      exact (Below.cell hs (p := ⟨b, off + j, none⟩) h6).trans q1
    · obtain ⟨x, q1, q2, q3⟩ := h7 k hk
      exact ⟨x, by rw [List.getElem?_map, List.getElem?_range hk]; simp [q1], q2, q3⟩
    · obtain ⟨k, hk, rfl⟩ := List.mem_map.1 hu
      obtain ⟨x, q1, ⟨_, _, rfl, _⟩, _⟩ := h7 k (by simpa using hk)
      rw [q1]; rfl
/-- The append's law in a drawn region: whatever number is appended, and what stays. -/
theorem step_append_g {P : Program} {w : World} {ops : Array Oper} {o : Oper} {a : Act} {K : Act → World → Prop} {Q : Exit → Act → World → Prop} {E : Prop} (hw : Region.wanted o (yielded ops a.tmps) = true) (s x : Operand) (t : TypeId)
    (ho : o.op = .call { callee := .builtin .append, args := #[s, x], argTypes := #[t, t] })
    (base : Nat) (e : TypeId) (i : TypeInfo) (z : Value) (size bytes : Nat) (ht : P.underlying t = some (.slice e)) (hi : P.info? e = some i) (hz : i.zero = some z)
    (hsize : i.size = size) (hby : i.bytes = bytes) (hzs : z.cells.size = size) (hsz : 0 < size)
    (v : Value) (n : Nat) (xs : List Value) (hs : a.eval s = v) (hown : w.ownsRow base e size v n xs)
    (ad : Addr) (m c : Nat) (news : List Value) (hx : a.eval x = .slice (some ad) m c) (hl : news.length = m * size) (hnews : ∀ j u, news[j]? = some u → w.cell? (ad.add j) = some u) (h1 : ∀ u ∈ news, u.oneCell' = true)
    (h63 : n + m ≤ maxLen) (hbytes : (n + m) * bytes ≤ 140737488355328) (hbase : base ≤ w.heap.size)
    (h : ∀ v' w', w'.ownsRow base e size v' (n + m) (xs ++ news) → Below base w w' → (∀ k, k < w.heap.size → v.ownBlock ≠ some k → w'.heap[k]? = w.heap[k]?) → K (a.put o.dst v') w') :
    if Region.wanted o (yielded ops a.tmps) = true then Oper.wp P o a w K Q else E := by
  rw [if_pos hw]
  exact wp_append_own w s x t ho base e i z size bytes ht hi hz hsize hby hzs hsz v n xs hs hown ad m c news hx hl hnews h1 h63 hbytes hbase
    (fun v' w' q1 q2 q3 => h v' w' q1 ((Below.refl _ _).grown q2 hbase (fun k hk => (own_lt hown k hk).1)) (fun k hl hne => q2.block k hl (fun e => hne e.symm)))
section
variable {P : Program} {w : World}
/-- Nothing appended to a fresh row, in a drawn region. -/
theorem step_append_zero {ops : Array Oper} {o : Oper} {a : Act} {K : Act → World → Prop} {Q : Exit → Act → World → Prop} {E : Prop} (hw : Region.wanted o (yielded ops a.tmps) = true) (s x : Operand) (t : TypeId)
    (ho : o.op = .call { callee := .builtin .append, args := #[s, x], argTypes := #[t, t] })
    (e : TypeId) (i : TypeInfo) (ht : P.underlying t = some (.slice e)) (hi : P.info? e = some i) (N : Nat) (hs : a.eval s = .slice (some ⟨N, 0, none⟩) 0 0) (ad : Option Addr) (c : Nat) (hx : a.eval x = .slice ad 0 c)
    (h : K (a.put o.dst (.slice (some ⟨N, 0, none⟩) 0 0)) w) : if Region.wanted o (yielded ops a.tmps) = true then Oper.wp P o a w K Q else E := by
  rw [if_pos hw]
  have hrun : (Builtin.append_ #[t, t] o.type #[.slice (some ⟨N, 0, none⟩) 0 0, .slice ad 0 c]).run P w = .ok (.slice (some ⟨N, 0, none⟩) 0 0) w := by
    cases ad <;> simp [Builtin.append_, run_underlying ht, sizeOf, typeInfo, hi, Builtin.lenOf, Builtin.firstCells, loadCells, loadCellsFrom, storeCells]
  unfold Oper.wp
  simp [execOp, ho, resolve, invoke, builtin, hs, hx, hrun, Result.andThen]
  exact h
/-- A fresh row that grows, in a drawn region: the world is told. -/
theorem step_append_fresh {ops : Array Oper} {o : Oper} {a : Act} {K : Act → World → Prop} {Q : Exit → Act → World → Prop} {E : Prop} (hw : Region.wanted o (yielded ops a.tmps) = true) (s x : Operand) (t : TypeId)
    (ho : o.op = .call { callee := .builtin .append, args := #[s, x], argTypes := #[t, t] })
    (e : TypeId) (i : TypeInfo) (z : Value) (bytes : Nat) (ht : P.underlying t = some (.slice e)) (hi : P.info? e = some i) (hz : i.zero = some z) (hsize : i.size = 1) (hby : i.bytes = bytes) (hzs : z.cells.size = 1)
    (N : Nat) (hs : a.eval s = .slice (some ⟨N, 0, none⟩) 0 0) (ad : Addr) (m c : Nat) (news : List Value) (hx : a.eval x = .slice (some ad) m c) (hl : news.length = m) (hnews : ∀ j u, news[j]? = some u → w.cell? (ad.add j) = some u)
    (hm : 0 < m) (h63 : m ≤ maxLen) (hbytes : m * bytes ≤ 140737488355328)
    (h : ∀ (X : Array Value) cap, m ≤ cap → cap ≤ maxLen → X.size = cap → X.toList.take m = news → K (a.put o.dst (.slice (some ⟨w.heap.size, 0, none⟩) m cap)) (w.drew.alloc (.cells X e))) :
    if Region.wanted o (yielded ops a.tmps) = true then Oper.wp P o a w K Q else E := by
  rw [if_pos hw]
  have hr := run_append_grow (P := P) (w := w) t o.type e i z ht hi hz ⟨N, 0, none⟩ 0 0 [] (by simp) (fun j v hv => by simp at hv) ad m c news (by rw [hsize]; omega) hnews (by omega) (by simp only [maxLen] at h63; omega) (growslice_fits (by omega) (by rw [hby]; simpa using hbytes))
  simp only [Nat.zero_add, Array.empty_append] at hr
  have hge := grownCap_ge w m 0 e
  have hK := h (news.toArray ++ Builtin.zeroCells z.cells (grownCap w m 0 e - m)) (grownCap w m 0 e) hge (grownCap_le_maxLen w m 0 e h63)
    (by simp only [Array.size_append, List.size_toArray, size_zeroCells, hzs, hl]; omega) (by simp only [Array.toList_append]; rw [← hl]; exact List.take_left)
  unfold Oper.wp execOp
  simp only [ho, resolve, invoke, builtin, Sem.run_bind, Sem.run_pure, Result.andThen_ok, List.map_toArray, List.map_cons, List.map_nil, hs, hx, hr]
  exact hK
end
theorem one_news {w : World} {N : Nat} {x : Value} (h : w.cell? ⟨N, 0, none⟩ = some x) : ∀ j u, [x][j]? = some u → w.cell? ((⟨N, 0, none⟩ : Addr).add j) = some u := by
  intro j u hu
  cases j with
  | zero => simp at hu; subst hu; exact h
  | succ j => simp at hu
theorem own_far' {w w' : World} {base n size : Nat} {e : TypeId} {v : Value} {xs : List Value} (h : w.ownsRow base e size v n xs) (hb : ∀ k, v.ownBlock = some k → w'.heap[k]? = w.heap[k]?) : w'.ownsRow base e size v n xs := by
  refine ⟨h.1, ?_⟩
  rcases h.2 with q | ⟨g, cap, cur, rfl, q1, q2, q3⟩
  · exact .inl q
  · exact .inr ⟨g, cap, cur, rfl, q1, by rw [hb g (by simp [Value.ownBlock])]; exact q2, q3⟩
/-- The yard with one more stack, out of what the region made. -/
theorem more_holds {w8 wx : World} {K : Nat} {n E : Nat} {ss : List (List Int)} {us : List Value} {v : Value} (hn : ss.length = n) (hl : us.length = n) (hr : ∀ k, k < n → ∃ u, us[k]? = some u ∧ HoldsI w8 u (rowAt ss k) ∧ NilOk u) (hs : Since w8 wx)
    (ho : wx.ownsRow K 28 1 v (n + 1) (us ++ [.slice (some ⟨E, 0, none⟩) 0 0])) : HoldsY wx v (ss ++ [[]]) := by
  have e1 : (ss ++ [[]]).length = n + 1 := by simp [hn]
  have := NewY.of_rows (K := 0) (ss := ss ++ [[]]) (us := us ++ [.slice (some ⟨E, 0, none⟩) 0 0]) (by rw [e1]; exact own_from ho (Nat.zero_le _)) fun k hk => by
    rw [e1] at hk
    by_cases hkn : k < n
    · obtain ⟨u, q1, q2, q3⟩ := hr k hkn
      refine ⟨u, by rw [List.getElem?_append_left (by omega)]; exact q1, ?_, q3⟩
      have er : rowAt (ss ++ [[]]) k = rowAt ss k := by rw [rowAt_get (by rw [e1]; omega), rowAt_get (by omega), List.getElem_append_left (by omega)]
      rw [er]
      obtain ⟨a, c, h1, h2, h3, h4⟩ := q2.keep hs
      exact ⟨a, c, h1, h2, h3, h4.imp id fun ⟨b, off, r1, r2, r3⟩ => ⟨b, off, r1, Nat.zero_le _, r2, r3⟩⟩
    · have hk' : k = n := by omega
      subst hk'
      refine ⟨_, by rw [List.getElem?_append_right (by omega), hl, Nat.sub_self]; rfl, ?_, NilOk.some_⟩
      have er : rowAt (ss ++ [[]]) k = [] := by rw [rowAt_get (by rw [e1]; omega), List.getElem_append_right (by omega)]; simp
      rw [er]
      exact NewI.empty (Nat.zero_le _)
  exact this.holds
/-- What the region leaves: the yard with one more stack in a box. -/
theorem more_a {w8 w7 : World} {h' : Int} {n E : Nat} {ss : List (List Int)} {us : List Value} {v : Value} (hn : ss.length = n) (hl : us.length = n) (hr : ∀ k, k < n → ∃ u, us[k]? = some u ∧ HoldsI w8 u (rowAt ss k) ∧ NilOk u) (hs : Since w8 w7)
    (ho : w7.ownsRow w8.heap.size 28 1 v (n + 1) (us ++ [.slice (some ⟨E, 0, none⟩) 0 0])) :
    ∃ (Bn : Nat) (u' : Value), Value.pointer (some ⟨w7.heap.size, 0, none⟩) = .pointer (some ⟨Bn, 0, none⟩) ∧ Hid (BoxY Bn (w7.alloc (.cells #[.int .i64 h', v] 25)) h' u') ∧ Hid (HoldsY (w7.alloc (.cells #[.int .i64 h', v] 25)) u' (ss ++ [[]])) ∧ Hid (Below w8.heap.size w8 (w7.alloc (.cells #[.int .i64 h', v] 25))) :=
  ⟨w7.heap.size, v, rfl, Lib.hid (BoxY.new _ _ _), Lib.hid ((more_holds hn hl hr hs ho).keep ((Below.refl _ _).alloc (Nat.le_refl _) _)), Lib.hid (Below.alloc hs (Below.size hs) _)⟩
theorem more_b {w8 w7 : World} {Bn : Nat} {h' h0 : Int} {n E : Nat} {ss : List (List Int)} {us : List Value} {v v0 : Value} (hn : ss.length = n) (hl : us.length = n) (hr : ∀ k, k < n → ∃ u, us[k]? = some u ∧ HoldsI w8 u (rowAt ss k) ∧ NilOk u) (hs : Since w8 w7)
    (ho : w7.ownsRow w8.heap.size 28 1 v (n + 1) (us ++ [.slice (some ⟨E, 0, none⟩) 0 0])) (hb : BoxY Bn w7 h0 v0) (hw : w8.heap.size ≤ Bn) :
    ∃ (Bn' : Nat) (u' : Value), Value.pointer (some ⟨Bn, 0, none⟩) = .pointer (some ⟨Bn', 0, none⟩) ∧ Hid (BoxY Bn' ((w7.setCell ⟨Bn, 0, none⟩ (.int .i64 h')).setCell ⟨Bn, 1, none⟩ v) h' u') ∧ Hid (HoldsY ((w7.setCell ⟨Bn, 0, none⟩ (.int .i64 h')).setCell ⟨Bn, 1, none⟩ v) u' (ss ++ [[]])) ∧ Hid (Below w8.heap.size w8 ((w7.setCell ⟨Bn, 0, none⟩ (.int .i64 h')).setCell ⟨Bn, 1, none⟩ v)) := by
  have hs' : Since w8 ((w7.setCell ⟨Bn, 0, none⟩ (.int .i64 h')).setCell ⟨Bn, 1, none⟩ v) := Below.setCell (p := ⟨Bn, 1, none⟩) (Below.setCell (p := ⟨Bn, 0, none⟩) hs hw _) hw _
  have ho' : ((w7.setCell ⟨Bn, 0, none⟩ (.int .i64 h')).setCell ⟨Bn, 1, none⟩ v).ownsRow w8.heap.size 28 1 v (n + 1) (us ++ [.slice (some ⟨E, 0, none⟩) 0 0]) := by
    refine own_far' ho fun g hg => ?_
    have hne : g ≠ Bn := fun e => by
      subst e
      unfold BoxY at hb
      rcases ho.2 with ⟨_, q⟩ | ⟨g', cap', cur, rfl, _, q2, _⟩
      · omega
      · simp [Value.ownBlock] at hg
        subst hg
        rw [hb] at q2
        simp at q2
    rw [Below.heap_setCell _ _ _ _ hne, Below.heap_setCell _ _ _ _ hne]
  exact ⟨Bn, v, rfl, Lib.hid ((hb.set0 h').set1 v), Lib.hid (more_holds hn hl hr hs' ho'), Lib.hid hs'⟩
set_option maxRecDepth 10000 in
set_option maxHeartbeats 60000000 in
theorem walk (a0 : Option Addr) (len0 cap0 : Nat) (w : World) (w0 : IsRow8 w a0 len0 cap0) :
    Calls Try.prog 3 #[.slice a0 len0 cap0] w fun e w' => e = .returned (.bool true) ∧ Below w.heap.size w w' := by
  have hm := row8_len w0
  unfold maxLen at hm
  by_cases hl : len0 ≤ 1048576
  · obtain ⟨i1, hi, hz0, hz1, hz2⟩ := info_parts infoRow
    have GI := Lib.hid hi
    have GZ0 := Lib.hid hz0
    have GZ1 := Lib.hid hz1
    have GZ2 := Lib.hid hz2
    clear hi hz0 hz1 hz2
    go_enter Try.func3, Try.ntmps3
    go_wp2_with fail
    refine (drawYardValid_any a0 len0 cap0 w w0).mono ?_
    rintro e w1 ⟨h0, u, ss, hl7, hf, rfl, hh, hb⟩
    clear w0
    have HI := Lib.hid fun v w (g : HoldsY w v ss) => implYardValid_any h0 v ss w g
    have HS := Lib.hid fun v w (g : HoldsY w v ss) => specYardValid_any h0 v ss w g (by omega)
    have HM := Lib.hid fun v w (g : HoldsY w v (ss ++ [[]])) => implYardValid_any h0 v (ss ++ [[]]) w g
    have HN := Lib.hid fun w => implYardValid_any h0 (.slice none 0 0) [] w (NewY.zero (K := 0)).holds
    rw [ydOk_nil] at HN
    have HMO := Lib.hid fun (hk : ydOk h0 ss = true) (h5 : ss.length ≠ 5) => ydOk_more hk h5
    have HNIL := Lib.hid fun (hk : ss = []) => (show ydOk h0 ss = false by rw [hk]; exact ydOk_nil h0)
    obtain ⟨ua, uc, rfl⟩ : ∃ a c, u = .slice a ss.length c := by obtain ⟨a, c, e, _⟩ := hh; exact ⟨a, c, e⟩
    have b2 : Below w1.heap.size w1 (w1.alloc (.cells #[.int .i64 h0, .slice ua ss.length uc] 25)) := (Below.refl _ _).alloc (Nat.le_refl _) _
    have y2 := BoxY.new w1 h0 (.slice ua ss.length uc)
    have h2 := hh.keep b2
    have C2 := hb.trans (b2.mono hb.size)
    generalize hW2 : w1.alloc (.cells #[.int .i64 h0, .slice ua ss.length uc] 25) = W2 at b2 y2 h2 C2
    have HW2 := Lib.hid hW2
    clear hW2 b2 hb hh
    have ya := y2.c0
    have yb := y2.c1
    go_wp2_with fail
    rw [HW2.out]
    generalize w1.heap.size = Y at y2 ya yb
    clear HW2
    go_wp2_with fail
    refine (HI.out _ W2 h2).mono ?_
    rintro e w3 ⟨rfl, b3⟩
    have C3 := C2.trans (b3.mono C2.size)
    have y3 := y2.keep b3
    have h3 := h2.keep b3
    clear C2 y2 h2 ya yb b3
    have ya := y3.c0
    have yb := y3.c1
    have hoo : (ydOk h0 ss != ydOk h0 ss) = false := by simp
    go_wp2_with fail
    refine (HS.out _ w3 h3).mono ?_
    rintro e w8 ⟨rfl, b8⟩
    have HC8 := Lib.hid (C3.trans (b8.mono C3.size))
    have HY8 := Lib.hid (y3.keep b8)
    have HH8 := Lib.hid (h3.keep b8)
    clear C3 y3 h3 ya yb b8
    go_upto_region 7 with fail
    have CELL := Lib.hid fun (w' : World) (hs : Since w8 w') => (show w'.cell? ⟨Y, 0, none⟩ = some (.int .i64 h0) ∧ w'.cell? ⟨Y, 1, none⟩ = some (.slice ua ss.length uc) ∧ Since w8 w' from ⟨(HY8.out.keep hs).c0, (HY8.out.keep hs).c1, hs⟩)
    go_cut [5] from 17 to 26 (fun pv wx => ∃ (Bn : Nat) (u' : Value), pv = .pointer (some ⟨Bn, 0, none⟩) ∧ Hid (BoxY Bn wx h0 u') ∧ Hid (HoldsY wx u' (ss ++ [[]])) ∧ Hid (Below w8.heap.size w8 wx))
    case first =>
      have hstart := CELL.out _ (show Since w8 w8.drew from (Below.refl _ _).drew)
      obtain ⟨n, hn⟩ : ∃ n, n = ss.length := ⟨_, rfl⟩
      rw [← hn] at CELL hstart
      have hn7 : n ≤ 7 := by omega
      have HNN := Lib.hid hn.symm
      have HFR := Lib.hid hn
      rcases Nat.eq_zero_or_pos n with hn0 | hn0
      · subst hn0
        clear hn
        go_region_held3 (fun w' => w'.cell? ⟨Y, 0, none⟩ = some (.int .i64 h0) ∧ w'.cell? ⟨Y, 1, none⟩ = some (.slice ua 0 uc) ∧ Since w8 w')
          (first | assumption | exact hstart | exact CELL.out _ (Since.alloc (by exact (‹_ ∧ _› : _ ∧ _ ∧ Since w8 _).2.2) _) | exact CELL.out _ (Since.alloc (Since.drew (by exact (‹_ ∧ _› : _ ∧ _ ∧ Since w8 _).2.2)) _) | exact CELL.out _ (Since.on (by exact (‹_ ∧ _› : _ ∧ _ ∧ Since w8 _).2.2) ‹Below w8.heap.size _ _›) | exact CELL.out _ (Since.alloc S7.out _) | exact CELL.out _ (Below.setCell (Below.setCell S7.out LB7.out _) LB7.out _) | fail)
          (first
            | (refine step_append_zero (by rfl) _ _ 23 (by rfl) 28 i1 Try.underlying23 GI.out _ (by rfl) ua uc (by rfl) ?_; try simp only [alloc_sz, drew_sz])
            | (refine step_append_g (by rfl) _ _ 23 (by rfl) w8.heap.size 28 i1 (.slice none 0 0) 1 24 Try.underlying23 GI.out GZ0.out GZ1.out GZ2.out rfl (by decide) _ 0 [] (by rfl) (own_empty (by omega) (by simp only [alloc_get, drew_get, alloc_sz, drew_sz] <;> simp [ne_s2, ne_s3, ne_s4])) _ 1 1 [.slice (some ⟨_, 0, none⟩) 0 0] (by rfl) rfl (one_news (by simp only [World.cell?, alloc_get, drew_get, alloc_sz, drew_sz]; simp [ne_s2, ne_s3, ne_s4]; rfl)) (by simp [Value.oneCell']) (by unfold maxLen; omega) (by omega) (by simp; omega) ?_; intro v7 w7 ho7 hb7 hk7; obtain ⟨a7, c7, rfl⟩ := own_slice ho7; have HO7 := Lib.hid ho7; have S7 := Lib.hid (show Since w8 w7 from Since.on (by exact (‹_ ∧ _› : _ ∧ _ ∧ Since w8 _).2.2) hb7); have HK7 := Lib.hid hk7; refine cutT (a := BoxY (w8.heap.size) w7 0 (.slice none 0 0)) ?_ ?_; (· (unfold BoxY; refine (hk7 _ ?_ ?_).trans ?_; (· (simp only [alloc_sz, drew_sz]; omega)); (· (simp [Value.ownBlock] <;> omega)); (· (simp only [alloc_get, drew_get, alloc_sz, drew_sz] <;> simp [ne_s2, ne_s3, ne_s4])))); intro bx7; have BX7 := Lib.hid bx7; clear bx7; have LB7 := Lib.hid (show w8.heap.size ≤ w8.heap.size by omega); have d0 := BX7.out.c0; have d1 := BX7.out.c1; have e0 := BX7.out.frozen 0; have e1 := BX7.out.frozen 1; clear ho7 hk7)
            | (refine step_append_g (by rfl) _ _ 23 (by rfl) w8.heap.size 28 i1 (.slice none 0 0) 1 24 Try.underlying23 GI.out GZ0.out GZ1.out GZ2.out rfl (by decide) _ 0 [] (by rfl) (own_empty (by omega) (by simp only [alloc_get, drew_get, alloc_sz, drew_sz] <;> simp [ne_s2, ne_s3, ne_s4])) _ 1 1 [.slice (some ⟨_, 0, none⟩) 0 0] (by rfl) rfl (one_news (by simp only [World.cell?, alloc_get, drew_get, alloc_sz, drew_sz]; simp [ne_s2, ne_s3, ne_s4]; rfl)) (by simp [Value.oneCell']) (by unfold maxLen; omega) (by omega) (by simp; omega) ?_; intro v7 w7 ho7 hb7 hk7; obtain ⟨a7, c7, rfl⟩ := own_slice ho7; have HO7 := Lib.hid ho7; have S7 := Lib.hid (show Since w8 w7 from Since.on (by exact (‹_ ∧ _› : _ ∧ _ ∧ Since w8 _).2.2) hb7); have HK7 := Lib.hid hk7; refine cutT (a := BoxY (w8.heap.size + 1) w7 0 (.slice none 0 0)) ?_ ?_; (· (unfold BoxY; refine (hk7 _ ?_ ?_).trans ?_; (· (simp only [alloc_sz, drew_sz]; omega)); (· (simp [Value.ownBlock] <;> omega)); (· (simp only [alloc_get, drew_get, alloc_sz, drew_sz] <;> simp [ne_s2, ne_s3, ne_s4])))); intro bx7; have BX7 := Lib.hid bx7; clear bx7; have LB7 := Lib.hid (show w8.heap.size ≤ w8.heap.size + 1 by omega); have d0 := BX7.out.c0; have d1 := BX7.out.c1; have e0 := BX7.out.frozen 0; have e1 := BX7.out.frozen 1; clear ho7 hk7)
            | (refine step_append_g (by rfl) _ _ 23 (by rfl) w8.heap.size 28 i1 (.slice none 0 0) 1 24 Try.underlying23 GI.out GZ0.out GZ1.out GZ2.out rfl (by decide) _ 0 [] (by rfl) (own_empty (by omega) (by simp only [alloc_get, drew_get, alloc_sz, drew_sz] <;> simp [ne_s2, ne_s3, ne_s4])) _ 1 1 [.slice (some ⟨_, 0, none⟩) 0 0] (by rfl) rfl (one_news (by simp only [World.cell?, alloc_get, drew_get, alloc_sz, drew_sz]; simp [ne_s2, ne_s3, ne_s4]; rfl)) (by simp [Value.oneCell']) (by unfold maxLen; omega) (by omega) (by simp; omega) ?_; intro v7 w7 ho7 hb7 hk7; obtain ⟨a7, c7, rfl⟩ := own_slice ho7; have HO7 := Lib.hid ho7; have S7 := Lib.hid (show Since w8 w7 from Since.on (by exact (‹_ ∧ _› : _ ∧ _ ∧ Since w8 _).2.2) hb7); have HK7 := Lib.hid hk7; refine cutT (a := BoxY (w8.heap.size + 1 + 1) w7 0 (.slice none 0 0)) ?_ ?_; (· (unfold BoxY; refine (hk7 _ ?_ ?_).trans ?_; (· (simp only [alloc_sz, drew_sz]; omega)); (· (simp [Value.ownBlock] <;> omega)); (· (simp only [alloc_get, drew_get, alloc_sz, drew_sz] <;> simp [ne_s2, ne_s3, ne_s4])))); intro bx7; have BX7 := Lib.hid bx7; clear bx7; have LB7 := Lib.hid (show w8.heap.size ≤ w8.heap.size + 1 + 1 by omega); have d0 := BX7.out.c0; have d1 := BX7.out.c1; have e0 := BX7.out.frozen 0; have e1 := BX7.out.frozen 1; clear ho7 hk7)
            | (refine step_append_g (by rfl) _ _ 23 (by rfl) w8.heap.size 28 i1 (.slice none 0 0) 1 24 Try.underlying23 GI.out GZ0.out GZ1.out GZ2.out rfl (by decide) _ 0 [] (by rfl) (own_empty (by omega) (by simp only [alloc_get, drew_get, alloc_sz, drew_sz] <;> simp [ne_s2, ne_s3, ne_s4])) _ 1 1 [.slice (some ⟨_, 0, none⟩) 0 0] (by rfl) rfl (one_news (by simp only [World.cell?, alloc_get, drew_get, alloc_sz, drew_sz]; simp [ne_s2, ne_s3, ne_s4]; rfl)) (by simp [Value.oneCell']) (by unfold maxLen; omega) (by omega) (by simp; omega) ?_; intro v7 w7 ho7 hb7 hk7; obtain ⟨a7, c7, rfl⟩ := own_slice ho7; have HO7 := Lib.hid ho7; have S7 := Lib.hid (show Since w8 w7 from Since.on (by exact (‹_ ∧ _› : _ ∧ _ ∧ Since w8 _).2.2) hb7); have HK7 := Lib.hid hk7; refine cutT (a := BoxY (w8.heap.size + 1 + 1 + 1) w7 0 (.slice none 0 0)) ?_ ?_; (· (unfold BoxY; refine (hk7 _ ?_ ?_).trans ?_; (· (simp only [alloc_sz, drew_sz]; omega)); (· (simp [Value.ownBlock] <;> omega)); (· (simp only [alloc_get, drew_get, alloc_sz, drew_sz] <;> simp [ne_s2, ne_s3, ne_s4])))); intro bx7; have BX7 := Lib.hid bx7; clear bx7; have LB7 := Lib.hid (show w8.heap.size ≤ w8.heap.size + 1 + 1 + 1 by omega); have d0 := BX7.out.c0; have d1 := BX7.out.c1; have e0 := BX7.out.frozen 0; have e1 := BX7.out.frozen 1; clear ho7 hk7)
            | (refine step_append_g (by rfl) _ _ 23 (by rfl) w8.heap.size 28 i1 (.slice none 0 0) 1 24 Try.underlying23 GI.out GZ0.out GZ1.out GZ2.out rfl (by decide) _ 0 [] (by rfl) (own_empty (by omega) (by simp only [alloc_get, drew_get, alloc_sz, drew_sz] <;> simp [ne_s2, ne_s3, ne_s4])) _ 1 1 [.slice (some ⟨_, 0, none⟩) 0 0] (by rfl) rfl (one_news (by simp only [World.cell?, alloc_get, drew_get, alloc_sz, drew_sz]; simp [ne_s2, ne_s3, ne_s4]; rfl)) (by simp [Value.oneCell']) (by unfold maxLen; omega) (by omega) (by simp; omega) ?_; intro v7 w7 ho7 hb7 hk7; obtain ⟨a7, c7, rfl⟩ := own_slice ho7; have HO7 := Lib.hid ho7; have S7 := Lib.hid (show Since w8 w7 from Since.on (by exact (‹_ ∧ _› : _ ∧ _ ∧ Since w8 _).2.2) hb7); have HK7 := Lib.hid hk7; refine cutT (a := BoxY (w8.heap.size + 1 + 1 + 1 + 1) w7 0 (.slice none 0 0)) ?_ ?_; (· (unfold BoxY; refine (hk7 _ ?_ ?_).trans ?_; (· (simp only [alloc_sz, drew_sz]; omega)); (· (simp [Value.ownBlock] <;> omega)); (· (simp only [alloc_get, drew_get, alloc_sz, drew_sz] <;> simp [ne_s2, ne_s3, ne_s4])))); intro bx7; have BX7 := Lib.hid bx7; clear bx7; have LB7 := Lib.hid (show w8.heap.size ≤ w8.heap.size + 1 + 1 + 1 + 1 by omega); have d0 := BX7.out.c0; have d1 := BX7.out.c1; have e0 := BX7.out.frozen 0; have e1 := BX7.out.frozen 1; clear ho7 hk7)
            | (refine step_append_g (by rfl) _ _ 23 (by rfl) w8.heap.size 28 i1 (.slice none 0 0) 1 24 Try.underlying23 GI.out GZ0.out GZ1.out GZ2.out rfl (by decide) _ 0 [] (by rfl) (own_empty (by omega) (by simp only [alloc_get, drew_get, alloc_sz, drew_sz] <;> simp [ne_s2, ne_s3, ne_s4])) _ 1 1 [.slice (some ⟨_, 0, none⟩) 0 0] (by rfl) rfl (one_news (by simp only [World.cell?, alloc_get, drew_get, alloc_sz, drew_sz]; simp [ne_s2, ne_s3, ne_s4]; rfl)) (by simp [Value.oneCell']) (by unfold maxLen; omega) (by omega) (by simp; omega) ?_; intro v7 w7 ho7 hb7 hk7; obtain ⟨a7, c7, rfl⟩ := own_slice ho7; have HO7 := Lib.hid ho7; have S7 := Lib.hid (show Since w8 w7 from Since.on (by exact (‹_ ∧ _› : _ ∧ _ ∧ Since w8 _).2.2) hb7); have HK7 := Lib.hid hk7; clear ho7 hk7)
            | fail)
        all_goals
          go_wp2_with fail
          go_meet
          first
            | exact more_a HNN.out (rfl : ([] : List Value).length = 0) (fun k hk => absurd hk (Nat.not_lt_zero k)) S7.out HO7.out
            | exact more_b HNN.out (rfl : ([] : List Value).length = 0) (fun k hk => absurd hk (Nat.not_lt_zero k)) S7.out HO7.out BX7.out LB7.out
      · have hcell := held_cells (ad := ua.getD ⟨0, 0, none⟩) (w := w8) (n := n) (c := uc) (ss := ss)
        obtain ⟨ad, rfl⟩ : ∃ ad, ua = some ad := by
          rcases ua with _ | ad
          · have := HH8.out.len.2.2.2 rfl
            omega
          · exact ⟨ad, rfl⟩
        obtain ⟨us, hus, hnews, hrow, hone⟩ := held_cells HH8.out
        clear hcell
        rw [← hn] at hus hrow
        have NEWS := Lib.hid hnews
        have HUS := Lib.hid (show us.length = n * 1 by omega)
        have HUS2 := Lib.hid hus
        have ROWS := Lib.hid hrow
        have ONE := Lib.hid hone
        clear hnews hus hrow hone hn
        go_region_held3 (fun w' => w'.cell? ⟨Y, 0, none⟩ = some (.int .i64 h0) ∧ w'.cell? ⟨Y, 1, none⟩ = some (.slice (some ad) n uc) ∧ Since w8 w')
          (first | exact hstart | exact CELL.out _ (Since.alloc (by exact (‹_ ∧ _› : _ ∧ _ ∧ Since w8 _).2.2) _) | exact CELL.out _ (Since.alloc (Since.drew (by exact (‹_ ∧ _› : _ ∧ _ ∧ Since w8 _).2.2)) _) | exact CELL.out _ (Since.on (by exact (‹_ ∧ _› : _ ∧ _ ∧ Since w8 _).2.2) ‹Below w8.heap.size _ _›) | exact CELL.out _ (Since.alloc S7.out _) | exact CELL.out _ (Below.setCell (Below.setCell S7.out LB7.out _) LB7.out _) | fail)
          (first
            | (refine step_append_fresh (by rfl) _ _ 23 (by rfl) 28 i1 (.slice none 0 0) 24 Try.underlying23 GI.out GZ0.out GZ1.out GZ2.out rfl _ (by rfl) ad n uc us (by rfl) HUS2.out (NEWS.out _ (by exact (‹_ ∧ _› : _ ∧ _ ∧ Since w8 _).2.2)) hn0 (by unfold maxLen; omega) (by omega) ?_; intro X6 c6 hc6 hc6m hX6 ht6; have HX6 := Lib.hid (And.intro hc6 (And.intro hc6m (And.intro hX6 ht6))); clear hc6 hc6m hX6 ht6; try simp only [alloc_sz, drew_sz])
            | (refine step_append_g (by rfl) _ _ 23 (by rfl) w8.heap.size 28 i1 (.slice none 0 0) 1 24 Try.underlying23 GI.out GZ0.out GZ1.out GZ2.out rfl (by decide) _ n us (by rfl) ⟨HUS.out, .inr ⟨_, c6, X6, rfl, by omega, by simp only [alloc_get, drew_get, alloc_sz, drew_sz] <;> simp [ne_s2, ne_s3, ne_s4], HX6.out.1, HX6.out.2.1, by rw [HX6.out.2.2.1]; omega, by rw [Nat.mul_one]; exact HX6.out.2.2.2⟩⟩ _ 1 1 [.slice (some ⟨_, 0, none⟩) 0 0] (by rfl) rfl (one_news (by simp only [World.cell?, alloc_get, drew_get, alloc_sz, drew_sz]; simp [ne_s2, ne_s3, ne_s4]; rfl)) (by simp [Value.oneCell']) (by unfold maxLen; omega) (by omega) (by simp; omega) ?_; intro v7 w7 ho7 hb7 hk7; obtain ⟨a7, c7, rfl⟩ := own_slice ho7; have HO7 := Lib.hid ho7; have S7 := Lib.hid (show Since w8 w7 from Since.on (by exact (‹_ ∧ _› : _ ∧ _ ∧ Since w8 _).2.2) hb7); have HK7 := Lib.hid hk7; refine cutT (a := BoxY (w8.heap.size) w7 0 (.slice none 0 0)) ?_ ?_; (· (unfold BoxY; refine (hk7 _ ?_ ?_).trans ?_; (· (simp only [alloc_sz, drew_sz]; omega)); (· (simp [Value.ownBlock] <;> omega)); (· (simp only [alloc_get, drew_get, alloc_sz, drew_sz] <;> simp [ne_s2, ne_s3, ne_s4])))); intro bx7; have BX7 := Lib.hid bx7; clear bx7; have LB7 := Lib.hid (show w8.heap.size ≤ w8.heap.size by omega); have d0 := BX7.out.c0; have d1 := BX7.out.c1; have e0 := BX7.out.frozen 0; have e1 := BX7.out.frozen 1; clear ho7 hk7)
            | (refine step_append_g (by rfl) _ _ 23 (by rfl) w8.heap.size 28 i1 (.slice none 0 0) 1 24 Try.underlying23 GI.out GZ0.out GZ1.out GZ2.out rfl (by decide) _ n us (by rfl) ⟨HUS.out, .inr ⟨_, c6, X6, rfl, by omega, by simp only [alloc_get, drew_get, alloc_sz, drew_sz] <;> simp [ne_s2, ne_s3, ne_s4], HX6.out.1, HX6.out.2.1, by rw [HX6.out.2.2.1]; omega, by rw [Nat.mul_one]; exact HX6.out.2.2.2⟩⟩ _ 1 1 [.slice (some ⟨_, 0, none⟩) 0 0] (by rfl) rfl (one_news (by simp only [World.cell?, alloc_get, drew_get, alloc_sz, drew_sz]; simp [ne_s2, ne_s3, ne_s4]; rfl)) (by simp [Value.oneCell']) (by unfold maxLen; omega) (by omega) (by simp; omega) ?_; intro v7 w7 ho7 hb7 hk7; obtain ⟨a7, c7, rfl⟩ := own_slice ho7; have HO7 := Lib.hid ho7; have S7 := Lib.hid (show Since w8 w7 from Since.on (by exact (‹_ ∧ _› : _ ∧ _ ∧ Since w8 _).2.2) hb7); have HK7 := Lib.hid hk7; refine cutT (a := BoxY (w8.heap.size + 1) w7 0 (.slice none 0 0)) ?_ ?_; (· (unfold BoxY; refine (hk7 _ ?_ ?_).trans ?_; (· (simp only [alloc_sz, drew_sz]; omega)); (· (simp [Value.ownBlock] <;> omega)); (· (simp only [alloc_get, drew_get, alloc_sz, drew_sz] <;> simp [ne_s2, ne_s3, ne_s4])))); intro bx7; have BX7 := Lib.hid bx7; clear bx7; have LB7 := Lib.hid (show w8.heap.size ≤ w8.heap.size + 1 by omega); have d0 := BX7.out.c0; have d1 := BX7.out.c1; have e0 := BX7.out.frozen 0; have e1 := BX7.out.frozen 1; clear ho7 hk7)
            | (refine step_append_g (by rfl) _ _ 23 (by rfl) w8.heap.size 28 i1 (.slice none 0 0) 1 24 Try.underlying23 GI.out GZ0.out GZ1.out GZ2.out rfl (by decide) _ n us (by rfl) ⟨HUS.out, .inr ⟨_, c6, X6, rfl, by omega, by simp only [alloc_get, drew_get, alloc_sz, drew_sz] <;> simp [ne_s2, ne_s3, ne_s4], HX6.out.1, HX6.out.2.1, by rw [HX6.out.2.2.1]; omega, by rw [Nat.mul_one]; exact HX6.out.2.2.2⟩⟩ _ 1 1 [.slice (some ⟨_, 0, none⟩) 0 0] (by rfl) rfl (one_news (by simp only [World.cell?, alloc_get, drew_get, alloc_sz, drew_sz]; simp [ne_s2, ne_s3, ne_s4]; rfl)) (by simp [Value.oneCell']) (by unfold maxLen; omega) (by omega) (by simp; omega) ?_; intro v7 w7 ho7 hb7 hk7; obtain ⟨a7, c7, rfl⟩ := own_slice ho7; have HO7 := Lib.hid ho7; have S7 := Lib.hid (show Since w8 w7 from Since.on (by exact (‹_ ∧ _› : _ ∧ _ ∧ Since w8 _).2.2) hb7); have HK7 := Lib.hid hk7; refine cutT (a := BoxY (w8.heap.size + 1 + 1) w7 0 (.slice none 0 0)) ?_ ?_; (· (unfold BoxY; refine (hk7 _ ?_ ?_).trans ?_; (· (simp only [alloc_sz, drew_sz]; omega)); (· (simp [Value.ownBlock] <;> omega)); (· (simp only [alloc_get, drew_get, alloc_sz, drew_sz] <;> simp [ne_s2, ne_s3, ne_s4])))); intro bx7; have BX7 := Lib.hid bx7; clear bx7; have LB7 := Lib.hid (show w8.heap.size ≤ w8.heap.size + 1 + 1 by omega); have d0 := BX7.out.c0; have d1 := BX7.out.c1; have e0 := BX7.out.frozen 0; have e1 := BX7.out.frozen 1; clear ho7 hk7)
            | (refine step_append_g (by rfl) _ _ 23 (by rfl) w8.heap.size 28 i1 (.slice none 0 0) 1 24 Try.underlying23 GI.out GZ0.out GZ1.out GZ2.out rfl (by decide) _ n us (by rfl) ⟨HUS.out, .inr ⟨_, c6, X6, rfl, by omega, by simp only [alloc_get, drew_get, alloc_sz, drew_sz] <;> simp [ne_s2, ne_s3, ne_s4], HX6.out.1, HX6.out.2.1, by rw [HX6.out.2.2.1]; omega, by rw [Nat.mul_one]; exact HX6.out.2.2.2⟩⟩ _ 1 1 [.slice (some ⟨_, 0, none⟩) 0 0] (by rfl) rfl (one_news (by simp only [World.cell?, alloc_get, drew_get, alloc_sz, drew_sz]; simp [ne_s2, ne_s3, ne_s4]; rfl)) (by simp [Value.oneCell']) (by unfold maxLen; omega) (by omega) (by simp; omega) ?_; intro v7 w7 ho7 hb7 hk7; obtain ⟨a7, c7, rfl⟩ := own_slice ho7; have HO7 := Lib.hid ho7; have S7 := Lib.hid (show Since w8 w7 from Since.on (by exact (‹_ ∧ _› : _ ∧ _ ∧ Since w8 _).2.2) hb7); have HK7 := Lib.hid hk7; refine cutT (a := BoxY (w8.heap.size + 1 + 1 + 1) w7 0 (.slice none 0 0)) ?_ ?_; (· (unfold BoxY; refine (hk7 _ ?_ ?_).trans ?_; (· (simp only [alloc_sz, drew_sz]; omega)); (· (simp [Value.ownBlock] <;> omega)); (· (simp only [alloc_get, drew_get, alloc_sz, drew_sz] <;> simp [ne_s2, ne_s3, ne_s4])))); intro bx7; have BX7 := Lib.hid bx7; clear bx7; have LB7 := Lib.hid (show w8.heap.size ≤ w8.heap.size + 1 + 1 + 1 by omega); have d0 := BX7.out.c0; have d1 := BX7.out.c1; have e0 := BX7.out.frozen 0; have e1 := BX7.out.frozen 1; clear ho7 hk7)
            | (refine step_append_g (by rfl) _ _ 23 (by rfl) w8.heap.size 28 i1 (.slice none 0 0) 1 24 Try.underlying23 GI.out GZ0.out GZ1.out GZ2.out rfl (by decide) _ n us (by rfl) ⟨HUS.out, .inr ⟨_, c6, X6, rfl, by omega, by simp only [alloc_get, drew_get, alloc_sz, drew_sz] <;> simp [ne_s2, ne_s3, ne_s4], HX6.out.1, HX6.out.2.1, by rw [HX6.out.2.2.1]; omega, by rw [Nat.mul_one]; exact HX6.out.2.2.2⟩⟩ _ 1 1 [.slice (some ⟨_, 0, none⟩) 0 0] (by rfl) rfl (one_news (by simp only [World.cell?, alloc_get, drew_get, alloc_sz, drew_sz]; simp [ne_s2, ne_s3, ne_s4]; rfl)) (by simp [Value.oneCell']) (by unfold maxLen; omega) (by omega) (by simp; omega) ?_; intro v7 w7 ho7 hb7 hk7; obtain ⟨a7, c7, rfl⟩ := own_slice ho7; have HO7 := Lib.hid ho7; have S7 := Lib.hid (show Since w8 w7 from Since.on (by exact (‹_ ∧ _› : _ ∧ _ ∧ Since w8 _).2.2) hb7); have HK7 := Lib.hid hk7; refine cutT (a := BoxY (w8.heap.size + 1 + 1 + 1 + 1) w7 0 (.slice none 0 0)) ?_ ?_; (· (unfold BoxY; refine (hk7 _ ?_ ?_).trans ?_; (· (simp only [alloc_sz, drew_sz]; omega)); (· (simp [Value.ownBlock] <;> omega)); (· (simp only [alloc_get, drew_get, alloc_sz, drew_sz] <;> simp [ne_s2, ne_s3, ne_s4])))); intro bx7; have BX7 := Lib.hid bx7; clear bx7; have LB7 := Lib.hid (show w8.heap.size ≤ w8.heap.size + 1 + 1 + 1 + 1 by omega); have d0 := BX7.out.c0; have d1 := BX7.out.c1; have e0 := BX7.out.frozen 0; have e1 := BX7.out.frozen 1; clear ho7 hk7)
            | (refine step_append_g (by rfl) _ _ 23 (by rfl) w8.heap.size 28 i1 (.slice none 0 0) 1 24 Try.underlying23 GI.out GZ0.out GZ1.out GZ2.out rfl (by decide) _ n us (by rfl) ⟨HUS.out, .inr ⟨_, c6, X6, rfl, by omega, by simp only [alloc_get, drew_get, alloc_sz, drew_sz] <;> simp [ne_s2, ne_s3, ne_s4], HX6.out.1, HX6.out.2.1, by rw [HX6.out.2.2.1]; omega, by rw [Nat.mul_one]; exact HX6.out.2.2.2⟩⟩ _ 1 1 [.slice (some ⟨_, 0, none⟩) 0 0] (by rfl) rfl (one_news (by simp only [World.cell?, alloc_get, drew_get, alloc_sz, drew_sz]; simp [ne_s2, ne_s3, ne_s4]; rfl)) (by simp [Value.oneCell']) (by unfold maxLen; omega) (by omega) (by simp; omega) ?_; intro v7 w7 ho7 hb7 hk7; obtain ⟨a7, c7, rfl⟩ := own_slice ho7; have HO7 := Lib.hid ho7; have S7 := Lib.hid (show Since w8 w7 from Since.on (by exact (‹_ ∧ _› : _ ∧ _ ∧ Since w8 _).2.2) hb7); have HK7 := Lib.hid hk7; clear ho7 hk7)
            | fail)
        all_goals
          go_wp2_with fail
          go_meet
          first
            | exact more_a HNN.out HUS2.out ROWS.out S7.out HO7.out
            | exact more_b HNN.out HUS2.out ROWS.out S7.out HO7.out BX7.out LB7.out
    case rest =>
      obtain ⟨Bn, u5, rfl, HB, HM5, HL⟩ := hcut
      rename World => w9
      obtain ⟨p5, k5, rfl⟩ : ∃ a c, u5 = .slice a (ss.length + 1) c := by obtain ⟨a, c, e, _⟩ := HM5.out; exact ⟨a, c, by rw [e]; simp⟩
      have C9 := HC8.out.trans (HL.out.mono HC8.out.size)
      have Y9 := Lib.hid fun w' (hb : Below w9.heap.size w9 w') => (HY8.out.keep HL.out).keep hb
      have z9 := HB.out
      have HMV := Lib.hid (HM.out _ w9 HM5.out)
      clear HI HS HM HB HM5 HL HC8 HY8 HH8 CELL hoo
      have ya := (Y9.out w9 (Below.refl _ _)).c0
      have yb := (Y9.out w9 (Below.refl _ _)).c1
      cases hk : ydOk h0 ss
      · clear HMV HMO z9
        go_wp2_with fail
        refine (HN.out _).mono ?_
        rintro e w10 ⟨rfl, b10⟩
        go_wp2_with fail
        refine (alive_yes _).mono ?_
        rintro e w11 ⟨rfl, rfl⟩
        go_wp2
        go_ret
        exact ⟨rfl, C9.trans (b10.mono C9.size)⟩
      · by_cases h5 : ss.length = 5
        · have e5 : ((ss.length : Int) == 5) = true := by rw [h5]; rfl
          clear HMV HMO z9 h5
          go_wp2_with fail
          refine (HN.out _).mono ?_
          rintro e w10 ⟨rfl, b10⟩
          go_wp2_with fail
          refine (alive_yes _).mono ?_
          rintro e w11 ⟨rfl, rfl⟩
          go_wp2
          go_ret
          exact ⟨rfl, C9.trans (b10.mono C9.size)⟩
        · have e5 : ((ss.length : Int) == 5) = false := by simp; omega
          rw [HMO.out hk h5] at HMV
          have za := z9.c0
          have zb := z9.c1
          clear HMO h5 hk
          go_wp2_with fail
          refine HMV.out.mono ?_
          rintro e w10 ⟨rfl, b10⟩
          have ya := (Y9.out w10 b10).c0
          go_wp2_with fail
          refine (HN.out _).mono ?_
          rintro e w11 ⟨rfl, b11⟩
          go_wp2_with fail
          refine (alive_yes _).mono ?_
          rintro e w12 ⟨rfl, rfl⟩
          go_wp2
          go_ret
          have C10 := C9.trans (b10.mono C9.size)
          exact ⟨rfl, C10.trans (b11.mono C10.size)⟩
  · go_enter Try.func3, Try.ntmps3
    go_wp2
    go_ret
    exact ⟨rfl, Below.refl _ _⟩

set_option maxRecDepth 100000 in
set_option maxHeartbeats 2000000 in
/-- What the walk gives, for every argument. -/
theorem contract (H : Type) (enc : TypeId × Value → H) (W : World) (base : Nat) (args : Array Value) (ds gs : List (DataW H)) (before : List MemPlace)
    (hval : ∀ (j : Nat) t v, Try.f3.params[j]? = some t → args[j]? = some v → Value.okWide Try.prog W .any base t v)
    (hW : DataW.Whole enc Try.prog Try.f3.params.toList Rows.fnYardValidSpec.vars false W args.toList ds gs before) :
    Calls Try.prog 3 args W fun e W' => ∃ v, e = .returned v ∧ Rows.fnYardValidSpec.post enc Try.prog Try.f3 false true false false W args v W' := by
  have hW' := hW
  obtain ⟨p, q, hA0, hV, rfl, hfz, hnd⟩ := hW
  have hA : DataW.TrodAll enc Try.prog W 0 (fun _ => true) true Try.f3.params.toList args.toList ds p := hA0
  rw [Try.params3] at hA hval
  obtain ⟨v0, vs0, d0, ds0, p0, q0, hargs, rfl, rfl, h0, r0⟩ := trodAll_cons hA
  obtain ⟨rfl, rfl, rfl⟩ := trodAll_nil r0
  obtain rfl : args = #[v0] := by cases args; simp_all
  obtain ⟨rfl, rfl⟩ := trodVars_none hV
  have k0 := h0
  have lt0 : ∀ x ∈ p0, x.block < W.heap.size := by obtain ⟨m, hm⟩ := k0; exact DataW.trod_lt m _ _ _ hm
  obtain ⟨a0, len0, cap0, rfl⟩ := okWide_slice Try.underlying22 (hval 0 22 v0 rfl rfl)
  obtain ⟨z0, x0⟩ : ∃ zs, IsRow .u8 W a0 len0 cap0 zs := by
    obtain ⟨fuel, hf⟩ := h0
    rcases open_ints Try.underlying22 Try.underlying5 (by kernel_rfl) hf with ⟨hcs, _⟩ | ⟨x, l, c, zs, hcs, _, hl, hm, hz, _, hcell, hwz⟩
    · simp [Value.cells] at hcs
      obtain ⟨rfl, rfl, rfl⟩ := hcs
      exact ⟨[], .inl ⟨rfl, rfl, rfl, rfl⟩⟩
    · simp [Value.cells] at hcs
      obtain ⟨rfl, rfl, rfl⟩ := hcs
      exact ⟨zs, .inr ⟨_, rfl, hl, hm, by simpa using hz, hcell, hwz⟩⟩
  clear hA0
  refine (walk a0 len0 cap0 W (row8_of x0)).mono fun e W' ⟨he, bel⟩ => ?_
  subst he
  exact ⟨_, rfl, _, _, _, [], _, [], hW', trodAll_mk1 (shut_bool Try.underlying4 _), (trodAll_cons_mk (Below.trod laidOut (by kernel_rfl) (of_decide_eq_true (by kernel_rfl)) k0 bel lt0) trodAll_mk0), rfl, bel.frame _, fun h => by cases h⟩

set_option maxRecDepth 100000 in
theorem lifted (os : Os) (started : os.Started) (H : Type) (enc : TypeId × Value → H) :
    ReturnsInHanded {} Try.checked os 3 .any (Rows.fnYardValidSpec.pre6 enc Try.prog Try.f3 Rows.fnYardValidRow.domain false) (Rows.fnYardValidSpec.post enc Try.prog Try.f3 false true false false) := by
  refine returnsInHanded_of_change (C := Try.checked) own started (by kernel_rfl) Try.func3
    (ChangeSpec.witness6 (enc := enc) (C := Try.checked) false ⟨#[], #[.slice none 0 0], []⟩ 8 (by kernel_rfl) (by kernel_rfl) (by kernel_rfl) (by kernel_rfl)) ?_
  intro W base args ds gs before hval hW _ _
  exact contract H enc W base args ds gs before hval hW

theorem proved : Rows.FnYardValidSaid :=
  OpenClaim.holds_of_wide 3 Try.f3 rfl rfl rfl rfl rfl rfl rfl ⟨rfl, rfl, rfl, rfl, rfl⟩ rfl rfl rfl rfl rfl (by kernel_rfl) Try.func3 (by kernel_rfl)
    (of_decide_eq_true (by kernel_rfl)) (by unfold Func.isWrapper; first | (rw [if_pos (by decide +kernel)]; kernel_rfl) | (rw [if_neg (by decide +kernel)]; exact ⟨rfl, rfl⟩))
    (fun os started H enc _ => lifted os started H enc)
#print axioms proved
end Go.Proofs.Ytdmbahpifbidlaa.fnYardValid
