/-
  A list of moves that a law makes, beside a yard in a box of its own that lies behind the list.
-/
import Derived.Test.YtlcfldmiibjboaaDgM
import Derived.Test.YtlcfldmiibjboaaYkS
import Derived.OwnWalk
import Derived.Laws.OwnMore
import Derived.Tactics
namespace Go.Proofs.Ytlcfldmiibjboaa
open Go.RowKit
set_option linter.unusedVariables false

theorem HoldsM.row {w : World} {ad : Addr} {c : Nat} {d : List (Int × Int)} (h : HoldsM w (.slice (some ad) d.length c) d) (j : Nat) (u : Value) (hu : (rowM d)[j]? = some u) : w.cell? (ad.add j) = some u := by
  have hj : j < (rowM d).length := by
    rcases Nat.lt_or_ge j (rowM d).length with h' | h'
    · exact h'
    · rw [List.getElem?_eq_none h'] at hu; cases hu
  rw [rowM_len] at hj
  obtain ⟨b, off, hk', e, hb, c0, c1⟩ := h.at_ (k := j / 2) (by omega)
  obtain rfl := Option.some.inj e
  have ea : (⟨b, off, none⟩ : Addr).add j = ⟨b, off + j, none⟩ := by
    unfold Addr.add
    split
    · next h => subst h; rfl
    · simp
  rw [ea]
  obtain ⟨r0, r1⟩ := rowM_at d (j / 2) hk'
  rcases Nat.mod_two_eq_zero_or_one j with hm | hm
  · have ej : (rowM d)[j]? = (rowM d)[j / 2 * 2]? := by congr 1; omega
    rw [ej, r0] at hu
    rw [← Option.some.inj hu]
    have e3 : off + j = off + j / 2 * 2 := by omega
    rw [e3]
    exact c0
  · have ej : (rowM d)[j]? = (rowM d)[j / 2 * 2 + 1]? := by congr 1; omega
    rw [ej, r1] at hu
    rw [← Option.some.inj hu]
    have e3 : off + j = off + j / 2 * 2 + 1 := by omega
    rw [e3]
    exact c1
theorem rowM_one (d : List (Int × Int)) : ∀ u ∈ rowM d, u.oneCell' = true := by
  intro u hu
  obtain ⟨m, _, hm⟩ := List.mem_flatMap.1 hu
  simp only [List.mem_cons, List.not_mem_nil, or_false] at hm
  rcases hm with rfl | rfl <;> rfl
/-- Nothing appended: the same. -/
theorem wpList_append_nothing {P : Program} {w : World} {ops : Array Oper} {rest : List Oper} {o : Oper} {a : Act} {Q : Exit → Act → World → Prop} (hgd : o.guard = none) (s x : Operand) (t : TypeId)
    (ho : o.op = .call { callee := .builtin .append, args := #[s, x], argTypes := #[t, t] })
    (e : TypeId) (i : TypeInfo) (ht : P.underlying t = some (.slice e)) (hi : P.info? e = some i) (ad : Addr) (n c : Nat) (hn : n ≤ c) (hs : a.eval s = .slice (some ad) n c) (xa : Option Addr) (xc : Nat) (hx : a.eval x = .slice xa 0 xc)
    (h : wpList P ops Q rest (a.put o.dst (.slice (some ad) n c)) w) : wpList P ops Q (o :: rest) a w := by
  refine wpList_plain hgd fun K hK => ?_
  have hrun : (Builtin.append_ #[t, t] o.type #[.slice (some ad) n c, .slice xa 0 xc]).run P w = .ok (.slice (some ad) n c) w := by
    cases xa <;> simp [Builtin.append_, run_underlying ht, sizeOf, typeInfo, hi, Builtin.lenOf, Builtin.firstCells, loadCells, loadCellsFrom, storeCells, hn]
  unfold Oper.wp
  simp [execOp, ho, resolve, invoke, builtin, hs, hx, hrun, Result.andThen]
  exact hK _ _ h
/-- What stands while moves are listed: the list, a yard in a box of its own behind the list's first block. -/
structure LoopB (K N : Nat) (w : World) (h : Int) (xv : Value) (tt : List (List Int)) (g c : Nat) (l : List (Int × Int)) : Prop where
  own : w.ownsRow K 41 2 (.slice (some ⟨g, 0, none⟩) l.length c) l.length (rowM l)
  box : BoxY N w h xv
  low : K ≤ N
  apart : g ≠ N
  stay : StayO N (some g) w xv tt
  size : K ≤ w.heap.size
theorem LoopB.keep {K N : Nat} {w w' : World} {h : Int} {xv : Value} {tt : List (List Int)} {g c : Nat} {l : List (Int × Int)} (s : LoopB K N w h xv tt g c l) (hb : Below w.heap.size w w') : LoopB K N w' h xv tt g c l :=
  ⟨own_stay s.own hb, s.box.keep hb, s.low, s.apart, s.stay.keep hb, Nat.le_trans s.size hb.size⟩
theorem LoopB.at_ {K N : Nat} {w : World} {h : Int} {xv : Value} {tt : List (List Int)} {g c : Nat} {l : List (Int × Int)} (s : LoopB K N w h xv tt g c l) : K ≤ g ∧ g < w.heap.size ∧ l.length ≤ c := by
  obtain ⟨h1, h2⟩ := own_lt s.own g (by simp [Value.ownBlock])
  refine ⟨h1, h2, ?_⟩
  rcases s.own.2 with ⟨e, _⟩ | ⟨g', cap, cur, e, _, _, hc, _⟩
  · cases e
  · simp only [Value.slice.injEq] at e
    obtain ⟨_, _, rfl⟩ := e
    exact hc
/-- Another yard laid into the box. -/
theorem LoopB.take {K N : Nat} {w : World} {h h' : Int} {xv xv' : Value} {tt tt' : List (List Int)} {g c : Nat} {l : List (Int × Int)} (s : LoopB K N w h xv tt g c l) (hu : StayO N (some g) w xv' tt') :
    LoopB K N ((w.setCell ⟨N, 0, none⟩ (.int .i64 h')).setCell ⟨N, 1, none⟩ xv') h' xv' tt' g c l := by
  have blk : ∀ k, k ≠ N → ((w.setCell ⟨N, 0, none⟩ (.int .i64 h')).setCell ⟨N, 1, none⟩ xv').heap[k]? = w.heap[k]? := fun k hk => by
    rw [Below.heap_setCell _ _ _ _ hk, Below.heap_setCell _ _ _ _ hk]
  have hz : ((w.setCell ⟨N, 0, none⟩ (.int .i64 h')).setCell ⟨N, 1, none⟩ xv').heap.size = w.heap.size := by simp [World.setCell]
  refine ⟨own_far s.own fun k hk => blk k ?_, (s.box.set0 _).set1 _, s.low, s.apart, hu.go (Nat.le_of_eq hz.symm) fun k _ hk _ => blk k hk, by rw [hz]; exact s.size⟩
  have e : g = k := by simpa [Value.ownBlock] using hk
  subst e
  exact s.apart
/-- More moves in the list. -/
theorem LoopB.push {K N : Nat} {w w6 : World} {h : Int} {xv : Value} {tt : List (List Int)} {g c g' c' n : Nat} {l m : List (Int × Int)} {xs : List Value} (s : LoopB K N w h xv tt g c l)
    (ho : w6.ownsRow K 41 2 (.slice (some ⟨g', 0, none⟩) (l.length + n) c') (l.length + n) (rowM l ++ xs)) (hm : m.length = n) (hx : xs = rowM m)
    (hg : w.grownBy w6 (Value.slice (some ⟨g, 0, none⟩) l.length c).ownBlock) (hgg : (Value.slice (some ⟨g, 0, none⟩) l.length c).ownBlock = some g' ∨ g' = w.heap.size) :
    LoopB K N w6 h xv tt g' c' (l ++ m) ∧ Below K w w6 := by
  have hb6 : Below K w w6 := own_below hg s.size fun k hk => (own_lt s.own k hk).1
  have blk : ∀ k, k < w.heap.size → g ≠ k → w6.heap[k]? = w.heap[k]? := fun k hk hne => hg.block k hk (fun e => hne (by simpa [Value.ownBlock] using e.symm))
  have hN := s.box.lt
  have hgg' : g = g' ∨ g' = w.heap.size := hgg.imp (fun e => by simpa [Value.ownBlock] using e) id
  refine ⟨⟨?_, s.box.at_ (blk N hN s.apart), s.low, ?_, fun w' hs hb => s.stay w' (Nat.le_trans hb6.size hs) fun k hk h1 h2 => (hb k (Nat.lt_of_lt_of_le hk hb6.size) h1 ?_).trans (blk k hk (fun e => h2 (by rw [e]))), Nat.le_trans s.size hb6.size⟩, hb6⟩
  · have := own_moves (m := m) ho hm hx
    rw [List.length_append, hm] at this ⊢
    exact this
  · rcases hgg' with rfl | rfl
    · exact s.apart
    · omega
  · intro e
    have e2 : g' = k := by simpa using e
    subst e2
    rcases hgg' with rfl | hgg'
    · exact h2 rfl
    · omega
end Go.Proofs.Ytlcfldmiibjboaa
