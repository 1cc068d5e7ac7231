/-
  Contracts of the program's methods put and take on a stack of numbers.
-/
import Derived.Test.YtdmbahpifbidlaaSlC
import Derived.Test.YtdmbahpifbidlaaMkI
import Derived.OneCell
namespace Go.Proofs.Ytdmbahpifbidlaa
open Go.RowKit
set_option linter.unusedVariables false

/-- A variable of the program's type stack, that has its address taken. -/
def VarAt (B : Nat) (w : World) (v : Value) : Prop := w.heap[B]? = some (.cells #[v] 84 (0, 0))
theorem VarAt.lt {B : Nat} {w : World} {v : Value} (h : VarAt B w v) : B < w.heap.size := free_lt h
theorem VarAt.cell {B : Nat} {w : World} {v : Value} (h : VarAt B w v) : w.cell? ⟨B, 0, none⟩ = some v := by
  unfold VarAt at h
  simp [World.cell?, h]
theorem VarAt.frozen {B : Nat} {w : World} {v : Value} (h : VarAt B w v) : w.frozen? ⟨B, 0, none⟩ = false := by
  unfold VarAt at h
  simp [World.frozen?, h]
theorem VarAt.set {B : Nat} {w : World} {v : Value} (h : VarAt B w v) (u : Value) : VarAt B (w.setCell ⟨B, 0, none⟩ u) u := by
  unfold VarAt at h ⊢
  exact Joins.block_setCell h _
theorem VarAt.ne {B K : Nat} {w : World} {v u : Value} {n : Nat} {xs : List Value} (h : VarAt B w v) (own : w.ownsRow K 3 1 u n xs) : ∀ k, u.ownBlock = some k → k ≠ B := by
  intro k hk e
  subst e
  rcases own.2 with ⟨rfl, _⟩ | ⟨g, cap, cur, rfl, _, hg, _⟩
  · simp [Value.ownBlock] at hk
  · have e : g = k := by simpa [Value.ownBlock] using hk
    subst e
    unfold VarAt at h
    rw [h] at hg
    simp at hg
theorem VarAt.keep {B : Nat} {w w' : World} {v : Value} (h : VarAt B w v) (hb : Below w.heap.size w w') : VarAt B w' v := by
  have := h.lt
  unfold VarAt at h ⊢
  rw [hb.block B this]; exact h
theorem VarAt.new {w : World} (v u : Value) : VarAt w.heap.size ((w.alloc (.cells #[v] 84)).setCell ⟨w.heap.size, 0, none⟩ u) u := VarAt.set (v := v) (heap_alloc_new _ _) u

theorem varAt_grown {B : Nat} {w w5 : World} {v u : Value} {o : Obj} (hg : (w.alloc o).grownBy w5 u.ownBlock) (h : VarAt B w v) (hne : ∀ k, u.ownBlock = some k → k ≠ B) : VarAt B w5 v := by
  have hlt := h.lt
  unfold VarAt at h ⊢
  rw [hg.block B (by simp; omega) (fun e => hne B e.symm rfl), Go.heap_alloc_old w o hlt]
  exact h

set_option maxHeartbeats 1000000 in
theorem stackPut_ptr (B K : Nat) (v : Value) (l : List Int) (id : Int) (w : World) (hKB : K ≤ B) (hlen : l.length ≤ 1048577)
    (hB : VarAt B w v) (own : w.ownsRow K 3 1 v l.length (rowI l)) :
    Calls Try.prog 82 #[.pointer (some ⟨B, 0, none⟩), .int .i64 id] w
      fun e w' => e = .returned (.tuple #[]) ∧ (∃ v', VarAt B w' v' ∧ w'.ownsRow K 3 1 v' (l ++ [id]).length (rowI (l ++ [id]))) ∧ Below K w w' := by
  obtain ⟨i0, hi, hz0, hz1, hz2⟩ := info_parts infoInt
  have hlt := hB.lt
  have hne := hB.ne own
  have c0 := hB.cell
  have HB := Lib.hid hB
  clear hB
  go_enter Try.func82, Try.ntmps82
  go_wp2_with (at_builtin; refine wpList_append_own _ rfl _ _ 84 rfl K 3 i0 (.int .i64 0) 1 8 Try.underlying84 hi hz0 hz1 hz2 rfl (by decide) v l.length (rowI l) rfl (own.alloc _) ⟨w.heap.size, 0, none⟩ 1 1 [.int .i64 id] rfl rfl (fun j u hu => cells_new j u hu) (by simp [Value.oneCell']) (by unfold maxLen; omega) (by omega) (by simp; omega) ?_; intro v5 w5 hown5 hgrow _; obtain ⟨g5, cap5, rfl, -, -⟩ := own_form hown5 (by omega); have hv5 : VarAt B w5 v := varAt_grown hgrow HB.out hne; have c5 := hv5.cell; have f5 := hv5.frozen)
  have hb5 : Below K w w5 := ((Below.refl K w).alloc (by omega) (.cells #[.int .i64 id] 3)).trans (own_below (v := v) hgrow (by simp; omega) (fun k hk => (own_lt own k hk).1))
  have hown6 := own_put (l := l) hown5
  have HV5 := Lib.hid hv5
  have HO6 := Lib.hid hown6
  have HB5 := Lib.hid hb5
  have HN6 := Lib.hid (hv5.ne hown6)
  clear hown5 hgrow hv5 hown6 own hb5 hne
  refine bodyPost_end (v := .tuple #[]) (by simp [results, Try.results82, go_sem]) rfl ?_
  exact ⟨rfl, ⟨_, HV5.out.set _, ownsRow_setCell_other HO6.out (fun e => HN6.out _ e rfl) _⟩, HB5.out.setCell hKB _⟩

set_option maxHeartbeats 1000000 in
theorem stackTake_none (B : Nat) (a : Option Addr) (cap : Nat) (w : World) (hB : VarAt B w (.slice a 0 cap)) :
    Calls Try.prog 83 #[.pointer (some ⟨B, 0, none⟩)] w
      fun e w' => e = .returned (.tuple #[.int .i64 0, .bool false]) ∧ w = w' := by
  have c0 := hB.cell
  clear hB
  go_enter Try.func83, Try.ntmps83
  go_wp2_with fail
  go_ret2
  exact ⟨rfl, rfl⟩

set_option maxHeartbeats 1000000 in
theorem stackTake_some (B b n cap : Nat) (x : Int) (w : World) (hn : n + 1 ≤ cap) (hc : cap ≤ 9223372036854775807) (hB : VarAt B w (.slice (some ⟨b, 0, none⟩) (n + 1) cap)) (s0 : w.cell? ⟨b, n, none⟩ = some (.int .i64 x)) :
    Calls Try.prog 83 #[.pointer (some ⟨B, 0, none⟩)] w
      fun e w' => e = .returned (.tuple #[.int .i64 x, .bool true]) ∧ w' = w.setCell ⟨B, 0, none⟩ (.slice (some ⟨b, 0, none⟩) n cap) := by
  have c0 := hB.cell
  have f0 := hB.frozen
  clear hB
  have i0 : ((n : Int) + 1 - 1) = (n : Int) := by omega
  have i1 : (0 : Int) ≤ (n : Int) := by omega
  have i2 : (n : Int) < (n : Int) + 1 := by omega
  have i3 : (n : Int) ≤ (cap : Int) := by omega
  have i4 : ¬ (n : Int) < 0 := by omega
  go_enter Try.func83, Try.ntmps83
  go_wp2_with fail
  go_ret2
  exact ⟨rfl, rfl⟩
end Go.Proofs.Ytdmbahpifbidlaa
