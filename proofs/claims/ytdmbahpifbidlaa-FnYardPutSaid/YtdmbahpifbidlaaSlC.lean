/-
  The contract of the library's slices.Clone on slices of numbers.
-/
import Derived.Test.YtdmbahpifbidlaaSxI
import Derived.Lib.SliceRun
import Derived.WalkSpells
namespace Go.Proofs.Ytdmbahpifbidlaa
open Go.RowKit
set_option linter.unusedVariables false

/-- A copy that is the call's own. -/
def CloneGives (l : List Int) (w : World) (e : Ending) (w' : World) : Prop :=
  ∃ v, e = .returned v ∧ w'.ownsRow w.heap.size 3 1 v l.length (rowI l) ∧ Below w.heap.size w w'

theorem slClone_none (l : List Int) (n cap : Nat) (w : World) (hl : l = []) (hn : n = 0) :
    Calls Try.prog 81 #[.slice none n cap] w (CloneGives l w) := by
  subst hl hn
  have qN : ∀ (w : World) (a : Option Addr) (n c : Nat), (binOp .eql 28 (.slice a n c) (.slice none 0 0)).run Try.prog w = .ok (.bool a.isNone) w := fun w a n c => Lib.run_eql_slice_nil w _ _ a n c 0 0 Try.underlying28
  go_enter Try.func81, Try.ntmps81
  go_wp2_with fail
  go_ret
  exact ⟨_, rfl, ⟨by simp [rowI], .inl ⟨rfl, rfl⟩⟩, Below.refl _ _⟩

set_option maxHeartbeats 1000000 in
theorem slClone_some (x : Addr) (l : List Int) (cap : Nat) (w : World) (h : HoldsI w (.slice (some x) l.length cap) l) (hlen : l.length ≤ 1048577) :
    Calls Try.prog 81 #[.slice (some x) l.length cap] w (CloneGives l w) := by
  obtain ⟨i0, hi, hz0, hz1, hz2⟩ := info_parts infoInt
  have HH := Lib.hid (h.keep ((Below.refl _ _).alloc (Nat.le_refl _) (.cells #[] 3)))
  have own2 : (w.alloc (.cells #[] 3)).ownsRow w.heap.size 3 1 (.slice (some ⟨w.heap.size, 0, none⟩) 0 0) 0 [] := own_empty (Nat.le_refl _) (heap_alloc_new _ _)
  clear h
  have qN : ∀ (w : World) (a : Option Addr) (n c : Nat), (binOp .eql 28 (.slice a n c) (.slice none 0 0)).run Try.prog w = .ok (.bool a.isNone) w := fun w a n c => Lib.run_eql_slice_nil w _ _ a n c 0 0 Try.underlying28
  go_enter Try.func81, Try.ntmps81
  go_wp2_with (at_builtin; refine wpList_append_own _ rfl _ _ 28 rfl w.heap.size 3 i0 (.int .i64 0) 1 8 Try.underlying28 hi hz0 hz1 hz2 rfl (by decide) _ 0 [] rfl own2 x l.length cap (rowI l) rfl (by rw [rowI_len, Nat.mul_one]) (fun j u hu => HoldsI.rowA HH.out j u hu) (rowI_one l) (by unfold maxLen; omega) (by omega) (by simp) ?_; intro v4 w4 hown4 hgrow4 _)
  simp only [Nat.zero_add, List.nil_append] at hown4
  have hb4 : Below w.heap.size w w4 := ((Below.refl w.heap.size w).alloc (Nat.le_refl _) (.cells #[] 3)).trans (own_below (v := .slice (some ⟨w.heap.size, 0, none⟩) 0 0) hgrow4 (by simp) (fun k hk => (own_lt own2 k hk).1))
  go_ret
  exact ⟨_, rfl, hown4, hb4⟩

theorem slClone_any (v : Value) (l : List Int) (w : World) (h : HoldsI w v l) (hlen : l.length ≤ 1048577) :
    Calls Try.prog 81 #[v] w (CloneGives l w) := by
  have h0 := h
  obtain ⟨a, cap, rfl, h2, h3, h4⟩ := h
  rcases a with _ | x
  · rcases h4 with h4 | ⟨b, off, h5, _⟩
    · exact slClone_none l _ _ w (List.eq_nil_of_length_eq_zero h4) h4
    · cases h5
  · exact slClone_some x l cap w h0 hlen
end Go.Proofs.Ytdmbahpifbidlaa
