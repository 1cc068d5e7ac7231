/-
  The contract of the program's idValid.
  Contracts of the library's slices.Index, slices.Contains and slices.Clone on slices of numbers.
  The contract of the program's StackValid.
  The contract of the library's slices.Clone on slices of numbers.
  Contracts of the program's methods put and take on a stack of numbers.
  The contract of the program's StackPut.
  The contract of the program's StackTake.
-/
import Derived.Test.YtmgnbkiphdlooabRows
import Derived.WalkKit
import Derived.Lib.Hide
import Derived.Test.YtmgnbkiphdlooabGBase
import Derived.Laws.AppendOwnNone
import Derived.Lib.SliceRun
import Derived.WalkSpells
import Derived.OneCell
namespace Go.Proofs.Ytmgnbkiphdlooab
open Go.RowKit
set_option linter.unusedVariables false

theorem ret_bool {a b : Bool} (h : a = b) : Ending.returned (.bool a) = Ending.returned (.bool b) := by rw [h]

theorem implIdValid_yes (n : Int) (w : World) (h : 1 ≤ n ∧ n ≤ 999) :
    Calls Try.prog 99 #[.int .i64 n] w fun e w' => e = .returned (.bool true) ∧ w = w' := by
  obtain ⟨h1, h2⟩ := h
  go_enter Try.func99, Try.ntmps99
  go_wp2
  go_ret
  exact ⟨rfl, rfl⟩
theorem implIdValid_no (n : Int) (w : World) (h : ¬ (1 ≤ n ∧ n ≤ 999)) :
    Calls Try.prog 99 #[.int .i64 n] w fun e w' => e = .returned (.bool false) ∧ w = w' := by
  by_cases h1 : 1 ≤ n
  · have h2 : decide (n ≤ 999) = false := decide_eq_false (by omega)
    clear h
    go_enter Try.func99, Try.ntmps99
    go_wp2
    go_ret
    exact ⟨rfl, rfl⟩
  · have h2 : decide (1 ≤ n) = false := decide_eq_false h1
    clear h h1
    go_enter Try.func99, Try.ntmps99
    go_wp2
    go_ret
    exact ⟨rfl, rfl⟩
end Go.Proofs.Ytmgnbkiphdlooab
namespace Go.Proofs.Ytmgnbkiphdlooab
open Go.RowKit
set_option linter.unusedVariables false

/-- Where a number first stands, -1 if it does not. -/
def idxI (l : List Int) (n : Int) : Int := match firstI l n with | some k => (k : Int) | none => -1
theorem idxI_hit {l : List Int} {n : Int} {k : Nat} (hk : k < l.length) (hn : ∀ j (hj : j < l.length), j < k → l[j] ≠ n) (h : l[k] = n) : idxI l n = (k : Int) := by
  unfold idxI; rw [firstI_hit l n k hk hn h]
theorem idxI_none {l : List Int} {n : Int} (hn : ∀ j (hj : j < l.length), l[j] ≠ n) : idxI l n = -1 := by
  unfold idxI; rw [firstI_none l n hn]
theorem firstI_mem {n : Int} : ∀ {l : List Int}, n ∈ l → firstI l n ≠ none
  | a :: t, hm => by
    rw [firstI]
    by_cases ha : a = n
    · rw [if_pos ha]; simp
    · rw [if_neg ha]
      intro hc
      rw [Option.map_eq_none_iff] at hc
      rcases List.mem_cons.1 hm with h | h
      · exact ha h.symm
      · exact firstI_mem h hc
theorem idxI_has (l : List Int) (n : Int) : decide (0 ≤ idxI l n) = hasI l n := by
  cases h : firstI l n with
  | none =>
    have e : idxI l n = -1 := by unfold idxI; rw [h]
    rw [e]
    exact (hasI_no fun k hk he => firstI_mem (he ▸ List.getElem_mem hk) h).symm
  | some k =>
    obtain ⟨hk, he⟩ := firstI_some l n k h
    have e : idxI l n = (k : Int) := by unfold idxI; rw [h]
    rw [e, hasI_yes hk he]
    exact decide_eq_true (by omega)

set_option maxHeartbeats 400000 in
theorem slIndex_any (v : Value) (l : List Int) (n : Int) (w : World) (h : HoldsI w v l) :
    Calls Try.prog 91 #[v, .int .i64 n] w fun e w' => e = .returned (.int .i64 (idxI l n)) ∧ w = w' := by
  obtain ⟨a, cap, rfl, h2, h3, h4⟩ := h
  have hm : l.length ≤ 9223372036854775807 := by unfold maxLen at h3; omega
  obtain ⟨m, hn⟩ : ∃ m, m = l.length := ⟨_, rfl⟩
  have HN := Lib.hid hn.symm
  rw [← hn]
  have hm' : m ≤ 9223372036854775807 := by omega
  have H4 := Lib.hid h4
  clear hn h2 h3 h4 hm
  go_enter Try.func91, Try.ntmps91
  go_wp2_with fail
  go_loop [8] (fun i => ∃ k : Nat, k ≤ m ∧ i = .int .i64 k ∧ Hid (∀ j (hj : j < l.length), j < k → l[j] ≠ n)) (fun i => m - (intOf i).toNat)
  case atStart => exact ⟨0, by omega, rfl, Lib.hid fun j _ hj => by omega⟩
  case round =>
    obtain ⟨k, hk, rfl, HF⟩ := hrel
    by_cases hlt : k < m
    · rcases H4.out with h4 | ⟨b, off, rfl, h6, h7⟩
      · have := HN.out; omega
      · have hkl : k < l.length := by rw [HN.out]; exact hlt
        have s0 : w.cell? ⟨b, off + k, none⟩ = some (.int .i64 l[k]) := h7 k hkl
        have H7 := Lib.hid h7
        clear h7
        by_cases he : l[k] = n
        · have b1 : (n == l[k]) = true := by rw [beq_iff_eq]; exact he.symm
          have hr := Lib.hid (idxI_hit hkl HF.out he)
          clear he
          go_wp2_with fail
          go_ret
          exact ⟨by rw [hr.out]; rfl, rfl⟩
        · have b1 : (n == l[k]) = false := by rw [beq_eq_false_iff_ne]; exact fun e => he e.symm
          have HE := Lib.hid he
          clear he
          go_wp2_with fail
          go_round
          case rel => exact ⟨k + 1, by omega, by go_num, Lib.hid fun j hj hjk => by
            by_cases e : j = k
            · subst e; exact HE.out
            · exact HF.out j hj (by omega)⟩
          case measure => simp [intOf]; omega
    · have hr := Lib.hid (idxI_none fun j hj => HF.out j hj (by rw [HN.out] at hj; omega))
      go_wp2_with fail
      go_ret
      exact ⟨by rw [hr.out]; rfl, rfl⟩

theorem slContains_any (v : Value) (l : List Int) (n : Int) (w : World) (h : HoldsI w v l) :
    Calls Try.prog 70 #[v, .int .i64 n] w fun e w' => e = .returned (.bool (hasI l n)) ∧ w = w' := by
  have HI := Lib.hid (slIndex_any v l n w h)
  have HE := Lib.hid (idxI_has l n)
  clear h
  generalize idxI l n = x at HI HE
  go_enter Try.func70, Try.ntmps70
  go_wp2_with fail
  refine HI.out.mono ?_
  rintro e w' ⟨rfl, rfl⟩
  go_wp2_with fail
  go_ret
  exact ⟨by rw [← HE.out]; rfl, rfl⟩
end Go.Proofs.Ytmgnbkiphdlooab
namespace Go.Proofs.Ytmgnbkiphdlooab
open Go.RowKit
set_option linter.unusedVariables false

end Go.Proofs.Ytmgnbkiphdlooab
namespace Go.Proofs.Ytmgnbkiphdlooab
open Go.RowKit
set_option linter.unusedVariables false

/-- A copy that is the call's own. -/
def CloneGives (l : List Int) (w : World) (e : Ending) (w' : World) : Prop :=
  ∃ v, e = .returned v ∧ w'.ownsRow w.heap.size 3 1 v l.length (rowI l) ∧ Below w.heap.size w w'

theorem slClone_none (l : List Int) (n cap : Nat) (w : World) (hl : l = []) (hn : n = 0) :
    Calls Try.prog 52 #[.slice none n cap] w (CloneGives l w) := by
  subst hl hn
  have qN : ∀ (w : World) (a : Option Addr) (n c : Nat), (binOp .eql 26 (.slice a n c) (.slice none 0 0)).run Try.prog w = .ok (.bool a.isNone) w := fun w a n c => Lib.run_eql_slice_nil w _ _ a n c 0 0 Try.underlying26
  go_enter Try.func52, Try.ntmps52
  go_wp2_with fail
  go_ret
  exact ⟨_, rfl, ⟨by simp [rowI], .inl ⟨rfl, rfl⟩⟩, Below.refl _ _⟩

set_option maxHeartbeats 1000000 in
theorem slClone_some (x : Addr) (l : List Int) (cap : Nat) (w : World) (h : HoldsI w (.slice (some x) l.length cap) l) (hlen : l.length ≤ 1048577) :
    Calls Try.prog 52 #[.slice (some x) l.length cap] w (CloneGives l w) := by
  obtain ⟨i0, hi, hz0, hz1, hz2⟩ := info_parts infoInt
  have HH := Lib.hid (h.keep ((Below.refl _ _).alloc (Nat.le_refl _) (.cells #[] 3)))
  have own2 : (w.alloc (.cells #[] 3)).ownsRow w.heap.size 3 1 (.slice (some ⟨w.heap.size, 0, none⟩) 0 0) 0 [] := own_empty (Nat.le_refl _) (heap_alloc_new _ _)
  clear h
  have qN : ∀ (w : World) (a : Option Addr) (n c : Nat), (binOp .eql 26 (.slice a n c) (.slice none 0 0)).run Try.prog w = .ok (.bool a.isNone) w := fun w a n c => Lib.run_eql_slice_nil w _ _ a n c 0 0 Try.underlying26
  go_enter Try.func52, Try.ntmps52
  go_wp2_with (at_builtin; refine wpList_append_own _ rfl _ _ 26 rfl w.heap.size 3 i0 (.int .i64 0) 1 8 Try.underlying26 hi hz0 hz1 hz2 rfl (by decide) _ 0 [] rfl own2 x l.length cap (rowI l) rfl (by rw [rowI_len, Nat.mul_one]) (fun j u hu => HoldsI.rowA HH.out j u hu) (rowI_one l) (by unfold maxLen; omega) (by omega) (by simp) ?_; intro v4 w4 hown4 hgrow4 _)
  simp only [Nat.zero_add, List.nil_append] at hown4
  have hb4 : Below w.heap.size w w4 := ((Below.refl w.heap.size w).alloc (Nat.le_refl _) (.cells #[] 3)).trans (own_below (v := .slice (some ⟨w.heap.size, 0, none⟩) 0 0) hgrow4 (by simp) (fun k hk => (own_lt own2 k hk).1))
  go_ret
  exact ⟨_, rfl, hown4, hb4⟩

theorem slClone_any (v : Value) (l : List Int) (w : World) (h : HoldsI w v l) (hlen : l.length ≤ 1048577) :
    Calls Try.prog 52 #[v] w (CloneGives l w) := by
  have h0 := h
  obtain ⟨a, cap, rfl, h2, h3, h4⟩ := h
  rcases a with _ | x
  · rcases h4 with h4 | ⟨b, off, h5, _⟩
    · exact slClone_none l _ _ w (List.eq_nil_of_length_eq_zero h4) h4
    · cases h5
  · exact slClone_some x l cap w h0 hlen
end Go.Proofs.Ytmgnbkiphdlooab
namespace Go.Proofs.Ytmgnbkiphdlooab
open Go.RowKit
set_option linter.unusedVariables false

end Go.Proofs.Ytmgnbkiphdlooab
namespace Go.Proofs.Ytmgnbkiphdlooab
open Go.RowKit
set_option linter.unusedVariables false

/-- What the program's StackPut gives: memory of the call's own, that can be written. -/
def PutGivesF (l : List Int) (high id : Int) (w : World) (e : Ending) (w' : World) : Prop :=
  ∃ v, e = .returned (.tuple #[v, .bool (putS l high id).2]) ∧ FreeE w.heap.size w' v (putS l high id).1 ∧ Below w.heap.size w w'
theorem putS_len {l : List Int} {high id : Int} (h : l.length ≤ 1048576) : (putS l high id).1.length ≤ 1048577 := by
  unfold putS
  split
  · split
    · simp; omega
    · simp; omega
  · simp

end Go.Proofs.Ytmgnbkiphdlooab
namespace Go.Proofs.Ytmgnbkiphdlooab
open Go.RowKit
set_option linter.unusedVariables false

/-- What the program's StackTake gives: memory of the call's own, that can be written. -/
def TakeGivesF (l : List Int) (high : Int) (w : World) (e : Ending) (w' : World) : Prop :=
  ∃ v, e = .returned (.tuple #[v, .int .i64 (takeS l high).2]) ∧ FreeE w.heap.size w' v (takeS l high).1 ∧ Below w.heap.size w w'
theorem takeS_len {l : List Int} {high : Int} : (takeS l high).1.length ≤ l.length := by
  unfold takeS
  split
  · simp only [List.length_take]; omega
  · simp
theorem FreeAt.setOther {g B : Nat} {w : World} {v : Value} {l : List Int} (h : FreeAt g w v l) (hne : g ≠ B) (o : Nat) (u : Value) : FreeAt g (w.setCell ⟨B, o, none⟩ u) v l := by
  obtain ⟨cap, h1, h3, h4, h5, cur, T, h6, h7⟩ := h
  exact ⟨cap, h1, by simpa [World.setCell] using h3, h4, h5, cur, T, by rw [Below.heap_setCell _ _ _ _ hne]; exact h6, h7⟩

theorem FreeE.setOther {K B : Nat} {w : World} {v : Value} {l : List Int} (h : FreeE K w v l) (hne : ∀ k, v.ownBlock = some k → k ≠ B) (o : Nat) (u : Value) : FreeE K (w.setCell ⟨B, o, none⟩ u) v l := by
  rcases h with h | ⟨g, hg, h⟩
  · exact .inl h
  · have h1 : v.ownBlock = some g := by obtain ⟨cap, rfl, _⟩ := h; rfl
    exact .inr ⟨g, hg, h.setOther (hne g h1) o u⟩

end Go.Proofs.Ytmgnbkiphdlooab
