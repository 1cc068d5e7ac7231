/-
  The contract of the program's idValid.
  Contracts of the library's slices.Index, slices.Contains and slices.Clone on slices of numbers.
  The contract of the program's StackValid.
  The contract of the library's slices.Clone on slices of numbers.
  Contracts of the program's methods put and take on a stack of numbers.
  The contract of the program's StackPut.
  The contract of the program's StackTake.
-/
import Derived.Test.YtlcfldmiibjboabRows
import Derived.WalkKit
import Derived.Lib.Hide
import Derived.Test.YtlcfldmiibjboabGBase
import Derived.Laws.AppendOwnNone
import Derived.Lib.SliceRun
import Derived.WalkSpells
import Derived.OneCell
namespace Go.Proofs.Ytlcfldmiibjboab
open Go.RowKit
set_option linter.unusedVariables false

theorem ret_bool {a b : Bool} (h : a = b) : Ending.returned (.bool a) = Ending.returned (.bool b) := by rw [h]

theorem implIdValid_yes (n : Int) (w : World) (h : 1 ≤ n ∧ n ≤ 999) :
    Calls Try.prog 51 #[.int .i64 n] w fun e w' => e = .returned (.bool true) ∧ w = w' := by
  obtain ⟨h1, h2⟩ := h
  go_enter Try.func51, Try.ntmps51
  go_wp2
  go_ret
  exact ⟨rfl, rfl⟩
theorem implIdValid_no (n : Int) (w : World) (h : ¬ (1 ≤ n ∧ n ≤ 999)) :
    Calls Try.prog 51 #[.int .i64 n] w fun e w' => e = .returned (.bool false) ∧ w = w' := by
  by_cases h1 : 1 ≤ n
  · have h2 : decide (n ≤ 999) = false := decide_eq_false (by omega)
    clear h
    go_enter Try.func51, Try.ntmps51
    go_wp2
    go_ret
    exact ⟨rfl, rfl⟩
  · have h2 : decide (1 ≤ n) = false := decide_eq_false h1
    clear h h1
    go_enter Try.func51, Try.ntmps51
    go_wp2
    go_ret
    exact ⟨rfl, rfl⟩
end Go.Proofs.Ytlcfldmiibjboab
namespace Go.Proofs.Ytlcfldmiibjboab
open Go.RowKit
set_option linter.unusedVariables false

/-- Where a number first stands, -1 if it does not. -/
def idxI (l : List Int) (n : Int) : Int := match firstI l n with | some k => (k : Int) | none => -1
theorem idxI_hit {l : List Int} {n : Int} {k : Nat} (hk : k < l.length) (hn : ∀ j (hj : j < l.length), j < k → l[j] ≠ n) (h : l[k] = n) : idxI l n = (k : Int) := by
  unfold idxI; rw [firstI_hit l n k hk hn h]
theorem idxI_none {l : List Int} {n : Int} (hn : ∀ j (hj : j < l.length), l[j] ≠ n) : idxI l n = -1 := by
  unfold idxI; rw [firstI_none l n hn]
theorem firstI_mem {n : Int} : ∀ {l : List Int}, n ∈ l → firstI l n ≠ none
  | a :: t, hm => by
    rw [firstI]
    by_cases ha : a = n
    · rw [if_pos ha]; simp
    · rw [if_neg ha]
      intro hc
      rw [Option.map_eq_none_iff] at hc
      rcases List.mem_cons.1 hm with h | h
      · exact ha h.symm
      · exact firstI_mem h hc
theorem idxI_has (l : List Int) (n : Int) : decide (0 ≤ idxI l n) = hasI l n := by
  cases h : firstI l n with
  | none =>
    have e : idxI l n = -1 := by unfold idxI; rw [h]
    rw [e]
    exact (hasI_no fun k hk he => firstI_mem (he ▸ List.getElem_mem hk) h).symm
  | some k =>
    obtain ⟨hk, he⟩ := firstI_some l n k h
    have e : idxI l n = (k : Int) := by unfold idxI; rw [h]
    rw [e, hasI_yes hk he]
    exact decide_eq_true (by omega)

set_option maxHeartbeats 400000 in
theorem slIndex_any (v : Value) (l : List Int) (n : Int) (w : World) (h : HoldsI w v l) :
    Calls Try.prog 45 #[v, .int .i64 n] w fun e w' => e = .returned (.int .i64 (idxI l n)) ∧ w = w' := by
  obtain ⟨a, cap, rfl, h2, h3, h4⟩ := h
  have hm : l.length ≤ 9223372036854775807 := by unfold maxLen at h3; omega
  obtain ⟨m, hn⟩ : ∃ m, m = l.length := ⟨_, rfl⟩
  have HN := Lib.hid hn.symm
  rw [← hn]
  have hm' : m ≤ 9223372036854775807 := by omega
  have H4 := Lib.hid h4
  clear hn h2 h3 h4 hm
  go_enter Try.func45, Try.ntmps45
  go_wp2_with fail
  go_loop [8] (fun i => ∃ k : Nat, k ≤ m ∧ i = .int .i64 k ∧ Hid (∀ j (hj : j < l.length), j < k → l[j] ≠ n)) (fun i => m - (intOf i).toNat)
  case atStart => exact ⟨0, by omega, rfl, Lib.hid fun j _ hj => by omega⟩
  case round =>
    obtain ⟨k, hk, rfl, HF⟩ := hrel
    by_cases hlt : k < m
    · rcases H4.out with h4 | ⟨b, off, rfl, h6, h7⟩
      · have := HN.out; omega
      · have hkl : k < l.length := by rw [HN.out]; exact hlt
        have s0 : w.cell? ⟨b, off + k, none⟩ = some (.int .i64 l[k]) := h7 k hkl
        have H7 := Lib.hid h7
        clear h7
        by_cases he : l[k] = n
        · have b1 : (n == l[k]) = true := by rw [beq_iff_eq]; exact he.symm
          have hr := Lib.hid (idxI_hit hkl HF.out he)
          clear he
          go_wp2_with fail
          go_ret
          exact ⟨by rw [hr.out]; rfl, rfl⟩
        · have b1 : (n == l[k]) = false := by rw [beq_eq_false_iff_ne]; exact fun e => he e.symm
          have HE := Lib.hid he
          clear he
          go_wp2_with fail
          go_round
          case rel => exact ⟨k + 1, by omega, by go_num, Lib.hid fun j hj hjk => by
            by_cases e : j = k
            · subst e; exact HE.out
            · exact HF.out j hj (by omega)⟩
          case measure => simp [intOf]; omega
    · have hr := Lib.hid (idxI_none fun j hj => HF.out j hj (by rw [HN.out] at hj; omega))
      go_wp2_with fail
      go_ret
      exact ⟨by rw [hr.out]; rfl, rfl⟩

theorem slContains_any (v : Value) (l : List Int) (n : Int) (w : World) (h : HoldsI w v l) :
    Calls Try.prog 33 #[v, .int .i64 n] w fun e w' => e = .returned (.bool (hasI l n)) ∧ w = w' := by
  have HI := Lib.hid (slIndex_any v l n w h)
  have HE := Lib.hid (idxI_has l n)
  clear h
  generalize idxI l n = x at HI HE
  go_enter Try.func33, Try.ntmps33
  go_wp2_with fail
  refine HI.out.mono ?_
  rintro e w' ⟨rfl, rfl⟩
  go_wp2_with fail
  go_ret
  exact ⟨by rw [← HE.out]; rfl, rfl⟩
end Go.Proofs.Ytlcfldmiibjboab
namespace Go.Proofs.Ytlcfldmiibjboab
open Go.RowKit
set_option linter.unusedVariables false

set_option maxHeartbeats 1000000 in
theorem implStackValid_any (v : Value) (l : List Int) (high : Int) (w : World) (h : HoldsI w v l) :
    Calls Try.prog 42 #[v, .int .i64 high] w fun e w' => e = .returned (.bool (stOk l high)) ∧ Below w.heap.size w w' := by
  have HH := Lib.hid h
  obtain ⟨a, cap, rfl, h2, h3, h4⟩ := h
  have hm : l.length ≤ 9223372036854775807 := by unfold maxLen at h3; omega
  have hcap : l.length ≤ cap := h2
  have hcap2 : cap ≤ 9223372036854775807 := by unfold maxLen at h3; omega
  have HT := Lib.hid fun (k : Nat) (hk : k ≤ l.length) n w' (hb : Below w.heap.size w w') => slContains_any (.slice a k cap) (l.take k) n w' ((HoldsI.take k hk HH.out).keep hb)
  obtain ⟨n, hn⟩ : ∃ n, n = l.length := ⟨_, rfl⟩
  have HN := Lib.hid hn.symm
  rw [← hn] at HH hcap HT ⊢
  have hm' : n ≤ 9223372036854775807 := by omega
  have H4 := Lib.hid h4
  have HNO := Lib.hid fun (h : ¬ (1 ≤ high ∧ high ≤ 5 ∧ (n : Int) ≤ high)) => (show stOk l high = false by
    cases hc : stOk l high
    · rfl
    · exact absurd (stOk_iff.1 hc).2.2 (by rw [HN.out]; exact h))
  clear hn h2 h3 h4 hm HH
  by_cases hh : 1 ≤ high ∧ high ≤ 5 ∧ (n : Int) ≤ high
  · obtain ⟨hh1, hh2, hh3⟩ := hh
    have c1 : ¬ high < 1 := by omega
    have c2 : ¬ 5 < high := by omega
    have c3 : ¬ high < (n : Int) := by omega
    have HHI := Lib.hid (And.intro hh1 (And.intro hh2 hh3))
    clear hh1 hh2 hh3
    go_enter Try.func42, Try.ntmps42
    go_wp2_with fail
    go_loopw [21] (fun i wr => ∃ k : Nat, k ≤ n ∧ i = .int .i64 k ∧ Hid (∀ j, j < k → stAt l j = true) ∧ Below w.heap.size w wr) (fun i _ => n - (intOf i).toNat)
    case atStart => exact ⟨0, by omega, rfl, Lib.hid fun j hj => by omega, Below.refl _ _⟩
    case round =>
      obtain ⟨k, hk, rfl, HA, hbr⟩ := hrel
      have HBR := Lib.hid hbr
      by_cases hlt : k < n
      · have hkl : k < l.length := by rw [HN.out]; exact hlt
        rcases H4.out with h4 | ⟨b, off, rfl, h6, h7⟩
        · have := HN.out; omega
        · have s0 : wr.cell? ⟨b, off + k, none⟩ = some (.int .i64 l[k]) := (hbr.cell (p := ⟨b, off + k, none⟩) h6).trans (h7 k hkl)
          have hat : stAt l k = (decide (1 ≤ l[k] ∧ l[k] ≤ 999) && !hasI (l.take k) l[k]) := by unfold stAt; rw [getD_i hkl]
          have HTk := Lib.hid fun w' h => HT.out k (by omega) l[k] w' h
          have HBAD := Lib.hid (fun h => stOk_at (high := high) hkl h)
          have H7 := Lib.hid h7
          have ik : (0 : Int) ≤ (k : Int) := by omega
          have ikn : (k : Int) ≤ (cap : Int) := by omega
          have ikm : (k : Int) < (n : Int) := by omega
          clear h7 hbr
          generalize l[k] = x at s0 hat HTk
          by_cases hin : 1 ≤ x ∧ x ≤ 999
          · rw [decide_eq_true hin] at hat
            have HY := Lib.hid fun w => implIdValid_yes x w hin
            clear hin
            generalize hasI (l.take k) x = has at hat HTk
            cases has
            · have hr := Lib.hid (show stAt l k = true from hat)
              clear hat
              go_wp2_with fail
              refine (HY.out _).mono ?_
              rintro e w' ⟨rfl, rfl⟩
              go_wp2_with fail
              refine (HTk.out _ HBR.out).mono ?_
              rintro e w' ⟨rfl, rfl⟩
              go_wp2_with fail
              go_roundw
              case rel => exact ⟨k + 1, by omega, by go_num, Lib.hid fun j hj => by
                by_cases e : j = k
                · subst e; exact hr.out
                · exact HA.out j (by omega), HBR.out⟩
              case measure => simp [intOf]; omega
            · have hr := Lib.hid (HBAD.out hat)
              clear hat
              go_wp2_with fail
              refine (HY.out _).mono ?_
              rintro e w' ⟨rfl, rfl⟩
              go_wp2_with fail
              refine (HTk.out _ HBR.out).mono ?_
              rintro e w' ⟨rfl, rfl⟩
              go_wp2_with fail
              go_ret
              exact ⟨by rw [hr.out]; rfl, HBR.out⟩
          · rw [decide_eq_false hin, Bool.false_and] at hat
            have hr := Lib.hid (HBAD.out hat)
            have HY := Lib.hid fun w => implIdValid_no x w hin
            clear hat hin
            go_wp2_with fail
            refine (HY.out _).mono ?_
            rintro e w' ⟨rfl, rfl⟩
            go_wp2_with fail
            go_ret
            exact ⟨by rw [hr.out]; rfl, HBR.out⟩
      · have hr := Lib.hid ((stOk_end (high := high) fun j hj => HA.out j (by rw [HN.out] at hj; omega)).trans (decide_eq_true (by rw [HN.out]; exact HHI.out)))
        go_wp2_with fail
        go_ret
        exact ⟨by rw [hr.out]; rfl, hbr⟩
  · have hr := Lib.hid (HNO.out hh)
    by_cases c1 : high < 1
    · clear hh
      go_enter Try.func42, Try.ntmps42
      go_wp2_with fail
      go_ret
      exact ⟨by rw [hr.out]; rfl, Below.refl _ _⟩
    · by_cases c2 : 5 < high
      · clear hh
        go_enter Try.func42, Try.ntmps42
        go_wp2_with fail
        go_ret
        exact ⟨by rw [hr.out]; rfl, Below.refl _ _⟩
      · have c3 : high < (n : Int) := by omega
        clear hh
        go_enter Try.func42, Try.ntmps42
        go_wp2_with fail
        go_ret
        exact ⟨by rw [hr.out]; rfl, Below.refl _ _⟩
end Go.Proofs.Ytlcfldmiibjboab
namespace Go.Proofs.Ytlcfldmiibjboab
open Go.RowKit
set_option linter.unusedVariables false

/-- A copy that is the call's own. -/
def CloneGives (l : List Int) (w : World) (e : Ending) (w' : World) : Prop :=
  ∃ v, e = .returned v ∧ w'.ownsRow w.heap.size 3 1 v l.length (rowI l) ∧ Below w.heap.size w w'

theorem slClone_none (l : List Int) (n cap : Nat) (w : World) (hl : l = []) (hn : n = 0) :
    Calls Try.prog 48 #[.slice none n cap] w (CloneGives l w) := by
  subst hl hn
  have qN : ∀ (w : World) (a : Option Addr) (n c : Nat), (binOp .eql 25 (.slice a n c) (.slice none 0 0)).run Try.prog w = .ok (.bool a.isNone) w := fun w a n c => Lib.run_eql_slice_nil w _ _ a n c 0 0 Try.underlying25
  go_enter Try.func48, Try.ntmps48
  go_wp2_with fail
  go_ret
  exact ⟨_, rfl, ⟨by simp [rowI], .inl ⟨rfl, rfl⟩⟩, Below.refl _ _⟩

set_option maxHeartbeats 1000000 in
theorem slClone_some (x : Addr) (l : List Int) (cap : Nat) (w : World) (h : HoldsI w (.slice (some x) l.length cap) l) (hlen : l.length ≤ 1048577) :
    Calls Try.prog 48 #[.slice (some x) l.length cap] w (CloneGives l w) := by
  obtain ⟨i0, hi, hz0, hz1, hz2⟩ := info_parts infoInt
  have HH := Lib.hid (h.keep ((Below.refl _ _).alloc (Nat.le_refl _) (.cells #[] 3)))
  have own2 : (w.alloc (.cells #[] 3)).ownsRow w.heap.size 3 1 (.slice (some ⟨w.heap.size, 0, none⟩) 0 0) 0 [] := own_empty (Nat.le_refl _) (heap_alloc_new _ _)
  clear h
  have qN : ∀ (w : World) (a : Option Addr) (n c : Nat), (binOp .eql 25 (.slice a n c) (.slice none 0 0)).run Try.prog w = .ok (.bool a.isNone) w := fun w a n c => Lib.run_eql_slice_nil w _ _ a n c 0 0 Try.underlying25
  go_enter Try.func48, Try.ntmps48
  go_wp2_with (at_builtin; refine wpList_append_own _ rfl _ _ 25 rfl w.heap.size 3 i0 (.int .i64 0) 1 8 Try.underlying25 hi hz0 hz1 hz2 rfl (by decide) _ 0 [] rfl own2 x l.length cap (rowI l) rfl (by rw [rowI_len, Nat.mul_one]) (fun j u hu => HoldsI.rowA HH.out j u hu) (rowI_one l) (by unfold maxLen; omega) (by omega) (by simp) ?_; intro v4 w4 hown4 hgrow4 _)
  simp only [Nat.zero_add, List.nil_append] at hown4
  have hb4 : Below w.heap.size w w4 := ((Below.refl w.heap.size w).alloc (Nat.le_refl _) (.cells #[] 3)).trans (own_below (v := .slice (some ⟨w.heap.size, 0, none⟩) 0 0) hgrow4 (by simp) (fun k hk => (own_lt own2 k hk).1))
  go_ret
  exact ⟨_, rfl, hown4, hb4⟩

theorem slClone_any (v : Value) (l : List Int) (w : World) (h : HoldsI w v l) (hlen : l.length ≤ 1048577) :
    Calls Try.prog 48 #[v] w (CloneGives l w) := by
  have h0 := h
  obtain ⟨a, cap, rfl, h2, h3, h4⟩ := h
  rcases a with _ | x
  · rcases h4 with h4 | ⟨b, off, h5, _⟩
    · exact slClone_none l _ _ w (List.eq_nil_of_length_eq_zero h4) h4
    · cases h5
  · exact slClone_some x l cap w h0 hlen
end Go.Proofs.Ytlcfldmiibjboab
namespace Go.Proofs.Ytlcfldmiibjboab
open Go.RowKit
set_option linter.unusedVariables false

/-- A variable of the program's type stack, that has its address taken. -/
def VarAt (B : Nat) (w : World) (v : Value) : Prop := w.heap[B]? = some (.cells #[v] 62 (0, 0))
theorem VarAt.lt {B : Nat} {w : World} {v : Value} (h : VarAt B w v) : B < w.heap.size := free_lt h
theorem VarAt.cell {B : Nat} {w : World} {v : Value} (h : VarAt B w v) : w.cell? ⟨B, 0, none⟩ = some v := by
  unfold VarAt at h
  simp [World.cell?, h]
theorem VarAt.frozen {B : Nat} {w : World} {v : Value} (h : VarAt B w v) : w.frozen? ⟨B, 0, none⟩ = false := by
  unfold VarAt at h
  simp [World.frozen?, h]
theorem VarAt.set {B : Nat} {w : World} {v : Value} (h : VarAt B w v) (u : Value) : VarAt B (w.setCell ⟨B, 0, none⟩ u) u := by
  unfold VarAt at h ⊢
  exact Joins.block_setCell h _
theorem VarAt.ne {B K : Nat} {w : World} {v u : Value} {n : Nat} {xs : List Value} (h : VarAt B w v) (own : w.ownsRow K 3 1 u n xs) : ∀ k, u.ownBlock = some k → k ≠ B := by
  intro k hk e
  subst e
  rcases own.2 with ⟨rfl, _⟩ | ⟨g, cap, cur, rfl, _, hg, _⟩
  · simp [Value.ownBlock] at hk
  · have e : g = k := by simpa [Value.ownBlock] using hk
    subst e
    unfold VarAt at h
    rw [h] at hg
    simp at hg
theorem VarAt.keep {B : Nat} {w w' : World} {v : Value} (h : VarAt B w v) (hb : Below w.heap.size w w') : VarAt B w' v := by
  have := h.lt
  unfold VarAt at h ⊢
  rw [hb.block B this]; exact h
theorem VarAt.new {w : World} (v u : Value) : VarAt w.heap.size ((w.alloc (.cells #[v] 62)).setCell ⟨w.heap.size, 0, none⟩ u) u := VarAt.set (v := v) (heap_alloc_new _ _) u

theorem varAt_grown {B : Nat} {w w5 : World} {v u : Value} {o : Obj} (hg : (w.alloc o).grownBy w5 u.ownBlock) (h : VarAt B w v) (hne : ∀ k, u.ownBlock = some k → k ≠ B) : VarAt B w5 v := by
  have hlt := h.lt
  unfold VarAt at h ⊢
  rw [hg.block B (by simp; omega) (fun e => hne B e.symm rfl), Go.heap_alloc_old w o hlt]
  exact h

set_option maxHeartbeats 1000000 in
theorem stackPut_ptr (B K : Nat) (v : Value) (l : List Int) (id : Int) (w : World) (hKB : K ≤ B) (hlen : l.length ≤ 1048577)
    (hB : VarAt B w v) (own : w.ownsRow K 3 1 v l.length (rowI l)) :
    Calls Try.prog 58 #[.pointer (some ⟨B, 0, none⟩), .int .i64 id] w
      fun e w' => e = .returned (.tuple #[]) ∧ (∃ v', VarAt B w' v' ∧ w'.ownsRow K 3 1 v' (l ++ [id]).length (rowI (l ++ [id]))) ∧ Below K w w' := by
  obtain ⟨i0, hi, hz0, hz1, hz2⟩ := info_parts infoInt
  have hlt := hB.lt
  have hne := hB.ne own
  have c0 := hB.cell
  have HB := Lib.hid hB
  clear hB
  go_enter Try.func58, Try.ntmps58
  go_wp2_with (at_builtin; refine wpList_append_own _ rfl _ _ 62 rfl K 3 i0 (.int .i64 0) 1 8 Try.underlying62 hi hz0 hz1 hz2 rfl (by decide) v l.length (rowI l) rfl (own.alloc _) ⟨w.heap.size, 0, none⟩ 1 1 [.int .i64 id] rfl rfl (fun j u hu => cells_new j u hu) (by simp [Value.oneCell']) (by unfold maxLen; omega) (by omega) (by simp; omega) ?_; intro v5 w5 hown5 hgrow _; obtain ⟨g5, cap5, rfl, -, -⟩ := own_form hown5 (by omega); have hv5 : VarAt B w5 v := varAt_grown hgrow HB.out hne; have c5 := hv5.cell; have f5 := hv5.frozen)
  have hb5 : Below K w w5 := ((Below.refl K w).alloc (by omega) (.cells #[.int .i64 id] 3)).trans (own_below (v := v) hgrow (by simp; omega) (fun k hk => (own_lt own k hk).1))
  have hown6 := own_put (l := l) hown5
  have HV5 := Lib.hid hv5
  have HO6 := Lib.hid hown6
  have HB5 := Lib.hid hb5
  have HN6 := Lib.hid (hv5.ne hown6)
  clear hown5 hgrow hv5 hown6 own hb5 hne
  refine bodyPost_end (v := .tuple #[]) (by simp [results, Try.results58, go_sem]) rfl ?_
  exact ⟨rfl, ⟨_, HV5.out.set _, ownsRow_setCell_other HO6.out (fun e => HN6.out _ e rfl) _⟩, HB5.out.setCell hKB _⟩

set_option maxHeartbeats 1000000 in
theorem stackTake_none (B : Nat) (a : Option Addr) (cap : Nat) (w : World) (hB : VarAt B w (.slice a 0 cap)) :
    Calls Try.prog 50 #[.pointer (some ⟨B, 0, none⟩)] w
      fun e w' => e = .returned (.tuple #[.int .i64 0, .bool false]) ∧ w = w' := by
  have c0 := hB.cell
  clear hB
  go_enter Try.func50, Try.ntmps50
  go_wp2_with fail
  go_ret2
  exact ⟨rfl, rfl⟩

set_option maxHeartbeats 1000000 in
theorem stackTake_some (B b n cap : Nat) (x : Int) (w : World) (hn : n + 1 ≤ cap) (hc : cap ≤ 9223372036854775807) (hB : VarAt B w (.slice (some ⟨b, 0, none⟩) (n + 1) cap)) (s0 : w.cell? ⟨b, n, none⟩ = some (.int .i64 x)) :
    Calls Try.prog 50 #[.pointer (some ⟨B, 0, none⟩)] w
      fun e w' => e = .returned (.tuple #[.int .i64 x, .bool true]) ∧ w' = w.setCell ⟨B, 0, none⟩ (.slice (some ⟨b, 0, none⟩) n cap) := by
  have c0 := hB.cell
  have f0 := hB.frozen
  clear hB
  have i0 : ((n : Int) + 1 - 1) = (n : Int) := by omega
  have i1 : (0 : Int) ≤ (n : Int) := by omega
  have i2 : (n : Int) < (n : Int) + 1 := by omega
  have i3 : (n : Int) ≤ (cap : Int) := by omega
  have i4 : ¬ (n : Int) < 0 := by omega
  go_enter Try.func50, Try.ntmps50
  go_wp2_with fail
  go_ret2
  exact ⟨rfl, rfl⟩
end Go.Proofs.Ytlcfldmiibjboab
namespace Go.Proofs.Ytlcfldmiibjboab
open Go.RowKit
set_option linter.unusedVariables false

/-- What the program's StackPut gives: memory of the call's own, that can be written. -/
def PutGivesF (l : List Int) (high id : Int) (w : World) (e : Ending) (w' : World) : Prop :=
  ∃ v, e = .returned (.tuple #[v, .bool (putS l high id).2]) ∧ FreeE w.heap.size w' v (putS l high id).1 ∧ Below w.heap.size w w'
theorem putS_len {l : List Int} {high id : Int} (h : l.length ≤ 1048576) : (putS l high id).1.length ≤ 1048577 := by
  unfold putS
  split
  · split
    · simp; omega
    · simp; omega
  · simp

theorem implStackPut_bad (v : Value) (l : List Int) (high id : Int) (w : World) (h : HoldsI w v l) (hok : stOk l high = false) :
    Calls Try.prog 54 #[v, .int .i64 high, .int .i64 id] w (PutGivesF l high id w) := by
  have HV := Lib.hid (implStackValid_any v l high w h)
  rw [hok] at HV
  unfold PutGivesF
  rw [putS_bad hok]
  clear hok h
  go_enter Try.func54, Try.ntmps54
  go_wp2_with fail
  refine HV.out.mono ?_
  rintro e w2 ⟨rfl, b2⟩
  go_wp2_with fail
  go_ret2
  exact ⟨_, rfl, .inl ⟨rfl, _, _, rfl, Nat.zero_le _, fun _ => rfl⟩, b2⟩

set_option maxHeartbeats 2000000 in
theorem implStackPut_good (v : Value) (l : List Int) (high id : Int) (w : World) (h : HoldsI w v l) (hok : stOk l high = true) :
    Calls Try.prog 54 #[v, .int .i64 high, .int .i64 id] w (PutGivesF l high id w) := by
  have HV := Lib.hid (implStackValid_any v l high w h)
  have hlen := stOk_len hok
  have HH := Lib.hid h
  have HC := Lib.hid fun w' (hb : Below w.heap.size w w') => slClone_any v l w' (HH.out.keep hb) (by omega)
  have HP := Lib.hid fun B K u w' hKB hB own => stackPut_ptr B K u l id w' hKB (by omega) hB own
  have HV2 := Lib.hid fun v' w' h' => implStackValid_any v' (l ++ [id]) high w' h'
  rw [hok] at HV
  have HY := Lib.hid (putS_yes (id := id) hok)
  have HN := Lib.hid (putS_no (id := id) hok)
  clear hok h
  go_enter Try.func54, Try.ntmps54
  go_wp2_with fail
  refine HV.out.mono ?_
  rintro e w2 ⟨rfl, b2⟩
  go_wp2_with fail
  refine (HC.out _ b2).mono ?_
  rintro e w3 ⟨u, rfl, own3, b3⟩
  have hv3 : VarAt w3.heap.size (w3.alloc (.cells #[u] 62)) u := heap_alloc_new _ _
  have own3' : (w3.alloc (.cells #[u] 62)).ownsRow w2.heap.size 3 1 u l.length (rowI l) := own3.alloc _
  have b3' : Below w2.heap.size w2 (w3.alloc (.cells #[u] 62)) := b3.alloc b3.size _
  have h32 := b3.size
  obtain ⟨cu, lu, pu, rfl⟩ : ∃ (x : Option Addr) (y z : Nat), u = .slice x y z := by
    rcases own3.2 with ⟨rfl, _⟩ | ⟨g, cap, cur, rfl, _⟩
    · exact ⟨_, _, _, rfl⟩
    · exact ⟨_, _, _, rfl⟩
  have HP3 := Lib.hid (HP.out w3.heap.size w2.heap.size _ _ h32 hv3 own3')
  have B3 := Lib.hid b3'
  clear own3 hv3 own3' b3 b3'
  go_wp2_with fail
  refine HP3.out.mono ?_
  rintro e w4 ⟨rfl, ⟨v4, hv4, own4⟩, b4⟩
  have c4 := hv4.cell
  have hb4 := B3.out.trans b4
  have HF := Lib.hid (FreeE.of_own own4)
  have HV4 := Lib.hid (HV2.out v4 w4 HF.out.holds)
  have HV4V := Lib.hid hv4
  obtain ⟨g4, p4, hv, -, -⟩ := own_form own4 (by simp)
  rw [List.length_append, List.length_cons, List.length_nil, Nat.zero_add] at hv
  subst hv
  have hbb := b2.trans (hb4.mono b2.size)
  clear own4 hv4 b4 hb4 B3 HP3 HP
  cases hok2 : stOk (l ++ [id]) high
  · have he := HN.out hok2
    rw [hok2] at HV4
    have HE := Lib.hid he
    clear he hok2 HY
    go_wp2_with fail
    refine HV4.out.mono ?_
    rintro e w5 ⟨rfl, b5⟩
    have hb5 := hbb.trans (b5.mono hbb.size)
    go_wp2_with fail
    refine (HC.out _ hb5).mono ?_
    rintro e w6 ⟨v6, rfl, own6, b6⟩
    go_wp2_with fail
    go_ret2
    exact ⟨v6, by rw [HE.out]; rfl, by rw [HE.out]; exact (FreeE.of_own own6).from_ hb5.size, hb5.trans (b6.mono hb5.size)⟩
  · have he := HY.out hok2
    rw [hok2] at HV4
    have HE := Lib.hid he
    clear he hok2 HN
    go_wp2_with fail
    refine HV4.out.mono ?_
    rintro e w5 ⟨rfl, b5⟩
    have hb5 := hbb.trans (b5.mono hbb.size)
    have hv5 := HV4V.out.keep b5
    have c5 := hv5.cell
    clear c4
    go_wp2_with fail
    go_ret2
    exact ⟨_, by rw [HE.out]; rfl, by rw [HE.out]; exact (HF.out.keep b5).from_ b2.size, hb5⟩
theorem implStackPut_any (v : Value) (l : List Int) (high id : Int) (w : World) (h : HoldsI w v l) :
    Calls Try.prog 54 #[v, .int .i64 high, .int .i64 id] w (PutGivesF l high id w) := by
  cases hok : stOk l high
  · exact implStackPut_bad v l high id w h hok
  · exact implStackPut_good v l high id w h hok
end Go.Proofs.Ytlcfldmiibjboab
namespace Go.Proofs.Ytlcfldmiibjboab
open Go.RowKit
set_option linter.unusedVariables false

/-- What the program's StackTake gives: memory of the call's own, that can be written. -/
def TakeGivesF (l : List Int) (high : Int) (w : World) (e : Ending) (w' : World) : Prop :=
  ∃ v, e = .returned (.tuple #[v, .int .i64 (takeS l high).2]) ∧ FreeE w.heap.size w' v (takeS l high).1 ∧ Below w.heap.size w w'
theorem takeS_len {l : List Int} {high : Int} : (takeS l high).1.length ≤ l.length := by
  unfold takeS
  split
  · simp only [List.length_take]; omega
  · simp
theorem FreeAt.setOther {g B : Nat} {w : World} {v : Value} {l : List Int} (h : FreeAt g w v l) (hne : g ≠ B) (o : Nat) (u : Value) : FreeAt g (w.setCell ⟨B, o, none⟩ u) v l := by
  obtain ⟨cap, h1, h3, h4, h5, cur, T, h6, h7⟩ := h
  exact ⟨cap, h1, by simpa [World.setCell] using h3, h4, h5, cur, T, by rw [Below.heap_setCell _ _ _ _ hne]; exact h6, h7⟩

theorem FreeE.setOther {K B : Nat} {w : World} {v : Value} {l : List Int} (h : FreeE K w v l) (hne : ∀ k, v.ownBlock = some k → k ≠ B) (o : Nat) (u : Value) : FreeE K (w.setCell ⟨B, o, none⟩ u) v l := by
  rcases h with h | ⟨g, hg, h⟩
  · exact .inl h
  · have h1 : v.ownBlock = some g := by obtain ⟨cap, rfl, _⟩ := h; rfl
    exact .inr ⟨g, hg, h.setOther (hne g h1) o u⟩

theorem implStackTake_bad (v : Value) (l : List Int) (high : Int) (w : World) (h : HoldsI w v l) (hok : stOk l high = false) :
    Calls Try.prog 39 #[v, .int .i64 high] w (TakeGivesF l high w) := by
  have HV := Lib.hid (implStackValid_any v l high w h)
  rw [hok] at HV
  unfold TakeGivesF
  rw [takeS_no (.inl hok)]
  clear hok h
  go_enter Try.func39, Try.ntmps39
  go_wp2_with fail
  refine HV.out.mono ?_
  rintro e w2 ⟨rfl, b2⟩
  go_wp2_with fail
  go_ret2
  exact ⟨_, rfl, .inl ⟨rfl, _, _, rfl, Nat.zero_le _, fun _ => rfl⟩, b2⟩

set_option maxHeartbeats 2000000 in
theorem implStackTake_good (v : Value) (l : List Int) (high : Int) (w : World) (h : HoldsI w v l) (hok : stOk l high = true) :
    Calls Try.prog 39 #[v, .int .i64 high] w (TakeGivesF l high w) := by
  have HV := Lib.hid (implStackValid_any v l high w h)
  have hlen := stOk_len hok
  have HH := Lib.hid h
  have HC := Lib.hid fun w' (hb : Below w.heap.size w w') => slClone_any v l w' (HH.out.keep hb) (by omega)
  rw [hok] at HV
  clear h
  unfold TakeGivesF
  by_cases hz : l.length = 0
  · rw [takeS_no (.inr hz)]
    obtain rfl := List.eq_nil_of_length_eq_zero hz
    have HP := Lib.hid fun B a cap w' hB => stackTake_none B a cap w' hB
    clear hok hlen hz HH
    go_enter Try.func39, Try.ntmps39
    go_wp2_with fail
    refine HV.out.mono ?_
    rintro e w2 ⟨rfl, b2⟩
    go_wp2_with fail
    refine (HC.out _ b2).mono ?_
    rintro e w3 ⟨u, rfl, own3, b3⟩
    obtain ⟨cu, pu, rfl⟩ : ∃ (x : Option Addr) (z : Nat), u = .slice x 0 z := by
      rcases own3.2 with ⟨rfl, _⟩ | ⟨g, cap, cur, rfl, _⟩
      · exact ⟨_, _, rfl⟩
      · exact ⟨_, _, rfl⟩
    have hv3 : VarAt w3.heap.size (w3.alloc (.cells #[.slice cu 0 pu] 62)) (.slice cu 0 pu) := heap_alloc_new _ _
    have HB := Lib.hid (b2.trans ((b3.alloc b3.size (.cells #[.slice cu 0 pu] 62)).mono b2.size))
    have HP3 := Lib.hid (HP.out _ _ _ _ hv3)
    clear own3 b3 hv3 HP
    go_wp2_with fail
    refine HP3.out.mono ?_
    rintro e w4 ⟨rfl, rfl⟩
    go_wp2_with fail
    go_ret2
    exact ⟨_, rfl, .inl ⟨rfl, _, _, rfl, Nat.zero_le _, fun _ => rfl⟩, HB.out⟩
  · obtain ⟨n, hn⟩ : ∃ n, l.length = n + 1 := ⟨l.length - 1, by omega⟩
    rw [takeS_yes hok (by omega)]
    have e1 : l.length - 1 = n := by omega
    simp only [e1]
    have hnl : n < l.length := by omega
    obtain ⟨x, hx⟩ : ∃ x, x = l[n]'hnl := ⟨_, rfl⟩
    rw [← hx]
    have HX := Lib.hid hx
    clear hx
    have HP := Lib.hid fun B b cap x w' h1 h2 hB s0 => stackTake_some B b n cap x w' h1 h2 hB s0
    clear hok hlen hz HH
    go_enter Try.func39, Try.ntmps39
    go_wp2_with fail
    refine HV.out.mono ?_
    rintro e w2 ⟨rfl, b2⟩
    go_wp2_with fail
    refine (HC.out _ b2).mono ?_
    rintro e w3 ⟨u, rfl, own3, b3⟩
    have hF := FreeE.of_own own3
    rcases hF with ⟨h0, _⟩ | ⟨g, hg, hat⟩
    · rw [h0] at hn; simp at hn
    have hne : g ≠ w3.heap.size := Nat.ne_of_lt hat.lt
    have hgl := hat.lt
    obtain ⟨cap, hu, q3, q4, q5, cur, T, q6, q7, q8⟩ := hat
    rw [hn] at hu q4 q7
    subst hu
    have hF2 : FreeE w2.heap.size w3 (.slice (some ⟨g, 0, none⟩) n cap) (l.take n) := FreeE.take n (by omega) (.inr ⟨g, hg, cap, by rw [hn], q3, by omega, q5, cur, T, q6, by omega, q8⟩)
    have hv3 : VarAt w3.heap.size (w3.alloc (.cells #[.slice (some ⟨g, 0, none⟩) (n + 1) cap] 62)) (.slice (some ⟨g, 0, none⟩) (n + 1) cap) := heap_alloc_new _ _
    have s3 : (w3.alloc (.cells #[.slice (some ⟨g, 0, none⟩) (n + 1) cap] 62)).cell? ⟨g, n, none⟩ = some (.int .i64 x) := by
      rw [HX.out]
      rw [World.cell?_of_block (w := w3) (Go.heap_alloc_old w3 _ hgl)]
      simp only [World.cell?, q6]
      exact q8 n (by omega)
    have b3' := b3.alloc b3.size (.cells #[.slice (some ⟨g, 0, none⟩) (n + 1) cap] 62)
    have HP3 := Lib.hid (HP.out _ _ _ _ _ q4 (by unfold maxLen at q5; omega) hv3 s3)
    have HVV := Lib.hid (hv3.set (.slice (some ⟨g, 0, none⟩) n cap))
    have hb4 := b3'.setCell (p := ⟨w3.heap.size, 0, none⟩) b3.size (.slice (some ⟨g, 0, none⟩) n cap)
    have HB := Lib.hid (b2.trans (hb4.mono b2.size))
    have hF3 := hF2.keep ((Below.refl _ _).alloc (Nat.le_refl _) (.cells #[.slice (some ⟨g, 0, none⟩) (n + 1) cap] 62))
    have HF4 := Lib.hid (hF3.setOther (B := w3.heap.size) (fun k hk => by have e : g = k := (by simpa [Value.ownBlock] using hk); omega) 0 (.slice (some ⟨g, 0, none⟩) n cap))
    clear own3 b3 hv3 HP hF2 hF3 s3 b3' hb4 q3 q4 q5 q6 q7 q8
    go_wp2_with fail
    refine HP3.out.mono ?_
    rintro e w4 ⟨rfl, hw4⟩
    rw [← hw4] at HVV HB HF4
    have c4 := HVV.out.cell
    clear hw4
    go_wp2_with fail
    go_ret2
    exact ⟨_, rfl, HF4.out.from_ b2.size, HB.out⟩
theorem implStackTake_any (v : Value) (l : List Int) (high : Int) (w : World) (h : HoldsI w v l) :
    Calls Try.prog 39 #[v, .int .i64 high] w (TakeGivesF l high w) := by
  cases hok : stOk l high
  · exact implStackTake_bad v l high w h hok
  · exact implStackTake_good v l high w h hok
end Go.Proofs.Ytlcfldmiibjboab
