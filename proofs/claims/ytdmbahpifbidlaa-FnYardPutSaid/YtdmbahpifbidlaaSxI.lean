/-
  Contracts of the library's slices.Index, slices.Contains and slices.Clone on slices of numbers.
-/
import Derived.Test.YtdmbahpifbidlaaSt
import Derived.Test.YtdmbahpifbidlaaOwI
import Derived.Test.YtdmbahpifbidlaaFrI
import Derived.Laws.AppendOwnNone
namespace Go.Proofs.Ytdmbahpifbidlaa
open Go.RowKit
set_option linter.unusedVariables false

/-- Where a number first stands, -1 if it does not. -/
def idxI (l : List Int) (n : Int) : Int := match firstI l n with | some k => (k : Int) | none => -1
theorem idxI_hit {l : List Int} {n : Int} {k : Nat} (hk : k < l.length) (hn : ∀ j (hj : j < l.length), j < k → l[j] ≠ n) (h : l[k] = n) : idxI l n = (k : Int) := by
  unfold idxI; rw [firstI_hit l n k hk hn h]
theorem idxI_none {l : List Int} {n : Int} (hn : ∀ j (hj : j < l.length), l[j] ≠ n) : idxI l n = -1 := by
  unfold idxI; rw [firstI_none l n hn]
theorem firstI_mem {n : Int} : ∀ {l : List Int}, n ∈ l → firstI l n ≠ none
  | a :: t, hm => by
    rw [firstI]
    by_cases ha : a = n
    · rw [if_pos ha]; simp
    · rw [if_neg ha]
      intro hc
      rw [Option.map_eq_none_iff] at hc
      rcases List.mem_cons.1 hm with h | h
      · exact ha h.symm
      · exact firstI_mem h hc
theorem idxI_has (l : List Int) (n : Int) : decide (0 ≤ idxI l n) = hasI l n := by
  cases h : firstI l n with
  | none =>
    have e : idxI l n = -1 := by unfold idxI; rw [h]
    rw [e]
    exact (hasI_no fun k hk he => firstI_mem (he ▸ List.getElem_mem hk) h).symm
  | some k =>
    obtain ⟨hk, he⟩ := firstI_some l n k h
    have e : idxI l n = (k : Int) := by unfold idxI; rw [h]
    rw [e, hasI_yes hk he]
    exact decide_eq_true (by omega)

set_option maxHeartbeats 400000 in
theorem slIndex_any (v : Value) (l : List Int) (n : Int) (w : World) (h : HoldsI w v l) :
    Calls Try.prog 79 #[v, .int .i64 n] w fun e w' => e = .returned (.int .i64 (idxI l n)) ∧ w = w' := by
  obtain ⟨a, cap, rfl, h2, h3, h4⟩ := h
  have hm : l.length ≤ 9223372036854775807 := by unfold maxLen at h3; omega
  obtain ⟨m, hn⟩ : ∃ m, m = l.length := ⟨_, rfl⟩
  have HN := Lib.hid hn.symm
  rw [← hn]
  have hm' : m ≤ 9223372036854775807 := by omega
  have H4 := Lib.hid h4
  clear hn h2 h3 h4 hm
  go_enter Try.func79, Try.ntmps79
  go_wp2_with fail
  go_loop [8] (fun i => ∃ k : Nat, k ≤ m ∧ i = .int .i64 k ∧ Hid (∀ j (hj : j < l.length), j < k → l[j] ≠ n)) (fun i => m - (intOf i).toNat)
  case atStart => exact ⟨0, by omega, rfl, Lib.hid fun j _ hj => by omega⟩
  case round =>
    obtain ⟨k, hk, rfl, HF⟩ := hrel
    by_cases hlt : k < m
    · rcases H4.out with h4 | ⟨b, off, rfl, h6, h7⟩
      · have := HN.out; omega
      · have hkl : k < l.length := by rw [HN.out]; exact hlt
        have s0 : w.cell? ⟨b, off + k, none⟩ = some (.int .i64 l[k]) := h7 k hkl
        have H7 := Lib.hid h7
        clear h7
        by_cases he : l[k] = n
        · have b1 : (n == l[k]) = true := by rw [beq_iff_eq]; exact he.symm
          have hr := Lib.hid (idxI_hit hkl HF.out he)
          clear he
          go_wp2_with fail
          go_ret
          exact ⟨by rw [hr.out]; rfl, rfl⟩
        · have b1 : (n == l[k]) = false := by rw [beq_eq_false_iff_ne]; exact fun e => he e.symm
          have HE := Lib.hid he
          clear he
          go_wp2_with fail
          go_round
          case rel => exact ⟨k + 1, by omega, by go_num, Lib.hid fun j hj hjk => by
            by_cases e : j = k
            · subst e; exact HE.out
            · exact HF.out j hj (by omega)⟩
          case measure => simp [intOf]; omega
    · have hr := Lib.hid (idxI_none fun j hj => HF.out j hj (by rw [HN.out] at hj; omega))
      go_wp2_with fail
      go_ret
      exact ⟨by rw [hr.out]; rfl, rfl⟩

theorem slContains_any (v : Value) (l : List Int) (n : Int) (w : World) (h : HoldsI w v l) :
    Calls Try.prog 59 #[v, .int .i64 n] w fun e w' => e = .returned (.bool (hasI l n)) ∧ w = w' := by
  have HI := Lib.hid (slIndex_any v l n w h)
  have HE := Lib.hid (idxI_has l n)
  clear h
  generalize idxI l n = x at HI HE
  go_enter Try.func59, Try.ntmps59
  go_wp2_with fail
  refine HI.out.mono ?_
  rintro e w' ⟨rfl, rfl⟩
  go_wp2_with fail
  go_ret
  exact ⟨by rw [← HE.out]; rfl, rfl⟩
end Go.Proofs.Ytdmbahpifbidlaa
