/-
  The contracts of the library's slices.Clone on lists of lists and of the program's copyYard.
-/
import Derived.Test.YthlcjojhmhoadaaGYh
import Derived.Test.YthlcjojhmhoadaaGStk
namespace Go.Proofs.Ythlcjojhmhoadaa
open Go.RowKit
set_option linter.unusedVariables false

/-- The cells of a list of lists. -/
theorem HoldsY.cells {w : World} {b off n cap : Nat} {ss : List (List Int)} (h : HoldsY w (.slice (some ⟨b, off, none⟩) n cap) ss) : ∃ us : List Value, us.length = n ∧ ∀ k u, us[k]? = some u → w.cell? ⟨b, off + k, none⟩ = some u ∧ HoldsI w u (rowAt ss k) ∧ NilOk u := by
  obtain ⟨a', cap', he, h2, h3, h0, h4⟩ := h
  simp only [Value.slice.injEq] at he
  obtain ⟨rfl, rfl, rfl⟩ := he
  rcases h4 with h4 | ⟨b', off', h5, h6, h7⟩
  · exact ⟨[], by rw [h4]; rfl, fun k u hu => by simp at hu⟩
  · simp only [Option.some.injEq, Addr.mk.injEq, and_true] at h5
    obtain ⟨rfl, rfl⟩ := h5
    have hc : ∀ k, ∃ u, k < ss.length → w.cell? ⟨b, off + k, none⟩ = some u ∧ HoldsI w u (rowAt ss k) ∧ NilOk u := fun k => by
      by_cases hk : k < ss.length
      · obtain ⟨u, q⟩ := h7 k hk
        exact ⟨u, fun _ => q⟩
      · exact ⟨.bool false, fun hk' => absurd hk' hk⟩
    refine ⟨(List.range ss.length).map fun k => (hc k).choose, by simp, fun k u hu => ?_⟩
    have hk : k < ss.length := by
      rcases Nat.lt_or_ge k ss.length with h | h
      · exact h
      · rw [List.getElem?_eq_none (by simpa using h)] at hu; cases hu
    rw [List.getElem?_map, List.getElem?_range hk, Option.map_some] at hu
    obtain rfl := Option.some.inj hu
    exact (hc k).choose_spec hk
theorem addr_add (b off j : Nat) : (⟨b, off, none⟩ : Addr).add j = ⟨b, off + j, none⟩ := by
  unfold Addr.add
  split
  · next h => subst h; rfl
  · rfl

set_option maxRecDepth 10000 in
set_option maxHeartbeats 1000000 in
theorem slCloneY_some (b off n cap : Nat) (us : List Value) (w : World) (hlen : us.length = n) (hn : n ≤ 1048576) (hb : b < w.heap.size) (hone : ∀ u ∈ us, u.oneCell' = true) (hc : ∀ k u, us[k]? = some u → w.cell? ⟨b, off + k, none⟩ = some u) :
    Calls Try.prog 50 #[.slice (some ⟨b, off, none⟩) n cap] w fun e w' => ∃ v, e = .returned v ∧ w'.ownsRow w.heap.size 27 1 v n us ∧ v ≠ .slice none 0 0 ∧ Below w.heap.size w w' := by
  obtain ⟨i0, hi, hz0, hz1, hz2⟩ := info_parts infoRow
  have HC := Lib.hid fun k u hu => ((Below.refl w.heap.size w).alloc (Nat.le_refl _) (.cells #[] 27)).cell (p := ⟨b, off + k, none⟩) hb |>.trans (hc k u hu)
  have own2 : (w.alloc (.cells #[] 27)).ownsRow w.heap.size 27 1 (.slice (some ⟨w.heap.size, 0, none⟩) 0 0) 0 [] := own_empty (Nat.le_refl _) (heap_alloc_new _ _)
  have qN : ∀ (w : World) (a : Option Addr) (n c : Nat), (binOp .eql 23 (.slice a n c) (.slice none 0 0)).run Try.prog w = .ok (.bool a.isNone) w := fun w a n c => Lib.run_eql_slice_nil w _ _ a n c 0 0 Try.underlying23
  clear hc
  go_enter Try.func50, Try.ntmps50
  go_wp2_with (at_builtin; refine wpList_append_own _ rfl _ _ 23 rfl w.heap.size 27 i0 (.slice none 0 0) 1 24 Try.underlying23 hi hz0 hz1 hz2 rfl (by decide) _ 0 [] rfl own2 ⟨b, off, none⟩ n cap us rfl (by rw [Nat.mul_one]; exact hlen) (fun j u hu => by rw [addr_add]; exact HC.out j u hu) hone (by unfold maxLen; omega) (by omega) (by simp) ?_; intro v4 w4 hown4 hgrow4 hnil4)
  simp only [Nat.zero_add, List.nil_append] at hown4
  have hb4 : Below w.heap.size w w4 := ((Below.refl w.heap.size w).alloc (Nat.le_refl _) (.cells #[] 27)).trans (own_below (v := .slice (some ⟨w.heap.size, 0, none⟩) 0 0) hgrow4 (by simp) (fun k hk => (own_lt own2 k hk).1))
  have hnn : v4 ≠ .slice none 0 0 := fun e => by
    cases (hnil4.1 e).1
  go_ret
  exact ⟨_, rfl, hown4, hnn, hb4⟩

/-- What a call gives that copies a yard. -/
def CopyGivesF (h : Int) (ss : List (List Int)) (w : World) (e : Ending) (w' : World) : Prop :=
  ∃ u, e = .returned (.agg #[.int .i64 h, u]) ∧ FreeY w.heap.size w'.heap.size w' u ss.length (rowAt ss) ∧ Below w.heap.size w w'

end Go.Proofs.Ythlcjojhmhoadaa
