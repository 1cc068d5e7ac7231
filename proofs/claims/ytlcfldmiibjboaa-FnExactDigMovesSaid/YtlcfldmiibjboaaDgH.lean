/-
  The exact laws' marks in lists of moves, and their looking at them.
-/
import Derived.Test.YtlcfldmiibjboaaYlM
namespace Go.Proofs.Ytlcfldmiibjboaa
open Go.RowKit
set_option linter.unusedVariables false

/-- The marks of a list of n moves from q on. -/
def marksM (q n : Nat) : List (Int × Int) := (List.range n).map fun k => (((q + 2 * k : Nat) : Int), ((q + 2 * k : Nat) : Int) + 1)
theorem marksM_len (q n : Nat) : (marksM q n).length = n := by simp [marksM]
theorem marksM_at (q n k : Nat) (hk : k < (marksM q n).length) : (marksM q n)[k] = (((q + 2 * k : Nat) : Int), ((q + 2 * k : Nat) : Int) + 1) := by simp [marksM]

/-- What marking a list of moves gives. -/
def MarkedM2 (K B q : Nat) (v : Value) (l : List (Int × Int)) (w : World) (e : Ending) (w' : World) : Prop :=
  e = .returned (.int .i64 ((q + 2 * l.length : Nat) : Int)) ∧ FreeM K B w' v (marksM q l.length) ∧ MidB K B w w'
set_option maxHeartbeats 1000000 in
theorem markMoveS_free (v : Value) (K B q : Nat) (l : List (Int × Int)) (w : World) (hf : FreeM K B w v l) (hq : q + 2 * l.length ≤ 281474976710656) :
    Calls Try.prog 43 #[v, .int .i64 (q : Int)] w (MarkedM2 K B q v l w) := by
  unfold MarkedM2
  rcases hf with ⟨rfl, a, c, rfl, hc⟩ | ⟨g, c, cur, T, rfl, hg, h3, h4, h5, h6, h7⟩
  · go_enter Try.func43, Try.ntmps43
    go_wp2_with fail
    go_loopw [1, 5] (fun s i wr => s = .int .i64 (q : Int) ∧ i = .int .i64 0 ∧ wr = w) (fun _ _ _ => 0)
    case atStart => exact ⟨rfl, rfl, rfl⟩
    case round =>
      obtain ⟨rfl, rfl, rfl⟩ := hrel
      go_wp2_with fail
      go_ret
      exact ⟨rfl, .inl ⟨rfl, _, _, rfl, hc⟩, MidB.refl _ _ _⟩
  · obtain ⟨n, hn⟩ : ∃ n, n = l.length := ⟨_, rfl⟩
    have HC := Lib.hid (show w.heap[g]? = some (.cells cur T (0, 0)) ∧ n * 2 ≤ cur.size ∧ ∀ j, j < 0 → cur[j * 2]? = some (.int .i64 ((q + 2 * j : Nat) : Int)) ∧ cur[j * 2 + 1]? = some (.int .i64 (((q + 2 * j : Nat) : Int) + 1)) from ⟨h5, by omega, fun j hj => by omega⟩)
    rw [← hn] at h3 hq ⊢
    have HG := Lib.hid hg
    have H3 := Lib.hid (And.intro h3 h4)
    clear hn h5 h6 h7 hg h3 h4
    go_enter Try.func43, Try.ntmps43
    go_wp2_with fail
    go_loopw [1, 5] (fun s i wr => ∃ (k : Nat) (cu : Array Value), k ≤ n ∧ i = .int .i64 k ∧ s = .int .i64 ((q + 2 * k : Nat) : Int) ∧ Hid (wr.heap[g]? = some (.cells cu T (0, 0)) ∧ n * 2 ≤ cu.size ∧ ∀ j, j < k → cu[j * 2]? = some (.int .i64 ((q + 2 * j : Nat) : Int)) ∧ cu[j * 2 + 1]? = some (.int .i64 (((q + 2 * j : Nat) : Int) + 1))) ∧ Hid (MidB K B w wr)) (fun _ i _ => n - (intOf i).toNat)
    case atStart => exact ⟨0, _, by omega, rfl, rfl, HC, Lib.hid (MidB.refl _ _ _)⟩
    case round =>
      clear HC
      obtain ⟨k, cu, hk, rfl, rfl, HC, HBR⟩ := hrel
      by_cases hlt : k < n
      · obtain ⟨hc1, hc2, -⟩ := HC.out
        have f0 : wr.frozen? ⟨g, k * 2, none⟩ = false := by simp [World.frozen?, hc1]
        have f1 : wr.frozen? ⟨g, k * 2 + 1, none⟩ = false := by simp [World.frozen?, hc1]
        obtain ⟨x0, t0⟩ : ∃ x, wr.cell? ⟨g, k * 2, none⟩ = some x := ⟨cu[k * 2]'(by omega), by simp only [World.cell?, hc1]; exact Array.getElem?_eq_getElem _⟩
        obtain ⟨x1, t1⟩ : ∃ x, wr.cell? ⟨g, k * 2 + 1, none⟩ = some x := ⟨cu[k * 2 + 1]'(by omega), by simp only [World.cell?, hc1]; exact Array.getElem?_eq_getElem _⟩
        have HS := Lib.hid hc2
        clear hc1 hc2
        go_wp2_with fail
        go_roundw
        case rel =>
          obtain ⟨d1, d2, d3⟩ := HC.out
          refine ⟨k + 1, _, by omega, by go_num, by go_num, Lib.hid ⟨two_set d1 _ _ _, by simpa using d2, fun j hj => ?_⟩, Lib.hid (HBR.out.most (((MostB.refl g wr).set_ _ _).set_ _ _) HG.out.1 HG.out.2)⟩
          simp only [Array.getElem?_setIfInBounds, Array.size_setIfInBounds]
          by_cases hjk : j = k
          · subst hjk
            refine ⟨?_, ?_⟩
            · rw [if_neg (by omega), if_pos rfl, if_pos (by omega)]
              all_goals (congr 2 <;> omega)
            · rw [if_pos rfl, if_pos (by omega)]
              all_goals (congr 2 <;> omega)
          · obtain ⟨q1, q2⟩ := d3 j (by omega)
            refine ⟨?_, ?_⟩
            · rw [if_neg (by omega), if_neg (by omega)]; exact q1
            · rw [if_neg (by omega), if_neg (by omega)]; exact q2
        case measure => simp [intOf]; omega
      · have hkn : k = n := by omega
        subst hkn
        obtain ⟨d1, d2, d3⟩ := HC.out
        have FM := Lib.hid (show FreeM K B wr (.slice (some ⟨g, 0, none⟩) k c) (marksM q k) from .inr ⟨g, c, cu, T, by rw [marksM_len], HG.out, by rw [marksM_len]; exact H3.out.1, H3.out.2, d1, by rw [marksM_len]; exact d2, fun j hj => by rw [marksM_at]; exact d3 j (by rw [marksM_len] at hj; exact hj)⟩)
        clear d1 d2 d3 HC
        go_wp2_with fail
        go_ret
        exact ⟨rfl, FM.out, HBR.out⟩

set_option maxHeartbeats 1000000 in
theorem heldMoveS_marks (v : Value) (q n : Nat) (w : World) (h : HoldsM w v (marksM q n)) (hq : q + 2 * n ≤ 281474976710656) :
    Calls Try.prog 57 #[v, .int .i64 (q : Int)] w fun e w' => e = .returned (.int .i64 ((q + 2 * n : Nat) : Int)) ∧ w = w' := by
  have HH := Lib.hid h
  obtain ⟨a, c, rfl, -, -, -⟩ := h
  have HL := Lib.hid (marksM_len q n)
  rw [HL.out] at HH ⊢
  go_enter Try.func57, Try.ntmps57
  go_wp2_with fail
  go_loop [1, 5] (fun s i => ∃ k : Nat, k ≤ n ∧ i = .int .i64 k ∧ s = .int .i64 ((q + 2 * k : Nat) : Int)) (fun _ i => n - (intOf i).toNat)
  case atStart => exact ⟨0, by omega, rfl, rfl⟩
  case round =>
    obtain ⟨k, hk, rfl, rfl⟩ := hrel
    by_cases hlt : k < n
    · obtain ⟨b, off, hkl, rfl, h6, s0, s1⟩ := HH.out.at_ hlt
      rw [marksM_at] at s0 s1
      have b1 : (((q + 2 * k : Nat) : Int) != ((q + 2 * k : Nat) : Int)) = false := by simp
      have b2 : ((((q + 2 * k : Nat) : Int) + 1) != (((q + 2 * k : Nat) : Int) + 1)) = false := by simp
      clear hkl
      go_wp2_with fail
      go_round
      case rel => exact ⟨k + 1, by omega, by go_num, by go_num⟩
      case measure => simp [intOf]; omega
    · have hkn : k = n := by omega
      subst hkn
      go_wp2_with fail
      go_ret
      exact ⟨rfl, rfl⟩
end Go.Proofs.Ytlcfldmiibjboaa
