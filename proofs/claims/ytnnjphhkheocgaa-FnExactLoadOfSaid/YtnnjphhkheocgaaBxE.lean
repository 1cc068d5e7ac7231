/-
  Contracts of the exact laws' own comparison of slices of boxes that hold the same.
-/
import Derived.Test.YtnnjphhkheocgaaBxS
import Derived.Deep.RegionWith
namespace Go.Proofs.Ytnnjphhkheocgaa
open Go.RowKit
set_option linter.unusedVariables false

theorem eqBox_same (i g c p : Int) (d : Bool) (w : World) :
    Calls Try.prog 60 #[.agg #[.int .i64 i, .int .i64 g, .int .i64 c, .int .i64 p, .bool d], .agg #[.int .i64 i, .int .i64 g, .int .i64 c, .int .i64 p, .bool d]] w fun e w' => e = .returned (.bool true) ∧ Below w.heap.size w w' := by
  have b1 : (i != i) = false := by simp
  have b2 : (g != g) = false := by simp
  have b3 : (c != c) = false := by simp
  have b4 : (p != p) = false := by simp
  have b5 : (d != d) = false := by simp
  go_enter Try.func60, Try.ntmps60
  go_wp2
  go_ret
  exact ⟨rfl, ((Below.refl _ _).alloc (Nat.le_refl _) _).alloc (by simp) _⟩

set_option maxHeartbeats 1000000 in
theorem eqBoxS_same (u v : Value) (l : List Bx) (w : World) (hu : HoldsBx w u l) (hv : HoldsBx w v l) :
    Calls Try.prog 34 #[u, v] w fun e w' => e = .returned (.bool true) ∧ Below w.heap.size w w' := by
  have HU := Lib.hid hu
  have HV := Lib.hid hv
  obtain ⟨a, cap, rfl, h2, h3, h4⟩ := hu
  obtain ⟨a', cap', rfl, h2', h3', h4'⟩ := hv
  have hm : l.length ≤ 9223372036854775807 := by unfold maxLen at h3; omega
  obtain ⟨n, hn⟩ : ∃ n, n = l.length := ⟨_, rfl⟩
  have HN := Lib.hid hn.symm
  rw [← hn] at HU HV ⊢
  have hm' : n ≤ 9223372036854775807 := by omega
  have H4 := Lib.hid h4
  have H4' := Lib.hid h4'
  have hne : ((n : Int) != (n : Int)) = false := by simp
  clear hn h2 h3 h4 h2' h3' h4' hm
  go_enter Try.func34, Try.ntmps34
  go_wp2_with fail
  go_loopw [5] (fun i wr => ∃ k : Nat, k ≤ n ∧ i = .int .i64 k ∧ Below w.heap.size w wr) (fun i _ => n - (intOf i).toNat)
  case atStart => exact ⟨0, by omega, rfl, Below.refl _ _⟩
  case round =>
    obtain ⟨k, hk, rfl, hbr⟩ := hrel
    by_cases hlt : k < n
    · have hkl : k < l.length := by rw [HN.out]; exact hlt
      rcases H4.out with h4 | ⟨b, off, rfl, h6, h7⟩
      · have := HN.out; omega
      · rcases H4'.out with h4 | ⟨b', off', rfl, h6', h7'⟩
        · have := HN.out; omega
        · have hs : ∀ j, j < 5 → wr.cell? ⟨b, off + (k * 5 + j), none⟩ = l[k].cells[j]? := fun j hj => (hbr.cell (p := ⟨b, off + (k * 5 + j), none⟩) h6).trans (h7 k hkl j hj)
          have hs' : ∀ j, j < 5 → wr.cell? ⟨b', off' + (k * 5 + j), none⟩ = l[k].cells[j]? := fun j hj => (hbr.cell (p := ⟨b', off' + (k * 5 + j), none⟩) h6').trans (h7' k hkl j hj)
          have s0 : wr.cell? ⟨b, off + k * 5, none⟩ = some (.int .i64 l[k].i) := hs 0 (by omega)
          have s1 : wr.cell? ⟨b, off + k * 5 + 1, none⟩ = some (.int .i64 l[k].g) := hs 1 (by omega)
          have s2 : wr.cell? ⟨b, off + k * 5 + 2, none⟩ = some (.int .i64 l[k].c) := hs 2 (by omega)
          have s3 : wr.cell? ⟨b, off + k * 5 + 3, none⟩ = some (.int .i64 l[k].p) := hs 3 (by omega)
          have s4 : wr.cell? ⟨b, off + k * 5 + 4, none⟩ = some (.bool l[k].d) := hs 4 (by omega)
          have t0 : wr.cell? ⟨b', off' + k * 5, none⟩ = some (.int .i64 l[k].i) := hs' 0 (by omega)
          have t1 : wr.cell? ⟨b', off' + k * 5 + 1, none⟩ = some (.int .i64 l[k].g) := hs' 1 (by omega)
          have t2 : wr.cell? ⟨b', off' + k * 5 + 2, none⟩ = some (.int .i64 l[k].c) := hs' 2 (by omega)
          have t3 : wr.cell? ⟨b', off' + k * 5 + 3, none⟩ = some (.int .i64 l[k].p) := hs' 3 (by omega)
          have t4 : wr.cell? ⟨b', off' + k * 5 + 4, none⟩ = some (.bool l[k].d) := hs' 4 (by omega)
          have HE := Lib.hid fun w => eqBox_same l[k].i l[k].g l[k].c l[k].p l[k].d w
          have H7 := Lib.hid h7
          have H7' := Lib.hid h7'
          clear hs hs' h7 h7'
          go_wp2_with fail
          go_region_with (go_at_call 60; ((with_reducible refine (HE.out _).mono ?_); rintro e w2 ⟨rfl, b2⟩))
          all_goals
            have c2 : Below w.heap.size w w2 := hbr.trans (Below.mono (w := wr) ⟨b2.os, b2.tape, b2.output, b2.size, b2.block⟩ hbr.size)
            go_wp2_with fail
            go_roundw
            case rel => exact ⟨k + 1, by omega, by go_num, c2⟩
            case measure => simp [intOf]; omega
    · go_wp2_with fail
      go_ret
      exact ⟨rfl, hbr⟩
end Go.Proofs.Ytnnjphhkheocgaa
