/-
  Contracts of the laws' helpers that read yards: the sizes, the comparisons.
-/
import Derived.Test.YthlcjojhmhoadaaGYh
namespace Go.Proofs.Ythlcjojhmhoadaa
open Go.RowKit
set_option linter.unusedVariables false

theorem rows_ext {ss tt : List (List Int)} (hl : ss.length = tt.length) (h : ∀ k, k < ss.length → rowAt ss k = rowAt tt k) : ss = tt := by
  refine List.ext_getElem hl fun k h1 h2 => ?_
  have := h k h1
  rwa [rowAt_get h1, rowAt_get h2] at this
theorem rows_ne {ss tt : List (List Int)} {k : Nat} (h : rowAt ss k ≠ rowAt tt k) : ss ≠ tt := fun e => h (by rw [e])

/-- What szIntSS gives. -/
def szY (left : Int) (ss : List (List Int)) : Int := if left - ss.length - ss.flatten.length < 0 then -1 else left - ss.length - ss.flatten.length
theorem szY_len {left : Int} {ss : List (List Int)} (h : left - ss.length < 0) : szY left ss = -1 := by
  unfold szY; rw [if_pos (by omega)]
theorem szY_row {left : Int} {ss : List (List Int)} {k : Nat} (hk : k < ss.length) (h : left - ss.length - sumY ss k - (rowAt ss k).length < 0) : szY left ss = -1 := by
  have h1 := sumY_next hk
  have h2 := sumY_le (ss := ss) (k := k + 1) hk
  unfold szY; rw [if_pos (by omega)]
theorem szY_end {left : Int} {ss : List (List Int)} (h : 0 ≤ left - ss.length - sumY ss ss.length) : szY left ss = left - ss.length - sumY ss ss.length := by
  have := sumY_end ss
  unfold szY; rw [if_neg (by omega), this]

theorem szIntS_any (a : Option Addr) (n cap : Nat) (left : Int) (w : World) (h0 : 0 ≤ left) (h1 : left ≤ 1048576) (hn : n ≤ 9223372036854775807) :
    Calls Try.prog 55 #[.slice a n cap, .int .i64 left] w fun e w' => e = .returned (.int .i64 (if left - n < 0 then -1 else left - n)) ∧ w = w' := by
  by_cases hl : left - n < 0
  · rw [if_pos hl]
    go_enter Try.func55, Try.ntmps55
    go_wp2
    go_ret
    exact ⟨rfl, rfl⟩
  · rw [if_neg hl]
    go_enter Try.func55, Try.ntmps55
    go_wp2
    go_ret
    exact ⟨rfl, rfl⟩

set_option maxHeartbeats 1000000 in
theorem szIntSS_any (v : Value) (ss : List (List Int)) (left : Int) (w : World) (hh : HoldsY w v ss) (h0 : 0 ≤ left) (h1 : left ≤ 1048576) :
    Calls Try.prog 32 #[v, .int .i64 left] w fun e w' => e = .returned (.int .i64 (szY left ss)) ∧ w = w' := by
  have HU := Lib.hid hh
  obtain ⟨a, cap, rfl, -, -, -, -⟩ := hh
  obtain ⟨n, hn⟩ : ∃ n, n = ss.length := ⟨_, rfl⟩
  have HN := Lib.hid hn.symm
  rw [← hn] at HU ⊢
  have hm : n ≤ 9223372036854775807 := by have := HU.out.len; omega
  have HL := Lib.hid fun h => szY_len (left := left) (ss := ss) h
  have HR := Lib.hid fun k hk h => szY_row (left := left) (ss := ss) (k := k) hk h
  have HE := Lib.hid (szY_end (left := left) (ss := ss))
  rw [← hn] at HL HR HE
  clear hn
  by_cases hl : left - n < 0
  · have hr := Lib.hid (HL.out hl)
    go_enter Try.func32, Try.ntmps32
    go_wp2
    go_ret
    exact ⟨by rw [hr.out]; rfl, rfl⟩
  · go_enter Try.func32, Try.ntmps32
    go_wp2_with fail
    go_loop [1, 5] (fun s i => ∃ (k : Nat) (x : Int), k ≤ n ∧ i = .int .i64 k ∧ s = .int .i64 x ∧ 0 ≤ x ∧ x ≤ 1048576 ∧ Hid (x = left - n - sumY ss k)) (fun _ i => n - (intOf i).toNat)
    case atStart => exact ⟨0, left - n, by omega, rfl, rfl, by omega, by omega, Lib.hid (by rw [sumY_start]; omega)⟩
    case round =>
      obtain ⟨k, x, hk, rfl, rfl, hx0, hx1, HX⟩ := hrel
      by_cases hlt : k < n
      · obtain ⟨b, off, y, c, rfl, hb, s0, hc1, hc2, -, hrow⟩ := HU.out.at_ hlt
        have HS := Lib.hid (szIntS_any y (rowAt ss k).length c x w hx0 hx1 (by omega))
        have HR2 := Lib.hid (HR.out k hlt)
        have HNX := Lib.hid (sumY_next (ss := ss) (k := k) (by rw [HN.out]; exact hlt))
        have ik : (k : Int) < (n : Int) := by omega
        clear hrow
        generalize (rowAt ss k).length = r at s0 HS HR2 HNX hc1
        by_cases hx : x - r < 0
        · rw [if_pos hx] at HS
          have hr := Lib.hid (HR2.out (by rw [← HX.out]; exact hx))
          clear hx
          go_wp2_with fail
          refine HS.out.mono ?_
          rintro e w' ⟨rfl, rfl⟩
          go_wp2_with fail
          go_ret
          exact ⟨by rw [hr.out]; rfl, rfl⟩
        · rw [if_neg hx] at HS
          obtain ⟨z, hz⟩ : ∃ z, z = x - (r : Int) := ⟨_, rfl⟩
          rw [← hz] at HS
          have z0 : 0 ≤ z := by omega
          have z1 : z ≤ 1048576 := by omega
          have HZ := Lib.hid (show z = left - n - sumY ss (k + 1) by have := HX.out; have := HNX.out; omega)
          clear hx hz
          go_wp2_with fail
          refine HS.out.mono ?_
          rintro e w' ⟨rfl, rfl⟩
          go_wp2_with fail
          go_round
          case rel => exact ⟨k + 1, z, by omega, by go_num, rfl, z0, z1, HZ⟩
          case measure => simp [intOf]; omega
      · have hkn : k = n := by omega
        subst hkn
        have hr := Lib.hid (HE.out (by have := HX.out; omega))
        have hr2 := Lib.hid (hr.out.trans HX.out.symm)
        go_wp2_with fail
        go_ret
        exact ⟨by rw [hr2.out]; rfl, rfl⟩
set_option maxHeartbeats 1000000 in
theorem eqIntSS_same (u v : Value) (ss : List (List Int)) (w : World) (hu : HoldsY w u ss) (hv : HoldsY w v ss) :
    Calls Try.prog 34 #[u, v] w fun e w' => e = .returned (.bool true) ∧ Below w.heap.size w w' := by
  have HU := Lib.hid hu
  have HV := Lib.hid hv
  obtain ⟨a, cap, rfl, -, -, -, -⟩ := hu
  obtain ⟨a', cap', rfl, -, -, -, -⟩ := hv
  obtain ⟨n, hn⟩ : ∃ n, n = ss.length := ⟨_, rfl⟩
  rw [← hn] at HU HV ⊢
  have hm : n ≤ 9223372036854775807 := by have := HU.out.len; omega
  clear hn
  go_enter Try.func34, Try.ntmps34
  go_wp2_with fail
  go_loopw [5] (fun i wr => ∃ k : Nat, k ≤ n ∧ i = .int .i64 k ∧ Below w.heap.size w wr) (fun i _ => n - (intOf i).toNat)
  case atStart => exact ⟨0, by omega, rfl, Below.refl _ _⟩
  case round =>
    obtain ⟨k, hk, rfl, hbr⟩ := hrel
    by_cases hlt : k < n
    · obtain ⟨b, off, x, c, rfl, hb, s0, hc1, hc2, -, hrow⟩ := (HU.out.keep hbr).at_ hlt
      obtain ⟨b', off', x', c', rfl, hb', t0, hd1, hd2, -, hrow'⟩ := (HV.out.keep hbr).at_ hlt
      have hd : Below wr.heap.size wr wr.drew := (Below.refl _ _).drew
      have HE := Lib.hid (eqIntS_same _ _ _ wr.drew (hrow.keep hd) (hrow'.keep hd))
      have ik : (k : Int) < (n : Int) := by omega
      have i0k : (0 : Int) ≤ (k : Int) := by omega
      clear hrow hrow'
      generalize (rowAt ss k).length = r at s0 t0 HE hc1 hd1
      go_wp2_with fail
      (first | go_region_with (go_at_call 36; (with_reducible refine HE.out.mono ?_); rintro e w5 ⟨rfl, b5⟩) | fail)
      all_goals
        have hb5 := hbr.trans (Below.mono (hd.trans b5) hbr.size)
        clear b5 HE hd s0 t0
        go_wp2_with fail
        go_roundw
        case rel => exact ⟨k + 1, by omega, by go_num, hb5⟩
        case measure => simp [intOf]; omega
    · go_wp2_with fail
      go_ret
      exact ⟨rfl, hbr⟩
end Go.Proofs.Ythlcjojhmhoadaa
