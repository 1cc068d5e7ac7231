/-
  The model's chapter 12, first part: UsesValid, l12Many.
-/
import Derived.Test.YthlcjojhmhoadaaGPg
import Derived.Test.YthlcjojhmhoadaaGYh
import Derived.Test.YthlcjojhmhoadaaGBase
import Derived.Test.YthlcjojhmhoadaaGPl
import Derived.Test.YthlcjojhmhoadaaGPn
import Derived.Laws.AppendOwnNone
import Derived.Deep.QuietTactic
import Derived.BigQuiet
namespace Go.Proofs.Ythlcjojhmhoadaa
open Go.RowKit
set_option linter.unusedVariables false

theorem quiet_same {P : Program} {f : FuncId} {args : Array Value} {w : World} {n : Nat} {v : Value}
    (h : Calls P f args (w.drewN n) fun e w' => e = .returned v ∧ w.drewN n = w') : Calls P f args (w.drewN n) fun e w'' => e = .returned v ∧ ∃ m, w'' = w.drewN m :=
  h.mono fun _ _ ⟨he, hm⟩ => ⟨he, n, hm.symm⟩
/-- What UsesValid asks of each list, and how its answer comes about. -/
def rowOk (u : List (List Int)) (k : Nat) : Prop := ∀ j, j < (rowAt u k).length → (0 ≤ (rowAt u k).getD j 0 ∧ (rowAt u k).getD j 0 ≤ 5) ∧ (0 < j → (rowAt u k).getD (j - 1) 0 < (rowAt u k).getD j 0)
theorem usesOk_bad {u : List (List Int)} {k j : Nat} (hk : k < u.length) (hj : j < (rowAt u k).length) (hc : ¬ ((0 ≤ (rowAt u k).getD j 0 ∧ (rowAt u k).getD j 0 ≤ 5) ∧ (0 < j → (rowAt u k).getD (j - 1) 0 < (rowAt u k).getD j 0))) : usesOk u = false := by
  cases he : usesOk u
  · rfl
  · exact absurd ((usesOk_iff.1 he).2 k hk j hj) hc
theorem usesOk_end {u : List (List Int)} (h : ∀ k, k < u.length → rowOk u k) : usesOk u = decide (u.length ≤ 6) := by
  by_cases hl : u.length ≤ 6
  · rw [decide_eq_true hl]; exact usesOk_iff.2 ⟨hl, fun k hk j hj => h k hk j hj⟩
  · rw [decide_eq_false hl]
    cases he : usesOk u
    · rfl
    · exact absurd (usesOk_iff.1 he).1 hl

set_option maxRecDepth 10000 in
set_option maxHeartbeats 4000000 in
theorem specUsesValid_any (v : Value) (u : List (List Int)) (w : World) (h : HoldsY w v u) :
    Calls Try.prog 15 #[v] w fun e w' => e = .returned (.bool (usesOk u)) ∧ Below w.heap.size w w' := by
  have HU := Lib.hid fun (w' : World) (hs : Below w.heap.size w w') => h.keep hs
  have BAD := Lib.hid fun k j hk hj hc => usesOk_bad (u := u) (k := k) (j := j) hk hj hc
  have END := Lib.hid fun h => usesOk_end (u := u) h
  obtain ⟨a, c, rfl⟩ : ∃ a c, v = .slice a u.length c := by obtain ⟨a, c, e, _⟩ := h; exact ⟨a, c, e⟩
  have hm : u.length ≤ 9223372036854775807 := by have := h.len; omega
  obtain ⟨res, hres⟩ : ∃ res, res = usesOk u := ⟨_, rfl⟩
  rw [← hres] at BAD END ⊢
  obtain ⟨n, hn⟩ : ∃ n, n = u.length := ⟨_, rfl⟩
  rw [← hn] at HU BAD END hm ⊢
  clear h hres hn
  go_enter Try.func15, Try.ntmps15
  go_wp2_with fail
  go_loopw [3] (fun i wr => ∃ k : Nat, k ≤ n ∧ i = .int .i64 k ∧ Hid (∀ j, j < k → rowOk u j) ∧ Hid (Below w.heap.size w wr)) (fun i _ => n - (intOf i).toNat)
  case atStart => exact ⟨0, by omega, rfl, Lib.hid fun j hj => by omega, Lib.hid (Below.refl _ _)⟩
  case round =>
    obtain ⟨k, hkn, rfl, HA, BR0⟩ := hrel
    obtain ⟨wo, rfl⟩ : ∃ wo : World, wo = wr := ⟨_, rfl⟩
    by_cases hlt : k < n
    · have ik : (k : Int) < (n : Int) := by omega
      have i0k : (0 : Int) ≤ (k : Int) := by omega
      have BADk := Lib.hid fun j hj hc => BAD.out k j hlt hj hc
      obtain ⟨m, hmm⟩ : ∃ m, m = (rowAt u k).length := ⟨_, rfl⟩
      have HML := Lib.hid hmm
      have HR := Lib.hid fun (w' : World) (hs : Below w.heap.size w w') => (show ∃ b off x c, a = some ⟨b, off, none⟩ ∧ w'.cell? ⟨b, off + k, none⟩ = some (.slice x m c) ∧ m ≤ 9223372036854775807 ∧ HoldsI w' (.slice x m c) (rowAt u k) from by
        obtain ⟨b, off, x, c, h1, _, h3, h4, h5, _, h6⟩ := (HU.out w' hs).at_ hlt
        rw [← hmm] at h3 h4 h6
        exact ⟨b, off, x, c, h1, h3, by omega, h6⟩)
      have hmb : m ≤ 9223372036854775807 := by obtain ⟨_, _, _, _, _, _, h, _⟩ := HR.out _ BR0.out; exact h
      rw [← hmm] at BADk
      clear hmm
      go_wp2_with fail
      go_loopw [4] (fun i wr => ∃ j : Nat, j ≤ m ∧ i = .int .i64 j ∧ Hid (∀ i, i < j → (0 ≤ (rowAt u k).getD i 0 ∧ (rowAt u k).getD i 0 ≤ 5) ∧ (0 < i → (rowAt u k).getD (i - 1) 0 < (rowAt u k).getD i 0)) ∧ Hid (Below w.heap.size w wr)) (fun i _ => m - (intOf i).toNat)
      case atStart => exact ⟨0, by omega, rfl, Lib.hid fun j hj => by omega, BR0⟩
      case round =>
        clear BR0
        obtain ⟨j, hjm, rfl, HB, BR⟩ := hrel
        obtain ⟨ub, uo, x, xc, rfl, s0, -, hx⟩ := HR.out wr BR.out
        by_cases hltj : j < m
        · obtain ⟨xb, xo, rfl, hxl, t0⟩ := hx.at_ hltj
          have BADj := Lib.hid fun hc => BADk.out j hltj hc
          have HNX := Lib.hid fun (hc : (0 ≤ (rowAt u k).getD j 0 ∧ (rowAt u k).getD j 0 ≤ 5) ∧ (0 < j → (rowAt u k).getD (j - 1) 0 < (rowAt u k).getD j 0)) => (show ∀ i, i < j + 1 → (0 ≤ (rowAt u k).getD i 0 ∧ (rowAt u k).getD i 0 ≤ 5) ∧ (0 < i → (rowAt u k).getD (i - 1) 0 < (rowAt u k).getD i 0) from fun i hi => by
            by_cases e : i = j
            · subst e; exact hc
            · exact HB.out i (by omega))
          have ij : (j : Int) < (m : Int) := by omega
          have i0j : (0 : Int) ≤ (j : Int) := by omega
          have B9 := Lib.hid fun n => (show Below w.heap.size w (wr.drewN n) from belowP_drewN BR.out n)
          by_cases hin : 0 ≤ (rowAt u k).getD j 0 ∧ (rowAt u k).getD j 0 ≤ 5
          · have HIN := Lib.hid fun (w' : World) => l1In_yes ((rowAt u k).getD j 0) 0 5 w' hin.1 hin.2
            by_cases hj0 : j = 0
            · subst hj0
              have hnx := Lib.hid (HNX.out ⟨hin, fun h => by omega⟩)
              obtain ⟨y, hy⟩ : ∃ y, y = (rowAt u k).getD 0 0 := ⟨_, rfl⟩
              rw [← hy] at t0 HIN
              rw [Nat.add_zero] at t0
              clear hy hin HNX
              go_wp2_with fail
              go_quiet (first
                | (go_at_call 43; refine quiet_same (HIN.out _))
                | fail)
              go_wp2_with fail
              go_roundw
              case rel => exact ⟨0 + 1, by omega, by go_num, hnx, Lib.hid (B9.out _)⟩
              case measure => simp [intOf]; omega
            · obtain ⟨jj, hjj⟩ : ∃ jj, j = jj + 1 := ⟨j - 1, by omega⟩
              obtain ⟨xb', xo', e', _, t1⟩ := hx.at_ (show jj < m by omega)
              simp only [Option.some.injEq, Addr.mk.injEq, and_true] at e'
              obtain ⟨rfl, rfl⟩ := e'
              have e2 : j - 1 = jj := by omega
              rw [e2] at HNX BADj
              have hjd : decide ((j : Int) > 0) = true := decide_eq_true (by omega)
              have hjd2 : decide ((0 : Int) < (j : Int)) = true := hjd
              have hjd3 : decide (0 < j) = true := decide_eq_true (by omega)
              have hjd4 : 0 < j := by omega
              have zj : IntKind.i64.wrap ((j : Int) - 1) = (jj : Int) := by rw [IntWalk.i64_in _ (by omega)]; omega
              have i0jj : (0 : Int) ≤ (jj : Int) := by omega
              have ijj : (jj : Int) < (m : Int) := by omega
              have CASE := Lib.hid (show (rowAt u k).getD jj 0 < (rowAt u k).getD j 0 ∨ (rowAt u k).getD j 0 ≤ (rowAt u k).getD jj 0 by omega)
              have HIP := Lib.hid hin
              obtain ⟨y, hy⟩ : ∃ y, y = (rowAt u k).getD j 0 := ⟨_, rfl⟩
              obtain ⟨z, hz⟩ : ∃ z, z = (rowAt u k).getD jj 0 := ⟨_, rfl⟩
              rw [← hy, ← hz] at CASE HNX BADj
              rw [← hy] at t0 HIN HIP
              rw [← hz] at t1
              clear hy hz hin hjj e2
              rcases CASE.out with hc | hc
              · have hge : decide (z ≥ y) = false := decide_eq_false (by omega)
                have hge2 : decide (y ≤ z) = false := hge
                have hnx := Lib.hid (HNX.out ⟨HIP.out, fun _ => hc⟩)
                go_wp2_with fail
                go_quiet (first
                  | (go_at_call 43; refine quiet_same (HIN.out _))
                  | fail)
                go_wp2_with fail
                go_roundw
                case rel => exact ⟨j + 1, by omega, by go_num, hnx, Lib.hid (B9.out _)⟩
                case measure => simp [intOf]; omega
              · have hge : decide (z ≥ y) = true := decide_eq_true hc
                have hge2 : decide (y ≤ z) = true := hge
                have hr := Lib.hid (BADj.out fun hh => by have := hh.2 (by omega); omega)
                go_wp2_with fail
                go_quiet (first
                  | (go_at_call 43; refine quiet_same (HIN.out _))
                  | fail)
                go_wp2_with fail
                go_ret
                exact ⟨by rw [hr.out]; rfl, B9.out _⟩
          · have HIN := Lib.hid fun (w' : World) => l1In_no ((rowAt u k).getD j 0) 0 5 w' (by omega)
            have hr := Lib.hid (BADj.out fun hh => hin hh.1)
            obtain ⟨y, hy⟩ : ∃ y, y = (rowAt u k).getD j 0 := ⟨_, rfl⟩
            rw [← hy] at t0 HIN
            clear hy hin HNX
            go_wp2_with fail
            go_quiet (first
              | (go_at_call 43; refine quiet_same (HIN.out _))
              | fail)
            go_wp2_with fail
            go_ret
            exact ⟨by rw [hr.out]; rfl, B9.out _⟩
        · obtain rfl : j = m := by omega
          have hall := Lib.hid (show ∀ i, i < k + 1 → rowOk u i from fun i hi => by
            by_cases e : i = k
            · subst e; intro q hq; exact HB.out q (by have := HML.out; omega)
            · exact HA.out i (by omega))
          clear hx
          go_wp2_with fail
          go_roundw
          case rel => exact ⟨k + 1, by omega, by go_num, hall, BR⟩
          case measure => simp [intOf]; omega
    · obtain rfl : k = n := by omega
      have hr := Lib.hid (END.out fun j hj => HA.out j hj)
      have C9 := BR0.out
      obtain ⟨r, hrr⟩ : ∃ r, r = decide (k ≤ 6) := ⟨_, rfl⟩
      have hrr2 : decide ((k : Int) ≤ 6) = r := by rw [hrr]; exact decide_eq_decide.2 (by omega)
      rw [← hrr] at hr
      clear hrr
      go_wp2_with fail
      go_ret
      exact ⟨by rw [hr.out]; rfl, C9⟩

set_option maxRecDepth 10000 in
set_option maxHeartbeats 1000000 in
theorem l12Many_any (v : Value) (ps : List Int) (w : World) (h : HoldsI w v ps) (hn : ps.length ≤ 1048576) :
    Calls Try.prog 52 #[v] w fun e w' => e = .returned (.int .i64 ((manyP ps : Nat) : Int)) ∧ w = w' := by
  have HH := Lib.hid h
  obtain ⟨a, c, rfl⟩ := h.form
  have HMN := Lib.hid fun k (hk : k < ps.length) => (show manyP (ps.take (k + 1)) = manyP (ps.take k) + if 0 ≤ ps.getD k 0 then 1 else 0 from by
    rw [← List.take_append_getElem hk, manyP_app, getD_ps hk]
    congr 1
    unfold manyP
    by_cases h0 : 0 ≤ ps[k] <;> simp [h0])
  have HMB := Lib.hid fun k => (show manyP (ps.take k) ≤ k from Nat.le_trans (List.length_filter_le _ _) (by rw [List.length_take]; omega))
  have HME := Lib.hid (show manyP (ps.take ps.length) = manyP ps by rw [List.take_length])
  obtain ⟨n, hn'⟩ : ∃ n, n = ps.length := ⟨_, rfl⟩
  rw [← hn'] at HH HMN HME hn ⊢
  clear h hn'
  go_enter Try.func52, Try.ntmps52
  go_wp2_with fail
  go_loopw [3, 4] (fun s i wr => ∃ k : Nat, k ≤ n ∧ s = .int .i64 ((manyP (ps.take k) : Nat) : Int) ∧ i = .int .i64 k ∧ w = wr) (fun _ i _ => n - (intOf i).toNat)
  case atStart => exact ⟨0, by omega, rfl, rfl, rfl⟩
  case round =>
    obtain ⟨k, hk, rfl, rfl, rfl⟩ := hrel
    by_cases hlt : k < n
    · obtain ⟨b, off, rfl, hbl, s0⟩ := HH.out.at_ hlt
      have ik : (k : Int) < (n : Int) := by omega
      have i0k : (0 : Int) ≤ (k : Int) := by omega
      have hmn := HMN.out k hlt
      have hmb := HMB.out k
      obtain ⟨x, hx⟩ : ∃ x, x = ps.getD k 0 := ⟨_, rfl⟩
      rw [← hx] at s0 hmn
      obtain ⟨q, hq⟩ : ∃ q, q = manyP (ps.take k) := ⟨_, rfl⟩
      rw [← hq] at hmn hmb ⊢
      clear hx hq
      by_cases h0 : 0 ≤ x
      · rw [if_pos h0] at hmn
        have HQ := Lib.hid hmn
        have hxd : decide (x ≥ 0) = true := decide_eq_true h0
        clear hmn
        go_wp2_with fail
        go_roundw
        case rel => exact ⟨k + 1, by omega, by rw [HQ.out]; go_num, by go_num, (by first | rfl | trivial)⟩
        case measure => simp [intOf]; omega
      · rw [if_neg h0] at hmn
        have HQ := Lib.hid hmn
        have hxd : decide (x ≥ 0) = false := decide_eq_false h0
        clear hmn
        go_wp2_with fail
        go_roundw
        case rel => exact ⟨k + 1, by omega, by rw [HQ.out]; rfl, by go_num, (by first | rfl | trivial)⟩
        case measure => simp [intOf]; omega
    · obtain rfl : k = n := by omega
      rw [HME.out]
      go_wp2_with fail
      go_ret
      exact ⟨rfl, rfl⟩

end Go.Proofs.Ythlcjojhmhoadaa
