/-
  For every code of bytes the law on PlugsOf (the model's answer; with one box fewer there are no others; each is one that one of them can use) returns true and leaves its argument as it was. Conditions: none beyond the form's own reach.
-/
import Derived.Test.YthlcjojhmhoadaaRows
import Derived.Test.YthlcjojhmhoadaaGBase
import Derived.WalkKit
import Derived.ProofKit
import Derived.OpenShut
import Derived.ShutString
import Derived.ChangeOld
import Derived.Below
import Derived.Test.YthlcjojhmhoadaaGCr
import Derived.Test.YthlcjojhmhoadaaPgE
import Derived.Test.YthlcjojhmhoadaaPgF
import Derived.Test.YthlcjojhmhoadaaPgC
import Derived.Test.YthlcjojhmhoadaaPgT
import Derived.Test.YthlcjojhmhoadaaPgS
import Derived.Test.YthlcjojhmhoadaaPgU
import Derived.Test.YthlcjojhmhoadaaPgI
import Derived.Test.YthlcjojhmhoadaaGPn
import Derived.Test.YthlcjojhmhoadaaSkMath
namespace Go.Proofs.Ythlcjojhmhoadaa.fnPlugsOf
open Go.ChangeShapes Go.WideShapes Go.ChangeAt Go.RowKit
open Go.ChangeMaps (open_string shut_string)
set_option linter.unusedVariables false


/-- What the walk is told of a slice of integers that came in. -/
def IsRow (k : IntKind) (w : World) (a : Option Addr) (len cap : Nat) (zs : List Int) : Prop :=
  (a = none ∧ len = 0 ∧ cap = 0 ∧ zs = []) ∨
  ∃ x, a = some x ∧ len ≤ cap ∧ cap ≤ maxLen ∧ zs.length = cap ∧ (∀ i, i < zs.length → w.cell? (x.add i) = some (.int k (zs.getD i 0))) ∧ ∀ n ∈ zs, (Lit.int k n).wf = true

theorem plugO_cons {u : List (List Int)} {x : Int} {t : List Int} (h : plugO u (x :: t) ≠ []) : usesOk u = true ∧ 0 ≤ x ∧ x < (u.length : Int) ∧ plugO u (x :: t) = plugN u (x :: t) ∧ plugO u t = plugN u t := by
  by_cases hc : usesOk u = true ∧ ∀ k, k < (x :: t).length → 0 ≤ (x :: t).getD k 0 ∧ (x :: t).getD k 0 < (u.length : Int)
  · have h0 := hc.2 0 (by simp)
    have e : (x :: t).getD 0 0 = x := rfl
    rw [e] at h0
    refine ⟨hc.1, h0.1, h0.2, if_pos hc, if_pos ⟨hc.1, fun k hk => ?_⟩⟩
    exact hc.2 (k + 1) (by rw [List.length_cons]; omega)
  · exact absurd (if_neg hc) h
theorem plugN_sub {u : List (List Int)} {x : Int} {t : List Int} {q : Int} (h : q ∈ plugN u t) : q ∈ plugN u (x :: t) := by
  obtain ⟨h1, k, h2, h3⟩ := plugN_mem.1 h
  exact plugN_mem.2 ⟨h1, k, List.mem_cons_of_mem _ h2, h3⟩
theorem plugN_split {u : List (List Int)} {x : Int} {t : List Int} {q : Int} (h : q ∈ plugN u (x :: t)) : q ∈ plugN u t ∨ q ∈ useA u x.toNat := by
  obtain ⟨h1, k, h2, h3⟩ := plugN_mem.1 h
  rcases List.mem_cons.1 h2 with e | e
  · subst e; exact .inr h3
  · exact .inl (plugN_mem.2 ⟨h1, k, e, h3⟩)
theorem plugN_asc (u : List (List Int)) (some : List Int) : ∀ k, k + 1 < (plugN u some).length → (plugN u some).getD k 0 < (plugN u some).getD (k + 1) 0 := fun k hk => by
  have hp : (plugN u some).Pairwise (· < ·) := by
    unfold plugN
    refine List.Pairwise.filter _ ?_
    rw [List.pairwise_map]
    exact List.Pairwise.imp (fun hab => Int.ofNat_lt.2 hab) List.pairwise_lt_range
  have := List.pairwise_iff_getElem.1 hp k (k + 1) (by omega) hk (by omega)
  rw [getD_ps (by omega), getD_ps hk]
  exact this
theorem HoldsI.tail_ {w : World} {vb vo vc : Nat} {x : Int} {t : List Int} (h : HoldsI w (.slice (some ⟨vb, vo, none⟩) (t.length + 1) vc) (x :: t)) : HoldsI w (.slice (if vc = 1 then some ⟨vb, vo, none⟩ else some ⟨vb, vo + 1, none⟩) t.length (vc - 1)) t := by
  obtain ⟨a', cap', e, h1, h2, h3⟩ := h
  simp only [Value.slice.injEq] at e
  obtain ⟨e1, -, rfl⟩ := e
  rw [List.length_cons] at h1
  refine ⟨_, vc - 1, rfl, by omega, by omega, ?_⟩
  rcases h3 with h3 | ⟨b, off, h5, h6, h7⟩
  · simp at h3
  · rw [h5] at e1
    simp only [Option.some.injEq, Addr.mk.injEq, and_true] at e1
    obtain ⟨rfl, rfl⟩ := e1
    by_cases hz : t.length = 0
    · exact .inl hz
    · rw [if_neg (by omega)]
      refine .inr ⟨vb, vo + 1, rfl, h6, fun k hk => ?_⟩
      have := h7 (k + 1) (by rw [List.length_cons]; omega)
      rw [show vo + 1 + k = vo + (k + 1) by omega]
      exact this
set_option maxRecDepth 10000 in
set_option maxHeartbeats 4000000 in
theorem walk (a0 : Option Addr) (len0 cap0 : Nat) (w : World) (w0 : IsRow8 w a0 len0 cap0) :
    Calls Try.prog 7 #[.slice a0 len0 cap0] w fun e w' => e = .returned (.bool true) ∧ Below w.heap.size w w' := by
  have hm := row8_len w0
  unfold maxLen at hm
  by_cases hl : ¬ len0 ≤ 1048576
  · go_enter Try.func7, Try.ntmps7
    go_wp2
    go_ret
    exact ⟨rfl, Below.refl _ _⟩
  · have hl := Nat.not_lt.1 (fun h => hl (Nat.not_le.2 h))
    go_enter Try.func7, Try.ntmps7
    go_wp2_with fail
    obtain ⟨i0, hi, hz0, hz1, hz2⟩ := info_parts infoInt
    have HI := Lib.hid hi
    have HZ0 := Lib.hid hz0
    have HZ1 := Lib.hid hz1
    have HZ2 := Lib.hid hz2
    clear hi hz0 hz1 hz2
    refine (drawPlugsOf_any a0 len0 cap0 w w0).mono ?_
    rintro e w1 ⟨u, ss, v, l, hl7, ha6, hl8, he, NY, OW, hb⟩
    subst he
    have hY := NY.holds
    have hV := OW.holds
    obtain ⟨ua, uc, rfl⟩ := NY.form
    obtain ⟨va, vc, rfl⟩ := hV.form
    have YK := Lib.hid fun (w' : World) (hs : Below w1.heap.size w1 w') => hY.keep hs
    have VK := Lib.hid fun (w' : World) (hs : Below w1.heap.size w1 w') => hV.keep hs
    have CB := Lib.hid hb
    have HIM := Lib.hid (implPlugsOf_any (.slice ua ss.length uc) (.slice va l.length vc) ss l w1 hY hV (by omega))
    have HSP := Lib.hid fun (w' : World) (hs : Below w1.heap.size w1 w') => specPlugsOf_any (.slice ua ss.length uc) (.slice va l.length vc) ss l w' (hY.keep hs) (hV.keep hs)
    have hvc : l.length ≤ vc ∧ vc ≤ 9223372036854775807 := by
      obtain ⟨a', c', e, q1, q2, _⟩ := hV
      simp only [Value.slice.injEq] at e
      obtain ⟨-, -, rfl⟩ := e
      unfold maxLen at q2
      omega
    clear NY OW hb ha6 w0 hY
    by_cases hemp : plugO ss l = []
    · rw [hemp] at HIM HSP
      clear hemp hV
      go_wp2_with fail
      refine HIM.out.mono ?_
      rintro e w2 ⟨v2, rfl, f2, d2⟩
      have h2 := f2.holds
      obtain ⟨ia, ic, rfl⟩ := h2.form
      have HSP2 := Lib.hid (HSP.out w2 d2)
      have D2 := d2
      clear HIM HSP f2 d2
      go_wp2_with fail
      refine HSP2.out.mono ?_
      rintro e w3 ⟨v3, rfl, n3, d3⟩
      have D3 := D2.trans (d3.mono D2.size)
      have h2 := h2.keep d3
      have n3 := n3.holds
      clear HSP2 D2 d3
      go_wp2_with fail
      refine (sameInts_yes _ _ ([]) w3 h2 n3).mono ?_
      rintro e w4 ⟨rfl, d4⟩
      have D4 := Lib.hid (D3.trans (d4.mono D3.size))
      have h2 := h2.keep d4
      clear D3 d4 n3
      have C9 := CB.out.trans (D4.out.mono CB.out.size)
      clear h2
      go_wp2_with fail
      refine (alive_yes _).mono ?_
      rintro e w' ⟨rfl, rfl⟩
      go_wp2_with fail
      go_ret
      exact ⟨rfl, C9⟩
    · cases l with
      | nil => exact absurd (by unfold plugO; split <;> simp [plugN]) hemp
      | cons x t =>
        obtain ⟨hok, hx0, hx1, he1, he2⟩ := plugO_cons hemp
        obtain ⟨vb, vo, rfl⟩ : ∃ vb vo, va = some ⟨vb, vo, none⟩ := by
          obtain ⟨b, off, e, _⟩ := hV.at_ (k := 0) (by simp)
          exact ⟨b, off, e⟩
        rw [List.length_cons] at VK hvc hl8 HIM HSP ⊢
        rw [he1] at HIM HSP hemp
        have hL0 : 0 < (plugN ss (x :: t)).length := Nat.pos_of_ne_zero fun h9 => hemp (List.eq_nil_of_length_eq_zero h9)
        have HSUB := Lib.hid fun q (hq : q ∈ plugN ss t) => plugN_sub (x := x) hq
        have HSPL := Lib.hid fun q (hq : q ∈ plugN ss (x :: t)) => plugN_split hq
        have HASC := Lib.hid (plugN_asc ss (x :: t))
        have hLL : (plugN ss (x :: t)).length ≤ 6 := by unfold plugN; exact Nat.le_trans (List.length_filter_le _ _) (by simp)
        have hML : (plugN ss t).length ≤ 6 := by unfold plugN; exact Nat.le_trans (List.length_filter_le _ _) (by simp)
        have HLS := Lib.hid fun (v' : Value) (w' : World) (hs : Below w1.heap.size w1 w') (hq : HoldsI w' v' t) => he2 ▸ implPlugsOf_any (.slice ua ss.length uc) v' ss t w' (YK.out w' hs) hq (by omega)
        obtain ⟨i, hi⟩ : ∃ i : Nat, x = (i : Int) := ⟨x.toNat, by omega⟩
        have hil : i < ss.length := by rw [hi] at hx1; omega
        have e3 : useA ss x.toNat = rowAt ss i := by rw [hi, Int.toNat_natCast]; rfl
        rw [e3] at HSPL
        obtain ⟨L, hL⟩ : ∃ L, L = plugN ss (x :: t) := ⟨_, rfl⟩
        obtain ⟨M, hM⟩ : ∃ M, M = plugN ss t := ⟨_, rfl⟩
        rw [← hL] at HIM HSP HSUB HSPL HASC hL0 hLL
        rw [← hM] at HLS HSUB HSPL hML
        have hl0 : ((L.length : Int) == 0) = false := by rw [beq_eq_false_iff_ne]; omega
        have ht0 : (((t.length + 1 : Nat) : Int) == 0) = false := by rw [beq_eq_false_iff_ne]; omega
        have i1n : (1 : Int) ≤ ((t.length + 1 : Nat) : Int) := by omega
        have hucn : ¬ vc = 0 := by omega
        clear hV hemp hok he1 he2 e3 hL hM hx0 hx1
        go_wp2_with fail
        refine HIM.out.mono ?_
        rintro e w2 ⟨v2, rfl, f2, d2⟩
        have h2 := f2.holds
        obtain ⟨ia, ic, rfl⟩ := h2.form
        have HSP2 := Lib.hid (HSP.out w2 d2)
        have D2 := d2
        clear HIM HSP f2 d2
        go_wp2_with fail
        refine HSP2.out.mono ?_
        rintro e w3 ⟨v3, rfl, n3, d3⟩
        have D3 := D2.trans (d3.mono D2.size)
        have h2 := h2.keep d3
        have n3 := n3.holds
        clear HSP2 D2 d3
        go_wp2_with fail
        refine (sameInts_yes _ _ (L) w3 h2 n3).mono ?_
        rintro e w4 ⟨rfl, d4⟩
        have D4 := Lib.hid (D3.trans (d4.mono D3.size))
        have h2 := h2.keep d4
        clear D3 d4 n3
        by_cases hv1 : vc = 1
        · have HV4 := Lib.hid (show HoldsI w4 (.slice (some ⟨vb, vo, none⟩) t.length 0) t from by have := HoldsI.tail_ (VK.out w4 D4.out); simpa [hv1] using this)
          have LK := Lib.hid fun (w' : World) (hs : Below w4.heap.size w4 w') => h2.keep hs
          clear h2
          go_wp2_with fail
          refine (HLS.out _ w4 D4.out HV4.out).mono ?_
          rintro e w5 ⟨v5, rfl, f5, d5⟩
          have h5 := f5.holds
          obtain ⟨ma, mc, rfl⟩ := h5.form
          have D5 := Lib.hid (D4.out.trans (d5.mono D4.out.size))
          have LK5 := Lib.hid fun (w' : World) (hs : Below w5.heap.size w5 w') => LK.out w' (d5.trans (hs.mono d5.size))
          have MK := Lib.hid fun (w' : World) (hs : Below w5.heap.size w5 w') => h5.keep hs
          clear f5 d5 h5 LK HV4 HLS D4
          go_wp2_with fail
          go_loopw [7] (fun kv wr => ∃ k : Nat, k ≤ M.length ∧ kv = .int .i64 k ∧ wr = w5) (fun kv _ => M.length - (intOf kv).toNat)
          case atStart => exact ⟨0, by omega, rfl, rfl⟩
          case round =>
            obtain ⟨k, hkM, rfl, hww⟩ := hrel
            have hw2 : w5 = wr := hww.symm
            subst hw2
            clear hww
            by_cases hlt : k < M.length
            · obtain ⟨mb, mo, rfl, hmb, s0⟩ := (MK.out w5 (Below.refl _ _)).at_ hlt
              have ik : (k : Int) < (M.length : Int) := by omega
              have i0k : (0 : Int) ≤ (k : Int) := by omega
              have HH := hasInt_any (.slice ia L.length ic) L (M.getD k 0) w5 (LK5.out w5 (Below.refl _ _))
              rw [hasI_iffP.2 (HSUB.out _ (by rw [getD_ps hlt]; exact List.getElem_mem hlt))] at HH
              obtain ⟨y, hy⟩ : ∃ y, y = M.getD k 0 := ⟨_, rfl⟩
              rw [← hy] at s0 HH
              have HHk := Lib.hid HH
              clear HH hy
              go_wp2_with fail
              refine HHk.out.mono ?_
              rintro e w' ⟨rfl, rfl⟩
              go_wp2_with fail
              go_roundw
              case rel => exact ⟨k + 1, by omega, by go_num, by first | trivial | rfl⟩
              case measure => simp [intOf]; omega
            · obtain rfl : k = M.length := by omega
              go_wp2_with fail
              go_loopw [8] (fun kv wx => ∃ k : Nat, k ≤ L.length ∧ kv = .int .i64 k ∧ Hid (Below w5.heap.size w5 wx)) (fun kv _ => L.length - (intOf kv).toNat)
              case atStart => exact ⟨0, by omega, rfl, Lib.hid (Below.refl _ _)⟩
              case round =>
                obtain ⟨k, hkL, rfl, BX⟩ := hrel
                have EX := Lib.hid (D5.out.trans (BX.out.mono D5.out.size))
                by_cases hltL : k < L.length
                · obtain ⟨ib, io, rfl, hib, s0⟩ := (LK5.out wr BX.out).at_ hltL
                  have ik : (k : Int) < (L.length : Int) := by omega
                  have i0k : (0 : Int) ≤ (k : Int) := by omega
                  have hmem : L.getD k 0 ∈ L := by rw [getD_ps hltL]; exact List.getElem_mem hltL
                  obtain ⟨y, hy⟩ : ∃ y, y = L.getD k 0 := ⟨_, rfl⟩
                  rw [← hy] at s0 hmem
                  have H1 := Lib.hid fun m => hasInt_any (.slice ma M.length mc) M y (wr.drewN m) (MK.out _ (BX.out.trans ((belowP_drewN (Below.refl _ _) m).mono BX.out.size)))
                  have B9 := Lib.hid fun n => (show Below w5.heap.size w5 (wr.drewN n) from belowP_drewN BX.out n)
                  cases hq : hasI M y
                  · have hru : hasI (rowAt ss i) y = true := by
                      rcases HSPL.out y hmem with h9 | h9
                      · rw [hasI_iffP.2 h9] at hq; cases hq
                      · exact hasI_iffP.2 h9
                    rw [hq] at H1
                    obtain ⟨ub, uo, xa, xc, rfl, hub, u0, -, -, -, hx⟩ := (YK.out wr EX.out).at_ hil
                    obtain ⟨vb2, vo2, e0, hvb, t0⟩ := (VK.out wr EX.out).at_ (k := 0) (by omega)
                    simp only [Option.some.injEq, Addr.mk.injEq, and_true] at e0
                    obtain ⟨rfl, rfl⟩ := e0
                    have e5 : (x :: t).getD 0 0 = (i : Int) := hi
                    rw [e5, Nat.add_zero] at t0
                    have H2 := Lib.hid fun m => (show Calls Try.prog 25 #[.slice xa (rowAt ss i).length xc, .int .i64 y] (wr.drewN m) fun e w'' => e = .returned (.bool true) ∧ wr.drewN m = w'' from by
                      have := hasInt_any (.slice xa (rowAt ss i).length xc) (rowAt ss i) y (wr.drewN m) (hx.keep (belowP_drewN (Below.refl _ _) m))
                      rw [hru] at this
                      exact this)
                    have ii : (i : Int) < (ss.length : Int) := by omega
                    have i0i : (0 : Int) ≤ (i : Int) := by omega
                    have i0t : (0 : Int) < (t.length : Int) + 1 := by omega
                    clear hq hru hmem hy hx e5
                    go_wp2_with fail
                    go_quiet (first
                      | (go_at_call 25; with_reducible refine quiet_same (H1.out _))
                      | (go_at_call 25; with_reducible refine quiet_same (H2.out _))
                      | fail)
                    go_wp2_with fail
                    go_roundw
                    case rel => exact ⟨k + 1, by omega, by go_num, Lib.hid (B9.out _)⟩
                    case measure => simp [intOf]; omega
                  · rw [hq] at H1
                    clear hq hmem hy
                    go_wp2_with fail
                    go_quiet (first
                      | (go_at_call 25; with_reducible refine quiet_same (H1.out _))
                      | fail)
                    go_wp2_with fail
                    go_roundw
                    case rel => exact ⟨k + 1, by omega, by go_num, Lib.hid (B9.out _)⟩
                    case measure => simp [intOf]; omega
                · obtain rfl : k = L.length := by omega
                  have HAL := Lib.hid (ascendP_yes (.slice ia L.length ic) L wr (LK5.out wr BX.out) HASC.out)
                  have C5 := CB.out.trans (EX.out.mono CB.out.size)
                  go_wp2_with fail
                  refine HAL.out.mono ?_
                  rintro e w9 ⟨rfl, d9⟩
                  have C9 := C5.trans (d9.mono C5.size)
                  go_wp2_with fail
                  go_ret
                  exact ⟨rfl, C9⟩
        · have HV4 := Lib.hid (show HoldsI w4 (.slice (some ⟨vb, vo + 1, none⟩) t.length (vc - 1)) t from by have := HoldsI.tail_ (VK.out w4 D4.out); simpa [hv1] using this)
          have LK := Lib.hid fun (w' : World) (hs : Below w4.heap.size w4 w') => h2.keep hs
          clear h2
          go_wp2_with fail
          refine (HLS.out _ w4 D4.out HV4.out).mono ?_
          rintro e w5 ⟨v5, rfl, f5, d5⟩
          have h5 := f5.holds
          obtain ⟨ma, mc, rfl⟩ := h5.form
          have D5 := Lib.hid (D4.out.trans (d5.mono D4.out.size))
          have LK5 := Lib.hid fun (w' : World) (hs : Below w5.heap.size w5 w') => LK.out w' (d5.trans (hs.mono d5.size))
          have MK := Lib.hid fun (w' : World) (hs : Below w5.heap.size w5 w') => h5.keep hs
          clear f5 d5 h5 LK HV4 HLS D4
          go_wp2_with fail
          go_loopw [7] (fun kv wr => ∃ k : Nat, k ≤ M.length ∧ kv = .int .i64 k ∧ wr = w5) (fun kv _ => M.length - (intOf kv).toNat)
          case atStart => exact ⟨0, by omega, rfl, rfl⟩
          case round =>
            obtain ⟨k, hkM, rfl, hww⟩ := hrel
            have hw2 : w5 = wr := hww.symm
            subst hw2
            clear hww
            by_cases hlt : k < M.length
            · obtain ⟨mb, mo, rfl, hmb, s0⟩ := (MK.out w5 (Below.refl _ _)).at_ hlt
              have ik : (k : Int) < (M.length : Int) := by omega
              have i0k : (0 : Int) ≤ (k : Int) := by omega
              have HH := hasInt_any (.slice ia L.length ic) L (M.getD k 0) w5 (LK5.out w5 (Below.refl _ _))
              rw [hasI_iffP.2 (HSUB.out _ (by rw [getD_ps hlt]; exact List.getElem_mem hlt))] at HH
              obtain ⟨y, hy⟩ : ∃ y, y = M.getD k 0 := ⟨_, rfl⟩
              rw [← hy] at s0 HH
              have HHk := Lib.hid HH
              clear HH hy
              go_wp2_with fail
              refine HHk.out.mono ?_
              rintro e w' ⟨rfl, rfl⟩
              go_wp2_with fail
              go_roundw
              case rel => exact ⟨k + 1, by omega, by go_num, by first | trivial | rfl⟩
              case measure => simp [intOf]; omega
            · obtain rfl : k = M.length := by omega
              go_wp2_with fail
              go_loopw [8] (fun kv wx => ∃ k : Nat, k ≤ L.length ∧ kv = .int .i64 k ∧ Hid (Below w5.heap.size w5 wx)) (fun kv _ => L.length - (intOf kv).toNat)
              case atStart => exact ⟨0, by omega, rfl, Lib.hid (Below.refl _ _)⟩
              case round =>
                obtain ⟨k, hkL, rfl, BX⟩ := hrel
                have EX := Lib.hid (D5.out.trans (BX.out.mono D5.out.size))
                by_cases hltL : k < L.length
                · obtain ⟨ib, io, rfl, hib, s0⟩ := (LK5.out wr BX.out).at_ hltL
                  have ik : (k : Int) < (L.length : Int) := by omega
                  have i0k : (0 : Int) ≤ (k : Int) := by omega
                  have hmem : L.getD k 0 ∈ L := by rw [getD_ps hltL]; exact List.getElem_mem hltL
                  obtain ⟨y, hy⟩ : ∃ y, y = L.getD k 0 := ⟨_, rfl⟩
                  rw [← hy] at s0 hmem
                  have H1 := Lib.hid fun m => hasInt_any (.slice ma M.length mc) M y (wr.drewN m) (MK.out _ (BX.out.trans ((belowP_drewN (Below.refl _ _) m).mono BX.out.size)))
                  have B9 := Lib.hid fun n => (show Below w5.heap.size w5 (wr.drewN n) from belowP_drewN BX.out n)
                  cases hq : hasI M y
                  · have hru : hasI (rowAt ss i) y = true := by
                      rcases HSPL.out y hmem with h9 | h9
                      · rw [hasI_iffP.2 h9] at hq; cases hq
                      · exact hasI_iffP.2 h9
                    rw [hq] at H1
                    obtain ⟨ub, uo, xa, xc, rfl, hub, u0, -, -, -, hx⟩ := (YK.out wr EX.out).at_ hil
                    obtain ⟨vb2, vo2, e0, hvb, t0⟩ := (VK.out wr EX.out).at_ (k := 0) (by omega)
                    simp only [Option.some.injEq, Addr.mk.injEq, and_true] at e0
                    obtain ⟨rfl, rfl⟩ := e0
                    have e5 : (x :: t).getD 0 0 = (i : Int) := hi
                    rw [e5, Nat.add_zero] at t0
                    have H2 := Lib.hid fun m => (show Calls Try.prog 25 #[.slice xa (rowAt ss i).length xc, .int .i64 y] (wr.drewN m) fun e w'' => e = .returned (.bool true) ∧ wr.drewN m = w'' from by
                      have := hasInt_any (.slice xa (rowAt ss i).length xc) (rowAt ss i) y (wr.drewN m) (hx.keep (belowP_drewN (Below.refl _ _) m))
                      rw [hru] at this
                      exact this)
                    have ii : (i : Int) < (ss.length : Int) := by omega
                    have i0i : (0 : Int) ≤ (i : Int) := by omega
                    have i0t : (0 : Int) < (t.length : Int) + 1 := by omega
                    clear hq hru hmem hy hx e5
                    go_wp2_with fail
                    go_quiet (first
                      | (go_at_call 25; with_reducible refine quiet_same (H1.out _))
                      | (go_at_call 25; with_reducible refine quiet_same (H2.out _))
                      | fail)
                    go_wp2_with fail
                    go_roundw
                    case rel => exact ⟨k + 1, by omega, by go_num, Lib.hid (B9.out _)⟩
                    case measure => simp [intOf]; omega
                  · rw [hq] at H1
                    clear hq hmem hy
                    go_wp2_with fail
                    go_quiet (first
                      | (go_at_call 25; with_reducible refine quiet_same (H1.out _))
                      | fail)
                    go_wp2_with fail
                    go_roundw
                    case rel => exact ⟨k + 1, by omega, by go_num, Lib.hid (B9.out _)⟩
                    case measure => simp [intOf]; omega
                · obtain rfl : k = L.length := by omega
                  have HAL := Lib.hid (ascendP_yes (.slice ia L.length ic) L wr (LK5.out wr BX.out) HASC.out)
                  have C5 := CB.out.trans (EX.out.mono CB.out.size)
                  go_wp2_with fail
                  refine HAL.out.mono ?_
                  rintro e w9 ⟨rfl, d9⟩
                  have C9 := C5.trans (d9.mono C5.size)
                  go_wp2_with fail
                  go_ret
                  exact ⟨rfl, C9⟩

set_option maxRecDepth 100000 in
set_option maxHeartbeats 2000000 in
/-- What the walk gives, for every argument. -/
theorem contract (H : Type) (enc : TypeId × Value → H) (W : World) (base : Nat) (args : Array Value) (ds gs : List (DataW H)) (before : List MemPlace)
    (hval : ∀ (j : Nat) t v, Try.f7.params[j]? = some t → args[j]? = some v → Value.okWide Try.prog W .any base t v)
    (hW : DataW.Whole enc Try.prog Try.f7.params.toList Rows.fnPlugsOfSpec.vars false W args.toList ds gs before) :
    Calls Try.prog 7 args W fun e W' => ∃ v, e = .returned v ∧ Rows.fnPlugsOfSpec.post enc Try.prog Try.f7 false true false false W args v W' := by
  have hW' := hW
  obtain ⟨p, q, hA0, hV, rfl, hfz, hnd⟩ := hW
  have hA : DataW.TrodAll enc Try.prog W 0 (fun _ => true) true Try.f7.params.toList args.toList ds p := hA0
  rw [Try.params7] at hA hval
  obtain ⟨v0, vs0, d0, ds0, p0, q0, hargs, rfl, rfl, h0, r0⟩ := trodAll_cons hA
  obtain ⟨rfl, rfl, rfl⟩ := trodAll_nil r0
  obtain rfl : args = #[v0] := by cases args; simp_all
  obtain ⟨rfl, rfl⟩ := trodVars_none hV
  have k0 := h0
  have lt0 : ∀ x ∈ p0, x.block < W.heap.size := by obtain ⟨m, hm⟩ := k0; exact DataW.trod_lt m _ _ _ hm
  obtain ⟨a0, len0, cap0, rfl⟩ := okWide_slice Try.underlying22 (hval 0 22 v0 rfl rfl)
  obtain ⟨z0, x0⟩ : ∃ zs, IsRow .u8 W a0 len0 cap0 zs := by
    obtain ⟨fuel, hf⟩ := h0
    rcases open_ints Try.underlying22 Try.underlying5 (by kernel_rfl) hf with ⟨hcs, _⟩ | ⟨x, l, c, zs, hcs, _, hl, hm, hz, _, hcell, hwz⟩
    · simp [Value.cells] at hcs
      obtain ⟨rfl, rfl, rfl⟩ := hcs
      exact ⟨[], .inl ⟨rfl, rfl, rfl, rfl⟩⟩
    · simp [Value.cells] at hcs
      obtain ⟨rfl, rfl, rfl⟩ := hcs
      exact ⟨zs, .inr ⟨_, rfl, hl, hm, by simpa using hz, hcell, hwz⟩⟩
  clear hA0
  refine (walk a0 len0 cap0 W (row8_of x0)).mono fun e W' ⟨he, bel⟩ => ?_
  subst he
  exact ⟨_, rfl, _, _, _, [], _, [], hW', trodAll_mk1 (shut_bool Try.underlying4 _), (trodAll_cons_mk (Below.trod laidOut (by kernel_rfl) (of_decide_eq_true (by kernel_rfl)) k0 bel lt0) trodAll_mk0), rfl, bel.frame _, fun h => by cases h⟩

set_option maxRecDepth 100000 in
theorem lifted (os : Os) (started : os.Started) (H : Type) (enc : TypeId × Value → H) :
    ReturnsInHanded {} Try.checked os 7 .any (Rows.fnPlugsOfSpec.pre6 enc Try.prog Try.f7 Rows.fnPlugsOfRow.domain false) (Rows.fnPlugsOfSpec.post enc Try.prog Try.f7 false true false false) := by
  refine returnsInHanded_of_change (C := Try.checked) own started (by kernel_rfl) Try.func7
    (ChangeSpec.witness6 (enc := enc) (C := Try.checked) false ⟨#[], #[.slice none 0 0], []⟩ 8 (by kernel_rfl) (by kernel_rfl) (by kernel_rfl) (by kernel_rfl)) ?_
  intro W base args ds gs before hval hW _ _
  exact contract H enc W base args ds gs before hval hW

theorem proved : Rows.FnPlugsOfSaid :=
  OpenClaim.holds_of_wide 7 Try.f7 rfl rfl rfl rfl rfl rfl rfl ⟨rfl, rfl, rfl, rfl, rfl⟩ rfl rfl rfl rfl rfl (by kernel_rfl) Try.func7 (by kernel_rfl)
    (of_decide_eq_true (by kernel_rfl)) (by unfold Func.isWrapper; first | (rw [if_pos (by decide +kernel)]; kernel_rfl) | (rw [if_neg (by decide +kernel)]; exact ⟨rfl, rfl⟩))
    (fun os started H enc _ => lifted os started H enc)
#print axioms proved
end Go.Proofs.Ythlcjojhmhoadaa.fnPlugsOf
