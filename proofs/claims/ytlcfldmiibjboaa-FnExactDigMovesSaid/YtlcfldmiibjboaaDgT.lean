/-
  Contracts of the places in an order: the model's l5Turn, the program's turnOf and blockingIn.
-/
import Derived.Test.YtlcfldmiibjboaaDgMath4
import Derived.Test.YtlcfldmiibjboaaPaI
namespace Go.Proofs.Ytlcfldmiibjboaa
open Go.RowKit
set_option linter.unusedVariables false

set_option maxHeartbeats 400000 in
theorem l5Turn_any (v : Value) (l : List Int) (n : Int) (w : World) (h : HoldsI w v l) :
    Calls Try.prog 86 #[v, .int .i64 n] w fun e w' => e = .returned (.int .i64 (turn l n : Nat)) ∧ w = w' := by
  obtain ⟨a, cap, rfl, h2, h3, h4⟩ := h
  have hm : l.length ≤ 9223372036854775807 := by unfold maxLen at h3; omega
  obtain ⟨m, hn⟩ : ∃ m, m = l.length := ⟨_, rfl⟩
  have HN := Lib.hid hn.symm
  rw [← hn]
  have hm' : m ≤ 9223372036854775807 := by omega
  have H4 := Lib.hid h4
  clear hn h2 h3 h4 hm
  go_enter Try.func86, Try.ntmps86
  go_wp2_with fail
  go_loop [5] (fun i => ∃ k : Nat, k ≤ m ∧ i = .int .i64 k ∧ Hid (∀ j (hj : j < l.length), j < k → l[j] ≠ n)) (fun i => m - (intOf i).toNat)
  case atStart => exact ⟨0, by omega, rfl, Lib.hid fun j _ hj => by omega⟩
  case round =>
    obtain ⟨k, hk, rfl, HF⟩ := hrel
    by_cases hlt : k < m
    · rcases H4.out with h4 | ⟨b, off, rfl, h6, h7⟩
      · have := HN.out; omega
      · have hkl : k < l.length := by rw [HN.out]; exact hlt
        have s0 : w.cell? ⟨b, off + k, none⟩ = some (.int .i64 l[k]) := h7 k hkl
        have H7 := Lib.hid h7
        clear h7
        by_cases he : l[k] = n
        · have b1 : (l[k] == n) = true := by rw [beq_iff_eq]; exact he
          have hr := Lib.hid (turn_hit hkl HF.out he)
          clear he
          go_wp2_with fail
          go_ret
          exact ⟨by rw [hr.out]; rfl, rfl⟩
        · have b1 : (l[k] == n) = false := by rw [beq_eq_false_iff_ne]; exact he
          have HE := Lib.hid he
          clear he
          go_wp2_with fail
          go_round
          case rel => exact ⟨k + 1, by omega, by go_num, Lib.hid fun j hj hjk => by
            by_cases e : j = k
            · subst e; exact HE.out
            · exact HF.out j hj (by omega)⟩
          case measure => simp [intOf]; omega
    · have hr := Lib.hid (turn_none fun j hj => HF.out j hj (by rw [HN.out] at hj; omega))
      go_wp2_with fail
      go_ret
      exact ⟨by rw [hr.out, HN.out]; rfl, rfl⟩

theorem turnOf_any (v : Value) (l : List Int) (n : Int) (w : World) (h : HoldsI w v l) :
    Calls Try.prog 108 #[v, .int .i64 n] w fun e w' => e = .returned (.int .i64 (turn l n : Nat)) ∧ w = w' := by
  have HI := Lib.hid (slIndex_any v l n w h)
  have hE := turn_idx l n
  obtain ⟨a, cap, rfl, h2, h3, h4⟩ := h
  have hm : l.length ≤ 9223372036854775807 := by unfold maxLen at h3; omega
  have hb := idxI_lt l n
  clear h2 h3 h4
  generalize idxI l n = x at HI hE hb
  generalize turn l n = t at hE
  obtain ⟨m, hn⟩ : ∃ m, m = l.length := ⟨_, rfl⟩
  rw [← hn] at HI hE hb hm ⊢
  clear hn
  by_cases hx : x < 0
  · rw [if_pos hx] at hE
    go_enter Try.func108, Try.ntmps108
    go_wp2_with fail
    refine HI.out.mono ?_
    rintro e w' ⟨rfl, rfl⟩
    go_wp2_with fail
    go_ret
    exact ⟨by rw [hE]; rfl, rfl⟩
  · rw [if_neg hx] at hE
    go_enter Try.func108, Try.ntmps108
    go_wp2_with fail
    refine HI.out.mono ?_
    rintro e w' ⟨rfl, rfl⟩
    go_wp2_with fail
    go_ret
    exact ⟨by rw [hE]; rfl, rfl⟩

set_option maxHeartbeats 1000000 in
theorem blockingIn_any (u v : Value) (s os : List Int) (w : World) (hs : HoldsI w u s) (ho : HoldsI w v os) :
    Calls Try.prog 85 #[u, v] w fun e w' => e = .returned (.int .i64 (blk os os.length s : Nat)) ∧ w = w' := by
  have HT := Lib.hid fun x => turnOf_any v os x w ho
  have HS := Lib.hid hs
  have HB := Lib.hid fun k hk => blk_take (os := os) (m := os.length) (j := k) (s := s) hk
  have hm1 : os.length ≤ 9223372036854775807 := by obtain ⟨_, _, _, h2, h3, _⟩ := ho; unfold maxLen at h3; omega
  have hm2 : s.length ≤ 9223372036854775807 := by obtain ⟨_, _, _, h2, h3, _⟩ := hs; unfold maxLen at h3; omega
  have HTL := Lib.hid fun x => turn_le os x
  have HLL := Lib.hid fun k => leastT_le os (s.take k) os.length
  have HBL := Lib.hid fun k => Nat.le_trans (blk_le os (s.take k) os.length) (List.length_take_le k s)
  obtain ⟨a, c, rfl⟩ := hs.form
  obtain ⟨a2, c2, rfl⟩ := ho.form
  obtain ⟨n, hn⟩ : ∃ n, n = s.length := ⟨_, rfl⟩
  have HN := Lib.hid hn.symm
  obtain ⟨q, hq⟩ : ∃ q, q = os.length := ⟨_, rfl⟩
  rw [← hn] at HS HB hm2
  rw [← hq] at HT HB hm1 HTL HLL HBL ⊢
  rw [← hn]
  clear hs ho hn hq
  go_enter Try.func85, Try.ntmps85
  go_wp2_with fail
  go_loop [5, 6, 14] (fun x y i => ∃ k : Nat, k ≤ n ∧ i = .int .i64 k ∧ x = .int .i64 (blk os q (s.take k) : Nat) ∧ y = .int .i64 (leastT os q (s.take k) : Nat)) (fun _ _ i => n - (intOf i).toNat)
  case atStart => exact ⟨0, by omega, rfl, rfl, rfl⟩
  case round =>
    obtain ⟨k, hk, rfl, rfl, rfl⟩ := hrel
    by_cases hlt : k < n
    · obtain ⟨b, off, rfl, hbl, s0⟩ := HS.out.at_ hlt
      obtain ⟨e1, e2⟩ := HB.out k hlt
      have t1 := HTL.out (s.getD k 0)
      have l1 := HLL.out k
      have b1 := HBL.out k
      have HTk := Lib.hid (HT.out (s.getD k 0))
      have E1 := Lib.hid e1
      have E2 := Lib.hid e2
      clear e1 e2
      generalize blk os q (s.take k) = B at *
      generalize leastT os q (s.take k) = E at *
      generalize turn os (s.getD k 0) = T at *
      generalize s.getD k 0 = y at s0 HTk
      by_cases hc : E < T
      · have hc1 : (E : Int) < (T : Int) := by omega
        have hc2 : ¬ (T : Int) < (E : Int) := by omega
        have e1 := E1.out
        have e2 := E2.out
        rw [if_pos hc] at e1
        rw [show min E T = E by omega] at e2
        have E3 := Lib.hid e1
        have E4 := Lib.hid e2
        clear e1 e2 hc
        go_wp2_with fail
        refine HTk.out.mono ?_
        rintro e w' ⟨rfl, rfl⟩
        go_wp2_with fail
        go_round
        case rel => exact ⟨k + 1, by omega, by go_num, by rw [E3.out]; go_num, by rw [E4.out]⟩
        case measure => simp [intOf]; omega
      · have hc1 : ¬ (E : Int) < (T : Int) := by omega
        have hc2 : (T : Int) ≤ (E : Int) := by omega
        have e1 := E1.out
        have e2 := E2.out
        rw [if_neg hc] at e1
        rw [show min E T = T by omega] at e2
        have E3 := Lib.hid e1
        have E4 := Lib.hid e2
        clear e1 e2 hc
        go_wp2_with fail
        refine HTk.out.mono ?_
        rintro e w' ⟨rfl, rfl⟩
        go_wp2_with fail
        go_round
        case rel => exact ⟨k + 1, by omega, by go_num, by rw [E3.out]; rfl, by rw [E4.out]; congr 1; split <;> omega⟩
        case measure => simp [intOf]; omega
    · have hkn : k = n := by omega
      subst hkn
      go_wp2_with fail
      go_ret
      exact ⟨by rw [List.take_of_length_le (Nat.le_of_eq HN.out)]; rfl, rfl⟩
end Go.Proofs.Ytlcfldmiibjboaa
