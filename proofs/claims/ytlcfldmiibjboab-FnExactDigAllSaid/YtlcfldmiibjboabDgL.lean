/-
  Contracts of the search for another stack: the program's lowestOther, the model's l5Room.
-/
import Derived.Test.YtlcfldmiibjboabDgT
namespace Go.Proofs.Ytlcfldmiibjboab
open Go.RowKit
set_option linter.unusedVariables false

set_option maxRecDepth 10000 in
set_option maxHeartbeats 1000000 in
theorem lowestOther_any (h : Int) (v : Value) (ss : List (List Int)) (but : Nat) (w : World) (hh : HoldsY w v ss) :
    Calls Try.prog 35 #[.agg #[.int .i64 h, v], .int .i64 but] w fun e w' => e = .returned (.int .i64 (optI (lowN ss but ss.length))) ∧ Below w.heap.size w w' := by
  have hb1 := (Below.refl w.heap.size w).alloc (Nat.le_refl _) (.cells #[.int .i64 h, v] 29)
  have hH := hh.keep hb1
  have hY0 := BoxY.new w h v
  obtain ⟨w1, hw1⟩ : ∃ w1, w1 = w.alloc (.cells #[.int .i64 h, v] 29) := ⟨_, rfl⟩
  rw [← hw1] at hH hY0 hb1
  have HH := Lib.hid hH
  have y1 := hY0.c1
  have W1 := Lib.hid hw1
  have HB1 := Lib.hid hb1
  obtain ⟨a, cap, rfl, -, -, -, -⟩ := hh
  obtain ⟨n, hn⟩ : ∃ n, n = ss.length := ⟨_, rfl⟩
  have HN := Lib.hid hn.symm
  rw [← hn] at HH W1 y1 ⊢
  have hm : n ≤ 9223372036854775807 := by have := HH.out.len; omega
  clear hn hY0 hw1 hb1 hH
  go_enter Try.func35, Try.ntmps35
  go_wp2_with fail
  rw [← W1.out]
  have HB0 := HB1
  generalize w.heap.size = Y at y1 HB1 ⊢
  clear W1
  go_wp2_with fail
  go_loop [5, 11] (fun x i => ∃ k : Nat, k ≤ n ∧ i = .int .i64 k ∧ x = .int .i64 (optI (lowN ss but k))) (fun _ i => n - (intOf i).toNat)
  case atStart => exact ⟨0, by omega, rfl, rfl⟩
  case round =>
    obtain ⟨k, hk, rfl, rfl⟩ := hrel
    by_cases hlt : k < n
    · obtain ⟨b, off, x, c, rfl, hb, s0, hc1, hc2, -, -⟩ := HH.out.at_ hlt
      have ik : (k : Int) < (n : Int) := by omega
      have i0k : (0 : Int) ≤ (k : Int) := by omega
      have hml : (rowAt ss k).length ≤ 9223372036854775807 := by omega
      by_cases hkb : k = but
      · have b1 : ((k : Int) == (but : Int)) = true := by rw [beq_iff_eq]; omega
        have hr := Lib.hid (show lowN ss but (k + 1) = lowN ss but k by subst hkb; exact lowN_but)
        clear hkb
        generalize hz : optI (lowN ss but k) = z
        have HZ := Lib.hid hz
        clear hz
        go_wp2_with fail
        go_round
        case rel => exact ⟨k + 1, by omega, by go_num, by rw [hr.out, HZ.out]⟩
        case measure => simp [intOf]; omega
      · have b1 : ((k : Int) == (but : Int)) = false := by rw [beq_eq_false_iff_ne]; omega
        cases hL : lowN ss but k with
        | none =>
          have hr := Lib.hid (lowN_take hkb (fun b e => by rw [hL] at e; cases e))
          have l0 : (-1 : Int) < 0 := by omega
          simp only [optI] at *
          clear hL hkb
          go_wp2_with fail
          go_round
          case rel => exact ⟨k + 1, by omega, by go_num, by rw [hr.out]⟩
          case measure => simp [intOf]; omega
        | some m =>
          have hmk := (lowN_lt hL).1
          obtain ⟨b', off', x', c', e', hb', t0, hd1, hd2, -, -⟩ := HH.out.at_ (show m < n by omega)
          simp only [Option.some.injEq, Addr.mk.injEq, and_true] at e'
          obtain ⟨rfl, rfl⟩ := e'
          have im : (m : Int) < (n : Int) := by omega
          have i0m : (0 : Int) ≤ (m : Int) := by omega
          have i1m : ¬ (m : Int) < 0 := by omega
          by_cases hs : (rowAt ss k).length < (rowAt ss m).length
          · have hr := Lib.hid (lowN_take hkb (fun b e => by rw [hL] at e; cases e; exact hs))
            have l1 : ((rowAt ss k).length : Int) < ((rowAt ss m).length : Int) := by omega
            simp only [optI] at *
            clear hL hkb hs
            generalize (rowAt ss k).length = p at *
            generalize (rowAt ss m).length = q at *
            go_wp2_with fail
            go_round
            case rel => exact ⟨k + 1, by omega, by go_num, by rw [hr.out]⟩
            case measure => simp [intOf]; omega
          · have hr := Lib.hid (lowN_keep hL hs)
            have l1 : ¬ ((rowAt ss k).length : Int) < ((rowAt ss m).length : Int) := by omega
            simp only [optI] at *
            clear hL hkb hs
            generalize (rowAt ss k).length = p at *
            generalize (rowAt ss m).length = q at *
            go_wp2_with fail
            go_round
            case rel => exact ⟨k + 1, by omega, by go_num, by rw [hr.out]⟩
            case measure => simp [intOf]; omega
    · have hkn : k = n := by omega
      subst hkn
      generalize hz : optI (lowN ss but k) = z
      have HZ := Lib.hid hz
      clear hz
      go_wp2_with fail
      go_ret
      exact ⟨by rw [HZ.out]; rfl, HB0.out⟩

set_option maxRecDepth 10000 in
set_option maxHeartbeats 2000000 in
theorem l5Room_any (h : Int) (v : Value) (ss : List (List Int)) (but : Nat) (w : World) (hh : HoldsY w v ss) :
    Calls Try.prog 28 #[.agg #[.int .i64 h, v], .int .i64 but] w fun e w' => e = .returned (.int .i64 (optI (roomN h ss but ss.length))) ∧ Below w.heap.size w w' := by
  have hb1 := (Below.refl w.heap.size w).alloc (Nat.le_refl _) (.cells #[.int .i64 h, v] 29)
  have hH := hh.keep hb1
  have hY0 := BoxY.new w h v
  obtain ⟨w1, hw1⟩ : ∃ w1, w1 = w.alloc (.cells #[.int .i64 h, v] 29) := ⟨_, rfl⟩
  rw [← hw1] at hH hY0 hb1
  have HH := Lib.hid hH
  have HY := Lib.hid hY0
  have W1 := Lib.hid hw1
  have HB1 := Lib.hid hb1
  obtain ⟨a, cap, rfl, -, -, -, -⟩ := hh
  obtain ⟨n, hn⟩ : ∃ n, n = ss.length := ⟨_, rfl⟩
  have HN := Lib.hid hn.symm
  rw [← hn] at HH W1 HY ⊢
  have hm : n ≤ 9223372036854775807 := by have := HH.out.len; omega
  clear hn hY0 hw1 hb1 hH
  go_enter Try.func28, Try.ntmps28
  go_wp2_with fail
  rw [← W1.out]
  have HB0 := HB1
  have hW1 : w.heap.size < w1.heap.size := HY.out.lt
  generalize w.heap.size = Y at HY HB1 hW1 ⊢
  clear W1
  go_wp2_with fail
  go_loopw [5, 6] (fun x i wr => ∃ k : Nat, k ≤ n ∧ i = .int .i64 k ∧ x = .int .i64 (optI (roomN h ss but k)) ∧ Below w1.heap.size w1 wr) (fun _ i _ => n - (intOf i).toNat)
  case atStart => exact ⟨0, by omega, rfl, rfl, Below.refl _ _⟩
  case round =>
    obtain ⟨k, hk, rfl, rfl, hbr⟩ := hrel
    have y0 := (HY.out.keep hbr).c0
    have y1 := (HY.out.keep hbr).c1
    have HBR := Lib.hid hbr
    by_cases hlt : k < n
    · obtain ⟨b, off, x, c, rfl, hb, s0, hc1, hc2, -, -⟩ := (HH.out.keep hbr).at_ hlt
      have ik : (k : Int) < (n : Int) := by omega
      have i0k : (0 : Int) ≤ (k : Int) := by omega
      have hml : (rowAt ss k).length ≤ 9223372036854775807 := by omega
      clear hbr
      by_cases hsk : k = but ∨ ¬ ((rowAt ss k).length : Int) < h
      · have hr := Lib.hid (roomN_skip hsk)
        generalize hz : optI (roomN h ss but k) = z
        have HZ := Lib.hid hz
        clear hz
        generalize (rowAt ss k).length = p at *
        by_cases hkb : k = but
        · have b1 : ((k : Int) != (but : Int)) = false := by simp [hkb]
          clear hsk hkb
          go_wp2_with fail
          go_quiet (fail)
          go_wp2_with fail
          go_roundw
          case rel => exact ⟨k + 1, by omega, by go_num, by rw [hr.out, HZ.out], Below.drewN_ HBR.out _⟩
          case measure => simp [intOf]; omega
        · have b1 : ((k : Int) != (but : Int)) = true := by simp; omega
          have l1 : ¬ (p : Int) < h := hsk.resolve_left hkb
          have l3 : decide ((p : Int) < h) = false := decide_eq_false l1
          clear hsk hkb
          go_wp2_with fail
          go_quiet (fail)
          go_wp2_with fail
          go_roundw
          case rel => exact ⟨k + 1, by omega, by go_num, by rw [hr.out, HZ.out], Below.drewN_ HBR.out _⟩
          case measure => simp [intOf]; omega
      · have hkb : k ≠ but := fun e => hsk (.inl e)
        have l1 : ((rowAt ss k).length : Int) < h := by
          rcases Int.lt_or_le ((rowAt ss k).length : Int) h with hl | hl
          · exact hl
          · exact absurd (.inr (by omega)) hsk
        have b1 : ((k : Int) != (but : Int)) = true := by simp; omega
        cases hL : roomN h ss but k with
        | none =>
          have hr := Lib.hid (roomN_take hkb l1 (fun b e => by rw [hL] at e; cases e))
          have l0 : (-1 : Int) < 0 := by omega
          simp only [optI] at *
          clear hL hkb hsk
          generalize (rowAt ss k).length = p at *
          go_wp2_with fail
          go_quiet (fail)
          go_wp2_with fail
          go_roundw
          case rel => exact ⟨k + 1, by omega, by go_num, by rw [hr.out], Below.drewN_ HBR.out _⟩
          case measure => simp [intOf]; omega
        | some m =>
          have hmk := (roomN_some hL).1
          obtain ⟨b', off', x', c', e', hb', t0, hd1, hd2, -, -⟩ := (HH.out.keep HBR.out).at_ (show m < n by omega)
          simp only [Option.some.injEq, Addr.mk.injEq, and_true] at e'
          obtain ⟨rfl, rfl⟩ := e'
          have im : (m : Int) < (n : Int) := by omega
          have i0m : (0 : Int) ≤ (m : Int) := by omega
          have i1m : ¬ (m : Int) < 0 := by omega
          by_cases hs : (rowAt ss k).length < (rowAt ss m).length
          · have hr := Lib.hid (roomN_take hkb l1 (fun b e => by rw [hL] at e; cases e; exact hs))
            have l2 : ((rowAt ss k).length : Int) < ((rowAt ss m).length : Int) := by omega
            simp only [optI] at *
            clear hL hkb hs hsk
            generalize (rowAt ss k).length = p at *
            generalize (rowAt ss m).length = q at *
            go_wp2_with fail
            go_quiet (fail)
            go_wp2_with fail
            go_roundw
            case rel => exact ⟨k + 1, by omega, by go_num, by rw [hr.out], Below.drewN_ HBR.out _⟩
            case measure => simp [intOf]; omega
          · have hr := Lib.hid (roomN_keep hL hs)
            have l2 : ¬ ((rowAt ss k).length : Int) < ((rowAt ss m).length : Int) := by omega
            simp only [optI] at *
            clear hL hkb hs hsk
            generalize (rowAt ss k).length = p at *
            generalize (rowAt ss m).length = q at *
            go_wp2_with fail
            go_quiet (fail)
            go_wp2_with fail
            go_roundw
            case rel => exact ⟨k + 1, by omega, by go_num, by rw [hr.out], Below.drewN_ HBR.out _⟩
            case measure => simp [intOf]; omega
    · have hkn : k = n := by omega
      subst hkn
      generalize hz : optI (roomN h ss but k) = z
      have HZ := Lib.hid hz
      clear hz
      go_wp2_with fail
      go_ret
      exact ⟨by rw [HZ.out]; rfl, HB0.out.trans (HBR.out.mono HB0.out.size)⟩
end Go.Proofs.Ytlcfldmiibjboab
