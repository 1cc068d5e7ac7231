/-
  The contract of the program's readNumber.
-/
import Derived.Test.YtjnoekhdkmgagaaDoorRn
import Derived.Laws.RangeAny
import Derived.Laws.RangeString
namespace Go.Proofs.YtjnoekhdkmgagaaDoor
open Go.RowKit
set_option linter.unusedVariables false

theorem width_pos (s : ByteArray) (pos : Nat) (h : pos < s.size) : 1 ≤ (Utf8.decode s pos).2 := by
  by_cases ha : (s[pos]'h).toNat < 128
  · rw [decode_ascii s pos h ha]
    exact Nat.le_refl _
  · exact (decode_high s pos h (by omega)).2

/-- What a reader of numbers gives; the iterator is a new block. -/
def RdGives (s : ByteArray) (w : World) (e : Ending) (w' : World) : Prop := ∃ v, e = .returned (.int .i64 v) ∧ RdIs s v ∧ Below w.heap.size w w'

theorem below_iter (w : World) (s : ByteArray) (p : Nat) : Below w.heap.size w (w.iter s p) := (Below.refl _ _).alloc (Nat.le_refl _) _

theorem rdUp_three (s : ByteArray) (h : ∀ j, j < 3 → 48 ≤ byteAt s j ∧ byteAt s j ≤ 57) (hz : byteAt s 0 ≠ 48) : 100 ≤ rdUp s 3 ∧ rdUp s 3 ≤ 999 := by
  have := h 0 (by omega)
  have := h 1 (by omega)
  have := h 2 (by omega)
  simp only [rdUp]
  omega

set_option maxHeartbeats 2000000 in
theorem readNumber_loop (s : ByteArray) (w : World) (hm : s.size ≤ maxLen) (h1 : 1 ≤ s.size) (hz : ¬ (1 < s.size ∧ byteAt s 0 = 48)) :
    Calls Tryd.prog 27 #[.string s] w (RdGives s w) := by
  unfold maxLen at hm
  have hne : s.toList.isEmpty = false := by
    rw [ByteArray.toList_eq, List.isEmpty_eq_false_iff]
    intro e
    have : s.data.toList.length = s.size := Array.length_toList
    rw [e] at this; simp at this; omega
  have h0 := Lib.hid (byteAt_get s 0 (by omega))
  have hz3 : 1 < s.size → ((s[0].toNat : Int) == 48) = false := fun hs => by rw [beq_eq_false_iff_ne, h0.out]; exact fun e => hz ⟨hs, e⟩
  have HZ := Lib.hid hz
  clear hz
  by_cases hs : 1 < s.size
  · have hz4 := hz3 hs
    clear hz3
    go_enter Tryd.func27, Tryd.ntmps27
    go_wp2
    go_loopw [3] (fun n wr => ∃ k : Nat, k ≤ s.size ∧ k ≤ 3 ∧ n = .int .i64 (rdUp s k) ∧ wr = w.iter s k ∧ Hid (∀ j, j < k → 48 ≤ byteAt s j ∧ byteAt s j ≤ 57)) (fun _ wr => s.size - wr.iterPos w.heap.size)
    case atStart => exact ⟨0, by omega, by omega, rfl, rfl, Lib.hid fun j hj => by omega⟩
    case round =>
      obtain ⟨k, hk, hk3, rfl, rfl, HF⟩ := hrel
      by_cases hlt : k < s.size
      · have hg := Lib.hid (byteAt_get s k hlt)
        have hstop : ¬ (48 ≤ byteAt s k ∧ byteAt s k ≤ 57) → RdIs s (-1) := fun h => .inr ⟨fun o => h (o.2.2.2 k hlt), rfl⟩
        have HSTOP := Lib.hid hstop
        clear hstop
        by_cases ha : s[k].toNat < 128
        · have hnx : ∀ ty, (Instr.next (.pointer (some ⟨w.heap.size, 0, none⟩)) true ty).run Tryd.prog (w.iter s k) = _ := fun ty => run_next_ascii w s k ty hlt ha
          have hc1 : (s[k].toNat : Int) ≤ 127 := by omega
          by_cases h48 : 48 ≤ (s[k].toNat : Int)
          · by_cases h57 : (s[k].toNat : Int) ≤ 57
            · by_cases hk2 : k < 3
              · obtain ⟨q0, q1⟩ := rdUp_lo s k (by omega) HF.out
                have HN := Lib.hid (show ∀ j, j < k + 1 → 48 ≤ byteAt s j ∧ byteAt s j ≤ 57 from fun j hj => by
                  by_cases e : j = k
                  · rw [e, ← hg.out]; exact ⟨h48, h57⟩
                  · exact HF.out j (by omega))
                have HNX := Lib.hid (show rdUp s (k + 1) = rdUp s k * 10 + ((s[k].toNat : Int) - 48) by rw [hg.out, Int.mul_comm]; rfl)
                generalize rdUp s k = q at q0 q1 HNX
                go_wp2
                go_roundw
                case rel => exact ⟨k + 1, by omega, by omega, by rw [HNX.out], rfl, HN⟩
                case measure => simp; omega
              · obtain rfl : k = 3 := by omega
                have hb := rdUp_three s HF.out (fun e => HZ.out ⟨by omega, e⟩)
                obtain ⟨q0, q1⟩ := hb
                have hr := Lib.hid (show RdIs s (-1) from .inr ⟨fun o => by have := o.2.1; omega, rfl⟩)
                generalize rdUp s 3 = q at q0 q1
                go_wp2
                go_ret
                exact ⟨-1, rfl, hr.out, below_iter _ _ _⟩
            · have hr := Lib.hid (HSTOP.out (by rw [← hg.out]; omega))
              go_wp2
              go_ret
              exact ⟨-1, rfl, hr.out, below_iter _ _ _⟩
          · have hr := Lib.hid (HSTOP.out (by rw [← hg.out]; omega))
            go_wp2
            go_ret
            exact ⟨-1, rfl, hr.out, below_iter _ _ _⟩
        · have hnx : ∀ ty, (Instr.next (.pointer (some ⟨w.heap.size, 0, none⟩)) true ty).run Tryd.prog (w.iter s k) = _ := fun ty => run_next_any w s k ty hlt
          have hd1 : (128 : Int) ≤ ((Utf8.decode s k).1 : Int) := by have := (decode_high s k hlt (by omega)).1; omega
          have hd2 : ((Utf8.decode s k).1 : Int) ≤ 2147483647 := by have := decode_le s k; omega
          have hr := Lib.hid (HSTOP.out (by rw [← hg.out]; omega))
          go_wp2
          go_ret
          exact ⟨-1, rfl, hr.out, below_iter _ _ _⟩
      · have hnx : ∀ ty, (Instr.next (.pointer (some ⟨w.heap.size, 0, none⟩)) true ty).run Tryd.prog (w.iter s k) = _ := fun ty => run_next_end w s k ty hlt
        obtain rfl : k = s.size := by omega
        have hok := Lib.hid (show RdIs s (rdUp s s.size) from .inl ⟨⟨h1, hk3, HZ.out, HF.out⟩, rfl⟩)
        generalize rdUp s s.size = q at hok
        go_wp2
        go_ret
        exact ⟨q, rfl, hok.out, below_iter _ _ _⟩
  · clear hz3
    go_enter Tryd.func27, Tryd.ntmps27
    go_wp2
    go_loopw [3] (fun n wr => ∃ k : Nat, k ≤ s.size ∧ k ≤ 3 ∧ n = .int .i64 (rdUp s k) ∧ wr = w.iter s k ∧ Hid (∀ j, j < k → 48 ≤ byteAt s j ∧ byteAt s j ≤ 57)) (fun _ wr => s.size - wr.iterPos w.heap.size)
    case atStart => exact ⟨0, by omega, by omega, rfl, rfl, Lib.hid fun j hj => by omega⟩
    case round =>
      obtain ⟨k, hk, hk3, rfl, rfl, HF⟩ := hrel
      by_cases hlt : k < s.size
      · have hg := Lib.hid (byteAt_get s k hlt)
        have hstop : ¬ (48 ≤ byteAt s k ∧ byteAt s k ≤ 57) → RdIs s (-1) := fun h => .inr ⟨fun o => h (o.2.2.2 k hlt), rfl⟩
        have HSTOP := Lib.hid hstop
        clear hstop
        by_cases ha : s[k].toNat < 128
        · have hnx : ∀ ty, (Instr.next (.pointer (some ⟨w.heap.size, 0, none⟩)) true ty).run Tryd.prog (w.iter s k) = _ := fun ty => run_next_ascii w s k ty hlt ha
          have hc1 : (s[k].toNat : Int) ≤ 127 := by omega
          by_cases h48 : 48 ≤ (s[k].toNat : Int)
          · by_cases h57 : (s[k].toNat : Int) ≤ 57
            · by_cases hk2 : k < 3
              · obtain ⟨q0, q1⟩ := rdUp_lo s k (by omega) HF.out
                have HN := Lib.hid (show ∀ j, j < k + 1 → 48 ≤ byteAt s j ∧ byteAt s j ≤ 57 from fun j hj => by
                  by_cases e : j = k
                  · rw [e, ← hg.out]; exact ⟨h48, h57⟩
                  · exact HF.out j (by omega))
                have HNX := Lib.hid (show rdUp s (k + 1) = rdUp s k * 10 + ((s[k].toNat : Int) - 48) by rw [hg.out, Int.mul_comm]; rfl)
                generalize rdUp s k = q at q0 q1 HNX
                go_wp2
                go_roundw
                case rel => exact ⟨k + 1, by omega, by omega, by rw [HNX.out], rfl, HN⟩
                case measure => simp; omega
              · exact absurd hs (by omega)
            · have hr := Lib.hid (HSTOP.out (by rw [← hg.out]; omega))
              go_wp2
              go_ret
              exact ⟨-1, rfl, hr.out, below_iter _ _ _⟩
          · have hr := Lib.hid (HSTOP.out (by rw [← hg.out]; omega))
            go_wp2
            go_ret
            exact ⟨-1, rfl, hr.out, below_iter _ _ _⟩
        · have hnx : ∀ ty, (Instr.next (.pointer (some ⟨w.heap.size, 0, none⟩)) true ty).run Tryd.prog (w.iter s k) = _ := fun ty => run_next_any w s k ty hlt
          have hd1 : (128 : Int) ≤ ((Utf8.decode s k).1 : Int) := by have := (decode_high s k hlt (by omega)).1; omega
          have hd2 : ((Utf8.decode s k).1 : Int) ≤ 2147483647 := by have := decode_le s k; omega
          have hr := Lib.hid (HSTOP.out (by rw [← hg.out]; omega))
          go_wp2
          go_ret
          exact ⟨-1, rfl, hr.out, below_iter _ _ _⟩
      · have hnx : ∀ ty, (Instr.next (.pointer (some ⟨w.heap.size, 0, none⟩)) true ty).run Tryd.prog (w.iter s k) = _ := fun ty => run_next_end w s k ty hlt
        obtain rfl : k = s.size := by omega
        have hok := Lib.hid (show RdIs s (rdUp s s.size) from .inl ⟨⟨h1, hk3, HZ.out, HF.out⟩, rfl⟩)
        generalize rdUp s s.size = q at hok
        go_wp2
        go_ret
        exact ⟨q, rfl, hok.out, below_iter _ _ _⟩

theorem implReadNumber_any (s : ByteArray) (w : World) (hm : s.size ≤ maxLen) :
    Calls Tryd.prog 27 #[.string s] w (RdGives s w) := by
  by_cases h1 : 1 ≤ s.size
  · by_cases hz : 1 < s.size ∧ byteAt s 0 = 48
    · have hno : ¬ rdOk s := fun h => h.2.2.1 hz
      have hr := Lib.hid (show RdIs s (-1) from .inr ⟨hno, rfl⟩)
      obtain ⟨hz1, hz2⟩ := hz
      have hne : s.toList.isEmpty = false := by
        rw [ByteArray.toList_eq, List.isEmpty_eq_false_iff]
        intro e
        have : s.data.toList.length = s.size := Array.length_toList
        rw [e] at this; simp at this; omega
      have hz3 : ((s[0].toNat : Int) == 48) = true := by rw [beq_iff_eq, byteAt_get s 0 (by omega)]; exact hz2
      unfold maxLen at hm
      clear hz2
      go_enter Tryd.func27, Tryd.ntmps27
      go_wp2
      go_ret
      exact ⟨-1, rfl, hr.out, Below.refl _ _⟩
    · exact readNumber_loop s w hm h1 hz
  · have hno : ¬ rdOk s := fun h => h1 h.1
    have hr := Lib.hid (show RdIs s (-1) from .inr ⟨hno, rfl⟩)
    have he : s = ⟨#[]⟩ := by
      apply ByteArray.ext
      apply Array.eq_empty_of_size_eq_zero
      show s.size = 0
      omega
    subst he
    clear h1 hno hm
    go_enter Tryd.func27, Tryd.ntmps27
    go_wp2
    go_ret
    exact ⟨-1, rfl, hr.out, Below.refl _ _⟩
end Go.Proofs.YtjnoekhdkmgagaaDoor
