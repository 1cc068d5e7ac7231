/-
  The contract of l20Spoil at a text that is not empty.
-/
import Derived.Test.YtkfpondpepegpaaDoorDr2
namespace Go.Proofs.YtkfpondpepegpaaDoor
open Go.RowKit
set_option linter.unusedVariables false

theorem spoil_closeA {base B : Nat} {w w1 w2 : World} (hbase : base ≤ w.heap.size) (hB : base ≤ B) (o1 : Only B w w1) (o2 : Only B w1.drew w2) (o : Obj) : Below base w (w2.alloc o) :=
  have h2 : Only B w1 w2 := ⟨o2.os, o2.tape, o2.output, o2.size, o2.block⟩
  ((o1.trans h2).below hB).alloc (by rw [(o1.trans h2).size]; exact hbase) o
theorem spoil_closeB {base B : Nat} {w w1 w2 : World} {o : Obj} (hbase : base ≤ w.heap.size) (hB : base ≤ B) (o1 : Only B w w1) (o2 : Only B (w1.alloc o).drew w2) : Below base w w2 :=
  have h2 : Only B (w1.alloc o) w2 := ⟨o2.os, o2.tape, o2.output, o2.size, o2.block⟩
  ((o1.below hB).alloc (by rw [o1.size]; exact hbase) o).trans (h2.below hB)

set_option maxHeartbeats 0 in
theorem spoil_some (base B p : Nat) (s : ByteArray) (w : World) (h : Rdr base B p w) (hp : p ≤ 1000000) (hs : s.size ≤ 1000000) (hs0 : 0 < s.size) (hbase : base ≤ w.heap.size) :
    Calls Tryd.prog 23 #[.pointer (some ⟨B, 0, none⟩), .string s] w (Spoiled base B p s.size w) := by
  have hB := h.1
  have hz : ((s.size : Int) == 0) = false := by rw [beq_eq_false_iff_ne]; omega
  go_enter Tryd.func23, Tryd.ntmps23
  go_wp2_with fail
  refine (pick_any base B p s.size w h (by omega) (by omega)).mono ?_
  rintro e w1 ⟨k, k0, k1, rfl, h1, o1⟩
  have hBs : B < w1.heap.size := h1.2.1
  have hk1 : IntKind.i64.wrap (k + 1) = k + 1 := IntWalk.i64_in _ (by omega)
  have hk2 : (k + 1).toNat = k.toNat + 1 := by omega
  have H1 := Lib.hid h1
  have HP := Lib.hid fun w2 (hr : Rdr base B (p + 1) w2) => pick_any base B (p + 1) 6 w2 hr (by omega) (by omega)
  clear h
  go_wp2_with fail
  go_region_with (first
    | (go_at_call 21; ((with_reducible refine (HP.out w1.drew (H1.out.keep (Below.refl _ _).drew)).mono ?_); rintro e w2 ⟨u, u0, u1, rfl, h2, o2⟩; obtain ⟨S, hS, -, hcell⟩ := six_new u u0 u1 9; obtain ⟨a1, a2, a3⟩ := ext_add s S k k0 k1 hs hS))
    | (go_at_call 21; ((with_reducible refine (HP.out (w1.alloc _).drew (H1.out.keep ((Below.refl _ _).alloc (Nat.le_refl _) _).drew)).mono ?_); rintro e w2 ⟨u, u0, u1, rfl, h2, o2⟩; obtain ⟨S, hS, -, hcell⟩ := six_new u u0 u1 9; obtain ⟨a1, a2, a3⟩ := ext_add s S k k0 k1 hs hS; have hc := (o2.cell w1.heap.size u.toNat (by omega)).trans (hcell w1))))
  all_goals
    go_wp2
    go_ret
  all_goals first
    | exact ⟨_, a3, rfl, spoil_closeA hbase hB o1 o2 _⟩
    | exact ⟨_, a3, rfl, spoil_closeB hbase hB o1 o2⟩
end Go.Proofs.YtkfpondpepegpaaDoor
