/-
  Contracts of the model's numbers: l1Number writes a number in decimal, NumberOf makes the number of a container.
-/
import Derived.Test.YtafkobakcclicaaDoorRows
import Derived.WalkKit
import Derived.BigQuiet
import Derived.Deep.QuietTactic
import Derived.Lib.Hide
import Derived.WalkSpells
import Derived.Test.YtafkobakcclicaaDoorNoMath
import Derived.Deep.RegionWith
import Derived.Laws.BytesArg
import Derived.IntWalk
namespace Go.Proofs.YtafkobakcclicaaDoor
open Go.RowKit
set_option linter.unusedVariables false

/-- A text of one byte, made of a new block. -/
theorem conv_one (w : World) (c : Int) (w' : World) (hb : Below (w.heap.size + 1) (w.alloc (.cells #[.int .u8 c] 5)) w') :
    (convert 22 9 (.slice (some ⟨w.heap.size, 0, none⟩) 1 1)).run Tryd.prog w' = .ok (.string ⟨#[UInt8.ofNat c.toNat]⟩) w' :=
  run_convert_bytes_arg w' 22 5 Tryd.underlying22 Tryd.underlying5 w.heap.size 0 1 1 [c] rfl (fun i hi => by
    obtain rfl : i = 0 := by omega
    rw [hb.cell (p := ⟨w.heap.size, 0 + 0, none⟩) (by simp), World.cell?_alloc_new]
    rfl) 9 Tryd.underlying9

theorem conv_at (b : Nat) (c : Int) (w' : World) (h : w'.cell? ⟨b, 0, none⟩ = some (.int .u8 c)) :
    (convert 22 9 (.slice (some ⟨b, 0, none⟩) 1 1)).run Tryd.prog w' = .ok (.string ⟨#[UInt8.ofNat c.toNat]⟩) w' :=
  run_convert_bytes_arg w' 22 5 Tryd.underlying22 Tryd.underlying5 b 0 1 1 [c] rfl (fun i hi => by
    obtain rfl : i = 0 := by omega
    exact h) 9 Tryd.underlying9

theorem cell_new_one (w w' : World) (v : Value) (T : TypeId) (hb : Below (w.alloc (.cells #[v] T)).drew.heap.size (w.alloc (.cells #[v] T)).drew w') : w'.cell? ⟨w.heap.size, 0, none⟩ = some v := by
  rw [hb.cell (p := ⟨w.heap.size, 0, none⟩) (by show w.heap.size < (w.alloc (.cells #[v] T)).heap.size; simp)]
  show (w.alloc (.cells #[v] T)).cell? ⟨w.heap.size, 0, none⟩ = some v
  rw [World.cell?_alloc_new]; rfl

theorem decDigits_small (n : Int) (h0 : 0 ≤ n) (h1 : n < 10) : Lib.decDigits n.toNat = [UInt8.ofNat (48 + n).toNat] := by
  rw [Lib.decDigits, dif_pos (by omega)]
  congr 2; omega
theorem decDigits_big (n : Int) (h0 : 10 ≤ n) : Lib.decDigits n.toNat = Lib.decDigits (n / 10).toNat ++ [UInt8.ofNat (48 + n % 10).toNat] := by
  rw [Lib.decDigits, dif_neg (by omega)]
  congr 2
  · omega
  · congr 1; omega

theorem add_list (l r : List UInt8) (hl : l.length ≤ 8388608) (hr : r.length ≤ 8388608) (w : World) :
    (Op.stringOp .add ⟨l.toArray⟩ ⟨r.toArray⟩).run Tryd.prog w = .ok (.string ⟨(l ++ r).toArray⟩) w := by
  exact run_string_add_lists w l r (by omega) (by omega)

theorem l1Number_small (n : Int) (w : World) (h0 : 0 ≤ n) (h1 : n < 10) :
    Calls Tryd.prog 20 #[.int .i64 n] w fun e w' => e = .returned (.string ⟨(Lib.decDigits n.toNat).toArray⟩) ∧ Below w.heap.size w w' := by
  rw [decDigits_small n h0 h1]
  have hn : ¬ n < 0 := by omega
  have hd : decide (n < 0) = false := decide_eq_false hn
  have hcv := conv_one w (48 + n) _ (Below.refl _ _)
  go_enter Tryd.func20, Tryd.ntmps20
  go_wp2
  go_ret
  exact ⟨rfl, (Below.refl _ _).alloc (Nat.le_refl _) _⟩

set_option maxHeartbeats 1000000 in
theorem l1Number_big (n : Int) (w : World) (h0 : 10 ≤ n) (h1 : n < 1000000) 
    (ih : ∀ w, Calls Tryd.prog 20 #[.int .i64 (n / 10)] w fun e w' => e = .returned (.string ⟨(Lib.decDigits (n / 10).toNat).toArray⟩) ∧ Below w.heap.size w w') :
    Calls Tryd.prog 20 #[.int .i64 n] w fun e w' => e = .returned (.string ⟨(Lib.decDigits n.toNat).toArray⟩) ∧ Below w.heap.size w w' := by
  rw [decDigits_big n h0]
  have hlen := decDigits_len 5 (n / 10).toNat (by omega)
  generalize Lib.decDigits (n / 10).toNat = l at ih hlen
  have hadd := fun w => add_list l [UInt8.ofNat (48 + n % 10).toNat] (by omega) (by simp) w
  clear hlen
  have hn : ¬ n < 0 := by omega
  have hd : decide (n < 0) = false := decide_eq_false hn
  have IH := Lib.hid ih
  clear ih
  have t1 : n.tdiv 10 = n / 10 := Int.tdiv_eq_ediv_of_nonneg (by omega)
  have t2 : n.tmod 10 = n % 10 := Int.tmod_eq_emod_of_nonneg (by omega)
  have t3 : IntKind.i64.wrap (48 + n % 10) = 48 + n % 10 := IntWalk.i64_in _ (by omega)
  have t4 : IntKind.u8.wrap (48 + n % 10) = 48 + n % 10 := by simp [IntKind.wrap, IntKind.bits, IntKind.signed]; omega
  have t5 : IntKind.i64.wrap (n / 10) = n / 10 := IntWalk.i64_in _ (by omega)
  have hcv0 := fun w => conv_one w (48 + n % 10) _ (Below.refl _ _)
  have hcv1 := fun w => conv_one w (48 + n % 10) _ (Below.refl _ _).drew
  go_enter Tryd.func20, Tryd.ntmps20
  go_wp2_with fail
  go_region_with (first | (go_at_call 20; ((with_reducible refine (IH.out w.drew).mono ?_); rintro e w' ⟨rfl, hb⟩)) | (go_at_call 20; ((with_reducible refine (IH.out (w.alloc (.cells #[.int .u8 (48 + n % 10)] 5)).drew).mono ?_); rintro e w' ⟨rfl, hb⟩; have hcv := conv_at w.heap.size (48 + n % 10) w' (cell_new_one _ _ _ _ hb))))
  all_goals
    go_wp2
    go_ret
  all_goals refine ⟨rfl, ?_⟩
  all_goals first
    | exact (show Below w.heap.size w _ from ⟨hb.os, hb.tape, hb.output, hb.size, hb.block⟩).alloc hb.size _
    | exact ((Below.refl _ _).alloc (Nat.le_refl _) _).drew.trans (hb.mono (Nat.le_of_lt (by show w.heap.size < (World.alloc w _).heap.size; simp)))

theorem l1Number_any : ∀ (k : Nat) (n : Int) (w : World), n.toNat < 10 ^ (k + 1) → 0 ≤ n → n < 1000000 →
    Calls Tryd.prog 20 #[.int .i64 n] w fun e w' => e = .returned (.string ⟨(Lib.decDigits n.toNat).toArray⟩) ∧ Below w.heap.size w w'
  | 0, n, w, h, h0, h1 => l1Number_small n w h0 (by omega)
  | k + 1, n, w, h, h0, h1 => by
    by_cases hs : n < 10
    · exact l1Number_small n w h0 hs
    · have h' : n.toNat < 10 ^ (k + 1) * 10 := by rw [← Nat.pow_succ]; exact h
      exact l1Number_big n w (by omega) h1 fun w => l1Number_any k (n / 10) w (by omega) (by omega) (by omega)

theorem l1Number_six (n : Int) (w : World) (h0 : 0 ≤ n) (h1 : n ≤ 999999) :
    Calls Tryd.prog 20 #[.int .i64 n] w fun e w' => e = .returned (.string ⟨(Lib.decDigits n.toNat).toArray⟩) ∧ Below w.heap.size w w' :=
  l1Number_any 5 n w (by omega) h0 (by omega)
end Go.Proofs.YtafkobakcclicaaDoor
