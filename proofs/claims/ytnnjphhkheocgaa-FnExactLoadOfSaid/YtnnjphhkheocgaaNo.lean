/-
  Contracts of the model's numbers: l1Number writes a number in decimal, NumberOf makes the number of a container.
-/
import Derived.Test.YtnnjphhkheocgaaRows
import Derived.WalkKit
import Derived.BigQuiet
import Derived.Deep.QuietTactic
import Derived.Lib.Hide
import Derived.WalkSpells
import Derived.Test.YtnnjphhkheocgaaNoMath
import Derived.Deep.RegionWith
import Derived.Laws.BytesArg
import Derived.IntWalk
namespace Go.Proofs.Ytnnjphhkheocgaa
open Go.RowKit
set_option linter.unusedVariables false

/-- A text of one byte, made of a new block. -/
theorem conv_one (w : World) (c : Int) (w' : World) (hb : Below (w.heap.size + 1) (w.alloc (.cells #[.int .u8 c] 5)) w') :
    (convert 22 9 (.slice (some ⟨w.heap.size, 0, none⟩) 1 1)).run Try.prog w' = .ok (.string ⟨#[UInt8.ofNat c.toNat]⟩) w' :=
  run_convert_bytes_arg w' 22 5 Try.underlying22 Try.underlying5 w.heap.size 0 1 1 [c] rfl (fun i hi => by
    obtain rfl : i = 0 := by omega
    rw [hb.cell (p := ⟨w.heap.size, 0 + 0, none⟩) (by simp), World.cell?_alloc_new]
    rfl) 9 Try.underlying9

theorem conv_at (b : Nat) (c : Int) (w' : World) (h : w'.cell? ⟨b, 0, none⟩ = some (.int .u8 c)) :
    (convert 22 9 (.slice (some ⟨b, 0, none⟩) 1 1)).run Try.prog w' = .ok (.string ⟨#[UInt8.ofNat c.toNat]⟩) w' :=
  run_convert_bytes_arg w' 22 5 Try.underlying22 Try.underlying5 b 0 1 1 [c] rfl (fun i hi => by
    obtain rfl : i = 0 := by omega
    exact h) 9 Try.underlying9

theorem cell_new_one (w w' : World) (v : Value) (T : TypeId) (hb : Below (w.alloc (.cells #[v] T)).drew.heap.size (w.alloc (.cells #[v] T)).drew w') : w'.cell? ⟨w.heap.size, 0, none⟩ = some v := by
  rw [hb.cell (p := ⟨w.heap.size, 0, none⟩) (by show w.heap.size < (w.alloc (.cells #[v] T)).heap.size; simp)]
  show (w.alloc (.cells #[v] T)).cell? ⟨w.heap.size, 0, none⟩ = some v
  rw [World.cell?_alloc_new]; rfl

theorem decDigits_small (n : Int) (h0 : 0 ≤ n) (h1 : n < 10) : Lib.decDigits n.toNat = [UInt8.ofNat (48 + n).toNat] := by
  rw [Lib.decDigits, dif_pos (by omega)]
  congr 2; omega
theorem decDigits_big (n : Int) (h0 : 10 ≤ n) : Lib.decDigits n.toNat = Lib.decDigits (n / 10).toNat ++ [UInt8.ofNat (48 + n % 10).toNat] := by
  rw [Lib.decDigits, dif_neg (by omega)]
  congr 2
  · omega
  · congr 1; omega

theorem add_list (l r : List UInt8) (hl : l.length ≤ 8388608) (hr : r.length ≤ 8388608) (w : World) :
    (Op.stringOp .add ⟨l.toArray⟩ ⟨r.toArray⟩).run Try.prog w = .ok (.string ⟨(l ++ r).toArray⟩) w := by
  exact run_string_add_lists w l r (by omega) (by omega)

end Go.Proofs.Ytnnjphhkheocgaa
