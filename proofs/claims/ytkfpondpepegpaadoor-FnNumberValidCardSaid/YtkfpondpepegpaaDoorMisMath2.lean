/-
  What the law on mistakes needs of the texts that it makes, in the spelling of its walk.
-/
import Derived.Test.YtkfpondpepegpaaDoorMisMath
import Derived.Laws.Concat
import Derived.WalkKit
namespace Go.Proofs.YtkfpondpepegpaaDoor
set_option linter.unusedVariables false

def digText : ByteArray := ⟨#[48, 49, 50, 51, 52, 53, 54, 55, 56, 57]⟩
theorem digText_at : ∀ d : Fin 10, digText.data.toList.getD d.val 0 = UInt8.ofNat (48 + d.val) := by decide
theorem digText_one (d : Nat) (h : d < 10) : (digText.extract d (d + 1)).data.toList = [UInt8.ofNat (48 + d)] := by
  rw [extract_one digText d h, digText_at ⟨d, h⟩]

/-- The text with another digit. -/
theorem put_facts (P : Program) (s : ByteArray) (k d : Nat) (hf : formB s = true) (hk4 : 4 ≤ k) (hk : k < 10) (hd : d < 10) :
    ∃ Y : ByteArray, Y.size ≤ 10 ∧
      (∀ w, (Op.stringOp .add (s.extract 0 k) ((⟨#[48, 49, 50, 51, 52, 53, 54, 55, 56, 57]⟩ : ByteArray).extract d (d + 1))).run P w = .ok (.string (s.extract 0 k ++ (⟨#[48, 49, 50, 51, 52, 53, 54, 55, 56, 57]⟩ : ByteArray).extract d (d + 1))) w) ∧
      (∀ w, (Op.stringOp .add (s.extract 0 k ++ (⟨#[48, 49, 50, 51, 52, 53, 54, 55, 56, 57]⟩ : ByteArray).extract d (d + 1)) (s.extract (k + 1) s.size)).run P w = .ok (.string Y) w) ∧
      (crS Y = crS s ↔ Y = s) := by
  have hs := formB_size hf
  have ht := digText_one d hd
  have hz : (digText.extract d (d + 1)).size = 1 := by rw [size_list, ht]; rfl
  refine ⟨putAt s (digText.extract d (d + 1)) k, by rw [putAt_size ht (by omega)]; omega, fun w => ?_, fun w => ?_, ?_⟩
  · exact run_string_add w _ _ (by rw [ByteArray.size_extract]; omega) (show ((digText.extract d (d + 1)).size : Int) ≤ 8388608 by omega)
  · exact run_string_add w (s.extract 0 k ++ digText.extract d (d + 1)) _ (by rw [ByteArray.size_append, ByteArray.size_extract, hz]; omega) (by rw [ByteArray.size_extract]; omega)
  · apply crS_put hf ht hk4 hk
    rw [UInt8.toNat_ofNat']
    omega
/-- The text with two neighbours exchanged. -/
theorem swap_facts (P : Program) (s : ByteArray) (k : Nat) (hf : formB s = true) (hk4 : 4 ≤ k) (hk : k < 9) (hne : byteAt s k ≠ byteAt s (k + 1)) :
    ∃ Y : ByteArray, Y.size ≤ 10 ∧
      (∀ w, (Op.stringOp .add (s.extract 0 k) (s.extract (k + 1) (k + 2))).run P w = .ok (.string (s.extract 0 k ++ s.extract (k + 1) (k + 2))) w) ∧
      (∀ w, (Op.stringOp .add (s.extract 0 k ++ s.extract (k + 1) (k + 2)) (s.extract k (k + 1))).run P w = .ok (.string (s.extract 0 k ++ s.extract (k + 1) (k + 2) ++ s.extract k (k + 1))) w) ∧
      (∀ w, (Op.stringOp .add (s.extract 0 k ++ s.extract (k + 1) (k + 2) ++ s.extract k (k + 1)) (s.extract (k + 2) s.size)).run P w = .ok (.string Y) w) ∧
      crS Y ≠ crS s := by
  have hs := formB_size hf
  refine ⟨swapAt s k, by rw [swapAt_size (by omega)]; omega, fun w => ?_, fun w => ?_, fun w => ?_, crS_swap hf hk4 hk hne⟩
  · exact run_string_add w _ _ (by rw [ByteArray.size_extract]; omega) (by rw [ByteArray.size_extract]; omega)
  · exact run_string_add w _ _ (by rw [ByteArray.size_append, ByteArray.size_extract, ByteArray.size_extract]; omega) (by rw [ByteArray.size_extract]; omega)
  · exact run_string_add w _ _ (by rw [ByteArray.size_append, ByteArray.size_append, ByteArray.size_extract, ByteArray.size_extract, ByteArray.size_extract]; omega) (by rw [ByteArray.size_extract]; omega)
/-- The next byte of a text. -/
theorem index_next (P : Program) (T : TypeId) (s : ByteArray) (k : Nat) (hk : k + 1 < s.size) (h : P.underlying T = some .string) (w : World) :
    (Instr.index T (.string s) (.int .i64 ((k : Int) + 1))).run P w = .ok (.int .u8 (s[k + 1].toNat)) w := by
  have e := run_index_string (P := P) w T s .i64 ((k : Int) + 1) h
  rw [e]
  have h1 : 0 ≤ (k : Int) + 1 ∧ (k : Int) + 1 < s.size := by omega
  simp [h1]
end Go.Proofs.YtkfpondpepegpaaDoor
