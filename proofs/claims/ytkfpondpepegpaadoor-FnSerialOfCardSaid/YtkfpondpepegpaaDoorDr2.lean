/-
  Contracts of the draws of owners, serials and spoiled texts, and of DrawCheckRest.
-/
import Derived.Test.YtkfpondpepegpaaDoorDr1
import Derived.Test.YtkfpondpepegpaaDoorNo2
namespace Go.Proofs.YtkfpondpepegpaaDoor
open Go.RowKit
set_option linter.unusedVariables false

/-- What a draw leaves: of the old blocks none but block B has turned; there may be new ones. -/
structure Most (B : Nat) (w w' : World) : Prop where
  os : w'.os = w.os
  tape : w'.tape = w.tape
  output : w'.output = w.output
  size : w.heap.size ≤ w'.heap.size
  block : ∀ k, k ≠ B → k < w.heap.size → w'.heap[k]? = w.heap[k]?

theorem Most.refl (B : Nat) (w : World) : Most B w w := ⟨rfl, rfl, rfl, Nat.le_refl _, fun _ _ _ => rfl⟩
theorem Most.trans {B : Nat} {a b c : World} (h : Most B a b) (k : Most B b c) : Most B a c :=
  ⟨k.os.trans h.os, k.tape.trans h.tape, k.output.trans h.output, Nat.le_trans h.size k.size, fun i hi hl => (k.block i hi (Nat.lt_of_lt_of_le hl h.size)).trans (h.block i hi hl)⟩
theorem Only.most {B : Nat} {w w' : World} (h : Only B w w') : Most B w w' := ⟨h.os, h.tape, h.output, Nat.le_of_eq h.size.symm, fun k hk _ => h.block k hk⟩
theorem Most.of_below {B : Nat} {w w' : World} (h : Below w.heap.size w w') : Most B w w' := ⟨h.os, h.tape, h.output, h.size, fun k _ hk => h.block k hk⟩
theorem Most.below {B base : Nat} {w w' : World} (h : Most B w w') (hb : base ≤ B) (hs : base ≤ w.heap.size) : Below base w w' :=
  ⟨h.os, h.tape, h.output, h.size, fun k hk => h.block k (by omega) (by omega)⟩
theorem Most.cell {B : Nat} {w w' : World} (h : Most B w w') (b o : Nat) (hb : b ≠ B) (hl : b < w.heap.size) : w'.cell? ⟨b, o, none⟩ = w.cell? ⟨b, o, none⟩ := World.cell?_of_block (w := w) (h.block b hb hl)

def owner3 (a b c : Int) : ByteArray := strOfNums [65 + a, 65 + b, 65 + c]
/-- An owner: three capitals. -/
def OwnerOk (s : ByteArray) : Prop := ∃ a b c : Int, 0 ≤ a ∧ a < 26 ∧ 0 ≤ b ∧ b < 26 ∧ 0 ≤ c ∧ c < 26 ∧ s = owner3 a b c

theorem conv_three (w : World) (a b c : Int) :
    (convert 22 9 (.slice (some ⟨w.heap.size, 0, none⟩) 3 3)).run Tryd.prog (w.alloc (.cells #[.int .u8 (65 + a), .int .u8 (65 + b), .int .u8 (65 + c)] 5)) = .ok (.string (owner3 a b c)) (w.alloc (.cells #[.int .u8 (65 + a), .int .u8 (65 + b), .int .u8 (65 + c)] 5)) :=
  run_convert_bytes_arg _ 22 5 Tryd.underlying22 Tryd.underlying5 w.heap.size 0 3 3 [65 + a, 65 + b, 65 + c] rfl (fun i hi => by
    rw [Nat.zero_add, World.cell?_alloc_new]
    obtain rfl | rfl | rfl : i = 0 ∨ i = 1 ∨ i = 2 := by omega
    all_goals rfl) 9 Tryd.underlying9

/-- What a call of l20Owner gives where none is spoiled. -/
def Owned (base B p : Nat) (w : World) (e : Ending) (w' : World) : Prop :=
  ∃ s : ByteArray, OwnerOk s ∧ e = .returned (.string s) ∧ Rdr base B (p + 3) w' ∧ Most B w w'

set_option maxHeartbeats 1000000 in
theorem owner_zero (base B p : Nat) (w : World) (h : Rdr base B p w) (hp : p ≤ 1000000) :
    Calls Tryd.prog 20 #[.pointer (some ⟨B, 0, none⟩), .int .i64 0] w (Owned base B p w) := by
  go_enter Tryd.func20, Tryd.ntmps20
  go_wp2_with fail
  refine (odd_zero B w).mono ?_
  rintro e w0 ⟨rfl, rfl⟩
  go_wp2_with fail
  refine (pick_any base B p 26 w h (by omega) (by omega)).mono ?_
  rintro e w1 ⟨a, a0, a1, rfl, h1, o1⟩
  go_wp2_with fail
  refine (pick_any base B (p + 1) 26 w1 h1 (by omega) (by omega)).mono ?_
  rintro e w2 ⟨b, b0, b1, rfl, h2, o2⟩
  go_wp2_with fail
  refine (pick_any base B (p + 1 + 1) 26 w2 h2 (by omega) (by omega)).mono ?_
  rintro e w3 ⟨c, c0, c1, rfl, h3, o3⟩
  have hcv := conv_three w3 a b c
  go_wp2_with fail
  go_ret
  exact ⟨owner3 a b c, ⟨a, b, c, a0, a1, b0, b1, c0, c1, rfl⟩, rfl, h3.keep ((Below.refl _ _).alloc (Nat.le_refl _) _),
    ((o1.trans o2).trans o3).most.trans (Most.of_below ((Below.refl _ _).alloc (Nat.le_refl _) _))⟩

/-- What a call of l20Serial gives. -/
def Seried (base B p : Nat) (w : World) (e : Ending) (w' : World) : Prop :=
  ∃ m : Int, 0 ≤ m ∧ m ≤ 999999 ∧ e = .returned (.int .i64 m) ∧ Rdr base B (p + 3) w' ∧ Most B w w'

theorem serial_any (base B p : Nat) (w : World) (h : Rdr base B p w) (hp : p ≤ 1000000) :
    Calls Tryd.prog 22 #[.pointer (some ⟨B, 0, none⟩)] w (Seried base B p w) := by
  go_enter Tryd.func22, Tryd.ntmps22
  go_wp2_with fail
  refine (pick_any base B p 256 w h (by omega) (by omega)).mono ?_
  rintro e w1 ⟨a, a0, a1, rfl, h1, o1⟩
  go_wp2_with fail
  refine (pick_any base B (p + 1) 256 w1 h1 (by omega) (by omega)).mono ?_
  rintro e w2 ⟨b, b0, b1, rfl, h2, o2⟩
  have m0 : 0 ≤ a * b := Int.mul_nonneg a0 b0
  have m1 : a * b ≤ 65025 := by have := Int.mul_le_mul (show a ≤ 255 by omega) (show b ≤ 255 by omega) b0 (by decide); omega
  go_wp2_with fail
  refine (pick_any base B (p + 1 + 1) 256 w2 h2 (by omega) (by omega)).mono ?_
  rintro e w3 ⟨c, c0, c1, rfl, h3, o3⟩
  go_wp2_with fail
  go_ret
  exact ⟨a * b * 15 + c, by omega, by omega, rfl, h3, ((o1.trans o2).trans o3).most⟩

/-- What a call of l20Spoil gives. -/
def Spoiled (base B p n : Nat) (w : World) (e : Ending) (w' : World) : Prop :=
  ∃ s : ByteArray, s.size ≤ n ∧ e = .returned (.string s) ∧ Below base w w'

abbrev sixTexts : List ByteArray := [⟨#[]⟩, ⟨#[48]⟩, ⟨#[55]⟩, ⟨#[65]⟩, ⟨#[117]⟩, ⟨#[85]⟩]
theorem six_new (u : Int) (h0 : 0 ≤ u) (h1 : u < 6) (T : TypeId) : ∃ S : ByteArray, S.size ≤ 1 ∧ S = sixTexts[u.toNat]?.getD ⟨#[]⟩ ∧
    (∀ w : World, (w.alloc (.cells #[.string ⟨#[]⟩, .string ⟨#[48]⟩, .string ⟨#[55]⟩, .string ⟨#[65]⟩, .string ⟨#[117]⟩, .string ⟨#[85]⟩] T)).cell? ⟨w.heap.size, u.toNat, none⟩ = some (.string S)) := by
  have hu : u.toNat < 6 := by omega
  have hl : u.toNat < sixTexts.length := hu
  refine ⟨sixTexts[u.toNat]?.getD ⟨#[]⟩, ?_, rfl, fun w => ?_⟩
  · rw [List.getElem?_eq_getElem hl, Option.getD_some]
    exact (show ∀ s ∈ sixTexts, s.size ≤ 1 by decide) _ (List.getElem_mem hl)
  · rw [World.cell?_alloc_new, List.getElem?_eq_getElem hl, Option.getD_some]
    have : (#[Value.string ⟨#[]⟩, .string ⟨#[48]⟩, .string ⟨#[55]⟩, .string ⟨#[65]⟩, .string ⟨#[117]⟩, .string ⟨#[85]⟩] : Array Value) = (sixTexts.map Value.string).toArray := rfl
    rw [this, List.getElem?_toArray, List.getElem?_map, List.getElem?_eq_getElem hl]
    rfl

theorem ext_add (s S : ByteArray) (k : Int) (h0 : 0 ≤ k) (h1 : k < s.size) (hs : s.size ≤ 1000000) (hS : S.size ≤ 1) :
    (∀ w, (Op.stringOp .add (s.extract 0 k.toNat) S).run Tryd.prog w = .ok (.string (s.extract 0 k.toNat ++ S)) w) ∧
    (∀ w, (Op.stringOp .add (s.extract 0 k.toNat ++ S) (s.extract (k.toNat + 1) s.size)).run Tryd.prog w = .ok (.string (s.extract 0 k.toNat ++ S ++ s.extract (k.toNat + 1) s.size)) w) ∧
    (s.extract 0 k.toNat ++ S ++ s.extract (k.toNat + 1) s.size).size ≤ s.size := by
  refine ⟨fun w => run_string_add w _ _ (by rw [ByteArray.size_extract]; omega) (by omega), fun w => run_string_add w _ _ (by rw [ByteArray.size_append, ByteArray.size_extract]; omega) (by rw [ByteArray.size_extract]; omega), ?_⟩
  rw [ByteArray.size_append, ByteArray.size_append, ByteArray.size_extract, ByteArray.size_extract]
  omega

theorem spoil_empty (base B p : Nat) (w : World) (n : Nat) (hn : 1 ≤ n) :
    Calls Tryd.prog 23 #[.pointer (some ⟨B, 0, none⟩), .string ⟨#[]⟩] w (Spoiled base B p n w) := by
  go_enter Tryd.func23, Tryd.ntmps23
  go_wp2
  go_ret
  exact ⟨⟨#[65]⟩, hn, rfl, Below.refl _ _⟩

end Go.Proofs.YtkfpondpepegpaaDoor
