/-
  The contract of the model's l1In: is a number between two.
  Two closed facts of the program that every proof over it asks.
  What a walk is told of a slice of int's that came in.
  Contracts of the reader that the laws draw their inputs with: what each call returns and what it leaves in memory.
  Contracts of the exact laws' own helpers over slices of int's: their copy, their comparison.
  What draws and appends share: rows of the call's own beside the reader, and what stays of memory.
  Rows of numbers of the call's own.
  Pieces of a slice of numbers.
  Plain mathematics of stacks: when one is valid, what putting, taking and counting give. Nothing of the program.
  Contracts of the model's l1Has and StackValid.
  Contracts of the laws' own helpers on slices of numbers: sameInts, hasInt, and the marks that the exact laws lay and look for.
  Slices of numbers in memory of their own that can be written: the exact laws' copies, and the marks that they lay and look for.
  Contracts of the laws' hasInt, and of the marks that the exact laws lay in slices of numbers and look for.
-/
import Derived.Test.YtfeobdgdhgcgoaaRows
import Derived.WalkKit
import Derived.ProofKit
import Derived.ChangeOld
import Derived.BigQuiet
import Derived.Deep.QuietTactic
import Derived.Lib.Hide
import Derived.WalkSpells
import Derived.Below
import Derived.OpenShut
import Derived.OwnWalk
import Derived.Lib.SmallJoins
import Derived.Deep.Draws
import Derived.Laws.Rows
import Derived.Deep.RegionHeld3
import Derived.Deep.AppendLies
namespace Go.Proofs.Ytfeobdgdhgcgoaa
open Go.RowKit
set_option linter.unusedVariables false

theorem l1In_yes (n lo hi : Int) (w : World) (h1 : lo ≤ n) (h2 : n ≤ hi) :
    Calls Try.prog 78 #[.int .i64 n, .int .i64 lo, .int .i64 hi] w fun e w' => e = .returned (.bool true) ∧ w = w' := by
  go_enter Try.func78, Try.ntmps78
  go_wp2
  go_ret
  exact ⟨rfl, rfl⟩
theorem l1In_no (n lo hi : Int) (w : World) (h : n < lo ∨ hi < n) :
    Calls Try.prog 78 #[.int .i64 n, .int .i64 lo, .int .i64 hi] w fun e w' => e = .returned (.bool false) ∧ w = w' := by
  by_cases h1 : lo ≤ n
  · have h2 : decide (n ≤ hi) = false := decide_eq_false (by omega)
    clear h
    go_enter Try.func78, Try.ntmps78
    go_wp2
    go_ret
    exact ⟨rfl, rfl⟩
  · have h2 : decide (lo ≤ n) = false := decide_eq_false h1
    clear h h1
    go_enter Try.func78, Try.ntmps78
    go_wp2
    go_ret
    exact ⟨rfl, rfl⟩

end Go.Proofs.Ytfeobdgdhgcgoaa
namespace Go.Proofs.Ytfeobdgdhgcgoaa

theorem own : ownKnob Try.prog.godebug = none := by kernel_rfl
theorem laidOut : laidOutB Try.prog = true := by kernel_rfl
end Go.Proofs.Ytfeobdgdhgcgoaa
namespace Go.Proofs.Ytfeobdgdhgcgoaa
open Go.RowKit

def IsRowI (w : World) (a : Option Addr) (len cap : Nat) (zs : List Int) : Prop :=
  (a = none ∧ len = 0 ∧ cap = 0 ∧ zs = []) ∨
  ∃ x, a = some x ∧ len ≤ cap ∧ cap ≤ maxLen ∧ zs.length = cap ∧ (∀ i, i < zs.length → w.cell? (x.add i) = some (.int .i64 (zs.getD i 0))) ∧ ∀ n ∈ zs, (Lit.int .i64 n).wf = true
end Go.Proofs.Ytfeobdgdhgcgoaa
namespace Go.Proofs.Ytfeobdgdhgcgoaa
open Go.RowKit
set_option linter.unusedVariables false

theorem pick_none (B : Nat) (p n : Int) (w : World) (hp : 0 ≤ p) (hp' : p ≤ 1000000000) (hn : n < 1)
    (h1 : w.cell? ⟨B, 1, none⟩ = some (.int .i64 p)) (hf : w.frozen? ⟨B, 1, none⟩ = false) :
    Calls Try.prog 71 #[.pointer (some ⟨B, 0, none⟩), .int .i64 n] w fun e w' => e = .returned (.int .i64 0) ∧ w' = w.setCell ⟨B, 1, none⟩ (.int .i64 (p + 1)) := by
  go_enter Try.func71, Try.ntmps71
  go_wp2
  go_ret
  exact ⟨rfl, rfl⟩

theorem pick_empty (B : Nat) (p n : Int) (w : World) (hp : 0 ≤ p) (hp' : p ≤ 1000000000) (hn : 1 ≤ n) (a : Option Addr) (cap : Nat)
    (h0 : w.cell? ⟨B, 0, none⟩ = some (.slice a 0 cap))
    (h1 : w.cell? ⟨B, 1, none⟩ = some (.int .i64 p)) (hf : w.frozen? ⟨B, 1, none⟩ = false) :
    Calls Try.prog 71 #[.pointer (some ⟨B, 0, none⟩), .int .i64 n] w fun e w' => e = .returned (.int .i64 0) ∧ w' = w.setCell ⟨B, 1, none⟩ (.int .i64 (p + 1)) := by
  go_enter Try.func71, Try.ntmps71
  go_wp2
  go_ret
  exact ⟨rfl, rfl⟩

theorem cell_other {w : World} {B b o : Nat} {v u : Value} (h : w.cell? ⟨b, o, none⟩ = some u) (hb : b ≠ B) : (w.setCell ⟨B, 1, none⟩ v).cell? ⟨b, o, none⟩ = some u := by
  rw [World.cell?_setCell_other _ _ _ _ (by intro e; cases e; exact hb rfl)]; exact h

theorem pick_near (B : Nat) (p : Nat) (n : Int) (w : World) (hp' : (p : Int) ≤ 1000000000) (hn : 1 ≤ n) (b off : Nat) (len cap : Nat) (hlt : p < len) (c : Int) (hc0 : 0 ≤ c) (hc1 : c ≤ 255) (hlen : len ≤ 1000000000)
    (h0 : w.cell? ⟨B, 0, none⟩ = some (.slice (some ⟨b, off, none⟩) len cap))
    (h1 : w.cell? ⟨B, 1, none⟩ = some (.int .i64 p)) (hf : w.frozen? ⟨B, 1, none⟩ = false)
    (hx : w.cell? ⟨b, off + p, none⟩ = some (.int .u8 c)) (hxB : b ≠ B) :
    Calls Try.prog 71 #[.pointer (some ⟨B, 0, none⟩), .int .i64 n] w fun e w' => e = .returned (.int .i64 (c % n)) ∧ w' = w.setCell ⟨B, 1, none⟩ (.int .i64 (p + 1)) := by
  have hz : ((len : Int) == 0) = false := by rw [beq_eq_false_iff_ne]; omega
  have hx2 := cell_other (v := .int .i64 (p + 1)) hx hxB
  clear hx
  go_enter Try.func71, Try.ntmps71
  go_wp2
  go_ret
  exact ⟨rfl, rfl⟩

theorem xor_pos (a : Int) (h0 : 0 ≤ a) (h1 : a < 9223372036854775808) : 0 ≤ bits .xor .i64 a (a / 64) := by
  obtain ⟨n, rfl⟩ := Int.eq_ofNat_of_zero_le h0
  have hx : n ^^^ n / 64 < 2 ^ 63 := Nat.xor_lt_two_pow (by omega) (by omega)
  have d : ((n : Int) / 64) = ((n / 64 : Nat) : Int) := rfl
  have e1 : (BitVec.ofInt 64 (n : Int)).toNat = n := by
    rw [BitVec.ofInt_natCast, BitVec.toNat_ofNat]; exact Nat.mod_eq_of_lt (by omega)
  have e2 : (BitVec.ofInt 64 ((n / 64 : Nat) : Int)).toNat = n / 64 := by
    rw [BitVec.ofInt_natCast, BitVec.toNat_ofNat]; exact Nat.mod_eq_of_lt (by omega)
  rw [d]
  show 0 ≤ IntKind.i64.wrap ((BitVec.ofInt 64 (n : Int) ^^^ BitVec.ofInt 64 ((n / 64 : Nat) : Int)).toNat : Int)
  rw [BitVec.toNat_xor, e1, e2]
  simp [IntKind.wrap, IntKind.bits, IntKind.signed]
  omega

theorem pick_far (B : Nat) (p : Nat) (n : Int) (w : World) (hp' : (p : Int) ≤ 1000000000) (hn : 1 ≤ n) (b off : Nat) (len cap : Nat) (hlt : len ≤ p) (hl0 : 0 < len) (c c' : Int) (hc0 : 0 ≤ c) (hc1 : c ≤ 255) (hc0' : 0 ≤ c') (hc1' : c' ≤ 255) (hlen : len ≤ 1000000000)
    (h0 : w.cell? ⟨B, 0, none⟩ = some (.slice (some ⟨b, off, none⟩) len cap))
    (h1 : w.cell? ⟨B, 1, none⟩ = some (.int .i64 p)) (hf : w.frozen? ⟨B, 1, none⟩ = false)
    (hx : w.cell? ⟨b, off + p % len, none⟩ = some (.int .u8 c)) (hx' : w.cell? ⟨b, off + (p * 7 + 3) % len, none⟩ = some (.int .u8 c')) (hxB : b ≠ B) :
    Calls Try.prog 71 #[.pointer (some ⟨B, 0, none⟩), .int .i64 n] w fun e w' => ∃ v k, 0 ≤ v ∧ v < n ∧ e = .returned (.int .i64 v) ∧ w' = (w.setCell ⟨B, 1, none⟩ (.int .i64 (p + 1))).drewN k := by
  have hz : ((len : Int) == 0) = false := by rw [beq_eq_false_iff_ne]; omega
  have hx2 := cell_other (v := .int .i64 (p + 1)) hx hxB
  have hx2' := cell_other (v := .int .i64 (p + 1)) hx' hxB
  clear hx hx'
  have m0 : 0 ≤ (p : Int) % (len : Int) := Int.emod_nonneg _ (by omega)
  have m1 : (p : Int) % (len : Int) < len := Int.emod_lt_of_pos _ (by omega)
  have q0 : 0 ≤ ((p : Int) * 7 + 3) % (len : Int) := Int.emod_nonneg _ (by omega)
  have q1 : ((p : Int) * 7 + 3) % (len : Int) < len := Int.emod_lt_of_pos _ (by omega)
  have d0 : 0 ≤ (p : Int) / (len : Int) := Int.ediv_nonneg (by omega) (by omega)
  have d1 : (p : Int) / (len : Int) ≤ p := Int.ediv_le_self _ (by omega)
  go_enter Try.func71, Try.ntmps71
  go_wp2
  go_quiet (fail)
  go_wp2
  have e0 := xor_pos (c * 131 + c' * 1117 + (p : Int) * 29 + (p : Int) / (len : Int) * 53) (by omega) (by omega)
  go_ret
  exact ⟨_, _, Int.tmod_nonneg _ e0, Int.tmod_lt_of_pos _ (by omega), rfl, rfl⟩

/-- THE READER at block B of a world: its bytes lie below 'base' (or it has none), 'p' calls were made. -/
def Rdr (base B : Nat) (p : Nat) (w : World) : Prop :=
  base ≤ B ∧ B < w.heap.size ∧ w.cell? ⟨B, 1, none⟩ = some (.int .i64 p) ∧ w.frozen? ⟨B, 1, none⟩ = false ∧
  ((∃ a cap, w.cell? ⟨B, 0, none⟩ = some (.slice a 0 cap)) ∨
   ∃ b off len cap, b < base ∧ 0 < len ∧ len ≤ 2000 ∧ w.cell? ⟨B, 0, none⟩ = some (.slice (some ⟨b, off, none⟩) len cap) ∧
     ∀ i, i < len → ∃ c : Int, 0 ≤ c ∧ c ≤ 255 ∧ w.cell? ⟨b, off + i, none⟩ = some (.int .u8 c))

/-- What a call of the reader leaves: nothing but block B has turned. -/
structure Only (B : Nat) (w w' : World) : Prop where
  os : w'.os = w.os
  tape : w'.tape = w.tape
  output : w'.output = w.output
  size : w'.heap.size = w.heap.size
  block : ∀ k, k ≠ B → w'.heap[k]? = w.heap[k]?

theorem Only.refl (B : Nat) (w : World) : Only B w w := ⟨rfl, rfl, rfl, rfl, fun _ _ => rfl⟩
theorem Only.trans {B : Nat} {a b c : World} (h : Only B a b) (k : Only B b c) : Only B a c :=
  ⟨k.os.trans h.os, k.tape.trans h.tape, k.output.trans h.output, k.size.trans h.size, fun i hi => (k.block i hi).trans (h.block i hi)⟩
theorem Only.below {B base : Nat} {w w' : World} (h : Only B w w') (hb : base ≤ B) : Below base w w' :=
  ⟨h.os, h.tape, h.output, Nat.le_of_eq h.size.symm, fun k hk => h.block k (by omega)⟩
theorem Only.cell {B : Nat} {w w' : World} (h : Only B w w') (b o : Nat) (hb : b ≠ B) : w'.cell? ⟨b, o, none⟩ = w.cell? ⟨b, o, none⟩ := World.cell?_of_block (w := w) (h.block b hb)
theorem Only.frozen {B : Nat} {w w' : World} (h : Only B w w') (b o : Nat) (hb : b ≠ B) : w'.frozen? ⟨b, o, none⟩ = w.frozen? ⟨b, o, none⟩ := World.frozen?_of_block (w := w) (h.block b hb)
theorem Only.drewN {B : Nat} {a w : World} (h : Only B a w) (k : Nat) : Only B a (w.drewN k) := ⟨h.os, h.tape, h.output, h.size, h.block⟩
theorem Only.set (B o : Nat) (w : World) (v : Value) : Only B w (w.setCell ⟨B, o, none⟩ v) :=
  ⟨rfl, rfl, rfl, by simp [World.setCell], fun k hk => Below.heap_setCell _ _ _ _ hk⟩

/-- A reader of a world is one of every world that turned no old block but by making new ones. -/
theorem Rdr.keep {base B p : Nat} {w w' : World} (h : Rdr base B p w) (hb : Below w.heap.size w w') : Rdr base B p w' := by
  obtain ⟨h0, h1, h2, h3, h4⟩ := h
  have hB : ∀ o, w'.cell? ⟨B, o, none⟩ = w.cell? ⟨B, o, none⟩ := fun o => hb.cell (p := ⟨B, o, none⟩) h1
  refine ⟨h0, Nat.lt_of_lt_of_le h1 hb.size, by rw [hB]; exact h2, (hb.frozen (p := ⟨B, 1, none⟩) h1).trans h3, ?_⟩
  rcases h4 with ⟨a, cap, h⟩ | ⟨b, off, len, cap, hb', hl, hl', hs, hc⟩
  · exact .inl ⟨a, cap, by rw [hB]; exact h⟩
  · refine .inr ⟨b, off, len, cap, hb', hl, hl', by rw [hB]; exact hs, fun i hi => ?_⟩
    obtain ⟨c, c0, c1, hci⟩ := hc i hi
    exact ⟨c, c0, c1, (hb.cell (p := ⟨b, off + i, none⟩) (by show b < w.heap.size; omega)).trans hci⟩

theorem Rdr.set {base B p : Nat} {w : World} (h : Rdr base B p w) (q : Nat) (k : Nat) : Rdr base B q ((w.setCell ⟨B, 1, none⟩ (.int .i64 q)).drewN k) := by
  obtain ⟨h0, h1, h2, h3, h4⟩ := h
  have e0 : ∀ v, (w.setCell ⟨B, 1, none⟩ v).cell? ⟨B, 0, none⟩ = w.cell? ⟨B, 0, none⟩ := fun v => World.cell?_setCell_other _ _ _ _ (by intro e; cases e)
  refine ⟨h0, by simpa [World.setCell] using h1, World.cell?_setCell_same _ _ _ h2, by simpa using h3, ?_⟩
  rcases h4 with ⟨a, cap, h⟩ | ⟨b, off, len, cap, hb', hl, hl', hs, hc⟩
  · exact .inl ⟨a, cap, (e0 _).trans h⟩
  · refine .inr ⟨b, off, len, cap, hb', hl, hl', (e0 _).trans hs, fun i hi => ?_⟩
    obtain ⟨c, c0, c1, hci⟩ := hc i hi
    exact ⟨c, c0, c1, cell_other hci (by omega)⟩

/-- What a call of pick gives. -/
def Picked (base B p : Nat) (n : Int) (w : World) (e : Ending) (w' : World) : Prop :=
  ∃ v : Int, 0 ≤ v ∧ v < n ∧ e = .returned (.int .i64 v) ∧ Rdr base B (p + 1) w' ∧ Only B w w'

theorem pick_any (base B p : Nat) (n : Int) (w : World) (h : Rdr base B p w) (hp : p ≤ 1000000000) (hn : 1 ≤ n) :
    Calls Try.prog 71 #[.pointer (some ⟨B, 0, none⟩), .int .i64 n] w (Picked base B p n w) := by
  have hr := h
  obtain ⟨h0, h1, h2, h3, h4⟩ := h
  have hc : (p : Int) + 1 = ((p + 1 : Nat) : Int) := rfl
  rcases h4 with ⟨a, cap, h⟩ | ⟨b, off, len, cap, hb', hl, hl', hs, hcs⟩
  · refine (pick_empty B p n w (by omega) (by omega) hn a cap h h2 h3).mono fun e w' ⟨he, hw⟩ => ?_
    subst hw
    exact ⟨0, by omega, by omega, he, hr.set (p + 1) 0, Only.set _ _ _ _⟩
  · by_cases hlt : p < len
    · obtain ⟨c, c0, c1, hx⟩ := hcs p hlt
      refine (pick_near B p n w (by omega) hn b off len cap hlt c c0 c1 (by omega) hs h2 h3 hx (by omega)).mono fun e w' ⟨he, hw⟩ => ?_
      subst hw
      exact ⟨c % n, Int.emod_nonneg _ (by omega), Int.emod_lt_of_pos _ (by omega), he, hr.set (p + 1) 0, Only.set _ _ _ _⟩
    · obtain ⟨c, c0, c1, hx⟩ := hcs (p % len) (Nat.mod_lt _ hl)
      obtain ⟨c', c0', c1', hx'⟩ := hcs ((p * 7 + 3) % len) (Nat.mod_lt _ hl)
      refine (pick_far B p n w (by omega) hn b off len cap (by omega) hl c c' c0 c1 c0' c1' (by omega) hs h2 h3 hx hx' (by omega)).mono fun e w' ⟨v, k, v0, v1, he, hw⟩ => ?_
      subst hw
      exact ⟨v, v0, v1, he, hr.set (p + 1) k, (Only.set _ _ _ _).drewN k⟩

theorem odd_zero (B : Nat) (w : World) :
    Calls Try.prog 73 #[.pointer (some ⟨B, 0, none⟩), .int .i64 0] w fun e w' => e = .returned (.bool false) ∧ w = w' := by
  go_enter Try.func73, Try.ntmps73
  go_wp2
  go_ret
  exact ⟨rfl, rfl⟩

/-- What a call of odd gives. -/
def Odd (base B p : Nat) (w : World) (e : Ending) (w' : World) : Prop :=
  ∃ v : Bool, e = .returned (.bool v) ∧ Rdr base B (p + 1) w' ∧ Only B w w'

theorem odd_any (base B p : Nat) (n : Int) (w : World) (h : Rdr base B p w) (hp : p ≤ 1000000000) (hn : 1 ≤ n) (hn' : n ≤ 1000000000) :
    Calls Try.prog 73 #[.pointer (some ⟨B, 0, none⟩), .int .i64 n] w (Odd base B p w) := by
  go_enter Try.func73, Try.ntmps73
  go_wp2_with (go_at_call 71; refine (pick_any base B p _ _ h hp hn).mono ?_; rintro e w' ⟨v, v0, v1, rfl, hr, ho⟩)
  go_ret
  exact ⟨_, rfl, hr, ho⟩

/-- What is known of a slice of bytes that came in. -/
def IsRow8 (w : World) (a : Option Addr) (len cap : Nat) : Prop :=
  (a = none ∧ len = 0 ∧ cap = 0) ∨
  ∃ x, a = some x ∧ len ≤ cap ∧ cap ≤ maxLen ∧ ∀ i, i < cap → ∃ c : Int, 0 ≤ c ∧ c ≤ 255 ∧ w.cell? (x.add i) = some (.int .u8 c)

/-- What the shell's walk is told of a slice of bytes gives it. -/
theorem row8_of {w : World} {a : Option Addr} {len cap : Nat} {zs : List Int}
    (h : (a = none ∧ len = 0 ∧ cap = 0 ∧ zs = []) ∨ ∃ x, a = some x ∧ len ≤ cap ∧ cap ≤ maxLen ∧ zs.length = cap ∧ (∀ i, i < zs.length → w.cell? (x.add i) = some (.int .u8 (zs.getD i 0))) ∧ ∀ n ∈ zs, (Lit.int .u8 n).wf = true) :
    IsRow8 w a len cap := by
  rcases h with ⟨h1, h2, h3, _⟩ | ⟨x, h1, h2, h3, h4, h5, h6⟩
  · exact .inl ⟨h1, h2, h3⟩
  · refine .inr ⟨x, h1, h2, h3, fun i hi => ?_⟩
    have hb := bounds_u8 (h6 (zs.getD i 0) (by rw [List.getD_eq_getElem?_getD, List.getElem?_eq_getElem (by omega)]; exact List.getElem_mem _))
    exact ⟨zs.getD i 0, hb.1, hb.2, h5 i (by omega)⟩
theorem row8_len {w : World} {a : Option Addr} {len cap : Nat} (h : IsRow8 w a len cap) : len ≤ maxLen := by
  rcases h with ⟨_, h, _⟩ | ⟨_, _, h, h', _⟩
  · unfold maxLen; omega
  · omega

def Opened (w : World) (e : Ending) (w' : World) : Prop :=
  e = .returned (.pointer (some ⟨w.heap.size, 0, none⟩)) ∧ Rdr w.heap.size w.heap.size 0 w' ∧ Below w.heap.size w w' ∧ w'.heap.size = w.heap.size + 1

theorem open_none (a : Option Addr) (cap : Nat) (w : World) :
    Calls Try.prog 39 #[.slice a 0 cap] w fun e w' => e = .returned (.pointer (some ⟨w.heap.size, 0, none⟩)) ∧ w' = w.alloc (.cells #[.slice a 0 cap, .int .i64 0] 85) := by
  go_enter Try.func39, Try.ntmps39
  go_wp2
  go_ret
  exact ⟨rfl, rfl⟩

theorem open_short (x : Addr) (len cap : Nat) (w : World) (hl : len ≤ 2000) :
    Calls Try.prog 39 #[.slice (some x) len cap] w fun e w' => e = .returned (.pointer (some ⟨w.heap.size, 0, none⟩)) ∧ w' = w.alloc (.cells #[.slice (some x) len cap, .int .i64 0] 85) := by
  go_enter Try.func39, Try.ntmps39
  go_wp2
  go_ret
  exact ⟨rfl, rfl⟩

theorem open_long (x : Addr) (len cap : Nat) (w : World) (hl : 2000 < len) (hc : len ≤ cap) (hm : cap ≤ maxLen) :
    Calls Try.prog 39 #[.slice (some x) len cap] w fun e w' => e = .returned (.pointer (some ⟨w.heap.size, 0, none⟩)) ∧ w' = w.alloc (.cells #[.slice (some x) 2000 cap, .int .i64 0] 85) := by
  unfold maxLen at hm
  go_enter Try.func39, Try.ntmps39
  go_wp2
  go_ret
  exact ⟨rfl, rfl⟩

theorem rdr_new (w : World) (a : Option Addr) (len cap : Nat) (hl : len ≤ 2000) (h : len = 0 ∨ ∃ b off, a = some ⟨b, off, none⟩ ∧ b < w.heap.size ∧ ∀ i, i < len → ∃ c : Int, 0 ≤ c ∧ c ≤ 255 ∧ w.cell? ⟨b, off + i, none⟩ = some (.int .u8 c)) :
    Rdr w.heap.size w.heap.size 0 (w.alloc (.cells #[.slice a len cap, .int .i64 0] 85)) := by
  have hb : Below w.heap.size w (w.alloc (.cells #[.slice a len cap, .int .i64 0] 85)) := (Below.refl _ _).alloc (Nat.le_refl _) _
  have e0 : (w.alloc (.cells #[.slice a len cap, .int .i64 0] 85)).cell? ⟨w.heap.size, 0, none⟩ = some (.slice a len cap) := by go_simp
  have e1 : (w.alloc (.cells #[.slice a len cap, .int .i64 0] 85)).cell? ⟨w.heap.size, 1, none⟩ = some (.int .i64 0) := by go_simp
  have e2 : (w.alloc (.cells #[.slice a len cap, .int .i64 0] 85)).frozen? ⟨w.heap.size, 1, none⟩ = false := by go_simp
  refine ⟨Nat.le_refl _, by simp, e1, e2, ?_⟩
  by_cases hz : len = 0
  · subst hz
    exact .inl ⟨a, cap, e0⟩
  · rcases h with h | ⟨b, off, rfl, hbs, hc⟩
    · exact absurd h hz
    · refine .inr ⟨b, off, len, cap, hbs, by omega, hl, e0, fun i hi => ?_⟩
      obtain ⟨c, c0, c1, hci⟩ := hc i hi
      exact ⟨c, c0, c1, (hb.cell (p := ⟨b, off + i, none⟩) hbs).trans hci⟩

theorem row8_at {w : World} {x : Addr} {n : Nat} (hn : 0 < n) (h : ∀ i, i < n → ∃ c : Int, 0 ≤ c ∧ c ≤ 255 ∧ w.cell? (x.add i) = some (.int .u8 c)) :
    ∃ b off, some x = some (⟨b, off, none⟩ : Addr) ∧ b < w.heap.size ∧ ∀ i, i < n → ∃ c : Int, 0 ≤ c ∧ c ≤ 255 ∧ w.cell? ⟨b, off + i, none⟩ = some (.int .u8 c) := by
  obtain ⟨b, off, spot⟩ := x
  obtain ⟨c, c0, c1, hc⟩ := h 0 hn
  have hspot : spot = none := by simpa [Addr.add] using World.cell?_spot hc
  subst hspot
  refine ⟨b, off, rfl, World.block_lt_of_cell? _ _ hc, fun j hj => ?_⟩
  obtain ⟨c, c0, c1, hc⟩ := h j hj
  exact ⟨c, c0, c1, by rw [← Go.WideShapes.add_plain]; exact hc⟩

theorem open_any (a : Option Addr) (len cap : Nat) (w : World) (h : IsRow8 w a len cap) :
    Calls Try.prog 39 #[.slice a len cap] w (Opened w) := by
  by_cases hz : len = 0
  · subst hz
    refine (open_none a cap w).mono fun e w' ⟨he, hw⟩ => ?_
    subst hw
    exact ⟨he, rdr_new w a 0 cap (by omega) (.inl rfl), (Below.refl _ _).alloc (Nat.le_refl _) _, by simp⟩
  · rcases h with ⟨_, h, _⟩ | ⟨x, rfl, hlc, hm, hc⟩
    · exact absurd h hz
    · by_cases hl : len ≤ 2000
      · refine (open_short x len cap w hl).mono fun e w' ⟨he, hw⟩ => ?_
        subst hw
        exact ⟨he, rdr_new w (some x) len cap hl (.inr (row8_at (by omega) fun i hi => hc i (by omega))), (Below.refl _ _).alloc (Nat.le_refl _) _, by simp⟩
      · refine (open_long x len cap w (by omega) hlc hm).mono fun e w' ⟨he, hw⟩ => ?_
        subst hw
        exact ⟨he, rdr_new w (some x) 2000 cap (by omega) (.inr (row8_at (by omega) fun i hi => hc i (by omega))), (Below.refl _ _).alloc (Nat.le_refl _) _, by simp⟩
end Go.Proofs.Ytfeobdgdhgcgoaa
namespace Go.Proofs.Ytfeobdgdhgcgoaa
open Go.RowKit
set_option linter.unusedVariables false

/-- A slice value that holds these int's in a world. -/
def HoldsI (w : World) (v : Value) (l : List Int) : Prop :=
  ∃ (a : Option Addr) (cap : Nat), v = .slice a l.length cap ∧ l.length ≤ cap ∧ cap ≤ maxLen ∧
    (l.length = 0 ∨ ∃ b off, a = some ⟨b, off, none⟩ ∧ b < w.heap.size ∧ ∀ k (hk : k < l.length), w.cell? ⟨b, off + k, none⟩ = some (.int .i64 l[k]))

theorem HoldsI.keep {w w' : World} {v : Value} {l : List Int} (h : HoldsI w v l) (hb : Below w.heap.size w w') : HoldsI w' v l := by
  obtain ⟨a, cap, h1, h2, h3, h4⟩ := h
  refine ⟨a, cap, h1, h2, h3, ?_⟩
  rcases h4 with h4 | ⟨b, off, h5, h6, h7⟩
  · exact .inl h4
  · exact .inr ⟨b, off, h5, Nat.lt_of_lt_of_le h6 hb.size, fun k hk => (hb.cell (p := ⟨b, off + k, none⟩) h6).trans (h7 k hk)⟩

theorem HoldsI.of_came {w : World} {a : Option Addr} {len cap : Nat} {z : List Int} (h : IsRowI w a len cap z) : HoldsI w (.slice a len cap) (z.take len) ∧ (z.take len).length = len := by
  rcases h with ⟨rfl, rfl, rfl, rfl⟩ | ⟨x, rfl, h1, h2, h3, h4, h5⟩
  · exact ⟨⟨none, 0, rfl, Nat.le_refl _, by simp [maxLen], .inl rfl⟩, rfl⟩
  · have hl : (z.take len).length = len := by rw [List.length_take]; omega
    refine ⟨⟨some x, cap, by rw [hl], by omega, h2, ?_⟩, hl⟩
    by_cases hz : len = 0
    · exact .inl (by omega)
    · right
      obtain ⟨b, off, spot⟩ := x
      have hc' := h4 0 (by omega)
      have hspot : spot = none := by simpa [Addr.add] using World.cell?_spot hc'
      subst hspot
      refine ⟨b, off, rfl, World.block_lt_of_cell? _ _ hc', fun k hk => ?_⟩
      rw [← Go.WideShapes.add_plain, h4 k (by omega), List.getElem_take, List.getD_eq_getElem?_getD, List.getElem?_eq_getElem (by omega), Option.getD_some]

theorem infoInt : (Try.prog.info? 3).map (fun i => (i.zero, i.size, i.bytes)) = some (some (.int .i64 0), 1, 8) := by kernel_rfl

set_option maxHeartbeats 1000000 in
theorem toIntS_some (b off len cap : Nat) (l : List Int) (w : World) (hl : l.length = len) (hn : len ≤ 1048576) (hp : 0 < len) (hb : b < w.heap.size)
    (hc : ∀ k (hk : k < l.length), w.cell? ⟨b, off + k, none⟩ = some (.int .i64 l[k])) :
    Calls Try.prog 37 #[.slice (some ⟨b, off, none⟩) len cap] w fun e w' => ∃ v, e = .returned v ∧ HoldsI w' v l ∧ Below w.heap.size w w' := by
  obtain ⟨i0, hi, hz0, hz1, hz2⟩ := info_parts infoInt
  have hb2 : i0.bytes * len ≤ 281474976710656 := by rw [hz2]; omega
  have hb3 : len ≤ maxLen := by unfold maxLen; omega
  go_enter Try.func37, Try.ntmps37
  go_wp2_with (at_make; refine wpList_make_full _ rfl _ _ _ rfl w.heap.size 3 i0 (.int .i64 0) 1 Try.underlying25 hi hz0 hz1 .i64 .i64 _ _ len rfl rfl rfl rfl hb2 hb3 (Nat.le_refl _) ?_; intro w1 hown hgrow)
  obtain ⟨hx1, hx2⟩ := hown
  have hbel : Below w.heap.size w w1 := (Below.refl _ _).grown hgrow (Nat.le_refl _) (fun k hk => by cases hk)
  obtain ⟨cur0, hcur0, hsz0⟩ : ∃ cur : Array Value, w1.heap[w.heap.size]? = some (.cells cur 3 (0, 0)) ∧ cur.size = len := by
    rcases hx2 with ⟨h1, _⟩ | ⟨g, cap', cur, h1, _, h3, _, _, h6, _⟩
    · cases h1
    · simp only [Value.slice.injEq, Option.some.injEq, Addr.mk.injEq] at h1
      obtain ⟨⟨rfl, -, -⟩, -, rfl⟩ := h1
      exact ⟨cur, h3, by omega⟩
  clear hx1 hx2 hgrow
  generalize hG : w.heap.size = G at *
  go_loopw [4] (fun i wr => ∃ (k : Nat) (cur : Array Value), k ≤ len ∧ i = .int .i64 k ∧ Hid (wr.heap[G]? = some (.cells cur 3 (0, 0)) ∧ cur.size = len ∧ ∀ j (hj : j < l.length), j < k → cur[j]? = some (.int .i64 l[j])) ∧ Below G w wr) (fun i _ => len - (intOf i).toNat)
  case atStart => exact ⟨0, cur0, by omega, rfl, Lib.hid ⟨hcur0, hsz0, fun j _ hj => by omega⟩, hbel⟩
  case round =>
    obtain ⟨k, cur, hk, rfl, HC, hbr⟩ := hrel
    by_cases hlt : k < len
    · have hkl : k < l.length := by omega
      have s0 : wr.cell? ⟨b, off + k, none⟩ = some (.int .i64 l[k]) := (hbr.cell (p := ⟨b, off + k, none⟩) hb).trans (hc k hkl)
      obtain ⟨hc1, hc2, hc3⟩ := HC.out
      have t0 : wr.cell? ⟨G, k, none⟩ = some (cur[k]'(by omega)) := by
        simp only [World.cell?, hc1]
        exact Array.getElem?_eq_getElem _
      have f0 : wr.frozen? ⟨G, k, none⟩ = false := by simp [World.frozen?, hc1]
      obtain ⟨x0, t0'⟩ : ∃ x, wr.cell? ⟨G, k, none⟩ = some x := ⟨_, t0⟩
      have HC3 := Lib.hid (And.intro hc1 (And.intro hc2 hc3))
      clear t0 hc1 hc2 hc3 HC
      go_wp2_with fail
      go_roundw
      case rel =>
        obtain ⟨d1, d2, d3⟩ := HC3.out
        refine ⟨k + 1, _, by omega, by go_num, Lib.hid ⟨Joins.block_setCell d1 _, by simpa using d2, fun j hj hjk => ?_⟩, hbr.setCell (Nat.le_refl _) _⟩
        rw [Array.getElem?_setIfInBounds]
        by_cases hjk' : j = k
        · subst hjk'
          rw [if_pos rfl, if_pos (by omega)]
        · rw [if_neg (by omega)]
          exact d3 j hj (by omega)
      case measure => simp [intOf]; omega
    · obtain ⟨d1, d2, d3⟩ := HC.out
      clear HC
      go_wp2_with fail
      go_ret
      have hGr : G < wr.heap.size := by
        rcases Nat.lt_or_ge G wr.heap.size with h | h
        · exact h
        · rw [Array.getElem?_eq_none h] at d1; cases d1
      refine ⟨_, rfl, ⟨some ⟨G, 0, none⟩, len, by rw [hl]; rfl, by omega, hb3, .inr ⟨G, 0, rfl, hGr, fun j hj => ?_⟩⟩, by rw [hG]; exact hbr⟩
      have e : wr.cell? ⟨G, 0 + j, none⟩ = cur[j]? := by rw [Nat.zero_add]; simp [World.cell?, d1]
      rw [e]
      exact d3 j hj (by omega)

theorem toIntS_zero (a : Option Addr) (cap : Nat) (w : World) :
    Calls Try.prog 37 #[.slice a 0 cap] w fun e w' => ∃ v, e = .returned v ∧ HoldsI w' v [] ∧ Below w.heap.size w w' := by
  obtain ⟨i0, hi, hz0, hz1, hz2⟩ := info_parts infoInt
  have hb2 : i0.bytes * 0 ≤ 281474976710656 := by omega
  have hb3 : 0 ≤ maxLen := by omega
  go_enter Try.func37, Try.ntmps37
  go_wp2_with (at_make; refine wpList_make_full _ rfl _ _ _ rfl w.heap.size 3 i0 (.int .i64 0) 1 Try.underlying25 hi hz0 hz1 .i64 .i64 _ _ 0 rfl rfl rfl rfl hb2 hb3 (Nat.le_refl _) ?_; intro w1 hown hgrow)
  have hbel : Below w.heap.size w w1 := (Below.refl _ _).grown hgrow (Nat.le_refl _) (fun k hk => by cases hk)
  clear hown hgrow
  go_loop [4] (fun i => i = .int .i64 0) (fun _ => 0)
  case atStart => rfl
  case round =>
    obtain rfl := hrel
    go_wp2_with fail
    go_ret
    exact ⟨_, rfl, ⟨some ⟨w.heap.size, 0, none⟩, 0, rfl, Nat.le_refl _, hb3, .inl rfl⟩, hbel⟩

/-- The exact laws' copy of a slice of int's: new memory that holds the same. -/
theorem toIntS_any (v : Value) (l : List Int) (w : World) (h : HoldsI w v l) (hn : l.length ≤ 1048576) :
    Calls Try.prog 37 #[v] w fun e w' => ∃ u, e = .returned u ∧ HoldsI w' u l ∧ Below w.heap.size w w' := by
  obtain ⟨a, cap, rfl, h2, h3, h4⟩ := h
  by_cases hz : l.length = 0
  · obtain rfl := List.eq_nil_of_length_eq_zero hz
    exact toIntS_zero a cap w
  · rcases h4 with h4 | ⟨b, off, rfl, h6, h7⟩
    · exact absurd h4 hz
    · exact toIntS_some b off l.length cap l w rfl hn (by omega) h6 h7

set_option maxHeartbeats 1000000 in
theorem eqIntS_same (u v : Value) (l : List Int) (w : World) (hu : HoldsI w u l) (hv : HoldsI w v l) :
    Calls Try.prog 31 #[u, v] w fun e w' => e = .returned (.bool true) ∧ Below w.heap.size w w' := by
  obtain ⟨a, cap, rfl, h2, h3, h4⟩ := hu
  obtain ⟨a', cap', rfl, h2', h3', h4'⟩ := hv
  have hm : l.length ≤ 9223372036854775807 := by unfold maxLen at h3; omega
  obtain ⟨n, hn⟩ : ∃ n, n = l.length := ⟨_, rfl⟩
  have HN := Lib.hid hn.symm
  rw [← hn]
  have hm' : n ≤ 9223372036854775807 := by omega
  have H4 := Lib.hid h4
  have H4' := Lib.hid h4'
  have hne : ((n : Int) != (n : Int)) = false := by simp
  clear hn h2 h3 h4 h2' h3' h4' hm
  go_enter Try.func31, Try.ntmps31
  go_wp2_with fail
  go_loopw [5] (fun i wr => ∃ k : Nat, k ≤ n ∧ i = .int .i64 k ∧ Below w.heap.size w wr) (fun i _ => n - (intOf i).toNat)
  case atStart => exact ⟨0, by omega, rfl, Below.refl _ _⟩
  case round =>
    obtain ⟨k, hk, rfl, hbr⟩ := hrel
    by_cases hlt : k < n
    · have hkl : k < l.length := by rw [HN.out]; exact hlt
      rcases H4.out with h4 | ⟨b, off, rfl, h6, h7⟩
      · have := HN.out; omega
      · rcases H4'.out with h4 | ⟨b', off', rfl, h6', h7'⟩
        · have := HN.out; omega
        · have s0 : wr.cell? ⟨b, off + k, none⟩ = some (.int .i64 l[k]) := (hbr.cell (p := ⟨b, off + k, none⟩) h6).trans (h7 k hkl)
          have t0 : wr.cell? ⟨b', off' + k, none⟩ = some (.int .i64 l[k]) := (hbr.cell (p := ⟨b', off' + k, none⟩) h6').trans (h7' k hkl)
          have H7 := Lib.hid h7
          have H7' := Lib.hid h7'
          have e0 : (l[k] != l[k]) = false := by simp
          have i0 : (0 : Int) ≤ (k : Int) := by omega
          have i1 : (k : Int) < (n : Int) := by omega
          clear h7 h7'
          go_wp2_with fail
          go_quiet (fail)
          go_wp2_with fail
          go_roundw
          case rel => exact ⟨k + 1, by omega, by go_num, ⟨hbr.os, hbr.tape, hbr.output, hbr.size, hbr.block⟩⟩
          case measure => simp [intOf]; omega
    · go_wp2_with fail
      go_ret
      exact ⟨rfl, hbr⟩
end Go.Proofs.Ytfeobdgdhgcgoaa
namespace Go.Proofs.Ytfeobdgdhgcgoaa
open Go.RowKit
set_option linter.unusedVariables false

/-- What a draw leaves: of the old blocks none but block B has turned; there may be new ones. -/
structure MostB (B : Nat) (w w' : World) : Prop where
  os : w'.os = w.os
  tape : w'.tape = w.tape
  output : w'.output = w.output
  size : w.heap.size ≤ w'.heap.size
  block : ∀ k, k ≠ B → k < w.heap.size → w'.heap[k]? = w.heap[k]?

theorem Rdr.set_other {base B p : Nat} {w : World} (h : Rdr base B p w) {N : Nat} (hN : N ≠ B) (hb : base ≤ N) (j : Nat) (v : Value) : Rdr base B p (w.setCell ⟨N, j, none⟩ v) := by
  obtain ⟨h0, h1, h2, h3, h4⟩ := h
  have e : ∀ b o, b ≠ N → (w.setCell ⟨N, j, none⟩ v).cell? ⟨b, o, none⟩ = w.cell? ⟨b, o, none⟩ := fun b o hb => World.cell?_setCell_other _ _ _ _ (by intro e; cases e; exact hb rfl)
  refine ⟨h0, by simpa [World.setCell] using h1, by rw [e B 1 (Ne.symm hN)]; exact h2, by simpa using h3, ?_⟩
  rcases h4 with ⟨a, cap, h⟩ | ⟨b, off, len, cap, hb', hl, hl', hs, hc⟩
  · exact .inl ⟨a, cap, by rw [e B 0 (Ne.symm hN)]; exact h⟩
  · refine .inr ⟨b, off, len, cap, hb', hl, hl', by rw [e B 0 (Ne.symm hN)]; exact hs, fun i hi => ?_⟩
    obtain ⟨c, c0, c1, hci⟩ := hc i hi
    exact ⟨c, c0, c1, by rw [e b (off + i) (by omega)]; exact hci⟩
theorem MostB.refl (B : Nat) (w : World) : MostB B w w := ⟨rfl, rfl, rfl, Nat.le_refl _, fun _ _ _ => rfl⟩
theorem MostB.trans {B : Nat} {a b c : World} (h : MostB B a b) (k : MostB B b c) : MostB B a c :=
  ⟨k.os.trans h.os, k.tape.trans h.tape, k.output.trans h.output, Nat.le_trans h.size k.size, fun i hi hl => (k.block i hi (Nat.lt_of_lt_of_le hl h.size)).trans (h.block i hi hl)⟩
theorem Only.mostB {B : Nat} {w w' : World} (h : Only B w w') : MostB B w w' := ⟨h.os, h.tape, h.output, Nat.le_of_eq h.size.symm, fun k hk _ => h.block k hk⟩
theorem MostB.below_ {B : Nat} {a w w' : World} (h : MostB B a w) (hb : Below a.heap.size w w') : MostB B a w' :=
  ⟨hb.os.trans h.os, hb.tape.trans h.tape, hb.output.trans h.output, Nat.le_trans h.size hb.size, fun i hi hl => (hb.block i hl).trans (h.block i hi hl)⟩
theorem MostB.alloc {B : Nat} {a w : World} (h : MostB B a w) (o : Obj) : MostB B a (w.alloc o) := h.below_ ((Below.refl _ _).alloc h.size o)
theorem MostB.under {B base : Nat} {w w' : World} (h : MostB B w w') (hb : base ≤ B) (hs : base ≤ w.heap.size) : Below base w w' :=
  ⟨h.os, h.tape, h.output, h.size, fun k hk => h.block k (by omega) (by omega)⟩
/-- A reader stands in every world that kept all blocks below one above it. -/
theorem Rdr.keepK {base B p K : Nat} {w w' : World} (h : Rdr base B p w) (hb : Below K w w') (hK : B < K) : Rdr base B p w' := by
  obtain ⟨h0, h1, h2, h3, h4⟩ := h
  have hB : ∀ o, w'.cell? ⟨B, o, none⟩ = w.cell? ⟨B, o, none⟩ := fun o => hb.cell (p := ⟨B, o, none⟩) hK
  refine ⟨h0, Nat.lt_of_lt_of_le h1 hb.size, by rw [hB]; exact h2, (hb.frozen (p := ⟨B, 1, none⟩) hK).trans h3, ?_⟩
  rcases h4 with ⟨a, cap, h⟩ | ⟨b, off, len, cap, hb', hl, hl', hs, hc⟩
  · exact .inl ⟨a, cap, by rw [hB]; exact h⟩
  · refine .inr ⟨b, off, len, cap, hb', hl, hl', by rw [hB]; exact hs, fun i hi => ?_⟩
    obtain ⟨c, c0, c1, hci⟩ := hc i hi
    exact ⟨c, c0, c1, (hb.cell (p := ⟨b, off + i, none⟩) (by show b < K; omega)).trans hci⟩
theorem own_lt {w : World} {base n size : Nat} {e : TypeId} {v : Value} {xs : List Value} (h : w.ownsRow base e size v n xs) (k : Nat) (hk : v.ownBlock = some k) : base ≤ k ∧ k < w.heap.size := by
  rcases h.2 with ⟨rfl, _⟩ | ⟨g, cap, cur, rfl, hb, hg, _⟩
  · simp [Value.ownBlock] at hk
  · have e : g = k := by simpa [Value.ownBlock] using hk
    subst e
    refine ⟨hb, ?_⟩
    rcases Nat.lt_or_ge g w.heap.size with h' | h'
    · exact h'
    · rw [Array.getElem?_eq_none h'] at hg; cases hg
/-- An owned row stays where its block stays. -/
theorem own_keep {w w' : World} {base n size : Nat} {e : TypeId} {v : Value} {xs : List Value} (h : w.ownsRow base e size v n xs) (hk : ∀ k, base ≤ k → k < w.heap.size → w'.heap[k]? = w.heap[k]?) : w'.ownsRow base e size v n xs := by
  refine ⟨h.1, ?_⟩
  rcases h.2 with h2 | ⟨g, cap, cur, rfl, hb, hg, h3⟩
  · exact .inl h2
  · have := (own_lt h g (by simp [Value.ownBlock])).2
    exact .inr ⟨g, cap, cur, rfl, hb, by rw [hk g hb this]; exact hg, h3⟩
theorem own_most {w w' : World} {base n size B : Nat} {e : TypeId} {v : Value} {xs : List Value} (h : w.ownsRow base e size v n xs) (hm : MostB B w w') (hB : B < base) : w'.ownsRow base e size v n xs :=
  own_keep h fun k hk hl => hm.block k (by omega) hl
/-- Behind an append to a row of the call's own nothing elder has turned. -/
theorem own_below {w w1 : World} {K : Nat} {v : Value} (hg : w.grownBy w1 v.ownBlock) (hK : K ≤ w.heap.size) (hv : ∀ k, v.ownBlock = some k → K ≤ k) : Below K w w1 := (Below.refl K w).grown hg hK hv

theorem cells_new {w : World} {cs : List Value} {T : TypeId} (j : Nat) (u : Value) (hu : cs[j]? = some u) : (w.alloc (.cells cs.toArray T)).cell? ((⟨w.heap.size, 0, none⟩ : Addr).add j) = some u := by
  have e : (⟨w.heap.size, 0, none⟩ : Addr).add j = ⟨w.heap.size, j, none⟩ := by
    unfold Addr.add
    split
    · next h => subst h; rfl
    · simp
  rw [e, World.cell?_alloc_new]
  simpa using hu
theorem own_form {w : World} {base n size : Nat} {e : TypeId} {v : Value} {xs : List Value} (h : w.ownsRow base e size v n xs) (hn : 0 < n) : ∃ g cap, v = .slice (some ⟨g, 0, none⟩) n cap ∧ n ≤ cap ∧ cap ≤ maxLen := by
  rcases h.2 with ⟨_, h0⟩ | ⟨g, cap, cur, hv, _, _, hc, hm, _⟩
  · omega
  · exact ⟨g, cap, hv, hc, hm⟩

theorem own_empty {w : World} {base g size : Nat} {e : TypeId} (hb : base ≤ g) (hg : w.heap[g]? = some (.cells #[] e (0, 0))) : w.ownsRow base e size (.slice (some ⟨g, 0, none⟩) 0 0) 0 [] :=
  ⟨by simp, .inr ⟨g, 0, #[], rfl, hb, hg, Nat.le_refl _, Nat.zero_le _, by simp, by simp⟩⟩
section
variable {P : Program} {w : World}
/-- The append's law, the operation's guard said by whatever is known of it. -/
theorem step_append_w {ops : Array Oper} {o : Oper} {a : Act} {K : Act → World → Prop} {Q : Exit → Act → World → Prop} {E : Prop} (hw : Region.wanted o (yielded ops a.tmps) = true) (s x : Operand) (t : TypeId)
    (ho : o.op = .call { callee := .builtin .append, args := #[s, x], argTypes := #[t, t] })
    (base : Nat) (e : TypeId) (i : TypeInfo) (z : Value) (size bytes : Nat) (ht : P.underlying t = some (.slice e)) (hi : P.info? e = some i) (hz : i.zero = some z)
    (hsize : i.size = size) (hby : i.bytes = bytes) (hzs : z.cells.size = size) (hsz : 0 < size)
    (v : Value) (n : Nat) (xs : List Value) (hs : a.eval s = v) (hown : w.ownsRow base e size v n xs)
    (ad : Addr) (m c : Nat) (news : List Value) (hx : a.eval x = .slice (some ad) m c) (hl : news.length = m * size) (hnews : ∀ j u, news[j]? = some u → w.cell? (ad.add j) = some u) (h1 : ∀ u ∈ news, u.oneCell' = true)
    (hm : 0 < m) (h63 : n + m ≤ maxLen) (hbytes : (n + m) * bytes ≤ 140737488355328) (hbase : base ≤ w.heap.size)
    (h : ∀ g cap w', w'.ownsRow base e size (.slice (some ⟨g, 0, none⟩) (n + m) cap) (n + m) (xs ++ news) → Below base w w' → g < w'.heap.size → (∀ k, base ≤ k → k < w.heap.size → v.ownBlock ≠ some k → w'.heap[k]? = w.heap[k]?) → K (a.put o.dst (.slice (some ⟨g, 0, none⟩) (n + m) cap)) w') :
    if Region.wanted o (yielded ops a.tmps) = true then Oper.wp P o a w K Q else E := by
  rw [if_pos hw]
  exact wp_append_lies w s x t ho base e i z size bytes ht hi hz hsize hby hzs hsz v n xs hs hown ad m c news hx hl hnews h1 hm h63 hbytes hbase w.heap.size rfl
    (fun g cap w' q1 q2 q3 q4 => h g cap w' q1 ((Below.refl _ _).grown q2 hbase (fun k hk => (own_lt hown k hk).1)) q4 (fun k hk hl hne => q2.block k hl (fun e => hne e.symm)))
end

theorem own_zero {w : World} {base g size : Nat} {e : TypeId} (hb : base ≤ g) (hg : w.heap[g]? = some (.cells #[] e (0, 0))) : w.ownsRow base e size (.slice (some ⟨g, 0, none⟩) 0 0) 0 [] :=
  ⟨by simp, .inr ⟨g, 0, #[], rfl, hb, hg, Nat.le_refl _, Nat.zero_le _, by simp, by simp⟩⟩
/-- What holds of a region's worlds beside the cells that it loads: nothing elder than the region has turned. -/
def Since (w0 w : World) : Prop := Below w0.heap.size w0 w
theorem Since.drew {w0 w : World} (h : Since w0 w) : Since w0 w.drew := Below.drew h
theorem Since.alloc {w0 w : World} (h : Since w0 w) (o : Obj) : Since w0 (w.alloc o) := Below.alloc h h.size o
theorem Since.call {w0 w w1 : World} (h : Since w0 w) (hb : Below w.heap.size w w1) : Since w0 w1 := Below.trans h (hb.mono h.size)
theorem Since.on {w0 w w1 : World} (h : Since w0 w) (hb : Below w0.heap.size w w1) : Since w0 w1 := Below.trans h hb
theorem cells_kept {w w0 : World} {NB : Nat} {cs : List Value} {T : TypeId} {fr : Nat × Nat} (h0 : w0.heap[NB]? = some (.cells cs.toArray T fr)) (hk : w.heap[NB]? = w0.heap[NB]?) (j : Nat) (u : Value) (hu : cs[j]? = some u) : w.cell? ((⟨NB, 0, none⟩ : Addr).add j) = some u := by
  have e : (⟨NB, 0, none⟩ : Addr).add j = ⟨NB, j, none⟩ := by
    unfold Addr.add
    split
    · next h => subst h; rfl
    · simp
  rw [e]
  simp only [World.cell?, hk, h0]
  simpa using hu
theorem two_lo (w : World) (a b : Obj) : ((w.alloc a).alloc b).heap[w.heap.size]? = some a := (Below.heap_alloc _ _ _ (by simp)).trans (heap_alloc_new w a)
theorem two_hi (w : World) (a b : Obj) : ((w.alloc a).alloc b).heap[w.heap.size + 1]? = some b := by
  have e := heap_alloc_new (w.alloc a) b
  rw [show (w.alloc a).heap.size = w.heap.size + 1 by simp] at e
  exact e
theorem kept_hi {w4 w5 : World} {base : Nat} {cs : List Value} {T : TypeId} (hb : base ≤ w4.heap.size) (hk : ∀ k, base ≤ k → k < ((w4.alloc (.cells #[] T)).alloc (.cells cs.toArray T)).heap.size → (Value.slice (some ⟨w4.heap.size, 0, none⟩) 0 0).ownBlock ≠ some k → w5.heap[k]? = ((w4.alloc (.cells #[] T)).alloc (.cells cs.toArray T)).heap[k]?) (j : Nat) (u : Value) (hu : cs[j]? = some u) :
    w5.cell? ((⟨w4.heap.size + 1, 0, none⟩ : Addr).add j) = some u :=
  cells_kept (two_hi w4 (.cells #[] T) (.cells cs.toArray T)) (hk _ (by omega) (by simp) (by simp [Value.ownBlock])) j u hu
theorem kept_lo {w4 w5 : World} {base : Nat} {cs : List Value} {T : TypeId} (hb : base ≤ w4.heap.size) (hk : ∀ k, base ≤ k → k < ((w4.alloc (.cells cs.toArray T)).alloc (.cells #[] T)).heap.size → (Value.slice (some ⟨w4.heap.size + 1, 0, none⟩) 0 0).ownBlock ≠ some k → w5.heap[k]? = ((w4.alloc (.cells cs.toArray T)).alloc (.cells #[] T)).heap[k]?) (j : Nat) (u : Value) (hu : cs[j]? = some u) :
    w5.cell? ((⟨w4.heap.size, 0, none⟩ : Addr).add j) = some u :=
  cells_kept (two_lo w4 (.cells cs.toArray T) (.cells #[] T)) (hk _ hb (by simp; omega) (by simp [Value.ownBlock])) j u hu
theorem Since.size0 {w0 w : World} (h : Since w0 w) : w0.heap.size ≤ w.heap.size := h.size
section
variable {P : Program} {w : World}
/-- The append's law in a drawn region, whatever number is appended; the operation's guard said by whatever is known of it. -/
theorem step_append_o {ops : Array Oper} {o : Oper} {a : Act} {K : Act → World → Prop} {Q : Exit → Act → World → Prop} {E : Prop} (hw : Region.wanted o (yielded ops a.tmps) = true) (s x : Operand) (t : TypeId)
    (ho : o.op = .call { callee := .builtin .append, args := #[s, x], argTypes := #[t, t] })
    (base : Nat) (e : TypeId) (i : TypeInfo) (z : Value) (size bytes : Nat) (ht : P.underlying t = some (.slice e)) (hi : P.info? e = some i) (hz : i.zero = some z)
    (hsize : i.size = size) (hby : i.bytes = bytes) (hzs : z.cells.size = size) (hsz : 0 < size)
    (v : Value) (n : Nat) (xs : List Value) (hs : a.eval s = v) (hown : w.ownsRow base e size v n xs)
    (ad : Addr) (m c : Nat) (news : List Value) (hx : a.eval x = .slice (some ad) m c) (hl : news.length = m * size) (hnews : ∀ j u, news[j]? = some u → w.cell? (ad.add j) = some u) (h1 : ∀ u ∈ news, u.oneCell' = true)
    (h63 : n + m ≤ maxLen) (hbytes : (n + m) * bytes ≤ 140737488355328) (hbase : base ≤ w.heap.size)
    (h : ∀ v' w', w'.ownsRow base e size v' (n + m) (xs ++ news) → Below base w w' → (v' = .slice none 0 0 ↔ v = .slice none 0 0 ∧ m = 0) → K (a.put o.dst v') w') :
    if Region.wanted o (yielded ops a.tmps) = true then Oper.wp P o a w K Q else E := by
  rw [if_pos hw]
  exact wp_append_own w s x t ho base e i z size bytes ht hi hz hsize hby hzs hsz v n xs hs hown ad m c news hx hl hnews h1 h63 hbytes hbase
    (fun v' w' q1 q2 q3 => h v' w' q1 ((Below.refl _ _).grown q2 hbase (fun k hk => (own_lt hown k hk).1)) q3)
end
end Go.Proofs.Ytfeobdgdhgcgoaa
namespace Go.Proofs.Ytfeobdgdhgcgoaa
open Go.RowKit
set_option linter.unusedVariables false

/-- The cells of a list of numbers. -/
def rowI (l : List Int) : List Value := l.map (.int .i64)
theorem rowI_app (l l' : List Int) : rowI (l ++ l') = rowI l ++ rowI l' := by simp [rowI]
theorem rowI_len (l : List Int) : (rowI l).length = l.length := by simp [rowI]
theorem own_ints {w : World} {base : Nat} {e : TypeId} {v : Value} {l m : List Int} {n : Nat} {xs : List Value} (h : w.ownsRow base e 1 v (l.length + n) (rowI l ++ xs)) (hm : m.length = n) (hx : xs = rowI m) : w.ownsRow base e 1 v (l ++ m).length (rowI (l ++ m)) := by
  subst hm hx
  rw [rowI_app, List.length_append]; exact h
/-- A slice of numbers that lies from block K on. -/
def NewI (K : Nat) (w : World) (v : Value) (l : List Int) : Prop :=
  ∃ (a : Option Addr) (cap : Nat), v = .slice a l.length cap ∧ l.length ≤ cap ∧ cap ≤ maxLen ∧
    (l.length = 0 ∨ ∃ b off, a = some ⟨b, off, none⟩ ∧ K ≤ b ∧ b < w.heap.size ∧ ∀ k (hk : k < l.length), w.cell? ⟨b, off + k, none⟩ = some (.int .i64 l[k]))
theorem NewI.holds {K : Nat} {w : World} {v : Value} {l : List Int} (h : NewI K w v l) : HoldsI w v l := by
  obtain ⟨a, cap, h1, h2, h3, h4⟩ := h
  exact ⟨a, cap, h1, h2, h3, h4.imp id fun ⟨b, off, h5, _, h6, h7⟩ => ⟨b, off, h5, h6, h7⟩⟩
theorem NewI.most {K B : Nat} {w w' : World} {v : Value} {l : List Int} (h : NewI K w v l) (hm : MostB B w w') (hB : B < K) : NewI K w' v l := by
  obtain ⟨a, cap, h1, h2, h3, h4⟩ := h
  refine ⟨a, cap, h1, h2, h3, ?_⟩
  rcases h4 with h4 | ⟨b, off, h5, h6, h7, h8⟩
  · exact .inl h4
  · exact .inr ⟨b, off, h5, h6, Nat.lt_of_lt_of_le h7 hm.size, fun k hk => (World.cell?_of_block (w := w) (hm.block b (by omega) h7)).trans (h8 k hk)⟩
theorem NewI.from_ {K K' : Nat} {w : World} {v : Value} {l : List Int} (h : NewI K w v l) (hk : K' ≤ K) : NewI K' w v l := by
  obtain ⟨a, cap, h1, h2, h3, h4⟩ := h
  exact ⟨a, cap, h1, h2, h3, h4.imp id fun ⟨b, off, h5, h6, h7⟩ => ⟨b, off, h5, by omega, h7⟩⟩
theorem NewI.of_own {w : World} {base : Nat} {e : TypeId} {v : Value} {l : List Int} (h : w.ownsRow base e 1 v l.length (rowI l)) : NewI base w v l := by
  rcases h.2 with ⟨rfl, h0⟩ | ⟨g, cap, cur, rfl, hb, hg, hc, hm, hs, hx⟩
  · exact ⟨none, 0, by rw [h0], by omega, by simp [maxLen], .inl h0⟩
  · have hlt := (own_lt h g (by simp [Value.ownBlock])).2
    refine ⟨some ⟨g, 0, none⟩, cap, rfl, hc, hm, .inr ⟨g, 0, rfl, hb, hlt, fun k hk => ?_⟩⟩
    have e1 : (rowI l)[k]? = some (.int .i64 l[k]) := by simp [rowI, List.getElem?_map, List.getElem?_eq_getElem hk]
    rw [← hx, List.getElem?_take, if_pos (by omega)] at e1
    simp only [World.cell?, hg]
    simpa using e1
theorem HoldsI.row {w : World} {b off cap : Nat} {l : List Int} (h : HoldsI w (.slice (some ⟨b, off, none⟩) l.length cap) l) (j : Nat) (u : Value) (hu : (rowI l)[j]? = some u) : w.cell? ((⟨b, off, none⟩ : Addr).add j) = some u := by
  have hj : j < l.length := by
    rcases Nat.lt_or_ge j l.length with h' | h'
    · exact h'
    · rw [List.getElem?_eq_none (by rw [rowI_len]; exact h')] at hu; cases hu
  obtain ⟨a, cap', he, _, _, h4⟩ := h
  simp only [Value.slice.injEq, true_and] at he
  obtain ⟨rfl, rfl⟩ := he
  rcases h4 with h4 | ⟨b', off', h5, h6, h7⟩
  · omega
  · simp only [Option.some.injEq, Addr.mk.injEq, and_true] at h5
    obtain ⟨rfl, rfl⟩ := h5
    have e : (⟨b, off, none⟩ : Addr).add j = ⟨b, off + j, none⟩ := by
      unfold Addr.add
      split
      · next h => subst h; rfl
      · rfl
    rw [e, h7 j hj, ← hu]
    simp [rowI, hj]
theorem rowI_one (l : List Int) : ∀ u ∈ rowI l, u.oneCell' = true := by
  intro u hu
  obtain ⟨x, _, rfl⟩ := List.mem_map.1 hu
  rfl
theorem NewI.empty {K : Nat} {w : World} {a : Option Addr} {cap : Nat} (h : cap ≤ maxLen) : NewI K w (.slice a 0 cap) [] := ⟨a, cap, rfl, Nat.zero_le _, h, .inl rfl⟩
theorem NewI.keep {K : Nat} {w w' : World} {v : Value} {l : List Int} (h : NewI K w v l) (hb : Below w.heap.size w w') : NewI K w' v l := by
  obtain ⟨a, cap, h1, h2, h3, h4⟩ := h
  refine ⟨a, cap, h1, h2, h3, ?_⟩
  rcases h4 with h4 | ⟨b, off, h5, h6, h7, h8⟩
  · exact .inl h4
  · exact .inr ⟨b, off, h5, h6, Nat.lt_of_lt_of_le h7 hb.size, fun k hk => (hb.cell (p := ⟨b, off + k, none⟩) h7).trans (h8 k hk)⟩
theorem HoldsI.rowA {w : World} {x : Addr} {cap : Nat} {l : List Int} (h : HoldsI w (.slice (some x) l.length cap) l) (j : Nat) (u : Value) (hu : (rowI l)[j]? = some u) : w.cell? (x.add j) = some u := by
  have hj : j < l.length := by
    rcases Nat.lt_or_ge j l.length with h' | h'
    · exact h'
    · rw [List.getElem?_eq_none (by rw [rowI_len]; exact h')] at hu; cases hu
  have h0 := h
  obtain ⟨a, cap', he, _, _, h4⟩ := h
  simp only [Value.slice.injEq, true_and] at he
  obtain ⟨rfl, rfl⟩ := he
  rcases h4 with h4 | ⟨b', off', h5, _⟩
  · omega
  · obtain rfl := Option.some.inj h5
    exact HoldsI.row h0 j u hu
theorem own_put {w : World} {base : Nat} {e : TypeId} {v : Value} {l : List Int} {id : Int} (h : w.ownsRow base e 1 v (l.length + 1) (rowI l ++ [.int .i64 id])) : w.ownsRow base e 1 v (l ++ [id]).length (rowI (l ++ [id])) := own_ints (m := [id]) h rfl rfl
end Go.Proofs.Ytfeobdgdhgcgoaa
namespace Go.Proofs.Ytfeobdgdhgcgoaa
open Go.RowKit
set_option linter.unusedVariables false

theorem HoldsI.take {w : World} {a : Option Addr} {cap : Nat} {l : List Int} (k : Nat) (hk : k ≤ l.length) (h : HoldsI w (.slice a l.length cap) l) : HoldsI w (.slice a k cap) (l.take k) := by
  obtain ⟨a', cap', he, h2, h3, h4⟩ := h
  simp only [Value.slice.injEq, true_and] at he
  obtain ⟨rfl, rfl⟩ := he
  have hl : (l.take k).length = k := by rw [List.length_take]; omega
  refine ⟨a, cap, by rw [hl], by omega, h3, ?_⟩
  rcases h4 with h4 | ⟨b, off, h5, h6, h7⟩
  · exact .inl (by omega)
  · refine .inr ⟨b, off, h5, h6, fun j hj => ?_⟩
    rw [h7 j (by omega), List.getElem_take]
theorem HoldsI.drop {w : World} {b off cap : Nat} {l : List Int} (k : Nat) (hk : k < l.length) (h : HoldsI w (.slice (some ⟨b, off, none⟩) l.length cap) l) : HoldsI w (.slice (some ⟨b, off + k, none⟩) (l.length - k) (cap - k)) (l.drop k) := by
  obtain ⟨a', cap', he, h2, h3, h4⟩ := h
  simp only [Value.slice.injEq, true_and] at he
  obtain ⟨rfl, rfl⟩ := he
  refine ⟨_, cap - k, by rw [List.length_drop], by rw [List.length_drop]; omega, by omega, ?_⟩
  rcases h4 with h4 | ⟨b', off', h5, h6, h7⟩
  · exact .inl (by rw [List.length_drop]; omega)
  · simp only [Option.some.injEq, Addr.mk.injEq, and_true] at h5
    obtain ⟨rfl, rfl⟩ := h5
    refine .inr ⟨b, off + k, rfl, h6, fun j hj => ?_⟩
    have hj' : k + j < l.length := by rw [List.length_drop] at hj; omega
    rw [Nat.add_assoc, h7 (k + j) hj', List.getElem_drop]
end Go.Proofs.Ytfeobdgdhgcgoaa
namespace Go.Proofs.Ytfeobdgdhgcgoaa
set_option linter.unusedVariables false

/-- Whether a list has a number. -/
def hasI (l : List Int) (n : Int) : Bool := decide (n ∈ l)
theorem hasI_yes {l : List Int} {n : Int} {k : Nat} (hk : k < l.length) (h : l[k] = n) : hasI l n = true := decide_eq_true (h ▸ List.getElem_mem hk)
theorem hasI_no {l : List Int} {n : Int} (h : ∀ k (hk : k < l.length), l[k] ≠ n) : hasI l n = false := decide_eq_false fun hm => by
  obtain ⟨k, hk, he⟩ := List.getElem_of_mem hm
  exact h k hk he
/-- Whether the id at a place is an id, and the first of its kind. -/
def stAt (l : List Int) (k : Nat) : Bool := decide (1 ≤ l.getD k 0 ∧ l.getD k 0 ≤ 999) && !hasI (l.take k) (l.getD k 0)
/-- Whether a stack is valid. -/
def stOk (l : List Int) (high : Int) : Bool := (List.range l.length).all (stAt l) && decide (1 ≤ high ∧ high ≤ 5 ∧ (l.length : Int) ≤ high)
theorem getD_i {l : List Int} {k : Nat} (h : k < l.length) : l.getD k 0 = l[k] := by
  rw [List.getD_eq_getElem?_getD, List.getElem?_eq_getElem h, Option.getD_some]
theorem stOk_at {l : List Int} {high : Int} {k : Nat} (h : k < l.length) (hf : stAt l k = false) : stOk l high = false := by
  unfold stOk
  rw [show (List.range l.length).all (stAt l) = false from ?_]
  · rfl
  · rw [List.all_eq_false]
    exact ⟨k, List.mem_range.2 h, by rw [hf]; decide⟩
theorem stOk_end {l : List Int} {high : Int} (h : ∀ k, k < l.length → stAt l k = true) : stOk l high = decide (1 ≤ high ∧ high ≤ 5 ∧ (l.length : Int) ≤ high) := by
  unfold stOk
  rw [show (List.range l.length).all (stAt l) = true from List.all_eq_true.2 fun k hk => h k (List.mem_range.1 hk)]
  rfl
theorem stOk_iff {l : List Int} {high : Int} : stOk l high = true ↔ (∀ k (hk : k < l.length), 1 ≤ l[k] ∧ l[k] ≤ 999) ∧ l.Nodup ∧ 1 ≤ high ∧ high ≤ 5 ∧ (l.length : Int) ≤ high := by
  have hat : (∀ k, k < l.length → stAt l k = true) ↔ (∀ k (hk : k < l.length), 1 ≤ l[k] ∧ l[k] ≤ 999) ∧ l.Nodup := by
    constructor
    · intro h
      refine ⟨fun k hk => ?_, ?_⟩
      · have := h k hk
        unfold stAt at this
        rw [getD_i hk, Bool.and_eq_true] at this
        exact of_decide_eq_true this.1
      · refine List.pairwise_iff_getElem.2 fun i j hi hj hij he => ?_
        have := h j hj
        unfold stAt at this
        rw [getD_i hj, Bool.and_eq_true, Bool.not_eq_true'] at this
        have h2 := of_decide_eq_false this.2
        apply h2
        rw [← he]
        exact List.mem_take_iff_getElem.2 ⟨i, by omega, rfl⟩
    · rintro ⟨h1, h2⟩ k hk
      unfold stAt
      rw [getD_i hk, Bool.and_eq_true, Bool.not_eq_true']
      refine ⟨decide_eq_true (h1 k hk), decide_eq_false fun hm => ?_⟩
      obtain ⟨i, hi, he⟩ := List.mem_take_iff_getElem.1 hm
      have hik : i < k := by omega
      exact List.pairwise_iff_getElem.1 h2 i k (by omega) hk hik he
  constructor
  · intro h
    have hall : ∀ k, k < l.length → stAt l k = true := fun k hk => by
      cases hc : stAt l k
      · rw [stOk_at hk hc] at h; cases h
      · rfl
    rw [stOk_end hall] at h
    have h3 := of_decide_eq_true h
    exact ⟨(hat.1 hall).1, (hat.1 hall).2, h3⟩
  · rintro ⟨h1, h2, h3⟩
    rw [stOk_end (hat.2 ⟨h1, h2⟩)]
    exact decide_eq_true h3

/-- What StackPut gives. -/
def putS (l : List Int) (high id : Int) : List Int × Bool := if stOk l high = true then (if stOk (l ++ [id]) high = true then (l ++ [id], true) else (l, false)) else ([], false)
/-- What StackTake gives. -/
def takeS (l : List Int) (high : Int) : List Int × Int := if stOk l high = true ∧ 0 < l.length then (l.take (l.length - 1), l.getD (l.length - 1) 0) else ([], -1)
/-- The first place of an id. -/
def firstI : List Int → Int → Option Nat
  | [], _ => none
  | a :: l, n => if a = n then some 0 else (firstI l n).map (· + 1)
theorem firstI_hit : ∀ (l : List Int) (n : Int) (k : Nat) (hk : k < l.length), (∀ j (hj : j < l.length), j < k → l[j] ≠ n) → l[k] = n → firstI l n = some k
  | a :: l, n, 0, _, _, h => by
    have h' : a = n := h
    rw [firstI, if_pos h']
  | a :: l, n, k + 1, hk, hn, h => by
    have h0 : a ≠ n := hn 0 (by simp) (by omega)
    have ih := firstI_hit l n k (by simpa using hk) (fun j hj hjk => hn (j + 1) (by simpa using hj) (by omega)) h
    rw [firstI, if_neg h0, ih]; rfl
theorem firstI_none : ∀ (l : List Int) (n : Int), (∀ j (hj : j < l.length), l[j] ≠ n) → firstI l n = none
  | [], _, _ => rfl
  | a :: l, n, hn => by
    have h0 : a ≠ n := hn 0 (by simp)
    have ih := firstI_none l n (fun j hj => hn (j + 1) (by simpa using hj))
    rw [firstI, if_neg h0, ih]; rfl
theorem firstI_some : ∀ (l : List Int) (n : Int) (k : Nat), firstI l n = some k → ∃ hk : k < l.length, l[k] = n
  | a :: l, n, k, h => by
    rw [firstI] at h
    split at h
    · next e => cases h; exact ⟨by simp, e⟩
    · obtain ⟨j, hj, rfl⟩ := Option.map_eq_some_iff.1 h
      obtain ⟨hk, he⟩ := firstI_some l n j hj
      exact ⟨by simpa using hk, by simpa using he⟩
/-- What StackAbove gives. -/
def aboveS (l : List Int) (high id : Int) : Int := if stOk l high = true then (match firstI l id with | some k => (l.length : Int) - 1 - k | none => -1) else -1
theorem aboveS_bad {l : List Int} {high id : Int} (h : stOk l high = false) : aboveS l high id = -1 := by
  unfold aboveS; rw [h]; rfl
theorem aboveS_hit {l : List Int} {high id : Int} (h : stOk l high = true) {k : Nat} (hk : k < l.length) (hn : ∀ j (hj : j < l.length), j < k → l[j] ≠ id) (he : l[k] = id) : aboveS l high id = (l.length : Int) - 1 - k := by
  unfold aboveS; rw [if_pos h, firstI_hit l id k hk hn he]
theorem aboveS_none {l : List Int} {high id : Int} (h : stOk l high = true) (hn : ∀ j (hj : j < l.length), l[j] ≠ id) : aboveS l high id = -1 := by
  unfold aboveS; rw [if_pos h, firstI_none l id hn]
theorem takeS_no {l : List Int} {high : Int} (h : stOk l high = false ∨ l.length = 0) : takeS l high = ([], -1) := by
  unfold takeS
  rw [if_neg]
  rintro ⟨h1, h2⟩
  rcases h with h | h
  · rw [h] at h1; cases h1
  · omega
theorem takeS_yes {l : List Int} {high : Int} (h : stOk l high = true) (hl : 0 < l.length) : takeS l high = (l.take (l.length - 1), l[l.length - 1]) := by
  unfold takeS
  rw [if_pos ⟨h, hl⟩, getD_i (by omega)]
theorem stOk_len {l : List Int} {high : Int} (h : stOk l high = true) : l.length ≤ 5 := by
  have := stOk_iff.1 h
  omega
theorem putS_bad {l : List Int} {high id : Int} (h : stOk l high = false) : putS l high id = ([], false) := by unfold putS; rw [h]; rfl
theorem putS_no {l : List Int} {high id : Int} (h : stOk l high = true) (h' : stOk (l ++ [id]) high = false) : putS l high id = (l, false) := by unfold putS; rw [h, h']; rfl
theorem putS_yes {l : List Int} {high id : Int} (h : stOk l high = true) (h' : stOk (l ++ [id]) high = true) : putS l high id = (l ++ [id], true) := by unfold putS; rw [h, h']; rfl
end Go.Proofs.Ytfeobdgdhgcgoaa
namespace Go.Proofs.Ytfeobdgdhgcgoaa
open Go.RowKit
set_option linter.unusedVariables false

set_option maxHeartbeats 400000 in
theorem l1Has_any (v : Value) (l : List Int) (n : Int) (w : World) (h : HoldsI w v l) :
    Calls Try.prog 46 #[v, .int .i64 n] w fun e w' => e = .returned (.bool (hasI l n)) ∧ w = w' := by
  obtain ⟨a, cap, rfl, h2, h3, h4⟩ := h
  have hm : l.length ≤ 9223372036854775807 := by unfold maxLen at h3; omega
  obtain ⟨m, hn⟩ : ∃ m, m = l.length := ⟨_, rfl⟩
  have HN := Lib.hid hn.symm
  rw [← hn]
  have hm' : m ≤ 9223372036854775807 := by omega
  have H4 := Lib.hid h4
  clear hn h2 h3 h4 hm
  go_enter Try.func46, Try.ntmps46
  go_wp2_with fail
  go_loop [5] (fun i => ∃ k : Nat, k ≤ m ∧ i = .int .i64 k ∧ Hid (∀ j (hj : j < l.length), j < k → l[j] ≠ n)) (fun i => m - (intOf i).toNat)
  case atStart => exact ⟨0, by omega, rfl, Lib.hid fun j _ hj => by omega⟩
  case round =>
    obtain ⟨k, hk, rfl, HF⟩ := hrel
    by_cases hlt : k < m
    · rcases H4.out with h4 | ⟨b, off, rfl, h6, h7⟩
      · have := HN.out; omega
      · have hkl : k < l.length := by rw [HN.out]; exact hlt
        have s0 : w.cell? ⟨b, off + k, none⟩ = some (.int .i64 l[k]) := h7 k hkl
        have H7 := Lib.hid h7
        clear h7
        by_cases he : l[k] = n
        · have b1 : (l[k] == n) = true := by rw [beq_iff_eq]; exact he
          have hr := Lib.hid (hasI_yes hkl he)
          clear he
          go_wp2_with fail
          go_ret
          exact ⟨by rw [hr.out]; rfl, rfl⟩
        · have b1 : (l[k] == n) = false := by rw [beq_eq_false_iff_ne]; exact he
          have HE := Lib.hid he
          clear he
          go_wp2_with fail
          go_round
          case rel => exact ⟨k + 1, by omega, by go_num, Lib.hid fun j hj hjk => by
            by_cases e : j = k
            · subst e; exact HE.out
            · exact HF.out j hj (by omega)⟩
          case measure => simp [intOf]; omega
    · have hr := Lib.hid (hasI_no fun j hj => HF.out j hj (by rw [HN.out] at hj; omega))
      go_wp2_with fail
      go_ret
      exact ⟨by rw [hr.out]; rfl, rfl⟩

theorem Below.drewN_ {B : Nat} {a w : World} (h : Below B a w) (n : Nat) : Below B a (w.drewN n) := ⟨h.os, h.tape, h.output, h.size, h.block⟩

end Go.Proofs.Ytfeobdgdhgcgoaa
namespace Go.Proofs.Ytfeobdgdhgcgoaa
open Go.RowKit
set_option linter.unusedVariables false

set_option maxHeartbeats 1000000 in
theorem sameInts_any (u v : Value) (l m : List Int) (w : World) (hu : HoldsI w u l) (hv : HoldsI w v m) :
    Calls Try.prog 11 #[u, v] w fun e w' => e = .returned (.bool (decide (l = m))) ∧ Below w.heap.size w w' := by
  obtain ⟨a, cap, rfl, h2, h3, h4⟩ := hu
  obtain ⟨a', cap', rfl, g2, g3, g4⟩ := hv
  have hm : l.length ≤ 9223372036854775807 := by unfold maxLen at h3; omega
  have hm2 : m.length ≤ 9223372036854775807 := by unfold maxLen at g3; omega
  have H4 := Lib.hid h4
  have G4 := Lib.hid g4
  clear h2 h3 h4 g2 g3 g4
  by_cases hl : l.length = m.length
  · obtain ⟨n, hn⟩ : ∃ n, n = m.length := ⟨_, rfl⟩
    have HN := Lib.hid hn.symm
    have HL := Lib.hid (hl.trans hn.symm)
    rw [hl, ← hn]
    rw [← hn] at hm2
    clear hl hn hm
    go_enter Try.func11, Try.ntmps11
    go_wp2_with fail
    go_loopw [5] (fun i wr => ∃ k : Nat, k ≤ n ∧ i = .int .i64 k ∧ Hid (∀ j (hj : j < l.length) (hj' : j < m.length), j < k → l[j] = m[j]) ∧ Below w.heap.size w wr) (fun i _ => n - (intOf i).toNat)
    case atStart => exact ⟨0, by omega, rfl, Lib.hid fun j _ _ hj => by omega, Below.refl _ _⟩
    case round =>
      obtain ⟨k, hk, rfl, HF, hbr⟩ := hrel
      by_cases hlt : k < n
      · have hkl : k < l.length := by rw [HL.out]; exact hlt
        have hkm : k < m.length := by rw [HN.out]; exact hlt
        rcases H4.out with h4 | ⟨b, off, rfl, h6, h7⟩
        · omega
        rcases G4.out with g4 | ⟨b', off', rfl, g6, g7⟩
        · omega
        have s0 : wr.cell? ⟨b, off + k, none⟩ = some (.int .i64 l[k]) := (hbr.cell (p := ⟨b, off + k, none⟩) h6).trans (h7 k hkl)
        have t0 : wr.cell? ⟨b', off' + k, none⟩ = some (.int .i64 m[k]) := (hbr.cell (p := ⟨b', off' + k, none⟩) g6).trans (g7 k hkm)
        have H7 := Lib.hid h7
        have G7 := Lib.hid g7
        have ik : (0 : Int) ≤ (k : Int) := by omega
        have ikn : (k : Int) < (n : Int) := by omega
        have HBR := Lib.hid hbr
        clear h7 g7 hbr
        by_cases he : l[k] = m[k]
        · have b1 : (l[k] != m[k]) = false := by rw [bne_eq_false_iff_eq]; exact he
          have hnext : Hid (∀ j (hj : j < l.length) (hj' : j < m.length), j < k + 1 → l[j] = m[j]) := Lib.hid fun j hj hj' hjk => by
            by_cases e : j = k
            · subst e; exact he
            · exact HF.out j hj hj' (by omega)
          clear he
          generalize l[k] = x at s0 b1
          generalize m[k] = y at t0 b1
          go_wp2_with fail
          go_quiet (fail)
          go_wp2_with fail
          go_roundw
          case rel => exact ⟨k + 1, by omega, by go_num, hnext, Below.drewN_ HBR.out _⟩
          case measure => simp [intOf]; omega
        · have b1 : (l[k] != m[k]) = true := by rw [bne_iff_ne]; exact he
          have hr := Lib.hid (show decide (l = m) = false from decide_eq_false fun e => he (by subst e; rfl))
          clear he
          generalize l[k] = x at s0 b1
          generalize m[k] = y at t0 b1
          go_wp2_with fail
          go_quiet (fail)
          go_wp2_with fail
          go_ret
          exact ⟨by rw [hr.out]; rfl, Below.drewN_ HBR.out _⟩
      · have hr := Lib.hid (show decide (l = m) = true from decide_eq_true (List.ext_getElem (by rw [HL.out, HN.out]) fun j h1 h2 => HF.out j h1 h2 (by rw [HN.out] at h2; omega)))
        go_wp2_with fail
        go_ret
        exact ⟨by rw [hr.out]; rfl, hbr⟩
  · have hr := Lib.hid (show decide (l = m) = false from decide_eq_false fun e => hl (by rw [e]))
    have b1 : ((l.length : Int) != (m.length : Int)) = true := by rw [bne_iff_ne]; omega
    clear hl
    go_enter Try.func11, Try.ntmps11
    go_wp2
    go_ret
    exact ⟨by rw [hr.out]; rfl, Below.refl _ _⟩
end Go.Proofs.Ytfeobdgdhgcgoaa
namespace Go.Proofs.Ytfeobdgdhgcgoaa
open Go.RowKit
set_option linter.unusedVariables false

/-- A slice at the head of a block from K on, none of it frozen. -/
def FreeI (K : Nat) (w : World) (v : Value) (l : List Int) : Prop :=
  ∃ g cap, v = .slice (some ⟨g, 0, none⟩) l.length cap ∧ K ≤ g ∧ g < w.heap.size ∧ l.length ≤ cap ∧ cap ≤ maxLen ∧ ∃ cur T, w.heap[g]? = some (.cells cur T (0, 0)) ∧ l.length ≤ cur.size ∧ ∀ k (hk : k < l.length), cur[k]? = some (.int .i64 l[k])
theorem free_lt {w : World} {g : Nat} {o : Obj} (h : w.heap[g]? = some o) : g < w.heap.size := by
  rcases Nat.lt_or_ge g w.heap.size with h' | h'
  · exact h'
  · rw [Array.getElem?_eq_none h'] at h; cases h
theorem FreeI.new {K : Nat} {w : World} {v : Value} {l : List Int} (h : FreeI K w v l) : NewI K w v l := by
  obtain ⟨g, cap, h1, h2, h3, h4, h5, cur, T, h6, h7, h8⟩ := h
  exact ⟨some ⟨g, 0, none⟩, cap, h1, h4, h5, .inr ⟨g, 0, rfl, h2, h3, fun k hk => by rw [Nat.zero_add]; simp only [World.cell?, h6]; exact h8 k hk⟩⟩
theorem FreeI.holds {K : Nat} {w : World} {v : Value} {l : List Int} (h : FreeI K w v l) : HoldsI w v l := h.new.holds
theorem FreeI.keep {K : Nat} {w w' : World} {v : Value} {l : List Int} (h : FreeI K w v l) (hb : Below w.heap.size w w') : FreeI K w' v l := by
  obtain ⟨g, cap, h1, h2, h3, h4, h5, cur, T, h6, h7⟩ := h
  exact ⟨g, cap, h1, h2, Nat.lt_of_lt_of_le h3 hb.size, h4, h5, cur, T, by rw [hb.block g h3]; exact h6, h7⟩

set_option maxHeartbeats 1000000 in
theorem toIntS_freeS (b off len cap : Nat) (l : List Int) (w : World) (hl : l.length = len) (hn : len ≤ 1048576) (hp : 0 < len) (hb : b < w.heap.size)
    (hc : ∀ k (hk : k < l.length), w.cell? ⟨b, off + k, none⟩ = some (.int .i64 l[k])) :
    Calls Try.prog 37 #[.slice (some ⟨b, off, none⟩) len cap] w fun e w' => ∃ v, e = .returned v ∧ FreeI w.heap.size w' v l ∧ Below w.heap.size w w' := by
  obtain ⟨i0, hi, hz0, hz1, hz2⟩ := info_parts infoInt
  have hb2 : i0.bytes * len ≤ 281474976710656 := by rw [hz2]; omega
  have hb3 : len ≤ maxLen := by unfold maxLen; omega
  go_enter Try.func37, Try.ntmps37
  go_wp2_with (at_make; refine wpList_make_full _ rfl _ _ _ rfl w.heap.size 3 i0 (.int .i64 0) 1 Try.underlying25 hi hz0 hz1 .i64 .i64 _ _ len rfl rfl rfl rfl hb2 hb3 (Nat.le_refl _) ?_; intro w1 hown hgrow)
  obtain ⟨hx1, hx2⟩ := hown
  have hbel : Below w.heap.size w w1 := (Below.refl _ _).grown hgrow (Nat.le_refl _) (fun k hk => by cases hk)
  obtain ⟨cur0, hcur0, hsz0⟩ : ∃ cur : Array Value, w1.heap[w.heap.size]? = some (.cells cur 3 (0, 0)) ∧ cur.size = len := by
    rcases hx2 with ⟨h1, _⟩ | ⟨g, cap', cur, h1, _, h3, _, _, h6, _⟩
    · cases h1
    · simp only [Value.slice.injEq, Option.some.injEq, Addr.mk.injEq] at h1
      obtain ⟨⟨rfl, -, -⟩, -, rfl⟩ := h1
      exact ⟨cur, h3, by omega⟩
  clear hx1 hx2 hgrow
  generalize hG : w.heap.size = G at *
  go_loopw [4] (fun i wr => ∃ (k : Nat) (cur : Array Value), k ≤ len ∧ i = .int .i64 k ∧ Hid (wr.heap[G]? = some (.cells cur 3 (0, 0)) ∧ cur.size = len ∧ ∀ j (hj : j < l.length), j < k → cur[j]? = some (.int .i64 l[j])) ∧ Below G w wr) (fun i _ => len - (intOf i).toNat)
  case atStart => exact ⟨0, cur0, by omega, rfl, Lib.hid ⟨hcur0, hsz0, fun j _ hj => by omega⟩, hbel⟩
  case round =>
    obtain ⟨k, cur, hk, rfl, HC, hbr⟩ := hrel
    by_cases hlt : k < len
    · have hkl : k < l.length := by omega
      have s0 : wr.cell? ⟨b, off + k, none⟩ = some (.int .i64 l[k]) := (hbr.cell (p := ⟨b, off + k, none⟩) hb).trans (hc k hkl)
      obtain ⟨hc1, hc2, hc3⟩ := HC.out
      have t0 : wr.cell? ⟨G, k, none⟩ = some (cur[k]'(by omega)) := by
        simp only [World.cell?, hc1]
        exact Array.getElem?_eq_getElem _
      have f0 : wr.frozen? ⟨G, k, none⟩ = false := by simp [World.frozen?, hc1]
      obtain ⟨x0, t0'⟩ : ∃ x, wr.cell? ⟨G, k, none⟩ = some x := ⟨_, t0⟩
      have HC3 := Lib.hid (And.intro hc1 (And.intro hc2 hc3))
      clear t0 hc1 hc2 hc3 HC
      go_wp2_with fail
      go_roundw
      case rel =>
        obtain ⟨d1, d2, d3⟩ := HC3.out
        refine ⟨k + 1, _, by omega, by go_num, Lib.hid ⟨Joins.block_setCell d1 _, by simpa using d2, fun j hj hjk => ?_⟩, hbr.setCell (Nat.le_refl _) _⟩
        rw [Array.getElem?_setIfInBounds]
        by_cases hjk' : j = k
        · subst hjk'
          rw [if_pos rfl, if_pos (by omega)]
        · rw [if_neg (by omega)]
          exact d3 j hj (by omega)
      case measure => simp [intOf]; omega
    · obtain ⟨d1, d2, d3⟩ := HC.out
      clear HC
      go_wp2_with fail
      go_ret
      have hGr : G < wr.heap.size := by
        rcases Nat.lt_or_ge G wr.heap.size with h | h
        · exact h
        · rw [Array.getElem?_eq_none h] at d1; cases d1
      refine ⟨_, rfl, ?_⟩
      rw [hG]
      exact ⟨⟨G, len, by rw [hl]; rfl, Nat.le_refl _, hGr, by omega, hb3, cur, 3, d1, by omega, fun j hj => d3 j hj (by omega)⟩, hbr⟩

theorem toIntS_freeZ (a : Option Addr) (cap : Nat) (w : World) :
    Calls Try.prog 37 #[.slice a 0 cap] w fun e w' => ∃ v, e = .returned v ∧ FreeI w.heap.size w' v [] ∧ Below w.heap.size w w' := by
  obtain ⟨i0, hi, hz0, hz1, hz2⟩ := info_parts infoInt
  have hb2 : i0.bytes * 0 ≤ 281474976710656 := by omega
  have hb3 : 0 ≤ maxLen := by omega
  go_enter Try.func37, Try.ntmps37
  go_wp2_with (at_make; refine wpList_make_full _ rfl _ _ _ rfl w.heap.size 3 i0 (.int .i64 0) 1 Try.underlying25 hi hz0 hz1 .i64 .i64 _ _ 0 rfl rfl rfl rfl hb2 hb3 (Nat.le_refl _) ?_; intro w1 hown hgrow)
  have hbel : Below w.heap.size w w1 := (Below.refl _ _).grown hgrow (Nat.le_refl _) (fun k hk => by cases hk)
  obtain ⟨cur0, hcur0⟩ : ∃ cur : Array Value, w1.heap[w.heap.size]? = some (.cells cur 3 (0, 0)) := by
    rcases hown.2 with ⟨h1, _⟩ | ⟨g, cap', cur, h1, _, h3, _⟩
    · cases h1
    · simp only [Value.slice.injEq, Option.some.injEq, Addr.mk.injEq] at h1
      obtain ⟨⟨rfl, -, -⟩, -, -⟩ := h1
      exact ⟨cur, h3⟩
  have HCUR := Lib.hid hcur0
  clear hown hgrow hcur0
  go_loop [4] (fun i => i = .int .i64 0) (fun _ => 0)
  case atStart => rfl
  case round =>
    obtain rfl := hrel
    go_wp2_with fail
    go_ret
    exact ⟨_, rfl, ⟨w.heap.size, 0, rfl, Nat.le_refl _, free_lt HCUR.out, Nat.le_refl _, hb3, cur0, 3, HCUR.out, Nat.zero_le _, fun j hj => by simp at hj⟩, hbel⟩

/-- The exact laws' copy of a slice of int's: new memory that holds the same and can be written. -/
theorem toIntS_free (v : Value) (l : List Int) (w : World) (h : HoldsI w v l) (hn : l.length ≤ 1048576) :
    Calls Try.prog 37 #[v] w fun e w' => ∃ u, e = .returned u ∧ FreeI w.heap.size w' u l ∧ Below w.heap.size w w' := by
  obtain ⟨a, cap, rfl, h2, h3, h4⟩ := h
  by_cases hz : l.length = 0
  · obtain rfl := List.eq_nil_of_length_eq_zero hz
    exact toIntS_freeZ a cap w
  · rcases h4 with h4 | ⟨b, off, rfl, h6, h7⟩
    · exact absurd h4 hz
    · exact toIntS_freeS b off l.length cap l w rfl hn (by omega) h6 h7
end Go.Proofs.Ytfeobdgdhgcgoaa
namespace Go.Proofs.Ytfeobdgdhgcgoaa
open Go.RowKit
set_option linter.unusedVariables false

set_option maxHeartbeats 400000 in
theorem hasInt_any (v : Value) (l : List Int) (n : Int) (w : World) (h : HoldsI w v l) :
    Calls Try.prog 16 #[v, .int .i64 n] w fun e w' => e = .returned (.bool (hasI l n)) ∧ w = w' := by
  obtain ⟨a, cap, rfl, h2, h3, h4⟩ := h
  have hm : l.length ≤ 9223372036854775807 := by unfold maxLen at h3; omega
  obtain ⟨m, hn⟩ : ∃ m, m = l.length := ⟨_, rfl⟩
  have HN := Lib.hid hn.symm
  rw [← hn]
  have hm' : m ≤ 9223372036854775807 := by omega
  have H4 := Lib.hid h4
  clear hn h2 h3 h4 hm
  go_enter Try.func16, Try.ntmps16
  go_wp2_with fail
  go_loop [5] (fun i => ∃ k : Nat, k ≤ m ∧ i = .int .i64 k ∧ Hid (∀ j (hj : j < l.length), j < k → l[j] ≠ n)) (fun i => m - (intOf i).toNat)
  case atStart => exact ⟨0, by omega, rfl, Lib.hid fun j _ hj => by omega⟩
  case round =>
    obtain ⟨k, hk, rfl, HF⟩ := hrel
    by_cases hlt : k < m
    · rcases H4.out with h4 | ⟨b, off, rfl, h6, h7⟩
      · have := HN.out; omega
      · have hkl : k < l.length := by rw [HN.out]; exact hlt
        have s0 : w.cell? ⟨b, off + k, none⟩ = some (.int .i64 l[k]) := h7 k hkl
        have H7 := Lib.hid h7
        clear h7
        by_cases he : l[k] = n
        · have b1 : (l[k] == n) = true := by rw [beq_iff_eq]; exact he
          have hr := Lib.hid (hasI_yes hkl he)
          clear he
          go_wp2_with fail
          go_ret
          exact ⟨by rw [hr.out]; rfl, rfl⟩
        · have b1 : (l[k] == n) = false := by rw [beq_eq_false_iff_ne]; exact he
          have HE := Lib.hid he
          clear he
          go_wp2_with fail
          go_round
          case rel => exact ⟨k + 1, by omega, by go_num, Lib.hid fun j hj hjk => by
            by_cases e : j = k
            · subst e; exact HE.out
            · exact HF.out j hj (by omega)⟩
          case measure => simp [intOf]; omega
    · have hr := Lib.hid (hasI_no fun j hj => HF.out j hj (by rw [HN.out] at hj; omega))
      go_wp2_with fail
      go_ret
      exact ⟨by rw [hr.out]; rfl, rfl⟩


/-- The marks from k on. -/
def marksI (k n : Nat) : List Int := (List.range n).map fun j => ((k + j : Nat) : Int)
theorem marksI_length (k n : Nat) : (marksI k n).length = n := by simp [marksI]
theorem marksI_get {k n j : Nat} (h : j < (marksI k n).length) : (marksI k n)[j] = ((k + j : Nat) : Int) := by simp [marksI]

/-- A slice at the head of block g, none of it frozen. -/
def FreeAt (g : Nat) (w : World) (v : Value) (l : List Int) : Prop :=
  ∃ cap, v = .slice (some ⟨g, 0, none⟩) l.length cap ∧ g < w.heap.size ∧ l.length ≤ cap ∧ cap ≤ maxLen ∧ ∃ cur T, w.heap[g]? = some (.cells cur T (0, 0)) ∧ l.length ≤ cur.size ∧ ∀ k (hk : k < l.length), cur[k]? = some (.int .i64 l[k])
theorem FreeI.at_ {K : Nat} {w : World} {v : Value} {l : List Int} (h : FreeI K w v l) : ∃ g, K ≤ g ∧ FreeAt g w v l := by
  obtain ⟨g, cap, h1, h2, h3, h4, h5, h6⟩ := h
  exact ⟨g, h2, cap, h1, h3, h4, h5, h6⟩
theorem FreeI.nil_ {K : Nat} {w : World} {v : Value} {l : List Int} (h : FreeI K w v l) : ∀ n c, v = .slice none n c → c = 0 := by
  obtain ⟨g, cap, rfl, _⟩ := h
  intro n c e
  simp at e
theorem FreeAt.free {g : Nat} {w : World} {v : Value} {l : List Int} (h : FreeAt g w v l) : FreeI g w v l := by
  obtain ⟨cap, h1, h3, h4, h5, h6⟩ := h
  exact ⟨g, cap, h1, Nat.le_refl _, h3, h4, h5, h6⟩
theorem FreeAt.keep {g : Nat} {w w' : World} {v : Value} {l : List Int} (h : FreeAt g w v l) (hb : Below w.heap.size w w') : FreeAt g w' v l := by
  obtain ⟨cap, h1, h3, h4, h5, cur, T, h6, h7⟩ := h
  exact ⟨cap, h1, Nat.lt_of_lt_of_le h3 hb.size, h4, h5, cur, T, by rw [hb.block g h3]; exact h6, h7⟩
theorem FreeAt.lt {g : Nat} {w : World} {v : Value} {l : List Int} (h : FreeAt g w v l) : g < w.heap.size := by
  obtain ⟨cap, h1, h3, h4⟩ := h
  exact h3
theorem MostB.set_ {B : Nat} {a w : World} (h : MostB B a w) (o : Nat) (u : Value) : MostB B a (w.setCell ⟨B, o, none⟩ u) :=
  h.trans ⟨rfl, rfl, rfl, by simp [World.setCell], fun k hk _ => Below.heap_setCell _ _ _ _ hk⟩
/-- A slice that is empty, or at the head of a block from K on that can be written. -/
def FreeE (K : Nat) (w : World) (v : Value) (l : List Int) : Prop :=
  (l = [] ∧ ∃ a cap, v = .slice a 0 cap ∧ cap ≤ maxLen ∧ (a = none → cap = 0)) ∨ ∃ g, K ≤ g ∧ FreeAt g w v l
theorem FreeE.of_own {w : World} {base : Nat} {e : TypeId} {v : Value} {l : List Int} (h : w.ownsRow base e 1 v l.length (rowI l)) : FreeE base w v l := by
  rcases h.2 with ⟨rfl, h0⟩ | ⟨g, cap, cur, rfl, hb, hg, hc, hm, hs, hx⟩
  · exact .inl ⟨List.eq_nil_of_length_eq_zero h0, _, _, rfl, by unfold maxLen; omega, fun _ => rfl⟩
  · refine .inr ⟨g, hb, cap, rfl, free_lt hg, hc, hm, cur, e, hg, by omega, fun k hk => ?_⟩
    have e1 : (rowI l)[k]? = some (.int .i64 l[k]) := by simp [rowI, List.getElem?_map, List.getElem?_eq_getElem hk]
    rw [← hx, List.getElem?_take, if_pos (by omega)] at e1
    simpa using e1
theorem FreeE.new {K : Nat} {w : World} {v : Value} {l : List Int} (h : FreeE K w v l) : NewI K w v l := by
  rcases h with ⟨rfl, a, cap, rfl, hc, -⟩ | ⟨g, hg, h⟩
  · exact NewI.empty hc
  · exact h.free.new.from_ hg
theorem FreeE.holds {K : Nat} {w : World} {v : Value} {l : List Int} (h : FreeE K w v l) : HoldsI w v l := h.new.holds
theorem FreeE.keep {K : Nat} {w w' : World} {v : Value} {l : List Int} (h : FreeE K w v l) (hb : Below w.heap.size w w') : FreeE K w' v l := by
  rcases h with h | ⟨g, hg, h⟩
  · exact .inl h
  · exact .inr ⟨g, hg, h.keep hb⟩
theorem FreeE.from_ {K K' : Nat} {w : World} {v : Value} {l : List Int} (h : FreeE K w v l) (hk : K' ≤ K) : FreeE K' w v l := by
  rcases h with h | ⟨g, hg, h⟩
  · exact .inl h
  · exact .inr ⟨g, Nat.le_trans hk hg, h⟩
theorem FreeE.most {K B : Nat} {w w' : World} {v : Value} {l : List Int} (h : FreeE K w v l) (hm : MostB B w w') (hB : B < K) : FreeE K w' v l := by
  rcases h with h | ⟨g, hg, cap, h1, h3, h4, h5, cur, T, h6, h7⟩
  · exact .inl h
  · exact .inr ⟨g, hg, cap, h1, Nat.lt_of_lt_of_le h3 hm.size, h4, h5, cur, T, by rw [hm.block g (by omega) h3]; exact h6, h7⟩
theorem FreeE.take {K : Nat} {w : World} {a : Option Addr} {cap : Nat} {l : List Int} (k : Nat) (hk : k ≤ l.length) (h : FreeE K w (.slice a l.length cap) l) : FreeE K w (.slice a k cap) (l.take k) := by
  have hl : (l.take k).length = k := by rw [List.length_take]; omega
  rcases h with ⟨rfl, a', cap', h1, h2, h9⟩ | ⟨g, hg, cap', h1, h3, h4, h5, cur, T, h6, h7, h8⟩
  · obtain rfl : k = 0 := by simpa using hk
    simp only [Value.slice.injEq] at h1
    exact .inl ⟨rfl, a, cap, rfl, by omega, by rw [h1.1, h1.2.2]; exact h9⟩
  · simp only [Value.slice.injEq, true_and] at h1
    obtain ⟨rfl, rfl⟩ := h1
    exact .inr ⟨g, hg, cap, by rw [hl], h3, by omega, h5, cur, T, h6, by omega, fun j hj => by rw [h8 j (by omega), List.getElem_take]⟩

set_option maxHeartbeats 1000000 in
theorem markIntS_at (v : Value) (len g : Nat) (l : List Int) (w : World) (hl : l.length = len) (h : FreeAt g w v l) (hm : len ≤ 281474976710656) :
    Calls Try.prog 34 #[v, .int .i64 1] w fun e w' => e = .returned (.int .i64 ((1 + len : Nat) : Int)) ∧ FreeAt g w' v (marksI 1 len) ∧ MostB g w w' := by
  obtain ⟨cap, rfl, h3, h4, h5, cur0, T, h6, h7, h8⟩ := h
  rw [hl] at *
  have H3 := Lib.hid h3
  have H45 := Lib.hid (And.intro h4 h5)
  clear h3 h4 h5 h8 hl
  go_enter Try.func34, Try.ntmps34
  go_wp2_with fail
  go_loopw [1, 5] (fun s i wr => ∃ (k : Nat) (cur : Array Value), k ≤ len ∧ i = .int .i64 k ∧ s = .int .i64 ((1 + k : Nat) : Int) ∧ Hid (wr.heap[g]? = some (.cells cur T (0, 0)) ∧ len ≤ cur.size ∧ ∀ j, j < k → cur[j]? = some (.int .i64 ((1 + j : Nat) : Int))) ∧ MostB g w wr) (fun _ i _ => len - (intOf i).toNat)
  case atStart => exact ⟨0, cur0, by omega, rfl, rfl, Lib.hid ⟨h6, h7, fun j hj => by omega⟩, MostB.refl _ _⟩
  case round =>
    obtain ⟨k, cur, hk, rfl, rfl, HC, hbr⟩ := hrel
    by_cases hlt : k < len
    · obtain ⟨hc1, hc2, hc3⟩ := HC.out
      have f0 : wr.frozen? ⟨g, k, none⟩ = false := by simp [World.frozen?, hc1]
      obtain ⟨x0, t0⟩ : ∃ x, wr.cell? ⟨g, k, none⟩ = some x := by
        refine ⟨cur[k]'(by omega), ?_⟩
        simp only [World.cell?, hc1]
        exact Array.getElem?_eq_getElem _
      have HC3 := Lib.hid (And.intro hc1 (And.intro hc2 hc3))
      clear hc1 hc2 hc3 HC h6 h7
      go_wp2_with fail
      go_roundw
      case rel =>
        obtain ⟨d1, d2, d3⟩ := HC3.out
        refine ⟨k + 1, _, by omega, by go_num, by go_num, Lib.hid ⟨Joins.block_setCell d1 _, by simpa using d2, fun j hjk => ?_⟩, hbr.set_ _ _⟩
        rw [Array.getElem?_setIfInBounds]
        by_cases hjk' : j = k
        · subst hjk'
          rw [if_pos rfl, if_pos (by omega), Int.natCast_add]
          rfl
        · rw [if_neg (by omega)]
          exact d3 j (by omega)
      case measure => simp [intOf]; omega
    · obtain ⟨d1, d2, d3⟩ := HC.out
      have he : k = len := by omega
      subst he
      clear HC
      go_wp2_with fail
      go_ret
      have hg : g < wr.heap.size := by
        rcases Nat.lt_or_ge g wr.heap.size with h | h
        · exact h
        · rw [Array.getElem?_eq_none h] at d1; cases d1
      exact ⟨rfl, ⟨cap, by rw [marksI_length], hg, by rw [marksI_length]; exact H45.out.1, H45.out.2, cur, T, d1, by rw [marksI_length]; exact d2, fun j hj => by rw [marksI_get hj]; exact d3 j (by rw [marksI_length] at hj; exact hj)⟩, hbr⟩
theorem markIntS_zero (a : Option Addr) (cap : Nat) (w : World) :
    Calls Try.prog 34 #[.slice a 0 cap, .int .i64 1] w fun e w' => e = .returned (.int .i64 1) ∧ w = w' := by
  go_enter Try.func34, Try.ntmps34
  go_wp2_with fail
  go_loop [1, 5] (fun s i => s = .int .i64 1 ∧ i = .int .i64 0) (fun _ _ => 0)
  case atStart => exact ⟨rfl, rfl⟩
  case round =>
    obtain ⟨rfl, rfl⟩ := hrel
    go_wp2_with fail
    go_ret
    exact ⟨rfl, rfl⟩
/-- The marks laid in whatever a call gave. -/
theorem markIntS_e (v : Value) (K : Nat) (l : List Int) (w : World) (h : FreeE K w v l) (hm : l.length ≤ 281474976710656) :
    Calls Try.prog 34 #[v, .int .i64 1] w fun e w' => e = .returned (.int .i64 ((1 + l.length : Nat) : Int)) ∧ HoldsI w' v (marksI 1 l.length) ∧ Below K w w' := by
  rcases h with ⟨rfl, a, cap, rfl, hc, -⟩ | ⟨g, hg, h⟩
  · refine (markIntS_zero a cap w).mono ?_
    rintro e w' ⟨rfl, rfl⟩
    exact ⟨rfl, ⟨a, cap, rfl, Nat.zero_le _, hc, .inl rfl⟩, Below.refl _ _⟩
  · refine (markIntS_at v l.length g l w rfl h hm).mono ?_
    rintro e w' ⟨rfl, h2, h3⟩
    refine ⟨rfl, h2.free.holds, ⟨h3.os, h3.tape, h3.output, h3.size, fun k hk => ?_⟩⟩
    rcases Nat.lt_or_ge k w.heap.size with h' | h'
    · exact h3.block k (by omega) h'
    · have := h.lt; omega

set_option maxHeartbeats 400000 in
theorem heldIntS_1 (v : Value) (len : Nat) (w : World) (h : HoldsI w v (marksI 1 len)) (hm : len ≤ 281474976710656) :
    Calls Try.prog 35 #[v, .int .i64 1] w fun e w' => e = .returned (.int .i64 ((1 + len : Nat) : Int)) ∧ w = w' := by
  obtain ⟨a, cap, rfl, h2, h3, h4⟩ := h
  rw [marksI_length] at *
  have H4 := Lib.hid h4
  clear h2 h3 h4
  go_enter Try.func35, Try.ntmps35
  go_wp2_with fail
  go_loop [1, 5] (fun s i => ∃ k : Nat, k ≤ len ∧ i = .int .i64 k ∧ s = .int .i64 ((1 + k : Nat) : Int)) (fun _ i => len - (intOf i).toNat)
  case atStart => exact ⟨0, by omega, rfl, rfl⟩
  case round =>
    obtain ⟨k, hk, rfl, rfl⟩ := hrel
    by_cases hlt : k < len
    · rcases H4.out with h4 | ⟨b, off, rfl, h6, h7⟩
      · exact absurd ((marksI_length 1 len).symm.trans h4) (by omega)
      · have s0 : w.cell? ⟨b, off + k, none⟩ = some (.int .i64 ((1 + k : Nat) : Int)) := by
          have h := h7 k (by rw [marksI_length]; exact hlt)
          rw [marksI_get] at h; exact h
        have b1 : (((1 + k : Nat) : Int) != ((1 + k : Nat) : Int)) = false := by simp
        clear h7
        go_wp2_with fail
        go_round
        case rel => exact ⟨k + 1, by omega, by go_num, by go_num⟩
        case measure => simp [intOf]; omega
    · have he : k = len := by omega
      subst he
      go_wp2_with fail
      go_ret
      exact ⟨rfl, rfl⟩
end Go.Proofs.Ytfeobdgdhgcgoaa
