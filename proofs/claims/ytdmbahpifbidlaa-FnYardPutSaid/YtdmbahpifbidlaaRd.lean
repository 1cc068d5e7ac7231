/-
  Contracts of the reader that the laws draw their inputs with: what each call returns and what it leaves in memory.
-/
import Derived.Test.YtdmbahpifbidlaaRows
import Derived.WalkKit
import Derived.BigQuiet
import Derived.Deep.QuietTactic
import Derived.Lib.Hide
import Derived.WalkSpells
import Derived.Below
import Derived.OpenShut
namespace Go.Proofs.Ytdmbahpifbidlaa
open Go.RowKit
set_option linter.unusedVariables false

theorem pick_none (B : Nat) (p n : Int) (w : World) (hp : 0 ≤ p) (hp' : p ≤ 1000000000) (hn : n < 1)
    (h1 : w.cell? ⟨B, 1, none⟩ = some (.int .i64 p)) (hf : w.frozen? ⟨B, 1, none⟩ = false) :
    Calls Try.prog 58 #[.pointer (some ⟨B, 0, none⟩), .int .i64 n] w fun e w' => e = .returned (.int .i64 0) ∧ w' = w.setCell ⟨B, 1, none⟩ (.int .i64 (p + 1)) := by
  go_enter Try.func58, Try.ntmps58
  go_wp2
  go_ret
  exact ⟨rfl, rfl⟩

theorem pick_empty (B : Nat) (p n : Int) (w : World) (hp : 0 ≤ p) (hp' : p ≤ 1000000000) (hn : 1 ≤ n) (a : Option Addr) (cap : Nat)
    (h0 : w.cell? ⟨B, 0, none⟩ = some (.slice a 0 cap))
    (h1 : w.cell? ⟨B, 1, none⟩ = some (.int .i64 p)) (hf : w.frozen? ⟨B, 1, none⟩ = false) :
    Calls Try.prog 58 #[.pointer (some ⟨B, 0, none⟩), .int .i64 n] w fun e w' => e = .returned (.int .i64 0) ∧ w' = w.setCell ⟨B, 1, none⟩ (.int .i64 (p + 1)) := by
  go_enter Try.func58, Try.ntmps58
  go_wp2
  go_ret
  exact ⟨rfl, rfl⟩

theorem cell_other {w : World} {B b o : Nat} {v u : Value} (h : w.cell? ⟨b, o, none⟩ = some u) (hb : b ≠ B) : (w.setCell ⟨B, 1, none⟩ v).cell? ⟨b, o, none⟩ = some u := by
  rw [World.cell?_setCell_other _ _ _ _ (by intro e; cases e; exact hb rfl)]; exact h

theorem pick_near (B : Nat) (p : Nat) (n : Int) (w : World) (hp' : (p : Int) ≤ 1000000000) (hn : 1 ≤ n) (b off : Nat) (len cap : Nat) (hlt : p < len) (c : Int) (hc0 : 0 ≤ c) (hc1 : c ≤ 255) (hlen : len ≤ 1000000000)
    (h0 : w.cell? ⟨B, 0, none⟩ = some (.slice (some ⟨b, off, none⟩) len cap))
    (h1 : w.cell? ⟨B, 1, none⟩ = some (.int .i64 p)) (hf : w.frozen? ⟨B, 1, none⟩ = false)
    (hx : w.cell? ⟨b, off + p, none⟩ = some (.int .u8 c)) (hxB : b ≠ B) :
    Calls Try.prog 58 #[.pointer (some ⟨B, 0, none⟩), .int .i64 n] w fun e w' => e = .returned (.int .i64 (c % n)) ∧ w' = w.setCell ⟨B, 1, none⟩ (.int .i64 (p + 1)) := by
  have hz : ((len : Int) == 0) = false := by rw [beq_eq_false_iff_ne]; omega
  have hx2 := cell_other (v := .int .i64 (p + 1)) hx hxB
  clear hx
  go_enter Try.func58, Try.ntmps58
  go_wp2
  go_ret
  exact ⟨rfl, rfl⟩

theorem xor_pos (a : Int) (h0 : 0 ≤ a) (h1 : a < 9223372036854775808) : 0 ≤ bits .xor .i64 a (a / 64) := by
  obtain ⟨n, rfl⟩ := Int.eq_ofNat_of_zero_le h0
  have hx : n ^^^ n / 64 < 2 ^ 63 := Nat.xor_lt_two_pow (by omega) (by omega)
  have d : ((n : Int) / 64) = ((n / 64 : Nat) : Int) := rfl
  have e1 : (BitVec.ofInt 64 (n : Int)).toNat = n := by
    rw [BitVec.ofInt_natCast, BitVec.toNat_ofNat]; exact Nat.mod_eq_of_lt (by omega)
  have e2 : (BitVec.ofInt 64 ((n / 64 : Nat) : Int)).toNat = n / 64 := by
    rw [BitVec.ofInt_natCast, BitVec.toNat_ofNat]; exact Nat.mod_eq_of_lt (by omega)
  rw [d]
  show 0 ≤ IntKind.i64.wrap ((BitVec.ofInt 64 (n : Int) ^^^ BitVec.ofInt 64 ((n / 64 : Nat) : Int)).toNat : Int)
  rw [BitVec.toNat_xor, e1, e2]
  simp [IntKind.wrap, IntKind.bits, IntKind.signed]
  omega

theorem pick_far (B : Nat) (p : Nat) (n : Int) (w : World) (hp' : (p : Int) ≤ 1000000000) (hn : 1 ≤ n) (b off : Nat) (len cap : Nat) (hlt : len ≤ p) (hl0 : 0 < len) (c c' : Int) (hc0 : 0 ≤ c) (hc1 : c ≤ 255) (hc0' : 0 ≤ c') (hc1' : c' ≤ 255) (hlen : len ≤ 1000000000)
    (h0 : w.cell? ⟨B, 0, none⟩ = some (.slice (some ⟨b, off, none⟩) len cap))
    (h1 : w.cell? ⟨B, 1, none⟩ = some (.int .i64 p)) (hf : w.frozen? ⟨B, 1, none⟩ = false)
    (hx : w.cell? ⟨b, off + p % len, none⟩ = some (.int .u8 c)) (hx' : w.cell? ⟨b, off + (p * 7 + 3) % len, none⟩ = some (.int .u8 c')) (hxB : b ≠ B) :
    Calls Try.prog 58 #[.pointer (some ⟨B, 0, none⟩), .int .i64 n] w fun e w' => ∃ v k, 0 ≤ v ∧ v < n ∧ e = .returned (.int .i64 v) ∧ w' = (w.setCell ⟨B, 1, none⟩ (.int .i64 (p + 1))).drewN k := by
  have hz : ((len : Int) == 0) = false := by rw [beq_eq_false_iff_ne]; omega
  have hx2 := cell_other (v := .int .i64 (p + 1)) hx hxB
  have hx2' := cell_other (v := .int .i64 (p + 1)) hx' hxB
  clear hx hx'
  have m0 : 0 ≤ (p : Int) % (len : Int) := Int.emod_nonneg _ (by omega)
  have m1 : (p : Int) % (len : Int) < len := Int.emod_lt_of_pos _ (by omega)
  have q0 : 0 ≤ ((p : Int) * 7 + 3) % (len : Int) := Int.emod_nonneg _ (by omega)
  have q1 : ((p : Int) * 7 + 3) % (len : Int) < len := Int.emod_lt_of_pos _ (by omega)
  have d0 : 0 ≤ (p : Int) / (len : Int) := Int.ediv_nonneg (by omega) (by omega)
  have d1 : (p : Int) / (len : Int) ≤ p := Int.ediv_le_self _ (by omega)
  go_enter Try.func58, Try.ntmps58
  go_wp2
  go_quiet (fail)
  go_wp2
  have e0 := xor_pos (c * 131 + c' * 1117 + (p : Int) * 29 + (p : Int) / (len : Int) * 53) (by omega) (by omega)
  go_ret
  exact ⟨_, _, Int.tmod_nonneg _ e0, Int.tmod_lt_of_pos _ (by omega), rfl, rfl⟩

/-- THE READER at block B of a world: its bytes lie below 'base' (or it has none), 'p' calls were made. -/
def Rdr (base B : Nat) (p : Nat) (w : World) : Prop :=
  base ≤ B ∧ B < w.heap.size ∧ w.cell? ⟨B, 1, none⟩ = some (.int .i64 p) ∧ w.frozen? ⟨B, 1, none⟩ = false ∧
  ((∃ a cap, w.cell? ⟨B, 0, none⟩ = some (.slice a 0 cap)) ∨
   ∃ b off len cap, b < base ∧ 0 < len ∧ len ≤ 2000 ∧ w.cell? ⟨B, 0, none⟩ = some (.slice (some ⟨b, off, none⟩) len cap) ∧
     ∀ i, i < len → ∃ c : Int, 0 ≤ c ∧ c ≤ 255 ∧ w.cell? ⟨b, off + i, none⟩ = some (.int .u8 c))

/-- What a call of the reader leaves: nothing but block B has turned. -/
structure Only (B : Nat) (w w' : World) : Prop where
  os : w'.os = w.os
  tape : w'.tape = w.tape
  output : w'.output = w.output
  size : w'.heap.size = w.heap.size
  block : ∀ k, k ≠ B → w'.heap[k]? = w.heap[k]?

theorem Only.refl (B : Nat) (w : World) : Only B w w := ⟨rfl, rfl, rfl, rfl, fun _ _ => rfl⟩
theorem Only.trans {B : Nat} {a b c : World} (h : Only B a b) (k : Only B b c) : Only B a c :=
  ⟨k.os.trans h.os, k.tape.trans h.tape, k.output.trans h.output, k.size.trans h.size, fun i hi => (k.block i hi).trans (h.block i hi)⟩
theorem Only.below {B base : Nat} {w w' : World} (h : Only B w w') (hb : base ≤ B) : Below base w w' :=
  ⟨h.os, h.tape, h.output, Nat.le_of_eq h.size.symm, fun k hk => h.block k (by omega)⟩
theorem Only.cell {B : Nat} {w w' : World} (h : Only B w w') (b o : Nat) (hb : b ≠ B) : w'.cell? ⟨b, o, none⟩ = w.cell? ⟨b, o, none⟩ := World.cell?_of_block (w := w) (h.block b hb)
theorem Only.frozen {B : Nat} {w w' : World} (h : Only B w w') (b o : Nat) (hb : b ≠ B) : w'.frozen? ⟨b, o, none⟩ = w.frozen? ⟨b, o, none⟩ := World.frozen?_of_block (w := w) (h.block b hb)
theorem Only.drewN {B : Nat} {a w : World} (h : Only B a w) (k : Nat) : Only B a (w.drewN k) := ⟨h.os, h.tape, h.output, h.size, h.block⟩
theorem Only.set (B o : Nat) (w : World) (v : Value) : Only B w (w.setCell ⟨B, o, none⟩ v) :=
  ⟨rfl, rfl, rfl, by simp [World.setCell], fun k hk => Below.heap_setCell _ _ _ _ hk⟩

/-- A reader of a world is one of every world that turned no old block but by making new ones. -/
theorem Rdr.keep {base B p : Nat} {w w' : World} (h : Rdr base B p w) (hb : Below w.heap.size w w') : Rdr base B p w' := by
  obtain ⟨h0, h1, h2, h3, h4⟩ := h
  have hB : ∀ o, w'.cell? ⟨B, o, none⟩ = w.cell? ⟨B, o, none⟩ := fun o => hb.cell (p := ⟨B, o, none⟩) h1
  refine ⟨h0, Nat.lt_of_lt_of_le h1 hb.size, by rw [hB]; exact h2, (hb.frozen (p := ⟨B, 1, none⟩) h1).trans h3, ?_⟩
  rcases h4 with ⟨a, cap, h⟩ | ⟨b, off, len, cap, hb', hl, hl', hs, hc⟩
  · exact .inl ⟨a, cap, by rw [hB]; exact h⟩
  · refine .inr ⟨b, off, len, cap, hb', hl, hl', by rw [hB]; exact hs, fun i hi => ?_⟩
    obtain ⟨c, c0, c1, hci⟩ := hc i hi
    exact ⟨c, c0, c1, (hb.cell (p := ⟨b, off + i, none⟩) (by show b < w.heap.size; omega)).trans hci⟩

theorem Rdr.set {base B p : Nat} {w : World} (h : Rdr base B p w) (q : Nat) (k : Nat) : Rdr base B q ((w.setCell ⟨B, 1, none⟩ (.int .i64 q)).drewN k) := by
  obtain ⟨h0, h1, h2, h3, h4⟩ := h
  have e0 : ∀ v, (w.setCell ⟨B, 1, none⟩ v).cell? ⟨B, 0, none⟩ = w.cell? ⟨B, 0, none⟩ := fun v => World.cell?_setCell_other _ _ _ _ (by intro e; cases e)
  refine ⟨h0, by simpa [World.setCell] using h1, World.cell?_setCell_same _ _ _ h2, by simpa using h3, ?_⟩
  rcases h4 with ⟨a, cap, h⟩ | ⟨b, off, len, cap, hb', hl, hl', hs, hc⟩
  · exact .inl ⟨a, cap, (e0 _).trans h⟩
  · refine .inr ⟨b, off, len, cap, hb', hl, hl', (e0 _).trans hs, fun i hi => ?_⟩
    obtain ⟨c, c0, c1, hci⟩ := hc i hi
    exact ⟨c, c0, c1, cell_other hci (by omega)⟩

/-- What a call of pick gives. -/
def Picked (base B p : Nat) (n : Int) (w : World) (e : Ending) (w' : World) : Prop :=
  ∃ v : Int, 0 ≤ v ∧ v < n ∧ e = .returned (.int .i64 v) ∧ Rdr base B (p + 1) w' ∧ Only B w w'

theorem pick_any (base B p : Nat) (n : Int) (w : World) (h : Rdr base B p w) (hp : p ≤ 1000000000) (hn : 1 ≤ n) :
    Calls Try.prog 58 #[.pointer (some ⟨B, 0, none⟩), .int .i64 n] w (Picked base B p n w) := by
  have hr := h
  obtain ⟨h0, h1, h2, h3, h4⟩ := h
  have hc : (p : Int) + 1 = ((p + 1 : Nat) : Int) := rfl
  rcases h4 with ⟨a, cap, h⟩ | ⟨b, off, len, cap, hb', hl, hl', hs, hcs⟩
  · refine (pick_empty B p n w (by omega) (by omega) hn a cap h h2 h3).mono fun e w' ⟨he, hw⟩ => ?_
    subst hw
    exact ⟨0, by omega, by omega, he, hr.set (p + 1) 0, Only.set _ _ _ _⟩
  · by_cases hlt : p < len
    · obtain ⟨c, c0, c1, hx⟩ := hcs p hlt
      refine (pick_near B p n w (by omega) hn b off len cap hlt c c0 c1 (by omega) hs h2 h3 hx (by omega)).mono fun e w' ⟨he, hw⟩ => ?_
      subst hw
      exact ⟨c % n, Int.emod_nonneg _ (by omega), Int.emod_lt_of_pos _ (by omega), he, hr.set (p + 1) 0, Only.set _ _ _ _⟩
    · obtain ⟨c, c0, c1, hx⟩ := hcs (p % len) (Nat.mod_lt _ hl)
      obtain ⟨c', c0', c1', hx'⟩ := hcs ((p * 7 + 3) % len) (Nat.mod_lt _ hl)
      refine (pick_far B p n w (by omega) hn b off len cap (by omega) hl c c' c0 c1 c0' c1' (by omega) hs h2 h3 hx hx' (by omega)).mono fun e w' ⟨v, k, v0, v1, he, hw⟩ => ?_
      subst hw
      exact ⟨v, v0, v1, he, hr.set (p + 1) k, (Only.set _ _ _ _).drewN k⟩

theorem odd_zero (B : Nat) (w : World) :
    Calls Try.prog 61 #[.pointer (some ⟨B, 0, none⟩), .int .i64 0] w fun e w' => e = .returned (.bool false) ∧ w = w' := by
  go_enter Try.func61, Try.ntmps61
  go_wp2
  go_ret
  exact ⟨rfl, rfl⟩

/-- What a call of odd gives. -/
def Odd (base B p : Nat) (w : World) (e : Ending) (w' : World) : Prop :=
  ∃ v : Bool, e = .returned (.bool v) ∧ Rdr base B (p + 1) w' ∧ Only B w w'

theorem odd_any (base B p : Nat) (n : Int) (w : World) (h : Rdr base B p w) (hp : p ≤ 1000000000) (hn : 1 ≤ n) (hn' : n ≤ 1000000000) :
    Calls Try.prog 61 #[.pointer (some ⟨B, 0, none⟩), .int .i64 n] w (Odd base B p w) := by
  go_enter Try.func61, Try.ntmps61
  go_wp2_with (go_at_call 58; refine (pick_any base B p _ _ h hp hn).mono ?_; rintro e w' ⟨v, v0, v1, rfl, hr, ho⟩)
  go_ret
  exact ⟨_, rfl, hr, ho⟩

/-- What is known of a slice of bytes that came in. -/
def IsRow8 (w : World) (a : Option Addr) (len cap : Nat) : Prop :=
  (a = none ∧ len = 0 ∧ cap = 0) ∨
  ∃ x, a = some x ∧ len ≤ cap ∧ cap ≤ maxLen ∧ ∀ i, i < cap → ∃ c : Int, 0 ≤ c ∧ c ≤ 255 ∧ w.cell? (x.add i) = some (.int .u8 c)

/-- What the shell's walk is told of a slice of bytes gives it. -/
theorem row8_of {w : World} {a : Option Addr} {len cap : Nat} {zs : List Int}
    (h : (a = none ∧ len = 0 ∧ cap = 0 ∧ zs = []) ∨ ∃ x, a = some x ∧ len ≤ cap ∧ cap ≤ maxLen ∧ zs.length = cap ∧ (∀ i, i < zs.length → w.cell? (x.add i) = some (.int .u8 (zs.getD i 0))) ∧ ∀ n ∈ zs, (Lit.int .u8 n).wf = true) :
    IsRow8 w a len cap := by
  rcases h with ⟨h1, h2, h3, _⟩ | ⟨x, h1, h2, h3, h4, h5, h6⟩
  · exact .inl ⟨h1, h2, h3⟩
  · refine .inr ⟨x, h1, h2, h3, fun i hi => ?_⟩
    have hb := bounds_u8 (h6 (zs.getD i 0) (by rw [List.getD_eq_getElem?_getD, List.getElem?_eq_getElem (by omega)]; exact List.getElem_mem _))
    exact ⟨zs.getD i 0, hb.1, hb.2, h5 i (by omega)⟩
theorem row8_len {w : World} {a : Option Addr} {len cap : Nat} (h : IsRow8 w a len cap) : len ≤ maxLen := by
  rcases h with ⟨_, h, _⟩ | ⟨_, _, h, h', _⟩
  · unfold maxLen; omega
  · omega

def Opened (w : World) (e : Ending) (w' : World) : Prop :=
  e = .returned (.pointer (some ⟨w.heap.size, 0, none⟩)) ∧ Rdr w.heap.size w.heap.size 0 w' ∧ Below w.heap.size w w' ∧ w'.heap.size = w.heap.size + 1

theorem open_none (a : Option Addr) (cap : Nat) (w : World) :
    Calls Try.prog 50 #[.slice a 0 cap] w fun e w' => e = .returned (.pointer (some ⟨w.heap.size, 0, none⟩)) ∧ w' = w.alloc (.cells #[.slice a 0 cap, .int .i64 0] 80) := by
  go_enter Try.func50, Try.ntmps50
  go_wp2
  go_ret
  exact ⟨rfl, rfl⟩

theorem open_short (x : Addr) (len cap : Nat) (w : World) (hl : len ≤ 2000) :
    Calls Try.prog 50 #[.slice (some x) len cap] w fun e w' => e = .returned (.pointer (some ⟨w.heap.size, 0, none⟩)) ∧ w' = w.alloc (.cells #[.slice (some x) len cap, .int .i64 0] 80) := by
  go_enter Try.func50, Try.ntmps50
  go_wp2
  go_ret
  exact ⟨rfl, rfl⟩

theorem open_long (x : Addr) (len cap : Nat) (w : World) (hl : 2000 < len) (hc : len ≤ cap) (hm : cap ≤ maxLen) :
    Calls Try.prog 50 #[.slice (some x) len cap] w fun e w' => e = .returned (.pointer (some ⟨w.heap.size, 0, none⟩)) ∧ w' = w.alloc (.cells #[.slice (some x) 2000 cap, .int .i64 0] 80) := by
  unfold maxLen at hm
  go_enter Try.func50, Try.ntmps50
  go_wp2
  go_ret
  exact ⟨rfl, rfl⟩

theorem rdr_new (w : World) (a : Option Addr) (len cap : Nat) (hl : len ≤ 2000) (h : len = 0 ∨ ∃ b off, a = some ⟨b, off, none⟩ ∧ b < w.heap.size ∧ ∀ i, i < len → ∃ c : Int, 0 ≤ c ∧ c ≤ 255 ∧ w.cell? ⟨b, off + i, none⟩ = some (.int .u8 c)) :
    Rdr w.heap.size w.heap.size 0 (w.alloc (.cells #[.slice a len cap, .int .i64 0] 80)) := by
  have hb : Below w.heap.size w (w.alloc (.cells #[.slice a len cap, .int .i64 0] 80)) := (Below.refl _ _).alloc (Nat.le_refl _) _
  have e0 : (w.alloc (.cells #[.slice a len cap, .int .i64 0] 80)).cell? ⟨w.heap.size, 0, none⟩ = some (.slice a len cap) := by go_simp
  have e1 : (w.alloc (.cells #[.slice a len cap, .int .i64 0] 80)).cell? ⟨w.heap.size, 1, none⟩ = some (.int .i64 0) := by go_simp
  have e2 : (w.alloc (.cells #[.slice a len cap, .int .i64 0] 80)).frozen? ⟨w.heap.size, 1, none⟩ = false := by go_simp
  refine ⟨Nat.le_refl _, by simp, e1, e2, ?_⟩
  by_cases hz : len = 0
  · subst hz
    exact .inl ⟨a, cap, e0⟩
  · rcases h with h | ⟨b, off, rfl, hbs, hc⟩
    · exact absurd h hz
    · refine .inr ⟨b, off, len, cap, hbs, by omega, hl, e0, fun i hi => ?_⟩
      obtain ⟨c, c0, c1, hci⟩ := hc i hi
      exact ⟨c, c0, c1, (hb.cell (p := ⟨b, off + i, none⟩) hbs).trans hci⟩

theorem row8_at {w : World} {x : Addr} {n : Nat} (hn : 0 < n) (h : ∀ i, i < n → ∃ c : Int, 0 ≤ c ∧ c ≤ 255 ∧ w.cell? (x.add i) = some (.int .u8 c)) :
    ∃ b off, some x = some (⟨b, off, none⟩ : Addr) ∧ b < w.heap.size ∧ ∀ i, i < n → ∃ c : Int, 0 ≤ c ∧ c ≤ 255 ∧ w.cell? ⟨b, off + i, none⟩ = some (.int .u8 c) := by
  obtain ⟨b, off, spot⟩ := x
  obtain ⟨c, c0, c1, hc⟩ := h 0 hn
  have hspot : spot = none := by simpa [Addr.add] using World.cell?_spot hc
  subst hspot
  refine ⟨b, off, rfl, World.block_lt_of_cell? _ _ hc, fun j hj => ?_⟩
  obtain ⟨c, c0, c1, hc⟩ := h j hj
  exact ⟨c, c0, c1, by rw [← Go.WideShapes.add_plain]; exact hc⟩

theorem open_any (a : Option Addr) (len cap : Nat) (w : World) (h : IsRow8 w a len cap) :
    Calls Try.prog 50 #[.slice a len cap] w (Opened w) := by
  by_cases hz : len = 0
  · subst hz
    refine (open_none a cap w).mono fun e w' ⟨he, hw⟩ => ?_
    subst hw
    exact ⟨he, rdr_new w a 0 cap (by omega) (.inl rfl), (Below.refl _ _).alloc (Nat.le_refl _) _, by simp⟩
  · rcases h with ⟨_, h, _⟩ | ⟨x, rfl, hlc, hm, hc⟩
    · exact absurd h hz
    · by_cases hl : len ≤ 2000
      · refine (open_short x len cap w hl).mono fun e w' ⟨he, hw⟩ => ?_
        subst hw
        exact ⟨he, rdr_new w (some x) len cap hl (.inr (row8_at (by omega) fun i hi => hc i (by omega))), (Below.refl _ _).alloc (Nat.le_refl _) _, by simp⟩
      · refine (open_long x len cap w (by omega) hlc hm).mono fun e w' ⟨he, hw⟩ => ?_
        subst hw
        exact ⟨he, rdr_new w (some x) 2000 cap (by omega) (.inr (row8_at (by omega) fun i hi => hc i (by omega))), (Below.refl _ _).alloc (Nat.le_refl _) _, by simp⟩
end Go.Proofs.Ytdmbahpifbidlaa
