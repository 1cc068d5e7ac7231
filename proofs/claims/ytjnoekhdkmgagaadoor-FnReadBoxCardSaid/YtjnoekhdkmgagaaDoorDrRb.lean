/-
  The draw of a text that is often a box's: DrawReadBox.
-/
import Derived.Test.YtjnoekhdkmgagaaDoorDrB0
import Derived.Test.YtjnoekhdkmgagaaDoorDr1
import Derived.Test.YtjnoekhdkmgagaaDoorGNo
import Derived.IntWalk
import Derived.Deep.RegionWith
import Derived.Deep.Draws
namespace Go.Proofs.YtjnoekhdkmgagaaDoor
open Go.RowKit
set_option linter.unusedVariables false

abbrev fiveTexts : List ByteArray := [⟨#[]⟩, ⟨#[48]⟩, ⟨#[99]⟩, ⟨#[47]⟩, ⟨#[57]⟩]
theorem five_new (u : Int) (h0 : 0 ≤ u) (h1 : u < 5) (T : TypeId) : ∃ S : ByteArray, S.size ≤ 1 ∧
    (∀ w : World, (w.alloc (.cells #[.string ⟨#[]⟩, .string ⟨#[48]⟩, .string ⟨#[99]⟩, .string ⟨#[47]⟩, .string ⟨#[57]⟩] T)).cell? ⟨w.heap.size, u.toNat, none⟩ = some (.string S)) := by
  have hu : u.toNat < 5 := by omega
  have hl : u.toNat < fiveTexts.length := hu
  refine ⟨fiveTexts[u.toNat]?.getD ⟨#[]⟩, ?_, fun w => ?_⟩
  · rw [List.getElem?_eq_getElem hl, Option.getD_some]
    exact (show ∀ s ∈ fiveTexts, s.size ≤ 1 by decide) _ (List.getElem_mem hl)
  · rw [World.cell?_alloc_new, List.getElem?_eq_getElem hl, Option.getD_some]
    have : (#[Value.string ⟨#[]⟩, .string ⟨#[48]⟩, .string ⟨#[99]⟩, .string ⟨#[47]⟩, .string ⟨#[57]⟩] : Array Value) = (fiveTexts.map Value.string).toArray := rfl
    rw [this, List.getElem?_toArray, List.getElem?_map, List.getElem?_eq_getElem hl]
    rfl
theorem ext_add5 (s S : ByteArray) (k : Int) (h0 : 0 ≤ k) (h1 : k < s.size) (hs : s.size ≤ 1000000) (hS : S.size ≤ 1) :
    (∀ w, (Op.stringOp .add (s.extract 0 k.toNat) S).run Tryd.prog w = .ok (.string (s.extract 0 k.toNat ++ S)) w) ∧
    (∀ w, (Op.stringOp .add (s.extract 0 k.toNat ++ S) (s.extract (k.toNat + 1) s.size)).run Tryd.prog w = .ok (.string (s.extract 0 k.toNat ++ S ++ s.extract (k.toNat + 1) s.size)) w) ∧
    (s.extract 0 k.toNat ++ S ++ s.extract (k.toNat + 1) s.size).size ≤ s.size := by
  refine ⟨fun w => run_string_add w _ _ (by rw [ByteArray.size_extract]; omega) (by omega), fun w => run_string_add w _ _ (by rw [ByteArray.size_append, ByteArray.size_extract]; omega) (by rw [ByteArray.size_extract]; omega), ?_⟩
  rw [ByteArray.size_append, ByteArray.size_append, ByteArray.size_extract, ByteArray.size_extract]
  omega
theorem fiveA {base B : Nat} {w w1 w2 : World} (hbase : base ≤ w.heap.size) (hB : base ≤ B) (o1 : Below base w w1) (o2 : Only B w1.drew w2) (o : Obj) : Below base w (w2.alloc o) := by
  have h2 : Below base w1 w2 := ⟨o2.os, o2.tape, o2.output, Nat.le_of_eq o2.size.symm, fun k hk => o2.block k (by omega)⟩
  have h3 := o1.trans h2
  exact h3.alloc (Nat.le_trans hbase h3.size) o
theorem fiveB {base B : Nat} {w w1 w2 : World} {o : Obj} (hbase : base ≤ w.heap.size) (hB : base ≤ B) (o1 : Below base w w1) (o2 : Only B (w1.alloc o).drew w2) : Below base w w2 := by
  have h1 := o1.alloc (Nat.le_trans hbase o1.size) o
  exact h1.trans ⟨o2.os, o2.tape, o2.output, Nat.le_of_eq o2.size.symm, fun k hk => o2.block k (by omega)⟩
theorem bt_size {i g c p : Int} {d : Bool} (hi : i ≤ 999) (hg : g ≤ 30) (hc : c ≤ 3) (hp : p ≤ 6) : (btS i g c p d).size ≤ 100 := by
  have a := decB_size (n := i) (by omega)
  have b := decB_size (n := g) (by omega)
  have e := decB_size (n := c) (by omega)
  have f := decB_size (n := p) (by omega)
  have z1 : (⟨#[58]⟩ : ByteArray).size = 1 := rfl
  have z2 : (⟨#[47]⟩ : ByteArray).size = 1 := rfl
  have z3 : (⟨#[99]⟩ : ByteArray).size = 1 := rfl
  cases d
  · show (bt6 i g c p).size ≤ 100
    simp only [bt6, bt5, bt4, bt3, bt2, bt1, ByteArray.size_append, z1, z2]
    omega
  · show (bt6 i g c p ++ ⟨#[99]⟩).size ≤ 100
    simp only [bt6, bt5, bt4, bt3, bt2, bt1, ByteArray.size_append, z1, z2, z3]
    omega
theorem bt_pos (i g c p : Int) (d : Bool) : 0 < (btS i g c p d).size := by
  have z1 : (⟨#[58]⟩ : ByteArray).size = 1 := rfl
  cases d
  · show 0 < (bt6 i g c p).size
    simp only [bt6, bt5, bt4, bt3, bt2, bt1, ByteArray.size_append, z1]
    omega
  · show 0 < (bt6 i g c p ++ ⟨#[99]⟩).size
    simp only [bt6, bt5, bt4, bt3, bt2, bt1, ByteArray.size_append, z1]
    omega

set_option maxHeartbeats 4000000 in
theorem drawReadBox_any (a : Option Addr) (len cap : Nat) (w : World) (h : IsRow8 w a len cap) :
    Calls Tryd.prog 12 #[.slice a len cap] w (DrewText 100 w) := by
  go_enter Tryd.func12, Tryd.ntmps12
  go_wp2_with fail
  refine (open_any a len cap _ h).mono ?_
  rintro e w1 ⟨rfl, hr, hb, hz1⟩
  clear h
  go_wp2_with fail
  refine (pick_any _ _ 0 200 w1 hr (by omega) (by omega)).mono ?_
  rintro e w2 ⟨x, x0, x1, rfl, hr2, ho⟩
  have b2 := hb.trans (ho.below (Nat.le_refl _))
  clear hr ho hb
  go_wp2_with fail
  refine (l20Box_ok _ _ 1 (1 + x) w2 hr2 (by omega) (by omega) (by omega)).mono ?_
  rintro e w3 ⟨b, q, hq, hok, rfl, hr3, hm⟩
  have b3 : Below w.heap.size w w3 := b2.trans ⟨hm.os, hm.tape, hm.output, hm.size, fun k hk => hm.block k (by omega) (by have := hr2.2.1; omega)⟩
  have hk := bxOk_yes hok
  have hT := specBoxText_yes b.i b.g b.c b.p b.d
  have hsz := bt_size (i := b.i) (g := b.g) (c := b.c) (p := b.p) (d := b.d) (by omega) (by omega) (by omega) (by omega)
  have hps := bt_pos b.i b.g b.c b.p b.d
  have HT := Lib.hid fun w => hT w hok
  clear hr2 hm b2 hT hok hk
  generalize btS b.i b.g b.c b.p b.d = s at hsz hps HT
  go_wp2_with fail
  refine (HT.out _).mono ?_
  rintro e w4 ⟨rfl, b4⟩
  have hr4 := hr3.keep b4
  have bb4 := b3.trans (b4.mono b3.size)
  clear hr3 b3 b4 HT
  go_wp2_with fail
  refine (pick_any _ _ q 3 w4 hr4 (by omega) (by omega)).mono ?_
  rintro e w5 ⟨y, y0, y1, rfl, hr5, ho5⟩
  have bb5 := bb4.trans (ho5.below (Nat.le_refl _))
  clear hr4 bb4 ho5
  by_cases hy : y = 0
  · have hy' : (y == 0) = true := by rw [beq_iff_eq]; exact hy
    clear hy
    go_wp2_with fail
    refine (pick_any _ _ (q + 1) s.size w5 hr5 (by omega) (by omega)).mono ?_
    rintro e w6 ⟨k, k0, k1, rfl, hr6, ho6⟩
    have bb6 := bb5.trans (ho6.below (Nat.le_refl _))
    have hBs : w.heap.size < w6.heap.size := hr6.2.1
    have H1 := Lib.hid hr6
    have HP := Lib.hid fun w2 (hr : Rdr w.heap.size w.heap.size (q + 1 + 1) w2) => pick_any w.heap.size w.heap.size (q + 1 + 1) 5 w2 hr (by omega) (by omega)
    have hk3 : (0 : Int) ≤ k + 1 := by omega
    have hk4 : k + 1 ≤ (s.size : Int) := by omega
    have hk5 : k ≤ (s.size : Int) := by omega
    have hk2 : (k + 1).toNat = k.toNat + 1 := by omega
    have hk1 : IntKind.i64.wrap (k + 1) = k + 1 := IntWalk.i64_in _ (by omega)
    clear hr5 ho6 bb5 hr6
    generalize hB : w.heap.size = B at hBs H1 HP
    have HBE := Lib.hid hB
    clear hB
    go_wp2_with fail
    go_region_with (first
      | (go_at_call 17; ((with_reducible refine (HP.out w6.drew (H1.out.keep (Below.refl _ _).drew)).mono ?_); rintro e w7 ⟨u, u0, u1, rfl, h7, o7⟩; obtain ⟨S, hS, hcell⟩ := five_new u u0 u1 9; obtain ⟨a1, a2, a3⟩ := ext_add5 s S k k0 k1 (by omega) hS))
      | (go_at_call 17; ((with_reducible refine (HP.out (w6.alloc _).drew (H1.out.keep ((Below.refl _ _).alloc (Nat.le_refl _) _).drew)).mono ?_); rintro e w7 ⟨u, u0, u1, rfl, h7, o7⟩; obtain ⟨S, hS, hcell⟩ := five_new u u0 u1 9; obtain ⟨a1, a2, a3⟩ := ext_add5 s S k k0 k1 (by omega) hS; have hc := (o7.cell w6.heap.size u.toNat (by omega)).trans (hcell w6))))
    all_goals
      go_wp2
      go_ret
    all_goals first
      | exact ⟨_, Nat.le_trans a3 hsz, rfl, fiveA (Nat.le_refl _) (Nat.le_of_eq HBE.out) bb6 o7 _⟩
      | exact ⟨_, Nat.le_trans a3 hsz, rfl, fiveB (Nat.le_refl _) (Nat.le_of_eq HBE.out) bb6 o7⟩
  · have hy' : (y == 0) = false := by rw [beq_eq_false_iff_ne]; exact hy
    clear hy
    go_wp2_with fail
    go_ret
    exact ⟨s, hsz, rfl, bb5⟩
end Go.Proofs.YtjnoekhdkmgagaaDoor
