/-
  The contract of DrawNumberOf: an owner of bounded length, a kind and a serial; nothing that was there has turned.
-/
import Derived.Test.YtkfpondpepegpaaDoorDr2
namespace Go.Proofs.YtkfpondpepegpaaDoor
open Go.RowKit
set_option linter.unusedVariables false

/-- What a call of l20Owner gives where some are spoiled. -/
def OwnedAny (base B p : Nat) (w : World) (e : Ending) (w' : World) : Prop :=
  ∃ (s : ByteArray) (q : Nat), s.size ≤ 4 ∧ q ≤ p + 4 ∧ e = .returned (.string s) ∧ Rdr base B q w' ∧ Most B w w'

set_option maxHeartbeats 1000000 in
theorem owner_some (base B p : Nat) (n : Int) (w : World) (h : Rdr base B p w) (hp : p ≤ 1000000) (hn : 1 ≤ n) (hn' : n ≤ 1000) :
    Calls Tryd.prog 20 #[.pointer (some ⟨B, 0, none⟩), .int .i64 n] w (OwnedAny base B p w) := by
  go_enter Tryd.func20, Tryd.ntmps20
  go_wp2_with fail
  refine (odd_any base B p n w h (by omega) hn (by omega)).mono ?_
  rintro e w0 ⟨v, rfl, h0, o0⟩
  cases v
  · go_wp2_with fail
    refine (pick_any base B (p + 1) 26 w0 h0 (by omega) (by omega)).mono ?_
    rintro e w1 ⟨a, a0, a1, rfl, h1, o1⟩
    go_wp2_with fail
    refine (pick_any base B (p + 1 + 1) 26 w1 h1 (by omega) (by omega)).mono ?_
    rintro e w2 ⟨b, b0, b1, rfl, h2, o2⟩
    go_wp2_with fail
    refine (pick_any base B (p + 1 + 1 + 1) 26 w2 h2 (by omega) (by omega)).mono ?_
    rintro e w3 ⟨c, c0, c1, rfl, h3, o3⟩
    have hcv := conv_three w3 a b c
    go_wp2_with fail
    go_ret
    exact ⟨owner3 a b c, p + 1 + 1 + 1 + 1, by show 3 ≤ 4; omega, by omega, rfl, h3.keep ((Below.refl _ _).alloc (Nat.le_refl _) _),
      (((o0.trans o1).trans o2).trans o3).most.trans (Most.of_below ((Below.refl _ _).alloc (Nat.le_refl _) _))⟩
  · go_wp2_with fail
    refine (pick_any base B (p + 1) 5 _ (h0.keep ((Below.refl _ _).alloc (Nat.le_refl _) _)) (by omega) (by omega)).mono ?_
    rintro e w3 ⟨u, u0, u1, rfl, h3, o3⟩
    have hB : B < w0.heap.size := h0.2.1
    obtain ⟨s, hc, hs⟩ := new_strings base B [⟨#[]⟩, ⟨#[65, 66]⟩, ⟨#[97, 98, 99]⟩, ⟨#[65, 66, 67, 68]⟩, ⟨#[65, 49, 67]⟩] 4 (by decide) _ w3 o3 hB u u0 u1
    have m3 := (o0.most.trans (Most.of_below ((Below.refl _ _).alloc (Nat.le_refl _) _))).trans o3.most
    go_wp2
    go_ret
    exact ⟨s, p + 1 + 1, hs, by omega, rfl, h3, m3⟩

/-- What DrawNumberOf gives. -/
def DrewParts (w : World) (e : Ending) (w' : World) : Prop :=
  ∃ (o : ByteArray) (k m : Int), o.size ≤ 4 ∧ 0 ≤ k ∧ k ≤ 10 ∧ -1000000 ≤ m ∧ m ≤ 999999 ∧ e = .returned (.tuple #[.string o, .int .i64 k, .int .i64 m]) ∧ Below w.heap.size w w'

set_option maxHeartbeats 1000000 in
theorem drawNumberOf_any (a : Option Addr) (len cap : Nat) (w : World) (h : IsRow8 w a len cap) :
    Calls Tryd.prog 13 #[.slice a len cap] w (DrewParts w) := by
  go_enter Tryd.func13, Tryd.ntmps13
  go_wp2_with fail
  refine (open_any a len cap w h).mono ?_
  rintro e w1 ⟨rfl, hr, hb, hz⟩
  have hN : w.heap.size ≤ w1.heap.size := hb.size
  clear hz h
  go_wp2_with fail
  refine (owner_some w.heap.size w.heap.size 0 9 w1 hr (by omega) (by omega) (by omega)).mono ?_
  rintro e w2 ⟨o, q, hoz, hq, rfl, hr2, m2⟩
  go_wp2_with fail
  refine (pick_any w.heap.size w.heap.size q 3 w2 hr2 (by omega) (by omega)).mono ?_
  rintro e w3 ⟨x, x0, x1, rfl, hr3, o3⟩
  go_wp2_with fail
  refine (pick_any w.heap.size w.heap.size (q + 1) 20 w3 hr3 (by omega) (by omega)).mono ?_
  rintro e w4 ⟨y, y0, y1, rfl, hr4, o4⟩
  go_wp2_with fail
  refine (serial_any w.heap.size w.heap.size (q + 1 + 1) w4 hr4 (by omega)).mono ?_
  rintro e w5 ⟨m, m0, m9, rfl, hr5, m5⟩
  go_wp2_with fail
  refine (pick_any w.heap.size w.heap.size (q + 1 + 1 + 3) 20 w5 hr5 (by omega) (by omega)).mono ?_
  rintro e w6 ⟨z, z0, z1, rfl, hr6, o6⟩
  have mm := (((m2.trans o3.most).trans o4.most).trans m5).trans o6.most
  have hb6 := hb.trans (mm.below (Nat.le_refl _) hN)
  go_wp2_with fail
  go_ret3
  exact ⟨o, x + y / 19 * 3, m - z / 19 * 1000000, hoz, by omega, by omega, by omega, by omega, rfl, hb6⟩
end Go.Proofs.YtkfpondpepegpaaDoor
