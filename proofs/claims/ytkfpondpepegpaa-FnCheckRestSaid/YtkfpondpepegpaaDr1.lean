/-
  Contracts of the draws of chapter 1: each returns a text of bounded length and turns nothing that was there.
-/
import Derived.Test.YtkfpondpepegpaaRd
namespace Go.Proofs.Ytkfpondpepegpaa
open Go.RowKit
set_option linter.unusedVariables false

/-- What a draw of a text gives. -/
def DrewText (n : Nat) (w : World) (e : Ending) (w' : World) : Prop :=
  ∃ s : ByteArray, s.size ≤ n ∧ e = .returned (.string s) ∧ Below w.heap.size w w'

theorem new_strings {w : World} (base B : Nat) (l : List ByteArray) (n : Nat) (hn : ∀ s ∈ l, s.size ≤ n) (T : TypeId) (w3 : World)
    (ho : Only B (w.alloc (.cells ((l.map Value.string).toArray) T)) w3) (hB : B < w.heap.size) (u : Int) (h0 : 0 ≤ u) (h1 : u < l.length) :
    ∃ s : ByteArray, w3.cell? ⟨w.heap.size, u.toNat, none⟩ = some (.string s) ∧ s.size ≤ n := by
  have hu : u.toNat < l.length := by omega
  refine ⟨l[u.toNat], ?_, hn _ (List.getElem_mem hu)⟩
  rw [ho.cell _ _ (by omega), World.cell?_alloc_new]
  simp [hu]

set_option maxHeartbeats 1000000 in
theorem drawCharValue_any (a : Option Addr) (len cap : Nat) (w : World) (h : IsRow8 w a len cap) :
    Calls Try.prog 7 #[.slice a len cap] w (DrewText 4 w) := by
  go_enter Try.func7, Try.ntmps7
  go_wp2_with fail
  refine (open_any a len cap w h).mono ?_
  rintro e w1 ⟨rfl, hr, hb, hz⟩
  have HZ := Lib.hid hz
  clear hz h
  go_wp2_with fail
  refine (pick_any w.heap.size w.heap.size 0 6 w1 hr (by omega) (by omega)).mono ?_
  rintro e w2 ⟨v, v0, v1, rfl, hr2, ho⟩
  have hb2 := hb.trans (ho.below (Nat.le_refl _))
  by_cases hv : v = 0
  · have hv' : (v == 0) = true := by rw [beq_iff_eq]; exact hv
    clear hv
    go_wp2_with fail
    refine (pick_any w.heap.size w.heap.size 1 4 _ (hr2.keep ((Below.refl _ _).alloc (Nat.le_refl _) _)) (by omega) (by omega)).mono ?_
    rintro e w3 ⟨u, u0, u1, rfl, hr3, ho3⟩
    have hB : w.heap.size < w2.heap.size := hr2.2.1
    obtain ⟨s, hc, hs⟩ := new_strings w.heap.size w.heap.size [⟨#[]⟩, ⟨#[65, 65]⟩, ⟨#[97]⟩, ⟨#[32]⟩] 4 (by decide) _ w3 ho3 hB u u0 u1
    have hb3 := (hb2.alloc (Nat.le_of_lt hB) _).trans (ho3.below (Nat.le_refl _))
    go_wp2
    go_ret
    exact ⟨s, hs, rfl, hb3⟩
  · have hv' : (v == 0) = false := by rw [beq_eq_false_iff_ne]; exact hv
    clear hv
    go_wp2_with fail
    refine (pick_any w.heap.size w.heap.size 1 36 _ hr2 (by omega) (by omega)).mono ?_
    rintro e w3 ⟨u, u0, u1, rfl, hr3, ho3⟩
    have hb3 := hb2.trans (ho3.below (Nat.le_refl _))
    go_wp2
    go_ret
    exact ⟨_, by rw [ByteArray.size_extract]; omega, rfl, hb3⟩
end Go.Proofs.Ytkfpondpepegpaa
