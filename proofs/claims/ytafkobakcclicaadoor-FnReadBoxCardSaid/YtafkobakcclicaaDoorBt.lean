/-
  The contract of the model's BoxText.
-/
import Derived.Test.YtafkobakcclicaaDoorBx
import Derived.Test.YtafkobakcclicaaDoorNo
import Derived.Test.YtafkobakcclicaaDoorBtMath
import Derived.Deep.RegionHeld3
namespace Go.Proofs.YtafkobakcclicaaDoor
open Go.RowKit
set_option linter.unusedVariables false

theorem specBoxText_no (i g c p : Int) (d : Bool) (w : World) (h : bxOk i g c p = false) :
    Calls Tryd.prog 8 #[.agg #[.int .i64 i, .int .i64 g, .int .i64 c, .int .i64 p, .bool d]] w fun e w' => e = .returned (.string ⟨#[]⟩) ∧ Below w.heap.size w w' := by
  have HV := Lib.hid fun w => specBoxValid_any i g c p d w
  rw [h] at HV
  go_enter Tryd.func8, Tryd.ntmps8
  go_wp2_with fail
  refine (HV.out _).mono ?_
  rintro e w' ⟨rfl, hb⟩
  go_wp2_with fail
  go_ret
  exact ⟨rfl, ((Below.refl _ _).alloc (Nat.le_refl _) _).trans (hb.mono (by simp))⟩

theorem l1Number_dec (n : Int) (w : World) (h0 : 0 ≤ n) (h1 : n ≤ 999999) :
    Calls Tryd.prog 20 #[.int .i64 n] w fun e w' => e = .returned (.string (decB n)) ∧ Below w.heap.size w w' := l1Number_six n w h0 h1

/-- The box's cells in a world, and that nothing that was there has turned. -/
def HasBox (B : Nat) (i g c p : Int) (d : Bool) (w w' : World) : Prop :=
  w'.cell? ⟨B, 0, none⟩ = some (.int .i64 i) ∧ w'.cell? ⟨B, 1, none⟩ = some (.int .i64 g) ∧ w'.cell? ⟨B, 2, none⟩ = some (.int .i64 c) ∧ w'.cell? ⟨B, 3, none⟩ = some (.int .i64 p) ∧ w'.cell? ⟨B, 4, none⟩ = some (.bool d) ∧ B < w'.heap.size ∧ Below w.heap.size w w'
theorem HasBox.keep {B : Nat} {i g c p : Int} {d : Bool} {w w1 w2 : World} (h : HasBox B i g c p d w w1) (hb : Below w1.heap.size w1 w2) : HasBox B i g c p d w w2 := by
  obtain ⟨h0, h1, h2, h3, h4, h5, h6⟩ := h
  have k : ∀ o, w2.cell? ⟨B, o, none⟩ = w1.cell? ⟨B, o, none⟩ := fun o => hb.cell (p := ⟨B, o, none⟩) h5
  exact ⟨by rw [k]; exact h0, by rw [k]; exact h1, by rw [k]; exact h2, by rw [k]; exact h3, by rw [k]; exact h4, Nat.lt_of_lt_of_le h5 hb.size, h6.trans (hb.mono h6.size)⟩

/-- What the region's worlds bear: the four cells that it loads, and the rest. -/
theorem HasBox.bears {B : Nat} {i g c p : Int} {d : Bool} {w w1 : World} (h : HasBox B i g c p d w w1) :
    w1.cell? ⟨B, 0, none⟩ = some (.int .i64 i) ∧ w1.cell? ⟨B, 1, none⟩ = some (.int .i64 g) ∧ w1.cell? ⟨B, 2, none⟩ = some (.int .i64 c) ∧ w1.cell? ⟨B, 3, none⟩ = some (.int .i64 p) ∧ HasBox B i g c p d w w1 :=
  ⟨h.1, h.2.1, h.2.2.1, h.2.2.2.1, h⟩
theorem HasBox.bears_on {B : Nat} {i g c p : Int} {d : Bool} {w w1 w2 : World} (hb : Below w1.heap.size w1 w2)
    (h : w1.cell? ⟨B, 0, none⟩ = some (.int .i64 i) ∧ w1.cell? ⟨B, 1, none⟩ = some (.int .i64 g) ∧ w1.cell? ⟨B, 2, none⟩ = some (.int .i64 c) ∧ w1.cell? ⟨B, 3, none⟩ = some (.int .i64 p) ∧ HasBox B i g c p d w w1) :
    w2.cell? ⟨B, 0, none⟩ = some (.int .i64 i) ∧ w2.cell? ⟨B, 1, none⟩ = some (.int .i64 g) ∧ w2.cell? ⟨B, 2, none⟩ = some (.int .i64 c) ∧ w2.cell? ⟨B, 3, none⟩ = some (.int .i64 p) ∧ HasBox B i g c p d w w2 := (h.2.2.2.2.keep hb).bears
theorem HasBox.drew {B : Nat} {i g c p : Int} {d : Bool} {w w1 : World} (h : HasBox B i g c p d w w1) : HasBox B i g c p d w w1.drew := h.keep (Below.refl _ _).drew

set_option maxHeartbeats 1000000 in
theorem specBoxText_yes (i g c p : Int) (d : Bool) (w : World) (h : bxOk i g c p = true) :
    Calls Tryd.prog 8 #[.agg #[.int .i64 i, .int .i64 g, .int .i64 c, .int .i64 p, .bool d]] w fun e w' => e = .returned (.string (btS i g c p d)) ∧ Below w.heap.size w w' := by
  have HV := Lib.hid fun w => specBoxValid_any i g c p d w
  rw [h] at HV
  obtain ⟨i0, i1, g0, g1, c0, c1, p0, p1⟩ := bxOk_yes h
  obtain ⟨a1, a2, a3, a4, a5, a6, a7⟩ := bt_adds Tryd.prog i1 g1 c1 p1
  have NI := Lib.hid fun w => l1Number_dec i w (by omega) (by omega)
  have NG := Lib.hid fun w => l1Number_dec g w (by omega) (by omega)
  have NC := Lib.hid fun w => l1Number_dec c w (by omega) (by omega)
  have NP := Lib.hid fun w => l1Number_dec p w (by omega) (by omega)
  clear h i0 i1 g0 g1 c0 c1 p0 p1
  go_enter Tryd.func8, Tryd.ntmps8
  go_wp2_with fail
  refine (HV.out _).mono ?_
  rintro e w1 ⟨rfl, hb⟩
  have hbx : HasBox w.heap.size i g c p d w w1 := by
    have k : ∀ o, w1.cell? ⟨w.heap.size, o, none⟩ = (w.alloc (.cells #[.int .i64 i, .int .i64 g, .int .i64 c, .int .i64 p, .bool d] 24)).cell? ⟨w.heap.size, o, none⟩ := fun o => hb.cell (p := ⟨w.heap.size, o, none⟩) (by simp)
    refine ⟨by rw [k, World.cell?_alloc_new]; rfl, by rw [k, World.cell?_alloc_new]; rfl, by rw [k, World.cell?_alloc_new]; rfl, by rw [k, World.cell?_alloc_new]; rfl, by rw [k, World.cell?_alloc_new]; rfl, ?_, ((Below.refl _ _).alloc (Nat.le_refl _) _).trans (hb.mono (by simp))⟩
    have := hb.size; simp at this; omega
  clear hb
  generalize hB : w.heap.size = B at hbx
  go_wp2_with fail
  have hbd := hbx.drew
  have hbb := hbd.bears
  go_region_held3 (fun w' => w'.cell? ⟨B, 0, none⟩ = some (.int .i64 i) ∧ w'.cell? ⟨B, 1, none⟩ = some (.int .i64 g) ∧ w'.cell? ⟨B, 2, none⟩ = some (.int .i64 c) ∧ w'.cell? ⟨B, 3, none⟩ = some (.int .i64 p) ∧ HasBox B i g c p d w w')
    (first | exact hbd.bears | (refine HasBox.bears_on ‹_› ‹_›))
    (first | (go_at_call 20; ((with_reducible refine (NI.out _).mono ?_); rintro e w2 ⟨rfl, hb⟩)) | (go_at_call 20; ((with_reducible refine (NG.out _).mono ?_); rintro e w2 ⟨rfl, hb⟩)) | (go_at_call 20; ((with_reducible refine (NC.out _).mono ?_); rintro e w2 ⟨rfl, hb⟩)) | (go_at_call 20; ((with_reducible refine (NP.out _).mono ?_); rintro e w2 ⟨rfl, hb⟩)))
  rename_i hheld
  have hx := hheld.2.2.2.2
  clear hheld
  cases d
  · have h4 := hx.2.2.2.2.1
    have hbel := hx.2.2.2.2.2.2
    go_wp2
    go_ret
    exact ⟨rfl, by subst hB; exact hbel⟩
  · have h4 := hx.2.2.2.2.1
    have hbel := hx.2.2.2.2.2.2
    go_wp2
    go_ret
    exact ⟨rfl, by subst hB; exact hbel⟩

/-- The text of a box: none if it is not valid. -/
def bxText (i g c p : Int) (d : Bool) : ByteArray := if bxOk i g c p = true then btS i g c p d else ⟨#[]⟩
theorem specBoxText_any (i g c p : Int) (d : Bool) (w : World) :
    Calls Tryd.prog 8 #[.agg #[.int .i64 i, .int .i64 g, .int .i64 c, .int .i64 p, .bool d]] w fun e w' => e = .returned (.string (bxText i g c p d)) ∧ Below w.heap.size w w' := by
  unfold bxText
  by_cases h : bxOk i g c p = true
  · rw [if_pos h]; exact specBoxText_yes i g c p d w h
  · rw [if_neg h]; exact specBoxText_no i g c p d w (by simpa using h)
end Go.Proofs.YtafkobakcclicaaDoor
