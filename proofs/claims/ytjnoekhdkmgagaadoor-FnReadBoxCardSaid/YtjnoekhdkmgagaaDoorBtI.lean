/-
  The contract of the program's BoxText, in every world that holds the library's table of powers of ten.
-/
import Derived.Test.YtjnoekhdkmgagaaDoorTab
import Derived.Test.YtjnoekhdkmgagaaDoorGNo
import Derived.Test.YtjnoekhdkmgagaaDoorGBl
namespace Go.Proofs.YtjnoekhdkmgagaaDoor
open Go.RowKit
set_option linter.unusedVariables false

theorem implBoxText_no (i g c p : Int) (d : Bool) (w : World) (h : bxOk i g c p = false) :
    Calls Tryd.prog 7 #[.agg #[.int .i64 i, .int .i64 g, .int .i64 c, .int .i64 p, .bool d]] w fun e w' => e = .returned (.string ⟨#[]⟩) ∧ Below w.heap.size w w' := by
  have HV := Lib.hid fun w => implBoxValid_any i g c p d w
  rw [h] at HV
  go_enter Tryd.func7, Tryd.ntmps7
  go_wp2_with fail
  refine (HV.out _).mono ?_
  rintro e w' ⟨rfl, hb⟩
  go_wp2_with fail
  go_ret
  exact ⟨rfl, ((Below.refl _ _).alloc (Nat.le_refl _) _).trans (hb.mono (by simp))⟩

set_option maxHeartbeats 1000000 in
theorem implBoxText_yes (i g c p : Int) (d : Bool) (w : World) (h : bxOk i g c p = true) (ht : Tab w) :
    Calls Tryd.prog 7 #[.agg #[.int .i64 i, .int .i64 g, .int .i64 c, .int .i64 p, .bool d]] w fun e w' => e = .returned (.string (btS i g c p d)) ∧ Below w.heap.size w w' := by
  have HV := Lib.hid fun w => implBoxValid_any i g c p d w
  rw [h] at HV
  obtain ⟨i0, i1, g0, g1, c0, c1, p0, p1⟩ := bxOk_yes h
  obtain ⟨a1, a2, a3, a4, a5, a6, a7⟩ := bt_adds Tryd.prog i1 g1 c1 p1
  have NI := Lib.hid fun w h => itoa_dec i w (by omega) (by omega) h
  have NG := Lib.hid fun w h => itoa_dec g w (by omega) (by omega) h
  have NC := Lib.hid fun w h => itoa_dec c w (by omega) (by omega) h
  have NP := Lib.hid fun w h => itoa_dec p w (by omega) (by omega) h
  have HT := Lib.hid ht
  clear h i0 i1 g0 g1 c0 c1 p0 p1 ht
  go_enter Tryd.func7, Tryd.ntmps7
  go_wp2_with fail
  refine (HV.out _).mono ?_
  rintro e w1 ⟨rfl, hb⟩
  have hbx : HasBox w.heap.size i g c p d w w1 := by
    have k : ∀ o, w1.cell? ⟨w.heap.size, o, none⟩ = (w.alloc (.cells #[.int .i64 i, .int .i64 g, .int .i64 c, .int .i64 p, .bool d] 24)).cell? ⟨w.heap.size, o, none⟩ := fun o => hb.cell (p := ⟨w.heap.size, o, none⟩) (by simp)
    refine ⟨by rw [k, World.cell?_alloc_new]; rfl, by rw [k, World.cell?_alloc_new]; rfl, by rw [k, World.cell?_alloc_new]; rfl, by rw [k, World.cell?_alloc_new]; rfl, by rw [k, World.cell?_alloc_new]; rfl, ?_, ((Below.refl _ _).alloc (Nat.le_refl _) _).trans (hb.mono (by simp))⟩
    have := hb.size; simp at this; omega
  clear hb
  have HTB := Lib.hid fun w' (h : w'.cell? ⟨w.heap.size, 0, none⟩ = some (.int .i64 i) ∧ w'.cell? ⟨w.heap.size, 1, none⟩ = some (.int .i64 g) ∧ w'.cell? ⟨w.heap.size, 2, none⟩ = some (.int .i64 c) ∧ w'.cell? ⟨w.heap.size, 3, none⟩ = some (.int .i64 p) ∧ HasBox w.heap.size i g c p d w w') => HT.out.keep h.2.2.2.2.2.2.2.2.2.2
  have HBB := Lib.hid fun w' (h : HasBox w.heap.size i g c p d w w') => h.2.2.2.2.2.2
  generalize hB : w.heap.size = B at hbx HTB HBB
  have HBE := Lib.hid hB
  clear hB
  go_wp2_with fail
  have hbd := hbx.drew
  have hbb := hbd.bears
  go_region_held3 (fun w' => w'.cell? ⟨B, 0, none⟩ = some (.int .i64 i) ∧ w'.cell? ⟨B, 1, none⟩ = some (.int .i64 g) ∧ w'.cell? ⟨B, 2, none⟩ = some (.int .i64 c) ∧ w'.cell? ⟨B, 3, none⟩ = some (.int .i64 p) ∧ HasBox B i g c p d w w')
    (first | exact hbd.bears | (refine HasBox.bears_on ‹_› ‹_›))
    (first | (go_at_call 18; ((with_reducible refine (NI.out _ (HTB.out _ ‹_›)).mono ?_); rintro e w2 ⟨rfl, hb⟩)) | (go_at_call 18; ((with_reducible refine (NG.out _ (HTB.out _ ‹_›)).mono ?_); rintro e w2 ⟨rfl, hb⟩)) | (go_at_call 18; ((with_reducible refine (NC.out _ (HTB.out _ ‹_›)).mono ?_); rintro e w2 ⟨rfl, hb⟩)) | (go_at_call 18; ((with_reducible refine (NP.out _ (HTB.out _ ‹_›)).mono ?_); rintro e w2 ⟨rfl, hb⟩)))
  rename_i hheld
  have hx := hheld.2.2.2.2
  clear hheld
  have h4 := hx.2.2.2.2.1
  have hbel := HBB.out _ hx
  cases d
  · go_wp2
    go_ret
    exact ⟨rfl, by rw [HBE.out]; exact hbel⟩
  · go_wp2
    go_ret
    exact ⟨rfl, by rw [HBE.out]; exact hbel⟩

theorem implBoxText_any (i g c p : Int) (d : Bool) (w : World) (ht : Tab w) :
    Calls Tryd.prog 7 #[.agg #[.int .i64 i, .int .i64 g, .int .i64 c, .int .i64 p, .bool d]] w fun e w' => e = .returned (.string (bxText i g c p d)) ∧ Below w.heap.size w w' := by
  unfold bxText
  by_cases h : bxOk i g c p = true
  · rw [if_pos h]; exact implBoxText_yes i g c p d w h ht
  · rw [if_neg h]; exact implBoxText_no i g c p d w (by simpa using h)
end Go.Proofs.YtjnoekhdkmgagaaDoor
