/-
  The program's table of distances in a world; ApartNeed, which reads it.
-/
import Derived.Test.YtlccmgdmfchmnaaDoorDaMath
import Derived.Test.YtlccmgdmfchmnaaDoorGBl
import Derived.Test.YtlccmgdmfchmnaaDoorTbl
namespace Go.Proofs.YtlccmgdmfchmnaaDoor
open Go.RowKit
set_option linter.unusedVariables false

def tabA : List Int := [0, 0, 0, 0, 0, 0, 1, 2, 0, 1, 0, 3, 0, 2, 3, 1]
/-- The program's table of distances stands in a world. -/
def TabA (w : World) : Prop := w.var? Tryd.prog "loop.example/containerport/impl.apartNeeds" = some (tabA.map (.int .i64)).toArray
theorem TabA.keep {w w' : World} (h : TabA w) (hb : Below w.heap.size w w') : TabA w' := keepVar hb h
theorem gTabA : Tryd.prog.globalNamed "loop.example/containerport/impl.apartNeeds" = some 0 := by kernel_rfl
theorem TabA.cell {w : World} (h : TabA w) (i : Nat) (n : Int) (hn : tabA[i]? = some n) : w.cell? ⟨0, i, none⟩ = some (.int .i64 n) := by
  have := World.var?_cell gTabA h i
  rw [this]
  simp [hn]
set_option maxRecDepth 10000 in
set_option maxHeartbeats 4000000 in
theorem implApartNeed_any (a b : Int) (w : World) (hT : TabA w) :
    Calls Tryd.prog 10 #[.int .i64 a, .int .i64 b] w fun e w' => e = .returned (.int .i64 (needC a b)) ∧ Below w.heap.size w w' := by
  have HB := Lib.hid (Below.refl w.heap.size w)
  by_cases ha : 0 ≤ a ∧ a ≤ 3
  · by_cases hb : 0 ≤ b ∧ b ≤ 3
    · have hx : a = 0 ∨ a = 1 ∨ a = 2 ∨ a = 3 := by omega
      have hy : b = 0 ∨ b = 1 ∨ b = 2 ∨ b = 3 := by omega
      rcases hx with rfl | rfl | rfl | rfl <;> rcases hy with rfl | rfl | rfl | rfl
      · have hc := hT.cell 0 0 rfl
        have hr := Lib.hid (show needC 0 0 = 0 from by unfold needC; decide)
        clear hT
        go_enter Tryd.func10, Tryd.ntmps10
        go_wp2_with fail
        refine (implClassValid_yes 0 _ (by omega)).mono ?_
        rintro e w' ⟨rfl, rfl⟩
        go_wp2_with fail
        refine (implClassValid_yes 0 _ (by omega)).mono ?_
        rintro e w' ⟨rfl, rfl⟩
        go_wp2_with fail
        go_ret
        exact ⟨by rw [hr.out]; rfl, HB.out⟩
      · have hc := hT.cell 1 0 rfl
        have hr := Lib.hid (show needC 0 1 = 0 from by unfold needC; decide)
        clear hT
        go_enter Tryd.func10, Tryd.ntmps10
        go_wp2_with fail
        refine (implClassValid_yes 0 _ (by omega)).mono ?_
        rintro e w' ⟨rfl, rfl⟩
        go_wp2_with fail
        refine (implClassValid_yes 1 _ (by omega)).mono ?_
        rintro e w' ⟨rfl, rfl⟩
        go_wp2_with fail
        go_ret
        exact ⟨by rw [hr.out]; rfl, HB.out⟩
      · have hc := hT.cell 2 0 rfl
        have hr := Lib.hid (show needC 0 2 = 0 from by unfold needC; decide)
        clear hT
        go_enter Tryd.func10, Tryd.ntmps10
        go_wp2_with fail
        refine (implClassValid_yes 0 _ (by omega)).mono ?_
        rintro e w' ⟨rfl, rfl⟩
        go_wp2_with fail
        refine (implClassValid_yes 2 _ (by omega)).mono ?_
        rintro e w' ⟨rfl, rfl⟩
        go_wp2_with fail
        go_ret
        exact ⟨by rw [hr.out]; rfl, HB.out⟩
      · have hc := hT.cell 3 0 rfl
        have hr := Lib.hid (show needC 0 3 = 0 from by unfold needC; decide)
        clear hT
        go_enter Tryd.func10, Tryd.ntmps10
        go_wp2_with fail
        refine (implClassValid_yes 0 _ (by omega)).mono ?_
        rintro e w' ⟨rfl, rfl⟩
        go_wp2_with fail
        refine (implClassValid_yes 3 _ (by omega)).mono ?_
        rintro e w' ⟨rfl, rfl⟩
        go_wp2_with fail
        go_ret
        exact ⟨by rw [hr.out]; rfl, HB.out⟩
      · have hc := hT.cell 4 0 rfl
        have hr := Lib.hid (show needC 1 0 = 0 from by unfold needC; decide)
        clear hT
        go_enter Tryd.func10, Tryd.ntmps10
        go_wp2_with fail
        refine (implClassValid_yes 1 _ (by omega)).mono ?_
        rintro e w' ⟨rfl, rfl⟩
        go_wp2_with fail
        refine (implClassValid_yes 0 _ (by omega)).mono ?_
        rintro e w' ⟨rfl, rfl⟩
        go_wp2_with fail
        go_ret
        exact ⟨by rw [hr.out]; rfl, HB.out⟩
      · have hc := hT.cell 5 0 rfl
        have hr := Lib.hid (show needC 1 1 = 0 from by unfold needC; decide)
        clear hT
        go_enter Tryd.func10, Tryd.ntmps10
        go_wp2_with fail
        refine (implClassValid_yes 1 _ (by omega)).mono ?_
        rintro e w' ⟨rfl, rfl⟩
        go_wp2_with fail
        refine (implClassValid_yes 1 _ (by omega)).mono ?_
        rintro e w' ⟨rfl, rfl⟩
        go_wp2_with fail
        go_ret
        exact ⟨by rw [hr.out]; rfl, HB.out⟩
      · have hc := hT.cell 6 1 rfl
        have hr := Lib.hid (show needC 1 2 = 1 from by unfold needC; decide)
        clear hT
        go_enter Tryd.func10, Tryd.ntmps10
        go_wp2_with fail
        refine (implClassValid_yes 1 _ (by omega)).mono ?_
        rintro e w' ⟨rfl, rfl⟩
        go_wp2_with fail
        refine (implClassValid_yes 2 _ (by omega)).mono ?_
        rintro e w' ⟨rfl, rfl⟩
        go_wp2_with fail
        go_ret
        exact ⟨by rw [hr.out]; rfl, HB.out⟩
      · have hc := hT.cell 7 2 rfl
        have hr := Lib.hid (show needC 1 3 = 2 from by unfold needC; decide)
        clear hT
        go_enter Tryd.func10, Tryd.ntmps10
        go_wp2_with fail
        refine (implClassValid_yes 1 _ (by omega)).mono ?_
        rintro e w' ⟨rfl, rfl⟩
        go_wp2_with fail
        refine (implClassValid_yes 3 _ (by omega)).mono ?_
        rintro e w' ⟨rfl, rfl⟩
        go_wp2_with fail
        go_ret
        exact ⟨by rw [hr.out]; rfl, HB.out⟩
      · have hc := hT.cell 8 0 rfl
        have hr := Lib.hid (show needC 2 0 = 0 from by unfold needC; decide)
        clear hT
        go_enter Tryd.func10, Tryd.ntmps10
        go_wp2_with fail
        refine (implClassValid_yes 2 _ (by omega)).mono ?_
        rintro e w' ⟨rfl, rfl⟩
        go_wp2_with fail
        refine (implClassValid_yes 0 _ (by omega)).mono ?_
        rintro e w' ⟨rfl, rfl⟩
        go_wp2_with fail
        go_ret
        exact ⟨by rw [hr.out]; rfl, HB.out⟩
      · have hc := hT.cell 9 1 rfl
        have hr := Lib.hid (show needC 2 1 = 1 from by unfold needC; decide)
        clear hT
        go_enter Tryd.func10, Tryd.ntmps10
        go_wp2_with fail
        refine (implClassValid_yes 2 _ (by omega)).mono ?_
        rintro e w' ⟨rfl, rfl⟩
        go_wp2_with fail
        refine (implClassValid_yes 1 _ (by omega)).mono ?_
        rintro e w' ⟨rfl, rfl⟩
        go_wp2_with fail
        go_ret
        exact ⟨by rw [hr.out]; rfl, HB.out⟩
      · have hc := hT.cell 10 0 rfl
        have hr := Lib.hid (show needC 2 2 = 0 from by unfold needC; decide)
        clear hT
        go_enter Tryd.func10, Tryd.ntmps10
        go_wp2_with fail
        refine (implClassValid_yes 2 _ (by omega)).mono ?_
        rintro e w' ⟨rfl, rfl⟩
        go_wp2_with fail
        refine (implClassValid_yes 2 _ (by omega)).mono ?_
        rintro e w' ⟨rfl, rfl⟩
        go_wp2_with fail
        go_ret
        exact ⟨by rw [hr.out]; rfl, HB.out⟩
      · have hc := hT.cell 11 3 rfl
        have hr := Lib.hid (show needC 2 3 = 3 from by unfold needC; decide)
        clear hT
        go_enter Tryd.func10, Tryd.ntmps10
        go_wp2_with fail
        refine (implClassValid_yes 2 _ (by omega)).mono ?_
        rintro e w' ⟨rfl, rfl⟩
        go_wp2_with fail
        refine (implClassValid_yes 3 _ (by omega)).mono ?_
        rintro e w' ⟨rfl, rfl⟩
        go_wp2_with fail
        go_ret
        exact ⟨by rw [hr.out]; rfl, HB.out⟩
      · have hc := hT.cell 12 0 rfl
        have hr := Lib.hid (show needC 3 0 = 0 from by unfold needC; decide)
        clear hT
        go_enter Tryd.func10, Tryd.ntmps10
        go_wp2_with fail
        refine (implClassValid_yes 3 _ (by omega)).mono ?_
        rintro e w' ⟨rfl, rfl⟩
        go_wp2_with fail
        refine (implClassValid_yes 0 _ (by omega)).mono ?_
        rintro e w' ⟨rfl, rfl⟩
        go_wp2_with fail
        go_ret
        exact ⟨by rw [hr.out]; rfl, HB.out⟩
      · have hc := hT.cell 13 2 rfl
        have hr := Lib.hid (show needC 3 1 = 2 from by unfold needC; decide)
        clear hT
        go_enter Tryd.func10, Tryd.ntmps10
        go_wp2_with fail
        refine (implClassValid_yes 3 _ (by omega)).mono ?_
        rintro e w' ⟨rfl, rfl⟩
        go_wp2_with fail
        refine (implClassValid_yes 1 _ (by omega)).mono ?_
        rintro e w' ⟨rfl, rfl⟩
        go_wp2_with fail
        go_ret
        exact ⟨by rw [hr.out]; rfl, HB.out⟩
      · have hc := hT.cell 14 3 rfl
        have hr := Lib.hid (show needC 3 2 = 3 from by unfold needC; decide)
        clear hT
        go_enter Tryd.func10, Tryd.ntmps10
        go_wp2_with fail
        refine (implClassValid_yes 3 _ (by omega)).mono ?_
        rintro e w' ⟨rfl, rfl⟩
        go_wp2_with fail
        refine (implClassValid_yes 2 _ (by omega)).mono ?_
        rintro e w' ⟨rfl, rfl⟩
        go_wp2_with fail
        go_ret
        exact ⟨by rw [hr.out]; rfl, HB.out⟩
      · have hc := hT.cell 15 1 rfl
        have hr := Lib.hid (show needC 3 3 = 1 from by unfold needC; decide)
        clear hT
        go_enter Tryd.func10, Tryd.ntmps10
        go_wp2_with fail
        refine (implClassValid_yes 3 _ (by omega)).mono ?_
        rintro e w' ⟨rfl, rfl⟩
        go_wp2_with fail
        refine (implClassValid_yes 3 _ (by omega)).mono ?_
        rintro e w' ⟨rfl, rfl⟩
        go_wp2_with fail
        go_ret
        exact ⟨by rw [hr.out]; rfl, HB.out⟩
    · have hr := Lib.hid (show needC a b = -1 from by unfold needC; rw [if_pos (by omega)])
      clear hT
      go_enter Tryd.func10, Tryd.ntmps10
      go_wp2_with fail
      refine (implClassValid_yes a _ ha).mono ?_
      rintro e w' ⟨rfl, rfl⟩
      go_wp2_with fail
      refine (implClassValid_no b _ hb).mono ?_
      rintro e w' ⟨rfl, rfl⟩
      go_wp2_with fail
      go_ret
      exact ⟨by rw [hr.out]; rfl, HB.out⟩
  · have hr := Lib.hid (show needC a b = -1 from by unfold needC; rw [if_pos (by omega)])
    clear hT
    go_enter Tryd.func10, Tryd.ntmps10
    go_wp2_with fail
    refine (implClassValid_no a _ ha).mono ?_
    rintro e w' ⟨rfl, rfl⟩
    go_wp2_with fail
    go_ret
    exact ⟨by rw [hr.out]; rfl, HB.out⟩
end Go.Proofs.YtlccmgdmfchmnaaDoor
