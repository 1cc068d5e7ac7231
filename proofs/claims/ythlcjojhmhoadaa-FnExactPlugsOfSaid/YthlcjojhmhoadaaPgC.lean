/-
  The model's chapter 12: PlugIn, PlugMany.
-/
import Derived.Test.YthlcjojhmhoadaaPgB
import Derived.Laws.AppendOwnNone
import Derived.Deep.QuietTactic
import Derived.BigQuiet
namespace Go.Proofs.Ythlcjojhmhoadaa
open Go.RowKit
set_option linter.unusedVariables false

theorem plugI_len (u : List (List Int)) : (plugI u).length ≤ u.length := by
  unfold plugI
  split
  · rw [bestS_len]; exact Nat.le_refl _
  · exact Nat.zero_le _
set_option maxRecDepth 10000 in
set_option maxHeartbeats 2000000 in
theorem specPlugIn_any (vu : Value) (u : List (List Int)) (w : World) (hu : HoldsY w vu u) :
    Calls Try.prog 24 #[vu] w fun e w' => ∃ v', e = .returned v' ∧ HoldsI w' v' (plugI u) ∧ Below w.heap.size w w' := by
  have HUV := Lib.hid (specUsesValid_any vu u w hu)
  cases hok : usesOk u
  · rw [hok] at HUV
    have hr : plugI u = [] := by unfold plugI; rw [hok]; rfl
    rw [hr]
    clear hu hok hr
    go_enter Try.func24, Try.ntmps24
    go_wp2_with fail
    refine HUV.out.mono ?_
    rintro e w2 ⟨rfl, b2⟩
    have C9 := b2.alloc b2.size (.cells #[] 3)
    have O9 : HoldsI (w2.alloc (.cells #[] 3)) (.slice (some ⟨w2.heap.size, 0, none⟩) 0 0) [] := (OwnI.zero (Nat.le_refl _)).holds
    clear HUV
    go_wp2_with fail
    go_ret
    exact ⟨_, rfl, O9, C9⟩
  · rw [hok] at HUV
    have hr : plugI u = [] ++ bestS u [] := by unfold plugI; rw [hok]; rfl
    have h6 := (usesOk_iff.1 hok).1
    have HB := Lib.hid fun (g : Nat) (w' : World) (hs : Below w.heap.size w w') hq => l12Best_any u vu ⟨g, 0, none⟩ 0 u [] w' h6 (hu.keep hs) hq rfl (Nat.zero_le _)
    rw [hr]
    clear hu hok hr
    go_enter Try.func24, Try.ntmps24
    go_wp2_with fail
    refine HUV.out.mono ?_
    rintro e w2 ⟨rfl, b2⟩
    have C9 := b2.alloc b2.size (.cells #[] 3)
    have O9 : HoldsI (w2.alloc (.cells #[] 3)) (.slice (some ⟨w2.heap.size, 0, none⟩) 0 0) [] := (OwnI.zero (Nat.le_refl _)).holds
    clear HUV
    have HC := Lib.hid (HB.out w2.heap.size _ C9 O9)
    have HC9 := Lib.hid C9
    clear HB O9 C9
    go_wp2_with fail
    refine HC.out.mono ?_
    rintro e w3 ⟨v3, rfl, n3, b3⟩
    have N3 := Lib.hid n3
    have C3 := HC9.out.trans (b3.mono HC9.out.size)
    clear HC n3 b3
    go_wp2_with fail
    go_ret
    exact ⟨_, rfl, N3.out, C3⟩
set_option maxRecDepth 10000 in
set_option maxHeartbeats 2000000 in
theorem specPlugMany_any (vu : Value) (u : List (List Int)) (w : World) (hu : HoldsY w vu u) :
    Calls Try.prog 27 #[vu] w fun e w' => e = .returned (.int .i64 (plugM u)) ∧ Below w.heap.size w w' := by
  have HUV := Lib.hid (specUsesValid_any vu u w hu)
  cases hok : usesOk u
  · rw [hok] at HUV
    have hr := Lib.hid (show plugM u = -1 from by unfold plugM; rw [hok]; rfl)
    clear hu hok
    go_enter Try.func27, Try.ntmps27
    go_wp2_with fail
    refine HUV.out.mono ?_
    rintro e w2 ⟨rfl, b2⟩
    clear HUV
    go_wp2_with fail
    go_ret
    exact ⟨by rw [hr.out]; rfl, b2⟩
  · rw [hok] at HUV
    have hr := Lib.hid (show plugM u = ((manyP (plugI u) : Nat) : Int) from by unfold plugM; rw [hok]; rfl)
    have h6 := (usesOk_iff.1 hok).1
    have hl : (plugI u).length ≤ 1048576 := by have := plugI_len u; omega
    have HP := Lib.hid fun (w' : World) (hs : Below w.heap.size w w') => specPlugIn_any vu u w' (hu.keep hs)
    have HM := Lib.hid fun (v : Value) (w' : World) (hq : HoldsI w' v (plugI u)) => l12Many_any v (plugI u) w' hq hl
    clear hu hok hl h6
    go_enter Try.func27, Try.ntmps27
    go_wp2_with fail
    refine HUV.out.mono ?_
    rintro e w2 ⟨rfl, b2⟩
    have HC := Lib.hid (HP.out w2 b2)
    have B2 := Lib.hid b2
    clear HUV HP b2
    go_wp2_with fail
    refine HC.out.mono ?_
    rintro e w3 ⟨v3, rfl, n3, b3⟩
    have HD := Lib.hid (HM.out v3 w3 n3)
    have C3 := B2.out.trans (b3.mono B2.out.size)
    clear HC n3 b3 HM
    go_wp2_with fail
    refine HD.out.mono ?_
    rintro e w4 ⟨rfl, rfl⟩
    go_wp2_with fail
    go_ret
    exact ⟨by rw [hr.out]; rfl, C3⟩
end Go.Proofs.Ythlcjojhmhoadaa
