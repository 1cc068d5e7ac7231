/-
  The contract of the model's YardFind.
-/
import Derived.Test.YtlcfldmiibjboabYv
namespace Go.Proofs.Ytlcfldmiibjboab
open Go.RowKit
set_option linter.unusedVariables false

set_option maxRecDepth 10000 in
set_option maxHeartbeats 1000000 in
theorem specYardFind_any (h : Int) (v : Value) (ss : List (List Int)) (id : Int) (w : World) (hh : HoldsY w v ss) (hbd : ss.flatten.length ≤ 1048577) :
    Calls Try.prog 16 #[.agg #[.int .i64 h, v], .int .i64 id] w fun e w' => e = .returned (.int .i64 (findY h ss id)) ∧ Below w.heap.size w w' := by
  have hb1 := (Below.refl w.heap.size w).alloc (Nat.le_refl _) (.cells #[.int .i64 h, v] 29)
  have hV0 := specYardValid_any h v ss _ (hh.keep hb1) hbd
  have HH := Lib.hid (hh.keep hb1)
  have hY0 := BoxY.new w h v
  obtain ⟨w1, hw1⟩ : ∃ w1, w1 = w.alloc (.cells #[.int .i64 h, v] 29) := ⟨_, rfl⟩
  rw [← hw1] at HH hY0 hV0 hb1
  have HY := Lib.hid hY0
  have W1 := Lib.hid hw1
  have HB1 := Lib.hid hb1
  have HV := Lib.hid hV0
  have hs1 : w1.heap.size = w.heap.size + 1 := by rw [hw1]; simp
  have HS1 := Lib.hid hs1
  clear hY0 hw1 hb1 hV0 hs1
  cases hok : ydOk h ss
  · rw [hok] at HV
    have hr := Lib.hid (findY_bad (n := id) hok)
    clear hok
    go_enter Try.func16, Try.ntmps16
    go_wp2_with fail
    rw [← W1.out]
    refine HV.out.mono ?_
    rintro e w2 ⟨rfl, b2⟩
    have B2 := Lib.hid (HB1.out.trans (b2.mono HB1.out.size))
    clear b2
    go_wp2_with fail
    go_ret
    exact ⟨by rw [hr.out]; rfl, B2.out⟩
  · rw [hok] at HV
    obtain ⟨a, cap, rfl, -, -, -, -⟩ := hh
    have HHIT := Lib.hid fun k (hl : k < ss.length) hn he => findY_hit (n := id) hok hl hn he
    have HNONE := Lib.hid fun hn => findY_none (h := h) (ss := ss) (n := id) hn
    obtain ⟨n, hn⟩ : ∃ n, n = ss.length := ⟨_, rfl⟩
    rw [← hn] at HH HY HV W1 HHIT HNONE ⊢
    have hm : n ≤ 9223372036854775807 := by have := HH.out.len; omega
    clear hn hok
    go_enter Try.func16, Try.ntmps16
    go_wp2_with fail
    rw [← W1.out]
    refine HV.out.mono ?_
    rintro e w2 ⟨rfl, b2⟩
    have B2 := Lib.hid (HB1.out.trans (b2.mono HB1.out.size))
    have hY2 := HY.out.keep b2
    have y1 := hY2.c1
    have HH2 := Lib.hid (HH.out.keep b2)
    clear b2 hY2 HV HH HY W1
    go_wp2_with fail
    go_loop [5] (fun i => ∃ k : Nat, k ≤ n ∧ i = .int .i64 k ∧ Hid (∀ j, j < k → hasI (rowAt ss j) id = false)) (fun i => n - (intOf i).toNat)
    case atStart => exact ⟨0, by omega, rfl, Lib.hid fun j hj => by omega⟩
    case round =>
      obtain ⟨k, hk, rfl, HF⟩ := hrel
      by_cases hlt : k < n
      · obtain ⟨b, off, x, c, rfl, hb, s0, hc1, hc2, -, hrow⟩ := HH2.out.at_ hlt
        have HR := Lib.hid (l1Has_any _ _ id w2 hrow)
        have ik : (k : Int) < (n : Int) := by omega
        have i0k : (0 : Int) ≤ (k : Int) := by omega
        clear hrow
        cases hhas : hasI (rowAt ss k) id
        · rw [hhas] at HR
          have HF2 := Lib.hid fun j (hj : j < k + 1) => (show hasI (rowAt ss j) id = false by
            by_cases e : j = k
            · subst e; exact hhas
            · exact HF.out j (by omega))
          clear hhas HF
          go_wp2_with fail
          refine HR.out.mono ?_
          rintro e w' ⟨rfl, rfl⟩
          go_wp2_with fail
          go_round
          case rel => exact ⟨k + 1, by omega, by go_num, HF2⟩
          case measure => simp [intOf]; omega
        · rw [hhas] at HR
          have hr := Lib.hid (HHIT.out k hlt HF.out hhas)
          clear hhas HF
          go_wp2_with fail
          refine HR.out.mono ?_
          rintro e w' ⟨rfl, rfl⟩
          go_wp2_with fail
          go_ret
          exact ⟨by rw [hr.out]; rfl, B2.out⟩
      · have hr := Lib.hid (HNONE.out fun j hj => HF.out j (by omega))
        go_wp2_with fail
        go_ret
        exact ⟨by rw [hr.out]; rfl, B2.out⟩
end Go.Proofs.Ytlcfldmiibjboab
