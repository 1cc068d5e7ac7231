/-
  The contract of the program's WeightOf.
-/
import Derived.Test.YtnnjphhkheocgaaBlI
import Derived.Test.YtnnjphhkheocgaaBxW
namespace Go.Proofs.Ytnnjphhkheocgaa
open Go.RowKit
set_option linter.unusedVariables false

set_option maxHeartbeats 1000000 in
theorem implWeightOf_any (u v : Value) (l : List Bx) (ids : List Int) (w : World) (hu : HoldsBx w u l) (hv : HoldsI w v ids) (hlen : ids.length ≤ 1048576) :
    Calls Try.prog 16 #[u, v] w fun e w' => e = .returned (.int .i64 (weighS l ids)) ∧ Below w.heap.size w w' := by
  have HU := Lib.hid hu
  have HF := Lib.hid fun w (h : HoldsBx w u l) id => indexOf_any u l id w h
  have HB := Lib.hid (implBoxesValid_any u l w hu)
  obtain ⟨a, cap, rfl, h2, h3, h4⟩ := hu
  have H4 := Lib.hid h4
  obtain ⟨a', cap', rfl, h2', h3', h4'⟩ := hv
  have H4' := Lib.hid h4'
  obtain ⟨m, hm⟩ : ∃ m, m = l.length := ⟨_, rfl⟩
  obtain ⟨n, hn⟩ : ∃ n, n = ids.length := ⟨_, rfl⟩
  have HM := Lib.hid hm.symm
  have HN := Lib.hid hn.symm
  rw [← hm] at HU HF HB ⊢
  rw [← hn]
  rw [← hn] at hlen
  clear h2 h3 h4 h2' h3' h4' hm hn
  cases hok : bxsOk l
  · have hw := Lib.hid (weighS_bad (ids := ids) hok)
    rw [hok] at HB
    clear hok
    go_enter Try.func16, Try.ntmps16
    go_wp2_with fail
    refine HB.out.mono ?_
    rintro e w2 ⟨rfl, b2⟩
    go_wp2_with fail
    go_ret
    exact ⟨by rw [hw.out]; rfl, b2⟩
  · have HOK := Lib.hid hok
    rw [hok] at HB
    clear hok
    go_enter Try.func16, Try.ntmps16
    go_wp2_with fail
    refine HB.out.mono ?_
    rintro e w1 ⟨rfl, b1⟩
    go_wp2_with fail
    go_loopw [5, 14] (fun s i wr => ∃ k : Nat, k ≤ n ∧ i = .int .i64 k ∧ s = .int .i64 (sumT l ids k) ∧ Hid (∀ j, j < k → 0 ≤ findB l (ids.getD j 0)) ∧ Below w.heap.size w wr) (fun _ i _ => n - (intOf i).toNat)
    case atStart => exact ⟨0, by omega, rfl, rfl, Lib.hid fun j hj => by omega, b1⟩
    case round =>
      obtain ⟨k, hk, rfl, rfl, HG, hbr⟩ := hrel
      obtain ⟨q0, q1⟩ := sumT_bd HOK.out k HG.out
      by_cases hlt : k < n
      · have hki : k < ids.length := by rw [HN.out]; exact hlt
        rcases H4'.out with h4 | ⟨b', off', rfl, h6', h7'⟩
        · have := HN.out; omega
        · have s0 : wr.cell? ⟨b', off' + k, none⟩ = some (.int .i64 (ids.getD k 0)) := by
            rw [hbr.cell (p := ⟨b', off' + k, none⟩) h6', h7' k hki, List.getD_eq_getElem?_getD, List.getElem?_eq_getElem hki, Option.getD_some]
          have hF := HF.out wr (HU.out.keep hbr) (ids.getD k 0)
          have hsucc := Lib.hid (show sumT l ids (k + 1) = sumT l ids k + wAt l (ids.getD k 0) from rfl)
          have hnone := Lib.hid (weighS_none (l := l) k hki)
          have hstep := Lib.hid (show 0 ≤ findB l (ids.getD k 0) → ∀ j, j < k + 1 → 0 ≤ findB l (ids.getD j 0) from fun hf0 j hj => by
              by_cases e : j = k
              · subst e; exact hf0
              · exact HG.out j (by omega))
          generalize ids.getD k 0 = x at s0 hF hsucc hnone hstep
          have HF1 := Lib.hid hF
          have H7' := Lib.hid h7'
          clear hF h7'
          by_cases hneg : findB l x < 0
          · have hw := Lib.hid (hnone.out hneg)
            go_wp2_with fail
            refine HF1.out.mono ?_
            rintro e w2 ⟨rfl, b2⟩
            go_wp2_with fail
            go_ret
            exact ⟨by rw [hw.out]; rfl, hbr.trans (b2.mono hbr.size)⟩
          · have hf0 : 0 ≤ findB l x := by omega
            have hfb := (findB_bd l x).2
            have hwb := wAt_bd HOK.out x hf0
            obtain ⟨g0, g1⟩ := hwb
            have hg := Lib.hid (show wAt l x = (l.getD (findB l x).toNat Bx.zero).g from rfl)
            rw [HM.out] at hfb
            have HS := Lib.hid (hstep.out hf0)
            rcases H4.out with h4 | ⟨b, off, rfl, h6, h7⟩
            · have := HM.out; omega
            · have hcell : wr.cell? ⟨b, off + (findB l x).toNat * 5 + 1, none⟩ = some (.int .i64 (wAt l x)) := by
                have hkk : (findB l x).toNat < l.length := by rw [HM.out]; omega
                have := (hbr.cell (p := ⟨b, off + ((findB l x).toNat * 5 + 1), none⟩) h6).trans (h7 _ hkk 1 (by omega))
                rw [hg.out, getD_bx hkk]
                exact this
              have H7 := Lib.hid h7
              have hB6 : b < wr.heap.size := Nat.lt_of_lt_of_le h6 hbr.size
              clear h7 hneg
              generalize wAt l x = gg at g0 g1 hcell hsucc hg
              generalize findB l x = at0 at HF1 hf0 hfb hcell hg
              go_wp2_with fail
              refine HF1.out.mono ?_
              rintro e w2 ⟨rfl, b2⟩
              have hcell2 : w2.cell? ⟨b, off + at0.toNat * 5 + 1, none⟩ = some (.int .i64 gg) := (b2.cell (p := ⟨b, off + at0.toNat * 5 + 1, none⟩) hB6).trans hcell
              clear hcell
              go_wp2_with fail
              go_roundw
              case rel => exact ⟨k + 1, by omega, by go_num, by rw [hsucc.out], HS, hbr.trans (b2.mono hbr.size)⟩
              case measure => simp [intOf]; omega
      · have hkn : k = n := by omega
        have hw := Lib.hid (weighS_sum (ids := ids) HOK.out (fun j hj => HG.out j (by rw [HN.out] at hj; omega)))
        have hw2 := Lib.hid (show weighS l ids = sumT l ids k by rw [hw.out, HN.out, hkn])
        clear hkn
        go_wp2_with fail
        go_ret
        exact ⟨by rw [hw2.out]; rfl, hbr⟩
end Go.Proofs.Ytnnjphhkheocgaa
