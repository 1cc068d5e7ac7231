/-
  The model's chapter 14: LeftOver.
-/
import Derived.Test.YtfeobdgdhgcgoaaFlMath2
import Derived.Test.YtfeobdgdhgcgoaaFlS
import Derived.Test.YtfeobdgdhgcgoaaGPl
import Derived.Test.YtfeobdgdhgcgoaaGSl
import Derived.Laws.AppendOwnNone
namespace Go.Proofs.Ytfeobdgdhgcgoaa
open Go.RowKit
set_option linter.unusedVariables false

/-- The ids of the first k boxes that are not in a plan. -/
def lefN (l : List Bx) (p : List Int) (k : Nat) : List Int := ((bxIds l).take k).filter (fun x => !hasI p x)
theorem lefN_next {l : List Bx} {p : List Int} {k : Nat} (hk : k < l.length) : lefN l p (k + 1) = if hasI p (bxAt l k).i = true then lefN l p k else lefN l p k ++ [(bxAt l k).i] := by
  have hk2 : k < (bxIds l).length := by simp [bxIds]; exact hk
  have e : (bxIds l)[k] = (bxAt l k).i := by rw [bxAt_get hk]; simp [bxIds]
  unfold lefN
  rw [List.take_add_one, List.getElem?_eq_getElem hk2, e, List.filter_append]
  cases h : hasI p (bxAt l k).i
  · rw [if_neg (by simp)]; simp [List.filter, h]
  · rw [if_pos rfl]; simp [List.filter, h]
theorem lefN_len (l : List Bx) (p : List Int) (k : Nat) : (lefN l p k).length ≤ k := Nat.le_trans (List.length_filter_le _ _) (List.length_take_le _ _)
theorem lefN_end (l : List Bx) (p : List Int) : lefN l p l.length = (bxIds l).filter (fun x => !hasI p x) := by
  unfold lefN
  rw [List.take_of_length_le (by simp [bxIds])]

set_option maxRecDepth 10000 in
set_option maxHeartbeats 8000000 in
theorem specLeftOver_any (h : Hl) (u v : Value) (l : List Bx) (p : List Int) (w : World) (hb : HoldsBx w u l) (hp : HoldsI w v p) :
    Calls Try.prog 27 #[.agg #[.int .i64 h.b, .int .i64 h.r, .int .i64 h.t], u, v] w fun e w' => ∃ v', e = .returned v' ∧ OwnI w.heap.size w' v' (leftO h l p) ∧ Below w.heap.size w w' := by
  have hb1 := (Below.refl w.heap.size w).alloc (Nat.le_refl _) (.cells #[.int .i64 h.b, .int .i64 h.r, .int .i64 h.t] 36)
  have hx1 := BoxH.new w h
  obtain ⟨W1, hW1⟩ : ∃ W1, W1 = w.alloc (.cells #[.int .i64 h.b, .int .i64 h.r, .int .i64 h.t] 36) := ⟨_, rfl⟩
  rw [← hW1] at hb1 hx1
  have HW := Lib.hid hW1
  have HB := Lib.hid hb1
  have y0 := hx1.c0
  have y1 := hx1.c1
  have y2 := hx1.c2
  have HX := Lib.hid fun (w' : World) (hs : Below W1.heap.size W1 w') => hx1.keep hs
  have hs1 : W1.heap.size = w.heap.size + 1 := by rw [hW1]; simp
  clear hW1 hb1 hx1
  have PK := Lib.hid fun (w' : World) (hs : Below w.heap.size w w') => hp.keep hs
  have HPV := Lib.hid fun (w' : World) (hs : Below w.heap.size w w') => specPlanValid_any h u v l p w' (hb.keep hs) (hp.keep hs)
  obtain ⟨i0, hi, hz0, hz1, hz2⟩ := info_parts infoInt
  have HI := Lib.hid hi
  have HZ0 := Lib.hid hz0
  have HZ1 := Lib.hid hz1
  have HZ2 := Lib.hid hz2
  clear hi hz0 hz1 hz2
  have hb2 : Below W1.heap.size W1 (W1.alloc (.cells #[] 3)) := (Below.refl _ _).alloc (Nat.le_refl _) _
  have hO2 : OwnI W1.heap.size (W1.alloc (.cells #[] 3)) (.slice (some ⟨W1.heap.size, 0, none⟩) 0 0) [] := OwnI.zero (Nat.le_refl _)
  have hx2 := HX.out _ hb2
  obtain ⟨W2, hW2⟩ : ∃ W2, W2 = W1.alloc (.cells #[] 3) := ⟨_, rfl⟩
  rw [← hW2] at hb2 hO2 hx2
  have HW2 := Lib.hid hW2
  have z0 := hx2.c0
  have z1 := hx2.c1
  have z2 := hx2.c2
  have HB2 := Lib.hid (HB.out.trans (hb2.mono HB.out.size))
  rw [hs1] at hb2 hO2 HX
  have HO2 := Lib.hid hO2
  have HD2 := Lib.hid hb2
  clear hW2 hb2 hO2 hx2 y0 y1 y2
  obtain ⟨ua, uc, rfl⟩ : ∃ a c, u = .slice a l.length c := by obtain ⟨a, c, e, _⟩ := hb; exact ⟨a, c, e⟩
  by_cases hgo : 0 < l.length ∧ plOk h (bxsOk l) (bxIds l) p = true
  · obtain ⟨hl0, hok⟩ := hgo
    have HE := Lib.hid (show leftO h l p = lefN l p l.length from by unfold leftO; rw [if_pos hok, lefN_end])
    obtain ⟨bb, bo, rfl, hbbl, hcl⟩ := hb.cellsAt hl0
    have HC := Lib.hid hcl
    have HNX := Lib.hid fun k (hk : k < l.length) => lefN_next (p := p) hk
    have HLN := Lib.hid fun k => lefN_len l p k
    have hm : l.length ≤ 10 := (bxsOk_each (plOk_bok hok)).2
    rw [hok] at HPV
    have hz0 : lefN l p 0 = [] := rfl
    obtain ⟨n, hn⟩ : ∃ n, n = l.length := ⟨_, rfl⟩
    rw [← hn] at HPV HE HC HNX hm ⊢
    rw [← hz0] at HO2
    clear hok hb hp hcl hn hl0 hz0
    go_enter Try.func27, Try.ntmps27
    go_wp2_with fail
    rw [← HW.out, ← HW2.out]
    go_wp2_with fail
    clear z0 z1 z2
    go_loopw [7, 8] (fun va i wr => ∃ k : Nat, k ≤ n ∧ i = .int .i64 k ∧ Hid (OwnI (w.heap.size + 1) wr va (lefN l p k)) ∧ Hid (Below (w.heap.size + 1) W1 wr)) (fun _ i _ => n - (intOf i).toNat)
    case atStart => exact ⟨0, by omega, rfl, HO2, HD2⟩
    case round =>
      clear HO2 HD2
      obtain ⟨k, hkn, rfl, HOW, DR⟩ := hrel
      have BR := Lib.hid (HB.out.trans (DR.out.mono (by omega)))
      by_cases hlt : k < n
      · have ik : (k : Int) < (n : Int) := by omega
        have i0k : (0 : Int) ≤ (k : Int) := by omega
        have hnx := HNX.out k hlt
        have hln := HLN.out k
        obtain ⟨Ls, hLs⟩ : ∃ Ls, Ls = lefN l p k := ⟨_, rfl⟩
        obtain ⟨x, hx⟩ : ∃ x, x = (bxAt l k).i := ⟨_, rfl⟩
        rw [← hLs] at HOW hln hnx
        rw [← hx] at hnx
        have HX9 := Lib.hid hx
        have y := HX.out wr DR.out
        have y0 := y.c0
        have y1 := y.c1
        have y2 := y.c2
        clear y hx hLs
        go_wp2_with fail
        refine (HPV.out wr BR.out).mono ?_
        rintro e w3 ⟨rfl, d3⟩
        have B3 := Lib.hid (BR.out.trans (d3.mono BR.out.size))
        have D3 := Lib.hid (DR.out.trans (d3.mono (by have := DR.out.size; omega)))
        have HOX := Lib.hid (HOW.out.keep d3)
        have e0 : w3.cell? ⟨bb, bo + k * 5, none⟩ = some (.int .i64 x) := by rw [HX9.out]; exact HC.out w3 B3.out k hlt 0 (by omega)
        have HHk := Lib.hid (l1Has_any v p x w3 (PK.out w3 B3.out))
        clear d3 y0 y1 y2
        cases ho : hasI p x
        · rw [ho] at HHk
          rw [ho, if_neg (by simp)] at hnx
          have HN2 := Lib.hid hnx
          have hsz3 : w.heap.size + 1 ≤ w3.heap.size := by have := D3.out.size; omega
          clear ho hnx HOW
          have HOW := HOX
          go_wp2_with fail
          refine HHk.out.mono ?_
          rintro e w4 ⟨rfl, rfl⟩
          go_wp2_with (at_builtin; refine wpList_append_own _ rfl _ _ 25 rfl (w.heap.size + 1) 3 i0 (.int .i64 0) 1 8 Try.underlying25 HI.out HZ0.out HZ1.out HZ2.out rfl (by decide) _ (Ls).length (rowI (Ls)) rfl (HOW.out.alloc _) ⟨w3.heap.size, 0, none⟩ 1 1 [.int .i64 x] rfl rfl (fun j u hu => cells_new j u hu) (by simp [Value.oneCell']) (by unfold maxLen; omega) (by omega) (by have := hsz3; simp; omega) ?_; intro v5 w5 hown5 hgrow _)
          have hb5 : Below (w.heap.size + 1) w3 w5 := ((Below.refl _ _).alloc (by have := hsz3; omega) _).trans (own_below hgrow (by have := hsz3; simp; omega) (fun k' hk' => (own_lt HOW.out k' hk').1))
          have hO5 : OwnI (w.heap.size + 1) w5 v5 (Ls ++ [x]) := own_put hown5
          clear hgrow hown5
          rw [← HN2.out] at hO5
          have HO5 := Lib.hid hO5
          have D5 := Lib.hid (D3.out.trans hb5)
          clear hO5 hb5
          go_roundw
          case rel => exact ⟨k + 1, by omega, by go_num, HO5, D5⟩
          case measure => simp [intOf]; omega
        · rw [ho] at HHk
          rw [ho, if_pos rfl] at hnx
          have HN2 := Lib.hid hnx
          clear ho hnx HOW
          go_wp2_with fail
          refine HHk.out.mono ?_
          rintro e w4 ⟨rfl, rfl⟩
          go_wp2_with fail
          go_roundw
          case rel => exact ⟨k + 1, by omega, by go_num, by rw [HN2.out]; exact HOX, D3⟩
          case measure => simp [intOf]; omega
      · obtain rfl : k = n := by omega
        have C9 := BR.out
        have O9 := HOW.out.from_ (show w.heap.size ≤ w.heap.size + 1 by omega)
        have hnk : ¬ (k : Int) < (k : Int) := by omega
        go_wp2_with fail
        go_ret
        exact ⟨_, rfl, by rw [HE.out]; exact O9, C9⟩
  · have HE := Lib.hid (show leftO h l p = [] from by
      unfold leftO
      by_cases h9 : plOk h (bxsOk l) (bxIds l) p = true
      · have h8 : l.length = 0 := by
          rcases Nat.eq_zero_or_pos l.length with h7 | h7
          · exact h7
          · exact absurd ⟨h7, h9⟩ hgo
        rw [if_pos h9, List.length_eq_zero_iff.1 h8]; rfl
      · rw [if_neg h9])
    obtain ⟨n, hn⟩ : ∃ n, n = l.length := ⟨_, rfl⟩
    rw [← hn] at HPV hgo ⊢
    clear hb hp hn PK
    by_cases h0 : 0 < n
    · have hok : plOk h (bxsOk l) (bxIds l) p = false := by
        cases h9 : plOk h (bxsOk l) (bxIds l) p
        · rfl
        · exact absurd ⟨h0, h9⟩ hgo
      rw [hok] at HPV
      have i0 : (0 : Int) < (n : Int) := by omega
      clear hok hgo
      go_enter Try.func27, Try.ntmps27
      go_wp2_with fail
      rw [← HW.out, ← HW2.out]
      go_wp2_with fail
      go_loopw [7, 8] (fun va i wr => va = .slice (some ⟨w.heap.size + 1, 0, none⟩) 0 0 ∧ i = .int .i64 0 ∧ wr = W2) (fun _ _ _ => 0)
      case atStart => exact ⟨rfl, rfl, rfl⟩
      case round =>
        obtain ⟨rfl, rfl, rfl⟩ := hrel
        go_wp2_with fail
        refine (HPV.out _ HB2.out).mono ?_
        rintro e w2 ⟨rfl, d2⟩
        have C9 := HB2.out.trans (d2.mono HB2.out.size)
        have O9 := (HO2.out.keep d2).from_ (show w.heap.size ≤ w.heap.size + 1 by omega)
        go_wp2_with fail
        go_ret
        exact ⟨_, rfl, by rw [HE.out]; exact O9, C9⟩
    · obtain rfl : n = 0 := by omega
      clear hgo
      go_enter Try.func27, Try.ntmps27
      go_wp2_with fail
      rw [← HW.out, ← HW2.out]
      go_wp2_with fail
      go_loopw [7, 8] (fun va i wr => va = .slice (some ⟨w.heap.size + 1, 0, none⟩) 0 0 ∧ i = .int .i64 0 ∧ wr = W2) (fun _ _ _ => 0)
      case atStart => exact ⟨rfl, rfl, rfl⟩
      case round =>
        obtain ⟨rfl, rfl, rfl⟩ := hrel
        have C9 := HB2.out
        have O9 := HO2.out.from_ (show w.heap.size ≤ w.heap.size + 1 by omega)
        go_wp2_with fail
        go_ret
        exact ⟨_, rfl, by rw [HE.out]; exact O9, C9⟩

end Go.Proofs.Ytfeobdgdhgcgoaa
