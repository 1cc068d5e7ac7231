/-
  The program's chapter 14, second part: FillOrder, LeftOver.
-/
import Derived.Test.YtfeobdgdhgcgoaaFlIa
import Derived.Test.YtfeobdgdhgcgoaaFlL
import Derived.Test.YtfeobdgdhgcgoaaFlP
import Derived.Test.YtfeobdgdhgcgoaaRwIa
import Derived.Test.YtfeobdgdhgcgoaaOvI
import Derived.Test.YtfeobdgdhgcgoaaPlI
import Derived.Test.YtfeobdgdhgcgoaaLsI
import Derived.Test.YtfeobdgdhgcgoaaGStk
import Derived.Laws.AppendOwnNone
import Derived.Deep.RegionHeld3
import Derived.BigQuiet
import Derived.Deep.QuietTactic
namespace Go.Proofs.Ytfeobdgdhgcgoaa
open Go.RowKit
set_option linter.unusedVariables false

/-- The first ids of boxes. -/
def idsN (s : List Bx) (k : Nat) : List Int := (bxIds s).take k
theorem idsN_next {s : List Bx} {k : Nat} (hk : k < s.length) : idsN s (k + 1) = idsN s k ++ [(bxAt s k).i] := by
  have hk2 : k < (bxIds s).length := by simp [bxIds]; exact hk
  unfold idsN
  rw [List.take_add_one, List.getElem?_eq_getElem hk2, bxAt_get hk]
  simp [bxIds]
theorem idsN_len (s : List Bx) (k : Nat) : (idsN s k).length ≤ k := by unfold idsN; exact List.length_take_le _ _
theorem idsN_end (s : List Bx) : idsN s s.length = bxIds s := by
  unfold idsN
  rw [List.take_of_length_le (by simp [bxIds])]
theorem two_alloc {w : World} {a b : Obj} : ((w.alloc a).alloc b).heap.size = w.heap.size + 2 := by simp
theorem cells_second {w : World} {a : Obj} {cs : List Value} {T : TypeId} (j : Nat) (u : Value) (hu : cs[j]? = some u) : ((w.alloc a).alloc (.cells cs.toArray T)).cell? ((⟨w.heap.size + 1, 0, none⟩ : Addr).add j) = some u := by
  have h := cells_new (w := w.alloc a) (T := T) j u hu
  have e : (w.alloc a).heap.size = w.heap.size + 1 := by simp
  rw [e] at h
  exact h
set_option maxRecDepth 10000 in
set_option maxHeartbeats 4000000 in
theorem implFillOrder_any (u : Value) (l : List Bx) (w : World) (hb : HoldsBx w u l) :
    Calls Try.prog 10 #[u] w fun e w' => ∃ v', e = .returned v' ∧ FreeE w.heap.size w' v' (fillO l) ∧ Below w.heap.size w w' := by
  obtain ⟨i0, hi, hz0, hz1, hz2⟩ := info_parts infoInt
  have HI := Lib.hid hi
  have HZ0 := Lib.hid hz0
  have HZ1 := Lib.hid hz1
  have HZ2 := Lib.hid hz2
  clear hi hz0 hz1 hz2
  have HBV := Lib.hid (implBoxesValid_any u l w hb)
  cases hok : bxsOk l
  · have HE := Lib.hid (fillO_bad hok)
    rw [hok] at HBV
    clear hok hb
    go_enter Try.func10, Try.ntmps10
    go_wp2_with fail
    refine HBV.out.mono ?_
    rintro e w2 ⟨rfl, b2⟩
    go_wp2_with fail
    go_ret
    exact ⟨_, rfl, by rw [HE.out]; exact FreeE.zero, b2⟩
  · have hl10 := (bxsOk_each hok).2
    have HCL := Lib.hid fun (w' : World) (hs : Below w.heap.size w w') => slCloneBx_any u l w' (hb.keep hs) (by omega)
    have HSR := Lib.hid fun (K : Nat) (v' : Value) (w' : World) (hK : K ≤ w'.heap.size) (ho : w'.ownsRow K 33 5 v' l.length (rowB l)) => sortB_any K l v' w' hK ho hl10
    have hsl : (isB befB l l.length).length = l.length := (isB_perm befB l l.length (Nat.le_refl _)).length_eq
    have he0 := fill_sorted hok
    obtain ⟨s, hs⟩ : ∃ s, s = isB befB l l.length := ⟨_, rfl⟩
    rw [← hs] at HSR hsl he0
    have HE := Lib.hid (show fillO l = idsN s s.length from by rw [idsN_end, he0])
    obtain ⟨n, hn⟩ : ∃ n, n = s.length := ⟨_, rfl⟩
    have hn10 : n ≤ 10 := by omega
    rw [← hn] at HE hsl
    have HNX := Lib.hid fun k (hk : k < n) => idsN_next (s := s) (k := k) (hn ▸ hk)
    have HLN := Lib.hid fun k => idsN_len s k
    have hz0 : idsN s 0 = [] := rfl
    have HNS := Lib.hid hn
    rw [hok] at HBV
    clear hok hb hs hl10 he0 hsl hn
    go_enter Try.func10, Try.ntmps10
    go_wp2_with fail
    refine HBV.out.mono ?_
    rintro e w2 ⟨rfl, b2⟩
    go_wp2_with fail
    refine (HCL.out w2 b2).mono ?_
    rintro e w3 ⟨v3, rfl, O3, b3⟩
    have C3 := b2.trans (b3.mono b2.size)
    go_wp2_with fail
    refine (HSR.out _ _ w3 b3.size O3).mono ?_
    rintro e w4 ⟨rfl, H4, b4⟩
    obtain ⟨ua, uc, rfl⟩ : ∃ a c, v3 = .slice a s.length c := by obtain ⟨a, c, e, _⟩ := H4; exact ⟨a, c, e⟩
    have C4 := Lib.hid (C3.trans (b4.mono b2.size))
    have HBX := Lib.hid fun (h0 : 0 < s.length) => H4.cellsAt h0
    rw [← HNS.out] at HBX ⊢
    clear O3 H4 b2 b3 b4 C3 HBV HCL HSR
    go_wp2_with fail
    go_loopw [4, 16] (fun va i wr => ∃ k : Nat, k ≤ n ∧ i = .int .i64 k ∧ Hid (OwnI w4.heap.size wr va (idsN s k)) ∧ Hid (Below w4.heap.size w4 wr)) (fun _ i _ => n - (intOf i).toNat)
    case atStart => exact ⟨0, by omega, rfl, by rw [hz0]; exact Lib.hid OwnI.nil, Lib.hid (Below.refl _ _)⟩
    case round =>
      clear hz0
      obtain ⟨k, hkn, rfl, HOW, DR⟩ := hrel
      by_cases hlt : k < n
      · have hnx := HNX.out k hlt
        have hln := HLN.out k
        obtain ⟨Ls, hLs⟩ : ∃ Ls, Ls = idsN s k := ⟨_, rfl⟩
        rw [← hLs] at HOW hnx hln
        obtain ⟨bb, bo, rfl, hbbl, hcl⟩ := HBX.out (by omega)
        have hcj := hcl wr DR.out k hlt
        have s0 : wr.cell? ⟨bb, bo + k * 5, none⟩ = some (.int .i64 (bxAt s k).i) := hcj 0 (by omega)
        have s1 : wr.cell? ⟨bb, bo + k * 5 + 1, none⟩ = some (.int .i64 (bxAt s k).g) := hcj 1 (by omega)
        have s2 : wr.cell? ⟨bb, bo + k * 5 + 2, none⟩ = some (.int .i64 (bxAt s k).c) := hcj 2 (by omega)
        have s3 : wr.cell? ⟨bb, bo + k * 5 + 3, none⟩ = some (.int .i64 (bxAt s k).p) := hcj 3 (by omega)
        have s4 : wr.cell? ⟨bb, bo + k * 5 + 4, none⟩ = some (.bool (bxAt s k).d) := hcj 4 (by omega)
        obtain ⟨x, hx⟩ : ∃ x, x = bxAt s k := ⟨_, rfl⟩
        rw [← hx] at s0 s1 s2 s3 s4 hnx
        have hszr : w4.heap.size ≤ wr.heap.size := DR.out.size
        have hA := (Below.refl w4.heap.size wr).alloc hszr (.cells #[.int .i64 x.i, .int .i64 x.g, .int .i64 x.c, .int .i64 x.p, .bool x.d] 33)
        have hA2 := (Below.refl wr.heap.size wr).alloc (Nat.le_refl _) (.cells #[.int .i64 x.i, .int .i64 x.g, .int .i64 x.c, .int .i64 x.p, .bool x.d] 33)
        have HA := Lib.hid hA
        have HA2 := Lib.hid hA2
        have HOb := Lib.hid (HOW.out.keep hA2)
        have ik : (k : Int) < (n : Int) := by omega
        have i0k : (0 : Int) ≤ (k : Int) := by omega
        have HN := Lib.hid hnx
        clear hcj hcl hx hnx hA hA2 hbbl
        clear hLs HOW
        go_wp2_with (at_builtin; refine wpList_append_own _ rfl _ _ 25 rfl w4.heap.size 3 i0 (.int .i64 0) 1 8 Try.underlying25 HI.out HZ0.out HZ1.out HZ2.out rfl (by decide) _ Ls.length (rowI Ls) rfl (HOb.out.alloc _) ⟨wr.heap.size + 1, 0, none⟩ 1 1 [.int .i64 x.i] rfl rfl (fun j u hu => cells_second j u hu) (by simp [Value.oneCell']) (by unfold maxLen; omega) (by omega) (by simp; omega) ?_; intro v8 w8 hown8 hgrow _)
        have hb8 : Below w4.heap.size wr w8 := (HA.out.alloc (by simp; omega) _).trans (own_below hgrow (by simp; omega) (fun k' hk' => (own_lt HOb.out k' hk').1))
        have HO8 := Lib.hid (show OwnI w4.heap.size w8 v8 (Ls ++ [x.i]) from own_put hown8)
        have D8 := Lib.hid (DR.out.trans hb8)
        clear hgrow hown8 hb8
        go_wp2_with fail
        go_roundw
        case rel => exact ⟨k + 1, by omega, by go_num, by rw [HN.out]; exact HO8, D8⟩
        case measure => simp [intOf]; omega
      · obtain rfl : k = n := by omega
        have C9 := C4.out.trans (DR.out.mono C4.out.size)
        have O9 := (HOW.out.from_ C4.out.size).freeE
        go_wp2_with fail
        go_ret
        exact ⟨_, rfl, by rw [HE.out]; exact O9, C9⟩
set_option maxRecDepth 10000 in
set_option maxHeartbeats 4000000 in
theorem implLeftOver_any (h : Hl) (u v : Value) (l : List Bx) (p : List Int) (w : World) (hb : HoldsBx w u l) (hp : HoldsI w v p) :
    Calls Try.prog 25 #[.agg #[.int .i64 h.b, .int .i64 h.r, .int .i64 h.t], u, v] w fun e w' => ∃ v', e = .returned v' ∧ FreeE w.heap.size w' v' (leftO h l p) ∧ Below w.heap.size w w' := by
  have hb1 := (Below.refl w.heap.size w).alloc (Nat.le_refl _) (.cells #[.int .i64 h.b, .int .i64 h.r, .int .i64 h.t] 36)
  have hx1 := BoxH.new w h
  obtain ⟨W1, hW1⟩ : ∃ W1, W1 = w.alloc (.cells #[.int .i64 h.b, .int .i64 h.r, .int .i64 h.t] 36) := ⟨_, rfl⟩
  rw [← hW1] at hb1 hx1
  have HW := Lib.hid hW1
  have HB := Lib.hid hb1
  have y0 := hx1.c0
  have y1 := hx1.c1
  have y2 := hx1.c2
  have HX := Lib.hid fun (w' : World) (hs : Below W1.heap.size W1 w') => hx1.keep hs
  clear hW1 hb1 hx1
  have PK := Lib.hid fun (w' : World) (hs : Below w.heap.size w w') => hp.keep hs
  have HPV := Lib.hid fun (w' : World) (hs : Below w.heap.size w w') => implPlanValid_any h u v l p w' (hb.keep hs) (hp.keep hs)
  obtain ⟨i0, hi, hz0, hz1, hz2⟩ := info_parts infoInt
  have HI := Lib.hid hi
  have HZ0 := Lib.hid hz0
  have HZ1 := Lib.hid hz1
  have HZ2 := Lib.hid hz2
  clear hi hz0 hz1 hz2
  cases hok : plOk h (bxsOk l) (bxIds l) p
  · have HE := Lib.hid (leftO_bad hok)
    rw [hok] at HPV
    clear hok hb hp
    go_enter Try.func25, Try.ntmps25
    go_wp2_with fail
    rw [← HW.out]
    go_wp2_with fail
    refine (HPV.out _ HB.out).mono ?_
    rintro e w2 ⟨rfl, b2⟩
    go_wp2_with fail
    go_ret
    exact ⟨_, rfl, by rw [HE.out]; exact FreeE.zero, HB.out.trans (b2.mono HB.out.size)⟩
  · have HE := Lib.hid (show leftO h l p = lefN l p l.length from by unfold leftO; rw [if_pos hok, lefN_end])
    have HNX := Lib.hid fun k (hk : k < l.length) => lefN_next (p := p) hk
    have HLN := Lib.hid fun k => lefN_len l p k
    have hm : l.length ≤ 10 := (bxsOk_each (plOk_bok hok)).2
    have HCT := Lib.hid fun (x : Int) (w' : World) (hs : Below w.heap.size w w') => slContains_any v p x w' (hp.keep hs)
    rw [hok] at HPV
    have hz0 : lefN l p 0 = [] := rfl
    obtain ⟨ua, uc, rfl⟩ : ∃ a c, u = .slice a l.length c := by obtain ⟨a, c, e, _⟩ := hb; exact ⟨a, c, e⟩
    have HBX := Lib.hid fun (h0 : 0 < l.length) => hb.cellsAt h0
    obtain ⟨n, hn⟩ : ∃ n, n = l.length := ⟨_, rfl⟩
    rw [← hn] at HPV HE HBX HNX hm ⊢
    clear hok hb hp hn PK
    go_enter Try.func25, Try.ntmps25
    go_wp2_with fail
    rw [← HW.out]
    go_wp2_with fail
    refine (HPV.out _ HB.out).mono ?_
    rintro e w4 ⟨rfl, b4⟩
    have C4 := Lib.hid (HB.out.trans (b4.mono HB.out.size))
    clear b4 y0 y1 y2
    go_wp2_with fail
    go_loopw [7, 17] (fun va i wr => ∃ k : Nat, k ≤ n ∧ i = .int .i64 k ∧ Hid (OwnI w4.heap.size wr va (lefN l p k)) ∧ Hid (Below w4.heap.size w4 wr)) (fun _ i _ => n - (intOf i).toNat)
    case atStart => exact ⟨0, by omega, rfl, by rw [hz0]; exact Lib.hid OwnI.nil, Lib.hid (Below.refl _ _)⟩
    case round =>
      clear hz0
      obtain ⟨k, hkn, rfl, HOW, DR⟩ := hrel
      have BR := Lib.hid (C4.out.trans (DR.out.mono C4.out.size))
      by_cases hlt : k < n
      · have hnx := HNX.out k hlt
        have hln := HLN.out k
        obtain ⟨Ls, hLs⟩ : ∃ Ls, Ls = lefN l p k := ⟨_, rfl⟩
        rw [← hLs] at HOW hnx hln
        obtain ⟨bb, bo, rfl, hbbl, hcl⟩ := HBX.out (by omega)
        have hcj := hcl wr BR.out k hlt
        have s0 : wr.cell? ⟨bb, bo + k * 5, none⟩ = some (.int .i64 (bxAt l k).i) := hcj 0 (by omega)
        have s1 : wr.cell? ⟨bb, bo + k * 5 + 1, none⟩ = some (.int .i64 (bxAt l k).g) := hcj 1 (by omega)
        have s2 : wr.cell? ⟨bb, bo + k * 5 + 2, none⟩ = some (.int .i64 (bxAt l k).c) := hcj 2 (by omega)
        have s3 : wr.cell? ⟨bb, bo + k * 5 + 3, none⟩ = some (.int .i64 (bxAt l k).p) := hcj 3 (by omega)
        have s4 : wr.cell? ⟨bb, bo + k * 5 + 4, none⟩ = some (.bool (bxAt l k).d) := hcj 4 (by omega)
        obtain ⟨x, hx⟩ : ∃ x, x = bxAt l k := ⟨_, rfl⟩
        rw [← hx] at s0 s1 s2 s3 s4 hnx
        have hszr : w4.heap.size ≤ wr.heap.size := DR.out.size
        have hA := (Below.refl w4.heap.size wr).alloc hszr (.cells #[.int .i64 x.i, .int .i64 x.g, .int .i64 x.c, .int .i64 x.p, .bool x.d] 33)
        have hA2 := (Below.refl wr.heap.size wr).alloc (Nat.le_refl _) (.cells #[.int .i64 x.i, .int .i64 x.g, .int .i64 x.c, .int .i64 x.p, .bool x.d] 33)
        have HA := Lib.hid hA
        have HA2 := Lib.hid hA2
        have HOb := Lib.hid (HOW.out.keep hA2)
        have ik : (k : Int) < (n : Int) := by omega
        have i0k : (0 : Int) ≤ (k : Int) := by omega
        have HN := Lib.hid hnx
        clear hcj hcl hx hnx hA hA2 hbbl
        have HC := Lib.hid (HCT.out x.i (wr.alloc (.cells #[.int .i64 x.i, .int .i64 x.g, .int .i64 x.c, .int .i64 x.p, .bool x.d] 33)) (BR.out.trans (HA2.out.mono BR.out.size)))
        clear hLs HOW
        cases ho : hasI p x.i
        · have HN2 := Lib.hid (show lefN l p (k + 1) = Ls ++ [x.i] from by rw [HN.out, ho]; exact if_neg (by simp))
          rw [ho] at HC
          clear ho
          go_wp2_with fail
          refine HC.out.mono ?_
          rintro e w5 ⟨rfl, rfl⟩
          go_wp2_with (at_builtin; refine wpList_append_own _ rfl _ _ 25 rfl w4.heap.size 3 i0 (.int .i64 0) 1 8 Try.underlying25 HI.out HZ0.out HZ1.out HZ2.out rfl (by decide) _ Ls.length (rowI Ls) rfl (HOb.out.alloc _) ⟨wr.heap.size + 1, 0, none⟩ 1 1 [.int .i64 x.i] rfl rfl (fun j u hu => cells_second j u hu) (by simp [Value.oneCell']) (by unfold maxLen; omega) (by omega) (by simp; omega) ?_; intro v8 w8 hown8 hgrow _)
          have hb8 : Below w4.heap.size wr w8 := (HA.out.alloc (by simp; omega) _).trans (own_below hgrow (by simp; omega) (fun k' hk' => (own_lt HOb.out k' hk').1))
          have HO8 := Lib.hid (show OwnI w4.heap.size w8 v8 (Ls ++ [x.i]) from own_put hown8)
          have D8 := Lib.hid (DR.out.trans hb8)
          clear hgrow hown8 hb8
          go_wp2_with fail
          go_roundw
          case rel => exact ⟨k + 1, by omega, by go_num, by rw [HN2.out]; exact HO8, D8⟩
          case measure => simp [intOf]; omega
        · have HN2 := Lib.hid (show lefN l p (k + 1) = Ls from by rw [HN.out, ho]; exact if_pos rfl)
          rw [ho] at HC
          clear ho
          go_wp2_with fail
          refine HC.out.mono ?_
          rintro e w5 ⟨rfl, rfl⟩
          go_wp2_with fail
          go_roundw
          case rel => exact ⟨k + 1, by omega, by go_num, by rw [HN2.out]; exact HOb, Lib.hid (DR.out.trans HA.out)⟩
          case measure => simp [intOf]; omega
      · obtain rfl : k = n := by omega
        have C9 := BR.out
        have O9 := (HOW.out.from_ C4.out.size).freeE
        go_wp2_with fail
        go_ret
        exact ⟨_, rfl, by rw [HE.out]; exact O9, C9⟩
end Go.Proofs.Ytfeobdgdhgcgoaa
