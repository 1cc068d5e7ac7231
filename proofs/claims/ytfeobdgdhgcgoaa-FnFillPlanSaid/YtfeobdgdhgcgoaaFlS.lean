/-
  The model's chapter 14, first part: l14Before, FillOrder.
-/
import Derived.Test.YtfeobdgdhgcgoaaFlMath
import Derived.Test.YtfeobdgdhgcgoaaGBx
import Derived.Test.YtfeobdgdhgcgoaaGPl
import Derived.Test.YtfeobdgdhgcgoaaGBase
import Derived.Test.YtfeobdgdhgcgoaaGLm
import Derived.Test.YtfeobdgdhgcgoaaGNo
import Derived.Laws.AppendOwnNone
import Derived.Deep.RegionHeld3
import Derived.Deep.QuietTactic
import Derived.BigQuiet
namespace Go.Proofs.Ytfeobdgdhgcgoaa
open Go.RowKit
set_option linter.unusedVariables false

theorem belowF_drewN {B : Nat} {a w : World} (h : Below B a w) (n : Nat) : Below B a (w.drewN n) := ⟨h.os, h.tape, h.output, h.size, h.block⟩
theorem quiet_sameF {P : Program} {f : FuncId} {args : Array Value} {w : World} {n : Nat} {v : Value}
    (h : Calls P f args (w.drewN n) fun e w' => e = .returned v ∧ w.drewN n = w') : Calls P f args (w.drewN n) fun e w'' => e = .returned v ∧ ∃ m, w'' = w.drewN m :=
  h.mono fun _ _ ⟨he, hm⟩ => ⟨he, n, hm.symm⟩
theorem bst_left {l : List Bx} (h : bxsOk l = true) {k : Nat} (hk : k < l.length) : ∃ b : Nat, bstF l (selF l k) l.length = (b : Int) ∧ b < l.length := by
  rcases bstF_law h (selF l k) l.length (Nat.le_refl _) with ⟨i1, i2⟩ | ⟨b, i1, i2, i3, i4⟩
  · exfalso
    have hall : ∀ x, x ∈ bxIds l → x ∈ selF l k := fun x hx => by
      obtain ⟨i, hi, rfl⟩ := mem_ids.1 hx
      exact hasI_iffP.1 (i2 i hi)
    have := List.Nodup.length_le_of_subset (bxIds_nodup h) hall
    rw [selF_len] at this
    have e : (bxIds l).length = l.length := by simp [bxIds]
    omega
  · exact ⟨b, i1, i2⟩
/-- Boxes that are held, by their cells: wherever what was there has not turned. -/
theorem HoldsBx.cellsAt {w : World} {ua : Option Addr} {uc : Nat} {l : List Bx} (h : HoldsBx w (.slice ua l.length uc) l) (hl : 0 < l.length) : ∃ bb bo, ua = some ⟨bb, bo, none⟩ ∧ bb < w.heap.size ∧ ∀ w', Below w.heap.size w w' → ∀ k, k < l.length → ∀ j, j < 5 → w'.cell? ⟨bb, bo + (k * 5 + j), none⟩ = (bxAt l k).cells[j]? := by
  obtain ⟨a', c', e', _, _, h4⟩ := h
  simp only [Value.slice.injEq] at e'
  rcases h4 with h4 | ⟨b9, off9, h5, h6, h7⟩
  · omega
  · refine ⟨b9, off9, e'.1.trans h5, h6, fun w' hs k hk j hj => ?_⟩
    rw [Below.cell hs (p := ⟨b9, off9 + (k * 5 + j), none⟩) h6, bxAt_get hk]
    exact h7 k hk j hj

set_option maxRecDepth 10000 in
set_option maxHeartbeats 2000000 in
theorem l14Before_any (a b : Bx) (w : World) :
    Calls Try.prog 47 #[.agg #[.int .i64 a.i, .int .i64 a.g, .int .i64 a.c, .int .i64 a.p, .bool a.d], .agg #[.int .i64 b.i, .int .i64 b.g, .int .i64 b.c, .int .i64 b.p, .bool b.d]] w fun e w' => e = .returned (.bool (befB a b)) ∧ Below w.heap.size w w' := by
  have hs1 : (w.alloc (.cells #[.int .i64 a.i, .int .i64 a.g, .int .i64 a.c, .int .i64 a.p, .bool a.d] 33)).heap.size = w.heap.size + 1 := by simp
  have b2 := BoxAt.new (w := w.alloc (.cells #[.int .i64 a.i, .int .i64 a.g, .int .i64 a.c, .int .i64 a.p, .bool a.d] 33)) (i := b.i) (g := b.g) (c := b.c) (p := b.p) (d := b.d) (T := 33) (Below.refl _ _)
  have b1 := BoxAt.new (w := w) (i := a.i) (g := a.g) (c := a.c) (p := a.p) (d := a.d) (T := 33) (w' := (w.alloc (.cells #[.int .i64 a.i, .int .i64 a.g, .int .i64 a.c, .int .i64 a.p, .bool a.d] 33)).alloc (.cells #[.int .i64 b.i, .int .i64 b.g, .int .i64 b.c, .int .i64 b.p, .bool b.d] 33)) ((Below.refl _ _).alloc (Nat.le_refl _) _)
  rw [hs1] at b2
  obtain ⟨W2, hW2⟩ : ∃ W2, W2 = (w.alloc (.cells #[.int .i64 a.i, .int .i64 a.g, .int .i64 a.c, .int .i64 a.p, .bool a.d] 33)).alloc (.cells #[.int .i64 b.i, .int .i64 b.g, .int .i64 b.c, .int .i64 b.p, .bool b.d] 33) := ⟨_, rfl⟩
  rw [← hW2] at b1 b2
  have HW := Lib.hid hW2
  have C9 : Below w.heap.size w W2 := b1.2.2
  obtain ⟨x0, x1, -, x3, -⟩ := b1.cells
  obtain ⟨y0, y1, -, y3, -⟩ := b2.cells
  have HE := Lib.hid (show befB a b = if a.p ≠ b.p then decide (a.p > b.p) else if a.g ≠ b.g then decide (a.g > b.g) else decide (a.i < b.i) from rfl)
  generalize befB a b = r at HE ⊢
  clear b1 b2 hW2 hs1
  by_cases c1 : a.p = b.p
  · have n1 : (a.p != b.p) = false := by simp [c1]
    have E2 := Lib.hid (HE.out.trans (if_neg (fun h => h c1)))
    by_cases c2 : a.g = b.g
    · have n2 : (a.g != b.g) = false := by simp [c2]
      have E3 := Lib.hid (E2.out.trans (if_neg (fun h => h c2)))
      generalize a.p = ap at *
      generalize a.g = ag at *
      clear c1 c2 HE E2
      go_enter Try.func47, Try.ntmps47
      go_wp2_with fail
      rw [← HW.out]
      go_wp2_with fail
      go_ret
      exact ⟨by rw [E3.out]; first | done | rfl, C9⟩
    · have n2 : (a.g != b.g) = true := by simpa using c2
      have E3 := Lib.hid (E2.out.trans (if_pos c2))
      clear c1 c2 HE E2
      go_enter Try.func47, Try.ntmps47
      go_wp2_with fail
      rw [← HW.out]
      go_wp2_with fail
      go_ret
      exact ⟨by rw [E3.out]; first | done | rfl, C9⟩
  · have n1 : (a.p != b.p) = true := by simpa using c1
    have E2 := Lib.hid (HE.out.trans (if_pos c1))
    clear c1 HE
    go_enter Try.func47, Try.ntmps47
    go_wp2_with fail
    rw [← HW.out]
    go_wp2_with fail
    go_ret
    exact ⟨by rw [E2.out]; first | done | rfl, C9⟩

set_option maxRecDepth 10000 in
set_option maxHeartbeats 8000000 in
theorem specFillOrder_any (u : Value) (l : List Bx) (w : World) (hb : HoldsBx w u l) :
    Calls Try.prog 12 #[u] w fun e w' => ∃ v', e = .returned v' ∧ OwnI w.heap.size w' v' (fillO l) ∧ Below w.heap.size w w' := by
  obtain ⟨i0, hi, hz0, hz1, hz2⟩ := info_parts infoInt
  have HI := Lib.hid hi
  have HZ0 := Lib.hid hz0
  have HZ1 := Lib.hid hz1
  have HZ2 := Lib.hid hz2
  clear hi hz0 hz1 hz2
  have HBV := Lib.hid fun (w' : World) (hs : Below w.heap.size w w') => specBoxesValid_any u l w' (hb.keep hs)
  have hb1 := (Below.refl w.heap.size w).alloc (Nat.le_refl _) (.cells #[] 3)
  have ho1 : OwnI w.heap.size (w.alloc (.cells #[] 3)) (.slice (some ⟨w.heap.size, 0, none⟩) 0 0) [] := OwnI.zero (Nat.le_refl _)
  obtain ⟨W1, hW1⟩ : ∃ W1, W1 = w.alloc (.cells #[] 3) := ⟨_, rfl⟩
  rw [← hW1] at hb1 ho1
  have HW := Lib.hid hW1
  have HB := Lib.hid hb1
  have HO := Lib.hid ho1
  obtain ⟨ua, uc, rfl⟩ : ∃ a c, u = .slice a l.length c := by obtain ⟨a, c, e, _⟩ := hb; exact ⟨a, c, e⟩
  clear hW1 hb1 ho1
  by_cases hgo : 0 < l.length ∧ bxsOk l = true
  · obtain ⟨hl0, hok⟩ := hgo
    have HE := Lib.hid (show fillO l = selF l l.length from if_pos hok)
    obtain ⟨bb, bo, rfl, hbbl, hcl⟩ := hb.cellsAt hl0
    have HC := Lib.hid hcl
    have HBL := Lib.hid fun k (hk : k < l.length) => bst_left hok hk
    have HLN := Lib.hid fun k => selF_len l k
    have HNX := Lib.hid fun k => (show selF l (k + 1) = selF l k ++ [(bxAt l (bstF l (selF l k) l.length).toNat).i] from rfl)
    have HBD := Lib.hid fun out n => bstF_bd l out n
    have HBN := Lib.hid fun out j => (show bstF l out (j + 1) = if hasI out (bxAt l j).i = false ∧ (bstF l out j < 0 ∨ befB (bxAt l j) (bxAt l (bstF l out j).toNat) = true) then (j : Int) else bstF l out j from rfl)
    have hm : l.length ≤ 1048577 := by
      have h9 := (bxsOk_each hok).2
      omega
    rw [hok] at HBV
    have hz0 : selF l 0 = [] := rfl
    have hz1 : ∀ out, bstF l out 0 = -1 := fun _ => rfl
    have HZ1' := Lib.hid hz1
    obtain ⟨n, hn⟩ : ∃ n, n = l.length := ⟨_, rfl⟩
    rw [← hn] at HBV HE HC HBL HNX hm ⊢
    rw [← hz0] at HO
    clear hok hb hcl hn hl0 hz0 hz1
    go_enter Try.func12, Try.ntmps12
    go_wp2_with fail
    rw [← HW.out]
    go_wp2_with fail
    go_loopw [3, 4] (fun va i wr => ∃ k : Nat, k ≤ n ∧ i = .int .i64 k ∧ Hid (OwnI w.heap.size wr va (selF l k)) ∧ Hid (Below w.heap.size w wr)) (fun _ i _ => n - (intOf i).toNat)
    case atStart => exact ⟨0, by omega, rfl, HO, HB⟩
    case round =>
      clear HO HB
      obtain ⟨k, hkn, rfl, HOW, BR⟩ := hrel
      by_cases hlt : k < n
      · have ik : (k : Int) < (n : Int) := by omega
        have hln := HLN.out k
        have hnx := HNX.out k
        have hbl := HBL.out k hlt
        obtain ⟨Ls, hLs⟩ : ∃ Ls, Ls = selF l k := ⟨_, rfl⟩
        rw [← hLs] at HOW hln hnx hbl
        obtain ⟨bz, hbz, hbzn⟩ := hbl
        rw [hbz, Int.toNat_natCast] at hnx
        have HNk := Lib.hid hnx
        have HZ := Lib.hid hbz
        have hlk : Ls.length ≤ k := Nat.le_of_eq hln
        clear hln hnx hbz hLs
        go_wp2_with fail
        refine (HBV.out wr BR.out).mono ?_
        rintro e wo ⟨rfl, do_⟩
        have BO := Lib.hid (BR.out.trans (do_.mono BR.out.size))
        have HOO := Lib.hid (HOW.out.keep do_)
        have DZ := Lib.hid (Below.refl wo.heap.size wo)
        clear do_ HOW
        go_wp2_with fail
        go_loopw [5, 6] (fun bv jv wi => ∃ j : Nat, j ≤ n ∧ bv = .int .i64 (bstF l Ls j) ∧ jv = .int .i64 j ∧ Hid (Below wo.heap.size wo wi)) (fun _ jv _ => n - (intOf jv).toNat)
        case atStart => exact ⟨0, by omega, by rw [HZ1'.out], rfl, DZ⟩
        case round =>
          clear DZ
          obtain ⟨wi, rfl⟩ : ∃ wi : World, wi = wr := ⟨_, rfl⟩
          obtain ⟨j, hjn, rfl, rfl, BI⟩ := hrel
          have BW := Lib.hid (BO.out.trans (BI.out.mono BO.out.size))
          have HOI := Lib.hid (HOO.out.keep BI.out)
          by_cases hltj : j < n
          · have ij : (j : Int) < (n : Int) := by omega
            have i0j : (0 : Int) ≤ (j : Int) := by omega
            have hbn := HBN.out Ls j
            have hbd := HBD.out Ls j
            have hcj := HC.out wi BW.out j hltj
            have HQ := Lib.hid fun m => l1Has_any _ Ls (bxAt l j).i (wi.drewN m) (HOI.out.keep (belowF_drewN (Below.refl wi.heap.size wi) m)).holds
            have B9 := Lib.hid fun m => belowF_drewN BI.out m
            have HHk := Lib.hid fun (w' : World) (hs : Since wi w') => l1Has_any _ Ls (bxAt l j).i w' (HOI.out.keep hs).holds
            obtain ⟨x, hx⟩ : ∃ x, x = bxAt l j := ⟨_, rfl⟩
            rw [← hx] at hbn hcj HHk HQ
            have s0 : wi.cell? ⟨bb, bo + j * 5, none⟩ = some (.int .i64 x.i) := hcj 0 (by omega)
            have s1 : wi.cell? ⟨bb, bo + j * 5 + 1, none⟩ = some (.int .i64 x.g) := hcj 1 (by omega)
            have s2 : wi.cell? ⟨bb, bo + j * 5 + 2, none⟩ = some (.int .i64 x.c) := hcj 2 (by omega)
            have s3 : wi.cell? ⟨bb, bo + j * 5 + 3, none⟩ = some (.int .i64 x.p) := hcj 3 (by omega)
            have s4 : wi.cell? ⟨bb, bo + j * 5 + 4, none⟩ = some (.bool x.d) := hcj 4 (by omega)
            have hbi : bb < wi.heap.size := Nat.lt_of_lt_of_le hbbl BW.out.size
            clear hcj hx
            cases ho : hasI Ls x.i
            · rw [ho] at HHk
              by_cases hneg : bstF l Ls j < 0
              · rw [if_pos ⟨ho, .inl hneg⟩] at hbn
                have HP := Lib.hid hbn
                have hq : bstF l Ls j = -1 := by omega
                rw [hq]
                rw [ho] at HQ
                clear hbn hq hneg hbd ho s1 s2 s3 s4 HHk
                go_wp2_with fail
                go_quiet (first | (go_at_call 46; with_reducible refine quiet_sameF (HQ.out _)) | fail)
                go_wp2_with fail
                go_roundw
                case rel => exact ⟨j + 1, by omega, by rw [HP.out], by go_num, Lib.hid (B9.out _)⟩
                case measure => simp [intOf]; omega
              · obtain ⟨b, hbj⟩ : ∃ b : Nat, bstF l Ls j = (b : Int) := ⟨(bstF l Ls j).toNat, by omega⟩
                have hbjn : b < n := by omega
                rw [hbj, Int.toNat_natCast] at hbn
                have hcb := HC.out wi BW.out b hbjn
                obtain ⟨y, hy⟩ : ∃ y, y = bxAt l b := ⟨_, rfl⟩
                rw [← hy] at hbn hcb
                have t0 : wi.cell? ⟨bb, bo + b * 5, none⟩ = some (.int .i64 y.i) := hcb 0 (by omega)
                have t1 : wi.cell? ⟨bb, bo + b * 5 + 1, none⟩ = some (.int .i64 y.g) := hcb 1 (by omega)
                have t2 : wi.cell? ⟨bb, bo + b * 5 + 2, none⟩ = some (.int .i64 y.c) := hcb 2 (by omega)
                have t3 : wi.cell? ⟨bb, bo + b * 5 + 3, none⟩ = some (.int .i64 y.p) := hcb 3 (by omega)
                have t4 : wi.cell? ⟨bb, bo + b * 5 + 4, none⟩ = some (.bool y.d) := hcb 4 (by omega)
                have ib : (b : Int) < (n : Int) := by omega
                have i0b : (0 : Int) ≤ (b : Int) := by omega
                have inb : decide ((b : Int) < 0) = false := decide_eq_false (by omega)
                have HBE := Lib.hid (fun (w' : World) => l14Before_any x y w')
                have HK := Lib.hid fun (w' : World) (hs : Since wi w') => (show w'.cell? ⟨bb, bo + j * 5, none⟩ = some (.int .i64 x.i) ∧ w'.cell? ⟨bb, bo + j * 5 + 1, none⟩ = some (.int .i64 x.g) ∧ w'.cell? ⟨bb, bo + j * 5 + 2, none⟩ = some (.int .i64 x.c) ∧ w'.cell? ⟨bb, bo + j * 5 + 3, none⟩ = some (.int .i64 x.p) ∧ w'.cell? ⟨bb, bo + j * 5 + 4, none⟩ = some (.bool x.d) ∧ w'.cell? ⟨bb, bo + b * 5, none⟩ = some (.int .i64 y.i) ∧ w'.cell? ⟨bb, bo + b * 5 + 1, none⟩ = some (.int .i64 y.g) ∧ w'.cell? ⟨bb, bo + b * 5 + 2, none⟩ = some (.int .i64 y.c) ∧ w'.cell? ⟨bb, bo + b * 5 + 3, none⟩ = some (.int .i64 y.p) ∧ w'.cell? ⟨bb, bo + b * 5 + 4, none⟩ = some (.bool y.d) ∧ Since wi w' from ⟨(Below.cell hs (p := ⟨bb, bo + j * 5, none⟩) hbi).trans s0, (Below.cell hs (p := ⟨bb, bo + j * 5 + 1, none⟩) hbi).trans s1, (Below.cell hs (p := ⟨bb, bo + j * 5 + 2, none⟩) hbi).trans s2, (Below.cell hs (p := ⟨bb, bo + j * 5 + 3, none⟩) hbi).trans s3, (Below.cell hs (p := ⟨bb, bo + j * 5 + 4, none⟩) hbi).trans s4, (Below.cell hs (p := ⟨bb, bo + b * 5, none⟩) hbi).trans t0, (Below.cell hs (p := ⟨bb, bo + b * 5 + 1, none⟩) hbi).trans t1, (Below.cell hs (p := ⟨bb, bo + b * 5 + 2, none⟩) hbi).trans t2, (Below.cell hs (p := ⟨bb, bo + b * 5 + 3, none⟩) hbi).trans t3, (Below.cell hs (p := ⟨bb, bo + b * 5 + 4, none⟩) hbi).trans t4, hs⟩)
                have hstart := HK.out _ (show Since wi wi.drew from (Below.refl _ _).drew)
                cases hbe : befB x y
                · rw [hbe] at HBE
                  rw [if_neg (fun hc => by rcases hc.2 with h9 | h9; { omega }; { rw [hbe] at h9; cases h9 })] at hbn
                  have HP := Lib.hid hbn
                  rw [hbj]
                  clear hbn hbj hbd ho hcb hy hbe hneg s0 s1 s2 s3 s4 t0 t1 t2 t3 t4
                  go_wp2_with fail
                  (first | go_region_held3 (fun w' => w'.cell? ⟨bb, bo + j * 5, none⟩ = some (.int .i64 x.i) ∧ w'.cell? ⟨bb, bo + j * 5 + 1, none⟩ = some (.int .i64 x.g) ∧ w'.cell? ⟨bb, bo + j * 5 + 2, none⟩ = some (.int .i64 x.c) ∧ w'.cell? ⟨bb, bo + j * 5 + 3, none⟩ = some (.int .i64 x.p) ∧ w'.cell? ⟨bb, bo + j * 5 + 4, none⟩ = some (.bool x.d) ∧ w'.cell? ⟨bb, bo + b * 5, none⟩ = some (.int .i64 y.i) ∧ w'.cell? ⟨bb, bo + b * 5 + 1, none⟩ = some (.int .i64 y.g) ∧ w'.cell? ⟨bb, bo + b * 5 + 2, none⟩ = some (.int .i64 y.c) ∧ w'.cell? ⟨bb, bo + b * 5 + 3, none⟩ = some (.int .i64 y.p) ∧ w'.cell? ⟨bb, bo + b * 5 + 4, none⟩ = some (.bool y.d) ∧ Since wi w')
                    (first | exact hstart | exact HK.out _ s5 | exact HK.out _ (by exact (‹_ ∧ _› : _ ∧ _ ∧ _ ∧ _ ∧ _ ∧ _ ∧ _ ∧ _ ∧ _ ∧ _ ∧ Since wi _).2.2.2.2.2.2.2.2.2.2) | fail)
                    (first
                      | (go_at_call 46; ((with_reducible refine (HHk.out _ (by exact (‹_ ∧ _› : _ ∧ _ ∧ _ ∧ _ ∧ _ ∧ _ ∧ _ ∧ _ ∧ _ ∧ _ ∧ Since wi _).2.2.2.2.2.2.2.2.2.2)).mono ?_); rintro e w4 ⟨rfl, rfl⟩))
                      | (go_at_call 47; ((with_reducible refine (HBE.out _).mono ?_); rintro e w5 ⟨rfl, d5⟩; have s5 : Since wi w5 := Since.call (by exact (‹_ ∧ _› : _ ∧ _ ∧ _ ∧ _ ∧ _ ∧ _ ∧ _ ∧ _ ∧ _ ∧ _ ∧ Since wi _).2.2.2.2.2.2.2.2.2.2) d5; clear d5))
                      | fail) | fail)
                  rename_i hheld
                  have BR8 := Lib.hid (BI.out.trans (Below.mono hheld.2.2.2.2.2.2.2.2.2.2 BI.out.size))
                  clear hheld hstart
                  go_wp2_with fail
                  go_roundw
                  case rel => exact ⟨j + 1, by omega, by rw [HP.out], by go_num, BR8⟩
                  case measure => simp [intOf]; omega
                · rw [hbe] at HBE
                  rw [if_pos ⟨ho, .inr hbe⟩] at hbn
                  have HP := Lib.hid hbn
                  rw [hbj]
                  clear hbn hbj hbd ho hcb hy hbe hneg s0 s1 s2 s3 s4 t0 t1 t2 t3 t4
                  go_wp2_with fail
                  (first | go_region_held3 (fun w' => w'.cell? ⟨bb, bo + j * 5, none⟩ = some (.int .i64 x.i) ∧ w'.cell? ⟨bb, bo + j * 5 + 1, none⟩ = some (.int .i64 x.g) ∧ w'.cell? ⟨bb, bo + j * 5 + 2, none⟩ = some (.int .i64 x.c) ∧ w'.cell? ⟨bb, bo + j * 5 + 3, none⟩ = some (.int .i64 x.p) ∧ w'.cell? ⟨bb, bo + j * 5 + 4, none⟩ = some (.bool x.d) ∧ w'.cell? ⟨bb, bo + b * 5, none⟩ = some (.int .i64 y.i) ∧ w'.cell? ⟨bb, bo + b * 5 + 1, none⟩ = some (.int .i64 y.g) ∧ w'.cell? ⟨bb, bo + b * 5 + 2, none⟩ = some (.int .i64 y.c) ∧ w'.cell? ⟨bb, bo + b * 5 + 3, none⟩ = some (.int .i64 y.p) ∧ w'.cell? ⟨bb, bo + b * 5 + 4, none⟩ = some (.bool y.d) ∧ Since wi w')
                    (first | exact hstart | exact HK.out _ s5 | exact HK.out _ (by exact (‹_ ∧ _› : _ ∧ _ ∧ _ ∧ _ ∧ _ ∧ _ ∧ _ ∧ _ ∧ _ ∧ _ ∧ Since wi _).2.2.2.2.2.2.2.2.2.2) | fail)
                    (first
                      | (go_at_call 46; ((with_reducible refine (HHk.out _ (by exact (‹_ ∧ _› : _ ∧ _ ∧ _ ∧ _ ∧ _ ∧ _ ∧ _ ∧ _ ∧ _ ∧ _ ∧ Since wi _).2.2.2.2.2.2.2.2.2.2)).mono ?_); rintro e w4 ⟨rfl, rfl⟩))
                      | (go_at_call 47; ((with_reducible refine (HBE.out _).mono ?_); rintro e w5 ⟨rfl, d5⟩; have s5 : Since wi w5 := Since.call (by exact (‹_ ∧ _› : _ ∧ _ ∧ _ ∧ _ ∧ _ ∧ _ ∧ _ ∧ _ ∧ _ ∧ _ ∧ Since wi _).2.2.2.2.2.2.2.2.2.2) d5; clear d5))
                      | fail) | fail)
                  rename_i hheld
                  have BR8 := Lib.hid (BI.out.trans (Below.mono hheld.2.2.2.2.2.2.2.2.2.2 BI.out.size))
                  clear hheld hstart
                  go_wp2_with fail
                  go_roundw
                  case rel => exact ⟨j + 1, by omega, by rw [HP.out], by go_num, BR8⟩
                  case measure => simp [intOf]; omega
            · rw [ho] at HHk
              rw [if_neg (fun hc => by rw [ho] at hc; cases hc.1)] at hbn
              have HP := Lib.hid hbn
              rw [ho] at HQ
              generalize bstF l Ls j = q at *
              clear hbn hbd ho s1 s2 s3 s4 HHk
              go_wp2_with fail
              go_quiet (first | (go_at_call 46; with_reducible refine quiet_sameF (HQ.out _)) | fail)
              go_wp2_with fail
              go_roundw
              case rel => exact ⟨j + 1, by omega, by rw [HP.out], by go_num, Lib.hid (B9.out _)⟩
              case measure => simp [intOf]; omega
          · obtain rfl : j = n := by omega
            have e0 : wi.cell? ⟨bb, bo + bz * 5, none⟩ = some (.int .i64 (bxAt l bz).i) := HC.out wi BW.out bz hbzn 0 (by omega)
            obtain ⟨x, hx⟩ : ∃ x, x = (bxAt l bz).i := ⟨_, rfl⟩
            rw [← hx] at e0 HNk
            rw [HZ.out]
            have ib : (bz : Int) < (j : Int) := by omega
            have i0b : (0 : Int) ≤ (bz : Int) := by omega
            have hnj : ¬ (j : Int) < (j : Int) := by omega
            have HOW := HOI
            have hszi : w.heap.size ≤ wi.heap.size := BW.out.size
            clear hx
            go_wp2_with (at_builtin; refine wpList_append_own _ rfl _ _ 25 rfl w.heap.size 3 i0 (.int .i64 0) 1 8 Try.underlying25 HI.out HZ0.out HZ1.out HZ2.out rfl (by decide) _ (Ls).length (rowI (Ls)) rfl (HOW.out.alloc _) ⟨wi.heap.size, 0, none⟩ 1 1 [.int .i64 x] rfl rfl (fun j u hu => cells_new j u hu) (by simp [Value.oneCell']) (by unfold maxLen; omega) (by omega) (by have := hszi; simp; omega) ?_; intro v5 w5 hown5 hgrow _)
            have hb5 : Below w.heap.size wi w5 := ((Below.refl _ _).alloc (by have := hszi; omega) _).trans (own_below hgrow (by have := hszi; simp; omega) (fun k' hk' => (own_lt HOW.out k' hk').1))
            have hO5 : OwnI w.heap.size w5 v5 (Ls ++ [x]) := own_put hown5
            clear hgrow hown5
            rw [← HNk.out] at hO5
            have HO5 := Lib.hid hO5
            have D5 := Lib.hid (BW.out.trans hb5)
            clear hO5 hb5
            go_roundw
            case rel => exact ⟨k + 1, by omega, by go_num, HO5, D5⟩
            case measure => simp [intOf]; omega
      · obtain rfl : k = n := by omega
        have C9 := BR.out
        have O9 := HOW.out
        have hnk : ¬ (k : Int) < (k : Int) := by omega
        go_wp2_with fail
        go_ret
        exact ⟨_, rfl, by rw [HE.out]; exact O9, C9⟩
  · have HE := Lib.hid (show fillO l = [] from by
      unfold fillO
      by_cases h9 : bxsOk l = true
      · have h8 : l.length = 0 := by
          rcases Nat.eq_zero_or_pos l.length with h7 | h7
          · exact h7
          · exact absurd ⟨h7, h9⟩ hgo
        rw [if_pos h9, h8]; rfl
      · rw [if_neg h9])
    have hb9 := hgo
    obtain ⟨n, hn⟩ : ∃ n, n = l.length := ⟨_, rfl⟩
    rw [← hn] at HBV hgo ⊢
    clear hb hn hb9
    by_cases h0 : 0 < n
    · have hok : bxsOk l = false := by
        cases h9 : bxsOk l
        · rfl
        · exact absurd ⟨h0, h9⟩ hgo
      rw [hok] at HBV
      have i0 : (0 : Int) < (n : Int) := by omega
      clear hok hgo
      go_enter Try.func12, Try.ntmps12
      go_wp2_with fail
      rw [← HW.out]
      go_wp2_with fail
      go_loopw [3, 4] (fun va i wr => va = .slice (some ⟨w.heap.size, 0, none⟩) 0 0 ∧ i = .int .i64 0 ∧ wr = W1) (fun _ _ _ => 0)
      case atStart => exact ⟨rfl, rfl, rfl⟩
      case round =>
        obtain ⟨rfl, rfl, rfl⟩ := hrel
        go_wp2_with fail
        refine (HBV.out _ HB.out).mono ?_
        rintro e w2 ⟨rfl, d2⟩
        have C9 := HB.out.trans (d2.mono HB.out.size)
        have O9 := HO.out.keep d2
        go_wp2_with fail
        go_ret
        exact ⟨_, rfl, by rw [HE.out]; exact O9, C9⟩
    · obtain rfl : n = 0 := by omega
      clear hgo
      go_enter Try.func12, Try.ntmps12
      go_wp2_with fail
      rw [← HW.out]
      go_wp2_with fail
      go_loopw [3, 4] (fun va i wr => va = .slice (some ⟨w.heap.size, 0, none⟩) 0 0 ∧ i = .int .i64 0 ∧ wr = W1) (fun _ _ _ => 0)
      case atStart => exact ⟨rfl, rfl, rfl⟩
      case round =>
        obtain ⟨rfl, rfl, rfl⟩ := hrel
        have C9 := HB.out
        have O9 := HO.out
        go_wp2_with fail
        go_ret
        exact ⟨_, rfl, by rw [HE.out]; exact O9, C9⟩

end Go.Proofs.Ytfeobdgdhgcgoaa
