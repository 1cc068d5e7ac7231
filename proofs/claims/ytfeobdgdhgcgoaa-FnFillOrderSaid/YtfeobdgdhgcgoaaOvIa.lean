/-
  The program's chapter 10, first part: portOf, loadedRows.
-/
import Derived.Test.YtfeobdgdhgcgoaaGOm
import Derived.Test.YtfeobdgdhgcgoaaLsI
import Derived.Test.YtfeobdgdhgcgoaaGrY
import Derived.Test.YtfeobdgdhgcgoaaGSl
import Derived.Test.YtfeobdgdhgcgoaaGBl
import Derived.Laws.AppendOwnNone
import Derived.Maps.AppendAt
import Derived.Deep.RegionHeld3
namespace Go.Proofs.Ytfeobdgdhgcgoaa
open Go.RowKit
set_option linter.unusedVariables false

set_option maxRecDepth 10000 in
set_option maxHeartbeats 1000000 in
theorem implPortOf_any (u : Value) (l : List Bx) (x : Int) (w : World) (hb : HoldsBx w u l) (hx0 : 0 ≤ findB l x) :
    Calls Try.prog 62 #[u, .int .i64 x] w fun e w' => e = .returned (.int .i64 (ptB l x)) ∧ Below w.heap.size w w' := by
  have hbd := (findB_bd l x).2
  have HF := Lib.hid (indexOf_any u l x w hb)
  obtain ⟨i, hi⟩ : ∃ i : Nat, findB l x = (i : Int) := ⟨(findB l x).toNat, by omega⟩
  have hil : i < l.length := by omega
  have hw : ptB l x = l[i].p := by
    unfold ptB
    rw [hi, Int.toNat_natCast, getD_bx hil]
  obtain ⟨bb, bo, bc, rfl, hbl, hc1⟩ : ∃ bb bo bc, u = .slice (some ⟨bb, bo, none⟩) l.length bc ∧ bb < w.heap.size ∧ w.cell? ⟨bb, bo + i * 5 + 3, none⟩ = some (.int .i64 l[i].p) := by
    obtain ⟨a', c', e, q1, q2, q3⟩ := hb
    rcases q3 with q3 | ⟨b', off', q4, q5, q6⟩
    · omega
    · exact ⟨b', off', c', by rw [e, q4], q5, q6 i hil 3 (by omega)⟩
  rw [hw]
  rw [hi] at HF
  generalize l[i].p = g at hc1 ⊢
  have ii : (i : Int) < (l.length : Int) := by omega
  have i0i : (0 : Int) ≤ (i : Int) := by omega
  obtain ⟨m, hm⟩ : ∃ m, m = l.length := ⟨_, rfl⟩
  rw [← hm] at ii HF ⊢
  clear hb hx0 hbd hi hil hw hm
  go_enter Try.func62, Try.ntmps62
  go_wp2_with fail
  refine HF.out.mono ?_
  rintro e w' ⟨rfl, b2⟩
  have hc2 : w'.cell? ⟨bb, bo + i * 5 + 3, none⟩ = some (.int .i64 g) := (b2.cell (p := ⟨bb, bo + i * 5 + 3, none⟩) hbl).trans hc1
  clear hc1
  go_wp2_with fail
  go_ret
  exact ⟨rfl, b2⟩

set_option maxRecDepth 10000 in
set_option maxHeartbeats 1000000 in
theorem implRowNumber_any (h : Hl) (s T : Nat) (w : World) (hk : hlOk h = true) (hl : (s : Int) < slMany h) (hT : h.t = (T : Int)) :
    Calls Try.prog 85 #[.agg #[.int .i64 h.b, .int .i64 h.r, .int .i64 h.t], .int .i64 (s : Int)] w fun e w' => e = .returned (.int .i64 ((s / T : Nat) : Int)) ∧ Below w.heap.size w w' := by
  have hb1 := (Below.refl w.heap.size w).alloc (Nat.le_refl _) (.cells #[.int .i64 h.b, .int .i64 h.r, .int .i64 h.t] 36)
  have hx1 := BoxH.new w h
  obtain ⟨W1, hW1⟩ : ∃ W1, W1 = w.alloc (.cells #[.int .i64 h.b, .int .i64 h.r, .int .i64 h.t] 36) := ⟨_, rfl⟩
  rw [← hW1] at hb1 hx1
  have HW := Lib.hid hW1
  have HB := Lib.hid hb1
  have y0 := hx1.c0
  have y1 := hx1.c1
  have y2 := hx1.c2
  have HX := Lib.hid fun (w' : World) (hs : Below W1.heap.size W1 w') => hx1.keep hs
  clear hW1 hb1 hx1
  have HP := Lib.hid (show Calls Try.prog 111 #[.agg #[.int .i64 h.b, .int .i64 h.r, .int .i64 h.t], .int .i64 (s : Int)] W1 fun e w'' => (∃ x1 x2 x3 y : Int, e = .returned (.tuple #[.int .i64 x1, .int .i64 x2, .int .i64 x3]) ∧ IntKind.i64.wrap (x1 * h.r) = y ∧ IntKind.i64.wrap (y + x2) = ((s / T : Nat) : Int)) ∧ Below W1.heap.size W1 w'' from by
    obtain ⟨g1, g2, g3, g4, g5, g6⟩ := hlOk_iff.1 hk
    obtain ⟨m1, m2, m3⟩ := slMany_bd hk
    have e := plOf_yes (s := (s : Int)) hk (by omega) (by omega)
    have e2 : (s : Int) / h.t = ((s / T : Nat) : Int) := by rw [hT]; rfl
    have hqs : s / T ≤ s := Nat.div_le_self _ _
    obtain ⟨q, hq⟩ : ∃ q, q = s / T := ⟨_, rfl⟩
    rw [e2, ← hq] at e
    rw [← hq] at hqs ⊢
    have h5 : (q : Int) / h.r * h.r + (q : Int) % h.r = (q : Int) := Int.ediv_mul_add_emod _ _
    have h6 : 0 ≤ (q : Int) % h.r := Int.emod_nonneg _ (by omega)
    have h7 : 0 ≤ (q : Int) / h.r * h.r := Int.mul_nonneg (Int.ediv_nonneg (by omega) (by omega)) (by omega)
    refine (implPlaceOf_any h (s : Int) W1).mono ?_
    rintro e' w'' ⟨rfl, b⟩
    refine ⟨⟨_, _, _, (q : Int) / h.r * h.r, by rw [e], IntWalk.i64_in _ (by omega), ?_⟩, b⟩
    rw [h5]
    exact IntWalk.i64_in _ (by omega))
  obtain ⟨q, hq⟩ : ∃ q, q = s / T := ⟨_, rfl⟩
  rw [← hq] at HP ⊢
  clear hk hl hT hq
  go_enter Try.func85, Try.ntmps85
  go_wp2_with fail
  rw [← HW.out]
  go_wp2_with fail
  refine HP.out.mono ?_
  rintro e w2 ⟨⟨x1, x2, x3, yy, rfl, z1, z2⟩, b2⟩
  have y3 := HX.out w2 b2
  have c0 := y3.c0
  have c1 := y3.c1
  have c2 := y3.c2
  clear y0 y1 y2 y3
  go_wp2_with fail
  go_ret
  exact ⟨rfl, HB.out.trans (b2.mono HB.out.size)⟩

set_option maxRecDepth 10000 in
set_option maxHeartbeats 4000000 in
theorem loadedRows_any (h : Hl) (v : Value) (p : List Int) (T R : Nat) (w : World) (hp : HoldsI w v p) (hk : hlOk h = true) (hn0 : (p.length : Int) = slMany h) (hT : h.t = (T : Int)) (hR : h.b * h.r = (R : Int)) :
    Calls Try.prog 61 #[.agg #[.int .i64 h.b, .int .i64 h.r, .int .i64 h.t], v] w fun e w' => ∃ v', e = .returned v' ∧ NewY w.heap.size w' v' (rowsL T p R) ∧ Below w.heap.size w w' := by
  have hb1 := (Below.refl w.heap.size w).alloc (Nat.le_refl _) (.cells #[.int .i64 h.b, .int .i64 h.r, .int .i64 h.t] 36)
  have hx1 := BoxH.new w h
  obtain ⟨W1, hW1⟩ : ∃ W1, W1 = w.alloc (.cells #[.int .i64 h.b, .int .i64 h.r, .int .i64 h.t] 36) := ⟨_, rfl⟩
  rw [← hW1] at hb1 hx1
  have HW := Lib.hid hW1
  have HB := Lib.hid hb1
  have y0 := hx1.c0
  have y1 := hx1.c1
  have y2 := hx1.c2
  have HX := Lib.hid fun (w' : World) (hs : Below W1.heap.size W1 w') => hx1.keep hs
  have hs1 : W1.heap.size = w.heap.size + 1 := by rw [hW1]; simp
  clear hW1 hb1 hx1
  obtain ⟨i0, hi, hz0, hz1, hz2⟩ := info_parts infoInt
  have HI := Lib.hid hi
  have HZ0 := Lib.hid hz0
  have HZ1 := Lib.hid hz1
  have HZ2 := Lib.hid hz2
  clear hi hz0 hz1 hz2
  obtain ⟨i1, ri, rz0, rz1, rz2⟩ := info_parts infoRow
  obtain ⟨g1, g2, g3, g4, g5, g6⟩ := hlOk_iff.1 hk
  obtain ⟨m1, m2, m3⟩ := slMany_bd hk
  have hn : p.length = R * T := by
    rw [m3, hR, hT] at hn0
    have e : ((R * T : Nat) : Int) = (R : Int) * (T : Int) := Int.natCast_mul R T
    omega
  have hT1 : 1 ≤ T ∧ T ≤ 3 := by omega
  have hR36 : R ≤ 36 := by
    have h1 : R * 1 ≤ R * T := Nat.mul_le_mul_left R hT1.1
    omega
  have HSL := Lib.hid fun (w' : World) (hs : Below w.heap.size w w') => loadedSlots_any v p w' (hp.keep hs) (by omega)
  have HFA := Lib.hid fun k (hk : k < (fullS p).length) => fullI_at (p := p) hk
  have HNX := Lib.hid fun r j (hj : j < (fullS p).length) => rowJ_next (T := T) (p := p) (r := r) hj
  have HLE := Lib.hid fun r j => rowJ_le T p r j
  have HQ := Lib.hid fun j (hj : j < (fullS p).length) => (show fAt p j / T < R from by
    have h0 := (fAt_mem hj).1
    exact (slot_row (T := T) (by omega) (by omega)).1)
  have HPO := Lib.hid fun j (hj : j < (fullS p).length) (w' : World) => implRowNumber_any h (fAt p j) T w' hk (by have h0 := (fAt_mem hj).1; omega) hT
  have hfl := fullI_len p
  have hfn := fullS_le p
  have hRL := rowsL_len T p R
  have HEND := Lib.hid fun (B g : Nat) (W : World) us (hg : GrowY B g R W us (fun r => rowJ T p r (fullS p).length)) (hK : w.heap.size ≤ g) => (show NewY w.heap.size W (.slice (some ⟨g, 0, none⟩) R R) (rowsL T p R) from by
    have h1 : GrowY B g (rowsL T p R).length W us (fun r => rowJ T p r (fullS p).length) := by rw [hRL]; exact hg
    have h2 := h1.newY hK (by unfold maxLen; omega) (fun k hk => (rowsL_at (by omega)).symm)
    rw [hRL] at h2
    exact h2)
  obtain ⟨n, hn'⟩ : ∃ n, n = p.length := ⟨_, rfl⟩
  obtain ⟨m, hm⟩ : ∃ m, m = (fullS p).length := ⟨_, rfl⟩
  rw [← hn'] at hn HLE hfn
  rw [← hm] at hfl hfn HFA HNX HPO HQ HEND
  have hn36 : n ≤ 36 := by omega
  have zR : IntKind.i64.wrap (h.b * h.r) = (R : Int) := by rw [hR]; exact IntWalk.i64_in _ (by omega)
  have rb2 : i1.bytes * R ≤ 281474976710656 := by rw [rz2]; omega
  have rb3 : R ≤ maxLen := by unfold maxLen; omega
  have hw1 : w.heap.size + 1 ≤ W1.heap.size := by omega
  clear hp hk hn0 hn hn' hm hT hR g1 g2 g3 g4 g5 g6 m1 m2 m3 hRL
  have hw0 : w.heap.size + 1 ≤ (w.alloc (.cells #[.int .i64 h.b, .int .i64 h.r, .int .i64 h.t] 36)).heap.size := by simp
  go_enter Try.func61, Try.ntmps61
  go_wp2_with (at_make; refine wpList_make_full _ rfl _ _ _ rfl (w.heap.size + 1) 25 i1 (.slice none 0 0) 1 Try.underlying74 ri rz0 rz1 .i64 .i64 _ _ R rfl rfl rfl rfl rb2 rb3 hw0 ?_; intro w4 hown hgrow)
  rw [← HW.out] at hown hgrow
  have B4 : Below (w.heap.size + 1) W1 w4 := (Below.refl _ _).grown hgrow hw1 (fun k hk => by cases hk)
  obtain ⟨cur, hcur, hcl⟩ := made_rows hown
  obtain ⟨g, hg⟩ : ∃ g, g = w.heap.size + 1 := ⟨_, rfl⟩
  rw [hs1, ← hg] at hcur
  have hgw : w.heap.size + 1 ≤ g := by omega
  rw [← hg]
  clear hg
  have D4 := Lib.hid B4
  have C4 := Lib.hid (HB.out.trans (B4.mono (by omega)))
  have HC := Lib.hid (And.intro hcur hcl)
  clear hown hgrow B4 hcur hcl ri rz0 rz1 rz2 rb2 rb3 hw1 zR y0 y1 y2 hw0
  refine (HSL.out w4 C4.out).mono ?_
  rintro e w5 ⟨v5, rfl, O5, b5⟩
  obtain ⟨hcur, hcl⟩ := HC.out
  have hg4 := free_lt hcur
  have h45 := b5.size
  have hcur5 : w5.heap[g]? = some (.cells cur 25 (0, 0)) := by rw [b5.block g hg4]; exact hcur
  have G5 := Lib.hid ((GrowY.start (B := w5.heap.size) hcur5 hcl (by omega)).congr (fun r => (rowJ_zero T p r).symm))
  have N5 := Lib.hid (NewI.of_own (O5.from_ (show g + 1 ≤ w4.heap.size by omega)))
  have D5 := Lib.hid (D4.out.trans (b5.mono (by have := D4.out.size; omega)))
  obtain ⟨a5, c5, rfl⟩ := O5.holds.form
  rw [hfl] at N5 ⊢
  have hg5 : g + 1 ≤ w5.heap.size := by omega
  clear O5 b5 hcur hcl hcur5 hg4 h45 HC HSL C4 D4
  rw [hs1] at HX
  go_wp2_with fail
  go_loopw [18] (fun i wr => ∃ (j : Nat) (us : List Value), j ≤ m ∧ i = .int .i64 j ∧ Hid (GrowY w5.heap.size g R wr us (fun r => rowJ T p r j)) ∧ Hid (Mid (g + 1) w5 wr) ∧ Hid (Below (w.heap.size + 1) W1 wr)) (fun i _ => m - (intOf i).toNat)
  case atStart => exact ⟨0, _, by omega, rfl, G5, Lib.hid (Mid.refl _ _), D5⟩
  case round =>
    clear G5 D5
    obtain ⟨j, us, hjm, rfl, HG, MM, DR⟩ := hrel
    by_cases hlt : j < m
    · obtain ⟨sb, so, rfl, hsbl, s0⟩ := ((N5.out.mid MM.out).holds).at_ (k := j) hlt
      rw [HFA.out j hlt] at s0
      have ij : (j : Int) < (m : Int) := by omega
      have i0j : (0 : Int) ≤ (j : Int) := by omega
      have y := HX.out wr DR.out
      have y0 := y.c0
      have y1 := y.c1
      have y2 := y.c2
      have HPj := Lib.hid (HPO.out j hlt)
      have hqR := HQ.out j hlt
      have HNj := Lib.hid fun r => HNX.out r j hlt
      obtain ⟨x, hx⟩ : ∃ x, x = fAt p j := ⟨_, rfl⟩
      rw [← hx] at s0 HPj HNj hqR
      obtain ⟨q, hq⟩ : ∃ q, q = x / T := ⟨_, rfl⟩
      rw [← hq] at HPj HNj hqR
      have hle := HLE.out q j
      clear hx hq y
      go_wp2_with fail
      refine (HPj.out _).mono ?_
      rintro e w6 ⟨rfl, b6⟩
      have D6 := Lib.hid (DR.out.trans (b6.mono (by have := DR.out.size; omega)))
      have M6 := Lib.hid (MM.out.on b6)
      have HG6 := HG.out.keep b6
      have y6 := HX.out w6 D6.out
      obtain ⟨ui, hui, t0, ho6, -⟩ := HG6.at_ hqR
      have HOW6 := Lib.hid ho6
      have HUI := Lib.hid hui
      have iq : (q : Int) < (R : Int) := by omega
      have i0q : (0 : Int) ≤ (q : Int) := by omega
      have HGX := Lib.hid HG6
      have hz6 : w5.heap.size ≤ w6.heap.size := M6.out.1
      have c0 := y6.c0
      have c1 := y6.c1
      have c2 := y6.c2
      obtain ⟨Ls, hLs⟩ : ∃ Ls, Ls = rowJ T p q j := ⟨_, rfl⟩
      rw [← hLs] at HOW6 hle
      have HLs := Lib.hid hLs
      have hA : Below w6.heap.size w6 (w6.alloc (.cells #[.int .i64 (x : Int)] 3)) := (Below.refl _ _).alloc (Nat.le_refl _) _
      have G7 := Lib.hid (HG6.keep hA)
      have HT7 := Lib.hid fun (w7 : World) (hgrow : (w6.alloc (.cells #[.int .i64 (x : Int)] 3)).grownBy w7 ui.ownBlock) => (show w7.cell? ⟨g, q, none⟩ = some ui ∧ w7.frozen? ⟨g, q, none⟩ = false from by
        have hgb := hgrow.block g G7.out.lt (fun e => by have := (own_lt ho6 g e.symm).1; omega)
        obtain ⟨cur, q1, -⟩ := G7.out.out
        have h7 : w7.heap[g]? = some (.cells cur 25 (0, 0)) := by rw [hgb]; exact q1
        exact ⟨(World.cell?_of_block (w := w6) (a := ⟨g, q, none⟩) (hgb.trans (hA.block g HG6.lt))).trans t0, by simp [World.frozen?, h7]⟩)
      have HA := Lib.hid hA
      clear b6 y0 y1 y2 y6 hLs s0 HG HG6 ho6 hui hA
      go_wp2_with (at_builtin; refine wpList_append_own_at _ rfl _ _ 25 rfl w5.heap.size 3 i0 (.int .i64 0) 1 8 Try.underlying25 HI.out HZ0.out HZ1.out HZ2.out rfl (by decide) _ Ls.length (rowI Ls) rfl (HOW6.out.alloc _) ⟨_, 0, none⟩ 1 1 [.int .i64 (x : Int)] rfl rfl (fun j u hu => cells_new j u hu) (by simp [Value.oneCell']) (by unfold maxLen; omega) (by omega) (by simp; omega) ?_; intro v7 w7 hown7 hgrow _ hob7; obtain ⟨g7, c7, rfl, -, -⟩ := own_form hown7 (by omega); have q7 := HT7.out w7 hgrow; have t7 := q7.1; have f7 := q7.2; clear q7)
      have hgrow' : (w6.alloc (.cells #[.int .i64 (x : Int)] 3)).grownBy w7 ui.ownBlock := hgrow
      have hob' : (Value.slice (some ⟨g7, 0, none⟩) (Ls.length + 1) c7).ownBlock = ui.ownBlock ∨ (Value.slice (some ⟨g7, 0, none⟩) (Ls.length + 1) c7).ownBlock = some (w6.alloc (.cells #[.int .i64 (x : Int)] 3)).heap.size := hob7
      have hset := (G7.out.set HUI.out hgrow' (own_put hown7) hob').congr (R' := fun r => rowJ T p r (j + 1)) (fun r => by
        have h1 := HNj.out r
        by_cases e : r = q
        · subst e
          rw [upd_self, h1, if_pos rfl, HLs.out]
        · rw [upd_ne e, h1, if_neg (Ne.symm e)])
      have hgb : Below w5.heap.size w6 w7 := (HA.out.mono hz6).trans (own_below hgrow' (by simp; omega) (fun k' hk' => (own_lt HOW6.out k' hk').1))
      have hss : Below g w7 (w7.setCell ⟨g, q, none⟩ (.slice (some ⟨g7, 0, none⟩) (Ls.length + 1) c7)) := (Below.refl g w7).setCell (p := ⟨g, q, none⟩) (Nat.le_refl g) _
      have D8 := Lib.hid (D6.out.trans ((hgb.mono (by omega)).trans (hss.mono hgw)))
      have M7 : Mid (g + 1) w5 w7 := (M6.out.on (HA.out.mono (by omega))).grown hgrow' (fun k hk => .inr (own_lt HOW6.out k hk).1)
      have M8 := Lib.hid (show Mid (g + 1) w5 (w7.setCell ⟨g, q, none⟩ (.slice (some ⟨g7, 0, none⟩) (Ls.length + 1) c7)) from ⟨by have := M7.1; simpa [World.setCell] using this, fun k hk hl => (Below.heap_setCell _ _ _ _ (by show k ≠ g; omega)).trans (M7.2 k hk hl)⟩)
      have G8 := Lib.hid hset
      clear hset hgrow hgrow' hob7 hob' hown7 hgb hss M7 t7 f7 t0
      go_roundw
      case rel => exact ⟨j + 1, _, by omega, by go_num, G8, M8, D8⟩
      case measure => simp [intOf]; omega
    · obtain rfl : j = m := by omega
      have O9 := HEND.out _ _ _ _ HG.out (by omega)
      have C9 := HB.out.trans (DR.out.mono (by omega))
      go_wp2_with fail
      go_ret
      exact ⟨_, rfl, O9, C9⟩
end Go.Proofs.Ytfeobdgdhgcgoaa
