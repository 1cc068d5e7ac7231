/-
  The draws of a yard alone, and of a yard and an id.
  The laws' ascend: of a list that ascends.
  The draw of a yard and a stack: DrawYardTake.
-/
import Derived.Test.YtlcfldmiibjboaaGYk
import Derived.Test.YtlcfldmiibjboaaGYh
import Derived.Test.YtlcfldmiibjboaaGYd
import Derived.Deep.QuietTactic
import Derived.BigQuiet
import Derived.Deep.RegionHeld3
namespace Go.Proofs.Ytlcfldmiibjboaa
open Go.RowKit
set_option linter.unusedVariables false

/-- What a draw of a yard gives its law. -/
def DrewY (w : World) (e : Ending) (w' : World) : Prop :=
  ∃ (h : Int) (u : Value) (ss : List (List Int)), ss.length ≤ 7 ∧ ss.flatten.length ≤ 100 ∧ e = .returned (.agg #[.int .i64 h, u]) ∧ HoldsY w' u ss ∧ Below w.heap.size w w'
theorem row8_keep {w w' : World} {a : Option Addr} {len cap : Nat} (h : IsRow8 w a len cap) (hb : Below w.heap.size w w') : IsRow8 w' a len cap := by
  rcases h with h | ⟨x, h1, h2, h3, h4⟩
  · exact .inl h
  · refine .inr ⟨x, h1, h2, h3, fun i hi => ?_⟩
    obtain ⟨c, c0, c1, hc⟩ := h4 i hi
    have hlt : (x.add i).block < w.heap.size := by
      rcases Nat.lt_or_ge (x.add i).block w.heap.size with h' | h'
      · exact h'
      · rw [World.cell?, Array.getElem?_eq_none h'] at hc; cases hc
    exact ⟨c, c0, c1, (hb.cell hlt).trans hc⟩
/-- The reader opened behind the result's block, and the yard drawn. -/
theorem yard_res {w w1 w2 : World} {B : Nat} {h : Int} {u : Value} {ss : List (List Int)} (r0 : BoxY w.heap.size w1 0 (.slice none 0 0)) (b1 : Below w.heap.size w w1) (hB : w.heap.size < B) (hm : MostB B w1 w2) (hn : NewY w1.heap.size w2 u ss) :
    BoxY w.heap.size w2 0 (.slice none 0 0) ∧ HoldsY ((w2.setCell ⟨w.heap.size, 0, none⟩ (.int .i64 h)).setCell ⟨w.heap.size, 1, none⟩ u) u ss ∧ Below w.heap.size w ((w2.setCell ⟨w.heap.size, 0, none⟩ (.int .i64 h)).setCell ⟨w.heap.size, 1, none⟩ u) := by
  have hl := r0.lt
  exact ⟨r0.at_ (hm.block _ (by omega) hl), ((hn.setLow hl _ _).setLow hl _ _).holds,
    (((b1.trans (hm.under (by omega) b1.size)).setCell (p := ⟨w.heap.size, 0, none⟩) (Nat.le_refl _) _).setCell (p := ⟨w.heap.size, 1, none⟩) (Nat.le_refl _) _)⟩

/-- What a draw of a yard and a number gives its law. -/
def DrewYId (w : World) (e : Ending) (w' : World) : Prop :=
  ∃ (h : Int) (u : Value) (ss : List (List Int)) (x : Int), ss.length ≤ 7 ∧ ss.flatten.length ≤ 100 ∧ e = .returned (.tuple #[.agg #[.int .i64 h, u], .int .i64 x]) ∧ HoldsY w' u ss ∧ Below w.heap.size w w'
end Go.Proofs.Ytlcfldmiibjboaa
namespace Go.Proofs.Ytlcfldmiibjboaa
open Go.RowKit
set_option linter.unusedVariables false

theorem idsY_asc {h : Int} {ss : List (List Int)} (hk : ydOk h ss = true) : ∀ k, k + 1 < (idsY h ss).length → (idsY h ss).getD k 0 < (idsY h ss).getD (k + 1) 0 := by
  intro k hl
  rw [← sortI_idsY hk] at hl ⊢
  have h1 := List.pairwise_iff_getElem.1 (sortI_le ss.flatten) k (k + 1) (by omega) hl (by omega)
  have hn : (sortI ss.flatten).Nodup := (sortI_perm ss.flatten).nodup_iff.2 (ydOk_iff.1 hk).2.1
  have h2 := List.pairwise_iff_getElem.1 hn k (k + 1) (by omega) hl (by omega)
  rw [List.getD_eq_getElem?_getD, List.getD_eq_getElem?_getD, List.getElem?_eq_getElem hl, List.getElem?_eq_getElem (by omega), Option.getD_some, Option.getD_some]
  omega
theorem below_drewN' {B : Nat} {a w : World} (h : Below B a w) (n : Nat) : Below B a (w.drewN n) := ⟨h.os, h.tape, h.output, h.size, h.block⟩
theorem idsY_len_ok {h : Int} {ss : List (List Int)} (hk : ydOk h ss = true) : (idsY h ss).length = ss.flatten.length := by
  rw [← sortI_idsY hk, sortI_len]

end Go.Proofs.Ytlcfldmiibjboaa
namespace Go.Proofs.Ytlcfldmiibjboaa
open Go.RowKit
set_option linter.unusedVariables false

/-- Nothing but the reader's block has turned since, or the answer's place was written at last. -/
def Laid (R B : Nat) (h : Int) (u : Value) (W w' : World) : Prop := ∃ wm, MostB B W wm ∧ (w' = wm ∨ w' = (wm.setCell ⟨R, 0, none⟩ (.int .i64 h)).setCell ⟨R, 1, none⟩ u)
set_option maxRecDepth 10000 in
set_option maxHeartbeats 4000000 in
theorem drawYardTake_any (a : Option Addr) (len cap : Nat) (w : World) (h : IsRow8 w a len cap) :
    Calls Try.prog 23 #[.slice a len cap] w (DrewYId w) := by
  have ba : Below w.heap.size w (w.alloc (.cells #[.int .i64 0, .slice none 0 0] 25)) := (Below.refl _ _).alloc (Nat.le_refl _) _
  have ra := BoxY.new w 0 (.slice none 0 0)
  have hz : (w.alloc (.cells #[.int .i64 0, .slice none 0 0] 25)).heap.size = w.heap.size + 1 := by simp
  go_enter Try.func23, Try.ntmps23
  go_wp2_with fail
  refine (open_any a len cap _ (row8_keep h ba)).mono ?_
  generalize (w.alloc (.cells #[.int .i64 0, .slice none 0 0] 25)) = wa at ba ra hz ⊢
  rintro e w1 ⟨rfl, hr, hb, hz1⟩
  generalize wa.heap.size = B at hz hr hb hz1 ⊢
  subst hz
  have r1 := ra.at_ (hb.block w.heap.size (Nat.lt_succ_self _))
  have b1 : Below w.heap.size w w1 := ba.trans (hb.mono (by omega))
  clear h hb ba ra
  go_wp2_with fail
  refine (l20Yard_any _ _ 0 9 w1 hr (by omega) (by omega) (by omega)).mono ?_
  rintro e w2 ⟨hh, u, ss, q, hq, hl, hf, rfl, hn, hr2, hm⟩
  obtain ⟨ua, uc, rfl⟩ := hn.form
  have b3 : Below w2.heap.size w2 (w2.alloc (.cells #[.int .i64 hh, .slice ua ss.length uc] 25)) := (Below.refl _ _).alloc (Nat.le_refl _) _
  have y3 := BoxY.new w2 hh (.slice ua ss.length uc)
  have hn3 := hn.keep b3
  have hm3 := hm.below_ (b3.mono hm.size)
  have hr3 := hr2.keepK b3 hr2.2.1
  have hYB : w.heap.size + 1 < w2.heap.size := hr2.2.1
  generalize hW3 : w2.alloc (.cells #[.int .i64 hh, .slice ua ss.length uc] 25) = W3 at y3 hn3 hm3 hr3
  have HW3 := Lib.hid hW3
  clear hW3 hr hm hn hr2 b3
  go_wp2_with fail
  rw [HW3.out]
  generalize w2.heap.size = Y at y3 hYB
  clear HW3
  have n7 : ss.length ≤ 7 := hl
  obtain ⟨n, hn⟩ : ∃ n, n = ss.length := ⟨_, rfl⟩
  have YL := Lib.hid y3.lt
  have CELL := Lib.hid fun (w' : World) (hs : MostB (w.heap.size + 1) W3 w') => (show w'.cell? ⟨Y, 0, none⟩ = some (.int .i64 hh) ∧ w'.cell? ⟨Y, 1, none⟩ = some (.slice ua ss.length uc) ∧ Laid w.heap.size (w.heap.size + 1) hh (.slice ua ss.length uc) W3 w' from
    ⟨(y3.at_ (hs.block Y (by omega) y3.lt)).c0, (y3.at_ (hs.block Y (by omega) y3.lt)).c1, w', hs, .inl rfl⟩)
  have CEL2 := Lib.hid fun (wm : World) (hs : MostB (w.heap.size + 1) W3 wm) => (show ((wm.setCell ⟨w.heap.size, 0, none⟩ (.int .i64 hh)).setCell ⟨w.heap.size, 1, none⟩ (.slice ua ss.length uc)).cell? ⟨Y, 0, none⟩ = some (.int .i64 hh) ∧ ((wm.setCell ⟨w.heap.size, 0, none⟩ (.int .i64 hh)).setCell ⟨w.heap.size, 1, none⟩ (.slice ua ss.length uc)).cell? ⟨Y, 1, none⟩ = some (.slice ua ss.length uc) ∧ Laid w.heap.size (w.heap.size + 1) hh (.slice ua ss.length uc) W3 ((wm.setCell ⟨w.heap.size, 0, none⟩ (.int .i64 hh)).setCell ⟨w.heap.size, 1, none⟩ (.slice ua ss.length uc)) from
    ⟨(((y3.at_ (hs.block Y (by omega) y3.lt)).other (by omega) 0 _).other (by omega) 1 _).c0, (((y3.at_ (hs.block Y (by omega) y3.lt)).other (by omega) 0 _).other (by omega) 1 _).c1, wm, hs, .inr rfl⟩)
  have r3 : BoxY w.heap.size W3 0 (.slice none 0 0) := r1.at_ (hm3.block _ (by omega) r1.lt)
  have RES := Lib.hid fun (w' : World) (hs : MostB (w.heap.size + 1) W3 w') => (show BoxY w.heap.size w' 0 (.slice none 0 0) from r3.at_ (hs.block _ (by omega) r3.lt))
  have hmd : MostB (w.heap.size + 1) W3 W3.drew := (MostB.refl _ _).below_ ((Below.refl _ _).drew)
  have HMD := Lib.hid hmd
  have hstart := CELL.out _ hmd
  have hrd := hr3.keepK (Below.refl W3.heap.size W3).drew hr3.2.1
  have P1 := Lib.hid (pick_any _ _ q ((n : Int) + 1) W3.drew hrd (by omega) (by omega))
  have P2 := Lib.hid fun w' (hr : Rdr (w.heap.size + 1) (w.heap.size + 1) (q + 1) w') => pick_any _ _ (q + 1) 20 w' hr (by omega) (by omega)
  have D := Lib.hid (And.intro r1 (And.intro b1 (And.intro hm3 hn3)))
  have sw : IntKind.i64.wrap ((n : Int) + 1) = (n : Int) + 1 := IntWalk.i64_in _ (by omega)
  rw [hn] at sw P1
  clear hn hmd hrd r1 r3 b1 hm3 hn3 y3 hr3 hYB n7
  go_region_held3 (fun w' => w'.cell? ⟨Y, 0, none⟩ = some (.int .i64 hh) ∧ w'.cell? ⟨Y, 1, none⟩ = some (.slice ua ss.length uc) ∧ Laid w.heap.size (w.heap.size + 1) hh (.slice ua ss.length uc) W3 w')
    (first | exact hstart | exact CELL.out _ m6 | exact CELL.out _ m5 | exact CEL2.out _ m6)
    (first
      | (go_at_call 60; ((with_reducible refine P1.out.mono ?_); rintro e w5 ⟨x, x0, x1, rfl, hr5, ho5⟩; have m5 := HMD.out.trans ho5.mostB))
      | (go_at_call 60; ((with_reducible refine (P2.out _ hr5).mono ?_); rintro e w6 ⟨z, z0, z1, rfl, hr6, ho6⟩; have m6 := m5.trans ho6.mostB; have d0 := (RES.out _ m6).c0; have d1 := (RES.out _ m6).c1; have e0 := (RES.out _ m6).frozen 0; have e1 := (RES.out _ m6).frozen 1)))
  obtain ⟨r1, b1, hm3, hn3⟩ := D.out
  have R := Lib.hid (yard_res (h := hh) r1 b1 (Nat.lt_succ_self _) (hm3.trans m6) (hn3.most m6 (by omega)))
  clear r1 b1 hm3 hn3 D m5 m6 hr5 hr6 ho5 ho6
  generalize IntKind.i64.wrap (x - IntKind.i64.wrap (z.tdiv 19)) = t
  go_wp2_with fail
  exact bodyPost_ret (v := .tuple #[.agg #[.int .i64 hh, .slice ua ss.length uc], .int .i64 t]) (by simp [results, Try.results23, go_sem, d0, d1]) rfl ⟨hh, _, ss, t, hl, hf, rfl, R.out.2.1, R.out.2.2⟩
end Go.Proofs.Ytlcfldmiibjboaa
