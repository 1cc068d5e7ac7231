/-
  The contracts of the program's sortedIds and YardValid.
-/
import Derived.Test.YtlcfldmiibjboabYiG
import Derived.Test.YtlcfldmiibjboabGYh
import Derived.Test.YtlcfldmiibjboabGYd
import Derived.Test.YtlcfldmiibjboabShelf
import Derived.Test.YtlcfldmiibjboabGStk
import Derived.Lib.OwnBridge
import Derived.Sort.OwnSortedInts
import Derived.Sort.Grow
namespace Go.Proofs.Ytlcfldmiibjboab
open Go.RowKit Go.Sort
set_option linter.unusedVariables false

/-- What a call gives that sorts the ids of a yard. -/
def IdsGives (ss : List (List Int)) (w : World) (e : Ending) (w' : World) : Prop :=
  ∃ u, e = .returned u ∧ w'.ownsRow w.heap.size 3 1 u ss.flatten.length (rowI (sortI ss.flatten)) ∧ Below w.heap.size w w'

set_option maxRecDepth 10000 in
set_option maxHeartbeats 2000000 in
theorem sortedIds_any (h : Int) (v : Value) (ss : List (List Int)) (w : World) (hh : HoldsY w v ss) (hbd : ss.flatten.length ≤ 1048576) :
    Calls Try.prog 43 #[.agg #[.int .i64 h, v]] w (IdsGives ss w) := by
  have hb1 := (Below.refl w.heap.size w).alloc (Nat.le_refl _) (.cells #[.int .i64 h, v] 29)
  have HC := Lib.hid (slConcat_any v ss _ (hh.keep hb1) hbd)
  have HB := Lib.hid hb1
  obtain ⟨zs, hzs⟩ : ∃ zs, zs = ss.flatten := ⟨_, rfl⟩
  unfold IdsGives
  rw [← hzs] at HC hbd ⊢
  clear hh hb1 hzs
  go_enter Try.func43, Try.ntmps43
  go_wp2_with fail
  refine HC.out.mono ?_
  rintro e w1 ⟨u, rfl, o1, b1⟩
  have hs1 : w.heap.size ≤ w1.heap.size := by have := b1.size; simp at this; omega
  have hB1 := HB.out.trans (b1.mono (by simp))
  have o1' := own_from (base' := w.heap.size) o1 (by simp)
  clear HC o1 b1
  by_cases hz : zs.length = 0
  · obtain rfl := List.eq_nil_of_length_eq_zero hz
    obtain ⟨ua, uc, rfl⟩ := own_slice o1'
    have HS := Lib.hid (Try.slices_Sort_int_none ua uc w1)
    have HO := Lib.hid o1'
    have HB1 := Lib.hid hB1
    clear o1' hB1 hz HB
    go_wp2_with fail
    refine HS.out.mono ?_
    rintro e w2 ⟨rfl, rfl⟩
    go_wp2_with fail
    go_ret
    exact ⟨_, rfl, by rw [show sortI ([] : List Int) = [] by simp [sortI]]; exact HO.out, HB1.out⟩
  · have hnn : u ≠ .slice none 0 0 := by
      intro e
      subst e
      rcases o1'.2 with ⟨_, h0⟩ | ⟨g, cap, cur, e, _⟩
      · exact hz h0
      · cases e
    obtain ⟨g, cap, rfl, hbg, hgl, hnc, hcm, hlen, hH⟩ := Lib.holds_of_ownsRow (enc := Value.int .i64) (zs := zs) o1' hnn
    have HS : (Calls Try.prog 53 #[.slice (some ⟨g, 0, none⟩) zs.length cap] w1 fun e w' => e = .returned (.tuple #[]) ∧ w'.ownsRow w.heap.size 3 1 (.slice (some ⟨g, 0, none⟩) zs.length cap) zs.length (rowI (sortI zs)) ∧ Below w.heap.size w w') := by
      refine (Try.slices_Sort_int g 0 cap zs w1 hH hgl (by omega)).mono ?_
      rintro e w' ⟨he, n, os, hw⟩
      refine ⟨he, ?_, ?_⟩
      · rcases o1'.2 with ⟨e0, _⟩ | ⟨g', cap', cur, hv, q1, q2, q3, q4, q5, _⟩
        · cases e0
        · simp only [Value.slice.injEq, Option.some.injEq, Addr.mk.injEq, and_true, true_and] at hv
          obtain ⟨rfl, rfl⟩ := hv
          rw [hw]
          exact ownsRow_sortedI (ss := zs) (ts := sortI zs) (sortI_len zs) q1 q2 q3 q4 q5
      · rw [hw]
        exact hB1.grown (grownBy_sortedI _) hs1 (fun k hk => by cases hk; exact hbg)
    have HS' := Lib.hid HS
    clear HS o1' hB1 hz HB hH hnn
    go_wp2_with fail
    refine HS'.out.mono ?_
    rintro e w2 ⟨rfl, o2, b2⟩
    have HO := Lib.hid o2
    have HB2 := Lib.hid b2
    clear o2 b2
    go_wp2_with fail
    go_ret
    exact ⟨_, rfl, HO.out, HB2.out⟩

set_option maxRecDepth 10000 in
set_option maxHeartbeats 4000000 in
theorem implYardValid_any (h : Int) (v : Value) (ss : List (List Int)) (w : World) (hh : HoldsY w v ss) :
    Calls Try.prog 32 #[.agg #[.int .i64 h, v]] w fun e w' => e = .returned (.bool (ydOk h ss)) ∧ Below w.heap.size w w' := by
  have hb1 := (Below.refl w.heap.size w).alloc (Nat.le_refl _) (.cells #[.int .i64 h, v] 29)
  have HW := Lib.hid fun w' (hb : Below w.heap.size w w') => hh.keep hb
  have HB1 := Lib.hid hb1
  have hY0 := BoxY.new w h v
  have HNO := Lib.hid fun (hl : ¬ (1 ≤ ss.length ∧ ss.length ≤ 5)) => (show ydOk h ss = false by
    cases hc : ydOk h ss
    · rfl
    · exact absurd ⟨(ydOk_iff.1 hc).2.2.1, (ydOk_iff.1 hc).2.2.2.1⟩ hl)
  have HBAD := Lib.hid fun k (hl : k < ss.length) hf => ydOk_stack (h := h) hl hf
  have HFLAT := Lib.hid fun hs h1 h5 => ydOk_flat (h := h) (ss := ss) hs h1 h5
  have HSZ := Lib.hid fun hs h5 => flat_size (h := h) (ss := ss) hs h5
  have HNDP := Lib.hid (compact_nodup ss.flatten)
  obtain ⟨a, cap, rfl⟩ : ∃ a cap, v = .slice a ss.length cap := by obtain ⟨a, cap, h1, _⟩ := hh; exact ⟨a, cap, h1⟩
  obtain ⟨n, hn⟩ : ∃ n, n = ss.length := ⟨_, rfl⟩
  have HN := Lib.hid hn.symm
  rw [← hn] at HW HB1 hY0 HNO HBAD HFLAT HSZ ⊢
  have hm : n ≤ 9223372036854775807 := by have := (HW.out w (Below.refl _ _)).len; omega
  obtain ⟨w1, hw1⟩ : ∃ w1, w1 = w.alloc (.cells #[.int .i64 h, .slice a n cap] 29) := ⟨_, rfl⟩
  rw [← hw1] at hY0 HB1
  have HX := Lib.hid hw1
  have HY := Lib.hid hY0
  clear hn hh hY0 hw1 hb1
  by_cases hl1 : 1 ≤ n
  · by_cases hl5 : n ≤ 5
    · have c1 : ¬ ((n : Int) < 1) := by omega
      have c5 : ¬ (5 < (n : Int)) := by omega
      clear HNO
      go_enter Try.func32, Try.ntmps32
      go_wp2_with fail
      go_loopw [19] (fun i wr => ∃ k : Nat, k ≤ n ∧ i = .int .i64 k ∧ Hid (∀ j, j < k → stOk (rowAt ss j) h = true) ∧ Below w1.heap.size w1 wr) (fun i _ => n - (intOf i).toNat)
      case atStart => exact ⟨0, by omega, rfl, Lib.hid fun j hj => by omega, by rw [← HX.out]; exact Below.refl _ _⟩
      case round =>
        obtain ⟨k, hk, rfl, HA, hbr⟩ := hrel
        have hYr := HY.out.keep hbr
        have y0 := hYr.c0
        have y1 := hYr.c1
        have hbw := HB1.out.trans (hbr.mono HB1.out.size)
        have BW := Lib.hid hbw
        by_cases hlt : k < n
        · obtain ⟨b, off, x, c, rfl, hbl, s0, hc1, hc2, -, hrow⟩ := (HW.out wr hbw).at_ hlt
          have ik : (k : Int) < (n : Int) := by omega
          have i0k : (0 : Int) ≤ (k : Int) := by omega
          have HV := Lib.hid (implStackValid_any _ _ h wr hrow)
          clear hrow hbw hYr
          cases hok : stOk (rowAt ss k) h
          · rw [hok] at HV
            have hr := Lib.hid (HBAD.out k hlt hok)
            clear hok
            go_wp2_with fail
            refine HV.out.mono ?_
            rintro e w5 ⟨rfl, b5⟩
            have B5 := Lib.hid (BW.out.trans (b5.mono BW.out.size))
            clear b5 HV
            go_wp2_with fail
            go_ret
            exact ⟨by rw [hr.out]; rfl, B5.out⟩
          · rw [hok] at HV
            have HA2 := Lib.hid (fun j (hj : j < k + 1) => (show stOk (rowAt ss j) h = true by
              by_cases e : j = k
              · subst e; exact hok
              · exact HA.out j (by omega)))
            have HBR := Lib.hid hbr
            clear hok HA hbr
            go_wp2_with fail
            refine HV.out.mono ?_
            rintro e w5 ⟨rfl, b5⟩
            have B5 := Lib.hid (HBR.out.trans (b5.mono HBR.out.size))
            clear b5 HV HBR y0 y1 s0
            go_wp2_with fail
            go_roundw
            case rel => exact ⟨k + 1, by omega, by go_num, HA2, B5.out⟩
            case measure => simp [intOf]; omega
        · have hkn : k = n := by omega
          subst hkn
          have hr := Lib.hid (HFLAT.out HA.out hl1 hl5)
          have hsz := HSZ.out HA.out hl5
          have HI := Lib.hid (sortedIds_any h _ ss wr (HW.out wr hbw) (by omega))
          unfold IdsGives at HI
          have hlen := sortI_len ss.flatten
          generalize sortI ss.flatten = zs at HI hlen HNDP
          clear hbr hbw HA HFLAT HSZ HBAD hYr
          go_wp2_with fail
          refine HI.out.mono ?_
          rintro e w5 ⟨u, rfl, o5, b5⟩
          have B5 := Lib.hid (BW.out.trans (b5.mono BW.out.size))
          have hbs5 : wr.heap.size ≤ w5.heap.size := b5.size
          clear HI b5
          by_cases hz : ss.flatten.length = 0
          · obtain ⟨ua, uc, rfl⟩ := own_slice o5
            have HCP := Lib.hid (Try.slices_Compact_int_empty ua uc w5)
            rw [hz] at hlen
            obtain rfl := List.eq_nil_of_length_eq_zero hlen
            have hr2 := Lib.hid (show ydOk h ss = true by rw [hr.out, ← HNDP.out, hz]; rfl)
            rw [hz]
            clear o5 hz hlen
            go_wp2_with fail
            refine HCP.out.mono ?_
            rintro e w6 ⟨rfl, rfl⟩
            go_wp2_with fail
            go_ret
            exact ⟨by rw [hr2.out]; rfl, B5.out⟩
          · have hnn : u ≠ .slice none 0 0 := by
              intro e
              subst e
              rcases o5.2 with ⟨_, h0⟩ | ⟨g, cap, cur, e, _⟩
              · exact hz h0
              · cases e
            obtain ⟨g, cp, rfl, hbg, hgl, hnc, hcm, hlen2, hH⟩ := Lib.holds_of_ownsRow (enc := Value.int .i64) (zs := zs) o5 hnn
            rw [← hlen] at hnc HNDP ⊢
            have hbg0 : w.heap.size ≤ g := Nat.le_trans BW.out.size hbg
            have HCP : Calls Try.prog 44 #[.slice (some ⟨g, 0, none⟩) zs.length cp] w5 fun e w' => e = .returned (.slice (some ⟨g, 0, none⟩) (Lib.compact zs).length cp) ∧ Below w.heap.size w w' := by
              refine (Try.slices_Compact_int g 0 cp zs w5 hH (by unfold maxLen at hcm; omega) hnc).mono ?_
              rintro e w' ⟨he, q, hw⟩
              refine ⟨he, ?_⟩
              rw [hw]
              exact Lib.below_putRow B5.out hbg0
            have HCP' := Lib.hid HCP
            have hr2 := Lib.hid (hr.out.trans HNDP.out.symm)
            clear HCP hH hnn o5 hlen2 hz HNDP hr hlen
            generalize zs.length = L at HCP' hr2 hnc ⊢
            generalize (Lib.compact zs).length = M at HCP' hr2
            have hr3 := Lib.hid (show decide (M = L) = ((M : Int) == (L : Int)) by
              by_cases e : M = L
              · subst e; simp
              · rw [decide_eq_false e]; symm; simp; omega)
            go_wp2_with fail
            refine HCP'.out.mono ?_
            rintro e w6 ⟨rfl, b6⟩
            go_wp2_with fail
            go_ret
            exact ⟨by rw [hr2.out, hr3.out]; rfl, b6⟩
    · have hr := Lib.hid (HNO.out fun hc => hl5 hc.2)
      have c1 : ¬ ((n : Int) < 1) := by omega
      have c5 : 5 < (n : Int) := by omega
      go_enter Try.func32, Try.ntmps32
      go_wp2_with fail
      go_ret
      exact ⟨by rw [hr.out]; rfl, by rw [← HX.out]; exact HB1.out⟩
  · have hr := Lib.hid (HNO.out fun hc => hl1 hc.1)
    have c1 : (n : Int) < 1 := by omega
    go_enter Try.func32, Try.ntmps32
    go_wp2_with fail
    go_ret
    exact ⟨by rw [hr.out]; rfl, by rw [← HX.out]; exact HB1.out⟩
end Go.Proofs.Ytlcfldmiibjboab
