/-
  The model's l9Least.
-/
import Derived.Test.YtbaebamiiigmlacLdH
import Derived.Deep.RegionHeld3
import Derived.Deep.QuietTactic
import Derived.BigQuiet
namespace Go.Proofs.Ytbaebamiiigmlac
open Go.RowKit
set_option linter.unusedVariables false

/-- The least worst of all sets; of those from t on, 0 ahead of them. -/
def lsN (h : Hl) (l : List Bx) (p : List Int) (t : Nat) : List Int := (List.range (2 ^ (fullS p).length)).map fun i => if t ≤ i then leastL (fullS p).length (setH h l p) (nxS h p) i else 0
theorem lsN_len (h : Hl) (l : List Bx) (p : List Int) (t : Nat) : (lsN h l p t).length = 2 ^ (fullS p).length := by simp [lsN]
theorem lsN_get {h : Hl} {l : List Bx} {p : List Int} {t k : Nat} (hk : k < (lsN h l p t).length) : (lsN h l p t)[k] = if t ≤ k then leastL (fullS p).length (setH h l p) (nxS h p) k else 0 := by simp [lsN]
theorem lsN_at {h : Hl} {l : List Bx} {p : List Int} {t k : Nat} (hk : k < 2 ^ (fullS p).length) (ht : t ≤ k) : (lsN h l p t).getD k 0 = leastL (fullS p).length (setH h l p) (nxS h p) k := by
  rw [getD_i (show k < (lsN h l p t).length by rw [lsN_len]; exact hk), lsN_get, if_pos ht]
theorem lsN_start (h : Hl) (l : List Bx) (p : List Int) : lsN h l p (2 ^ (fullS p).length - 1) = List.replicate (2 ^ (fullS p).length) 0 := by
  have hp := Nat.two_pow_pos (fullS p).length
  refine List.ext_getElem (by simp [lsN]) fun k h1 h2 => ?_
  rw [lsN_get h1, List.getElem_replicate]
  rw [lsN_len] at h1
  by_cases hc : 2 ^ (fullS p).length - 1 ≤ k
  · rw [if_pos hc]
    have e : k = 2 ^ (fullS p).length - 1 := by omega
    rw [e]; exact leastL_full
  · rw [if_neg hc]
theorem lsN_set {h : Hl} {l : List Bx} {p : List Int} {s : Nat} (hs : s < 2 ^ (fullS p).length) : (lsN h l p (s + 1)).set s (leastL (fullS p).length (setH h l p) (nxS h p) s) = lsN h l p s := by
  refine List.ext_getElem (by simp [lsN]) fun k h1 h2 => ?_
  rw [List.getElem_set, lsN_get h2]
  rw [List.length_set] at h1
  by_cases e : s = k
  · subst e; rw [if_pos rfl, if_pos (Nat.le_refl _)]
  · rw [if_neg e, lsN_get h1]
    by_cases hc : s + 1 ≤ k
    · rw [if_pos hc, if_pos (by omega)]
    · rw [if_neg hc, if_neg (by omega)]
/-- What a step of the inner loop makes of the best so far. -/
def bestX (h : Hl) (l : List Bx) (p : List Int) (s k : Nat) : Int := foldB (nxS h p s) (fun k => max (setH h l p (s + 2 ^ k)) (leastL (fullS p).length (setH h l p) (nxS h p) (s + 2 ^ k))) k
theorem bestX_next (h : Hl) (l : List Bx) (p : List Int) (s k : Nat) : bestX h l p s (k + 1) = if nxS h p s k = true then (if bestX h l p s k < 0 ∨ max (setH h l p (s + 2 ^ k)) (leastL (fullS p).length (setH h l p) (nxS h p) (s + 2 ^ k)) < bestX h l p s k then max (setH h l p (s + 2 ^ k)) (leastL (fullS p).length (setH h l p) (nxS h p) (s + 2 ^ k)) else bestX h l p s k) else bestX h l p s k := rfl
theorem bestX_end {h : Hl} {l : List Bx} {p : List Int} {s : Nat} (hs : s < 2 ^ (fullS p).length - 1) : bestX h l p s (fullS p).length = leastL (fullS p).length (setH h l p) (nxS h p) s := (leastL_next (nxS_bit h p) hs).symm

set_option maxRecDepth 10000 in
set_option maxHeartbeats 8000000 in
theorem l9Least_any (h : Hl) (vs vh : Value) (l : List Bx) (p : List Int) (w : World) (hv : HoldsI w vs (fullI p)) (hh : HoldsI w vh (heelsN h l p (2 ^ (fullS p).length))) (hm : (fullS p).length ≤ 7) :
    Calls Try.prog 63 #[.agg #[.int .i64 h.b, .int .i64 h.r, .int .i64 h.t], vs, vh] w fun e w' => ∃ v', e = .returned v' ∧ OwnI w.heap.size w' v' (lsN h l p 0) ∧ Below w.heap.size w w' := by
  obtain ⟨i0, hi, hz0, hz1, hz2⟩ := info_parts infoInt
  have hb1 := (Below.refl w.heap.size w).alloc (Nat.le_refl _) (.cells #[.int .i64 h.b, .int .i64 h.r, .int .i64 h.t] 28)
  have hx1 := BoxH.new w h
  obtain ⟨W1, hW1⟩ : ∃ W1, W1 = w.alloc (.cells #[.int .i64 h.b, .int .i64 h.r, .int .i64 h.t] 28) := ⟨_, rfl⟩
  rw [← hW1] at hb1 hx1
  have HW := Lib.hid hW1
  have HB := Lib.hid hb1
  have y0 := hx1.c0
  have y1 := hx1.c1
  have y2 := hx1.c2
  have HX := Lib.hid fun (w' : World) (hs : Below W1.heap.size W1 w') => hx1.keep hs
  clear hW1 hb1 hx1
  have VK := Lib.hid fun (w' : World) (hs : Below w.heap.size w w') => hv.keep hs
  have KK := Lib.hid fun (w' : World) (hs : Below w.heap.size w w') => hh.keep hs
  have HNE := Lib.hid fun (s k : Nat) (hk : k < (fullS p).length) (w' : World) (hs : Below w.heap.size w w') => l9Next_any h vs p s k w' (hv.keep hs) hk (by omega)
  have HHA := Lib.hid fun k (hk : k < 2 ^ (fullS p).length) => heelsN_at (h := h) (l := l) (p := p) hk
  have HLA := Lib.hid fun t k (hk : k < 2 ^ (fullS p).length) (ht : t ≤ k) => lsN_at (h := h) (l := l) hk ht
  have HST := Lib.hid fun s (hs : s < 2 ^ (fullS p).length) => lsN_set (h := h) (l := l) hs
  have HBX0 := Lib.hid fun s k => bestX_next h l p s k
  have HBE := Lib.hid fun s (hs : s < 2 ^ (fullS p).length - 1) => bestX_end (h := h) (l := l) hs
  have HRM := Lib.hid fun s k (hs : s < 2 ^ (fullS p).length) (hk : k < (fullS p).length) (hn : nxS h p s k = true) => bit_room hs hk (nxS_bit h p s k hn)
  have HIL := Lib.hid fun t => lsN_len h l p t
  have hIZ := lsN_start h l p
  have hhl := heelsN_len h l p (2 ^ (fullS p).length)
  have hfl := fullI_len p
  have hM := Nat.pow_le_pow_right (n := 2) (by omega) hm
  have hMp := Nat.two_pow_pos (fullS p).length
  have HSV := Lib.hid fun k (hk : k < (fullS p).length) => shl_val (m := k) (by omega)
  obtain ⟨oa, oc, rfl⟩ := hv.form
  obtain ⟨ha, hc, rfl⟩ := hh.form
  have hcc : 2 ^ (fullS p).length ≤ hc ∧ hc ≤ 9223372036854775807 := by
    obtain ⟨a', c', e, q1, q2, _⟩ := hh
    simp only [Value.slice.injEq] at e
    obtain ⟨-, -, rfl⟩ := e
    unfold maxLen at q2
    rw [hhl] at q1
    exact ⟨q1, by omega⟩
  rw [hfl] at VK HNE ⊢
  rw [hhl] at KK ⊢
  generalize hgb : bestX h l p = fb at HBX0 HBE
  generalize hgh : setH h l p = H at HHA HLA HST HBX0 HBE
  generalize hgl : leastL (fullS p).length H (nxS h p) = L at HLA HST HBX0 HBE
  obtain ⟨m, hm'⟩ : ∃ m, m = (fullS p).length := ⟨_, rfl⟩
  rw [← hm'] at VK KK HNE HHA HLA HST HBE HRM HIL hIZ hM hMp hcc hm HSV ⊢
  obtain ⟨M, hMM⟩ : ∃ M : Nat, M = 2 ^ m := ⟨_, rfl⟩
  rw [← hMM] at KK HHA HLA HST HBE HRM HIL hIZ hM hMp hcc ⊢
  have hM128 : M ≤ 128 := hM
  have HF0 := Lib.hid fun s => (show fb s 0 = -1 from by rw [← hgb]; rfl)
  have hb2 : i0.bytes * M ≤ 281474976710656 := by rw [hz2]; omega
  have hb3 : M ≤ maxLen := by unfold maxLen; omega
  clear hv hh hm' hMM hM hgb hgh hgl hfl hhl
  go_enter Try.func63, Try.ntmps63
  go_wp2_with (at_make; rw [← HW.out]; refine wpList_make_full _ rfl _ _ _ rfl W1.heap.size 3 i0 (.int .i64 0) 1 Try.underlying25 hi hz0 hz1 .i64 .i64 _ _ M rfl rfl rfl rfl hb2 hb3 (Nat.le_refl _) ?_; intro w2 hown hgrow)
  have b2 : Below W1.heap.size W1 w2 := (Below.refl _ _).grown hgrow (Nat.le_refl _) (fun k hk => by cases hk)
  have OW := OwnI.made hown
  rw [← hIZ] at OW
  have O2 := Lib.hid OW
  have D2 := Lib.hid b2
  obtain ⟨G, hG⟩ : ∃ G, G = W1.heap.size := ⟨_, rfl⟩
  have HG := Lib.hid hG
  have hBG : w.heap.size ≤ G := by have := HB.out.size; omega
  rw [← hG] at O2 D2 HX ⊢
  have zM : IntKind.i64.wrap ((M : Int) - 2) = ((M - 1 : Nat) : Int) - 1 := by rw [IntWalk.i64_in _ (by omega)]; omega
  clear hG hown hgrow OW b2 y0 y1 y2 hIZ
  go_wp2_with fail
  go_loopw [8] (fun i wr => ∃ t : Nat, t ≤ M - 1 ∧ i = .int .i64 ((t : Int) - 1) ∧ Hid (OwnI G wr (.slice (some ⟨G, 0, none⟩) M M) (lsN h l p t)) ∧ Hid (Below G W1 wr)) (fun i _ => (intOf i + 1).toNat)
  case atStart => exact ⟨M - 1, by omega, (by first | rfl | (congr 1; omega)), O2, D2⟩
  case round =>
    clear O2 D2 zM
    obtain ⟨t, htM, rfl, OR, DR⟩ := hrel
    obtain ⟨wo, rfl⟩ : ∃ wo : World, wo = wr := ⟨_, rfl⟩
    by_cases ht : 1 ≤ t
    · obtain ⟨s, rfl⟩ : ∃ s, t = s + 1 := ⟨t - 1, by omega⟩
      have es : ((s + 1 : Nat) : Int) - 1 = (s : Int) := by omega
      rw [es]
      have is0 : decide ((0 : Int) ≤ (s : Int)) = true := decide_eq_true (by omega)
      have hf0 := HF0.out s
      have i0s : (0 : Int) ≤ (s : Int) := by omega
      have isM : (s : Int) < (M : Int) := by omega
      have zs1 : IntKind.i64.wrap ((s : Int) - 1) = (s : Int) - 1 := IntWalk.i64_in _ (by omega)
      clear es
      go_wp2_with fail
      go_loopw [9, 10] (fun b i wr => ∃ k : Nat, k ≤ m ∧ b = .int .i64 (fb s k) ∧ i = .int .i64 k ∧ Hid (Below wo.heap.size wo wr)) (fun _ i _ => m - (intOf i).toNat)
      case atStart => exact ⟨0, by omega, by rw [hf0], rfl, Lib.hid (Below.refl _ _)⟩
      case round =>
        clear hf0
        obtain ⟨k, hkm, rfl, rfl, DI⟩ := hrel
        have hwo := DR.out.size
        have hGo : G ≤ wo.heap.size := by have := HG.out; omega
        have DR2 := Lib.hid (DR.out.trans (DI.out.mono hGo))
        have BR := Lib.hid (HB.out.trans (DR2.out.mono hBG))
        have OI := Lib.hid (OR.out.keep DI.out)
        have y := HX.out wr DR2.out
        have y0 := y.c0
        have y1 := y.c1
        have y2 := y.c2
        clear y
        by_cases hltk : k < m
        · have ik : (k : Int) < (m : Int) := by omega
          have i0k : (0 : Int) ≤ (k : Int) := by omega
          have ik64 : (k : Int) ≤ 64 := by omega
          have HNk := Lib.hid (HNE.out s k hltk wr BR.out)
          have hbx := HBX0.out s k
          cases hn : nxS h p s k
          · rw [hn] at HNk hbx
            rw [if_neg (by simp)] at hbx
            have HBX := Lib.hid hbx
            clear hn hbx
            go_wp2_with fail
            refine HNk.out.mono ?_
            rintro e wq ⟨rfl, d5⟩
            have DI5 := Lib.hid (DI.out.trans (d5.mono DI.out.size))
            clear y0 y1 y2 d5
            go_wp2_with fail
            go_roundw
            case rel => exact ⟨k + 1, by omega, by rw [HBX.out], by go_num, DI5⟩
            case measure => simp [intOf]; omega
          · have hroom := HRM.out s k (by omega) hltk hn
            rw [hn] at HNk hbx
            rw [if_pos rfl] at hbx
            clear hn
            go_wp2_with fail
            refine HNk.out.mono ?_
            rintro e wq ⟨rfl, d5⟩
            have DI5 := Lib.hid (DI.out.trans (d5.mono DI.out.size))
            have DR5 := Lib.hid (DR2.out.trans (d5.mono (by have := DI.out.size; omega)))
            have OI5 := OI.out.keep d5
            clear y0 y1 y2 d5
            obtain ⟨q, hq⟩ : ∃ q, q = s + 2 ^ k := ⟨_, rfl⟩
            have hpk := Nat.two_pow_pos k
            rw [← hq] at hroom hbx
            have hla := HLA.out (s + 1) q hroom (by omega)
            have hha := HHA.out q hroom
            have hsv0 := HSV.out k hltk
            have hpe : (((2 ^ k : Nat) : Nat) : Int) = (2 : Int) ^ k := by rw [Int.natCast_pow]; rfl
            rw [hpe] at hsv0
            have zq : IntKind.i64.wrap ((s : Int) + (2 : Int) ^ k) = (q : Int) := by rw [← hpe, hq, IntWalk.i64_in _ (by omega)]; omega
            obtain ⟨hb, ho, rfl, hhbl, s0⟩ := (KK.out wq (HB.out.trans (DR5.out.mono hBG))).at_ hroom
            rw [hha] at s0
            have hlen := HIL.out (s + 1)
            have OH := OI5.holds
            rw [← hlen] at OH
            obtain ⟨b', o', e', hGl, t0⟩ := OH.at_ (k := q) (by omega)
            obtain ⟨rfl, rfl⟩ : G = b' ∧ 0 = o' := by simpa using e'
            rw [hla, Nat.zero_add] at t0
            generalize H q = x at s0 hbx
            generalize L q = y at t0 hbx
            obtain ⟨mx, hmx⟩ : ∃ mx, mx = max x y := ⟨_, rfl⟩
            rw [← hmx] at hbx
            have hmx1 : (if y > x then y else x) = mx := by rw [hmx]; split <;> omega
            have hrun : ∀ W : World, Sem.run Try.prog (Builtin.max_ #[3, 3] 3 #[.int .i64 x, .int .i64 y]) W = .ok (.int .i64 mx) W := fun W => by
              rw [← hmx1]
              simp [Builtin.max_, Builtin.max2, List.foldlM, Sem.run_pure]
            have iq : (q : Int) < (M : Int) := by omega
            have i0q : (0 : Int) ≤ (q : Int) := by omega
            have HK := Lib.hid fun (w' : World) (hs : Since wq w') => (show w'.cell? ⟨hb, ho + q, none⟩ = some (.int .i64 x) ∧ w'.cell? ⟨G, q, none⟩ = some (.int .i64 y) ∧ Since wq w' from ⟨(Below.cell hs (p := ⟨hb, ho + q, none⟩) hhbl).trans s0, (Below.cell hs (p := ⟨G, q, none⟩) hGl).trans t0, hs⟩)
            have hstart := HK.out _ (show Since wq wq.drew from (Below.refl _ _).drew)
            generalize fb s k = b0 at hbx
            have HBX1 := Lib.hid hbx
            clear hmx hmx1 s0 t0 hla hha hlen OH OI5 e' hq hpk hbx hpe
            go_wp2_with fail
            go_region_held3 (fun w' => w'.cell? ⟨hb, ho + q, none⟩ = some (.int .i64 x) ∧ w'.cell? ⟨G, q, none⟩ = some (.int .i64 y) ∧ Since wq w')
              (first | exact hstart | exact HK.out _ (by exact (‹_ ∧ _› : _ ∧ _ ∧ Since wq _).2.2) | fail)
              (fail)
            rename_i hheld
            have hx9 := Lib.hid (DI5.out.trans (Below.mono hheld.2.2 DI5.out.size))
            clear hheld hstart
            by_cases c1 : b0 < 0
            · have HBX := Lib.hid (HBX1.out.trans (if_pos (.inl c1)))
              have hc1 : decide (b0 < 0) = true := decide_eq_true c1
              clear c1
              go_wp2_with fail
              go_roundw
              case rel => exact ⟨k + 1, by omega, by rw [HBX.out], by go_num, hx9⟩
              case measure => simp [intOf]; omega
            · have hc1 : decide (b0 < 0) = false := decide_eq_false c1
              by_cases c2 : mx < b0
              · have HBX := Lib.hid (HBX1.out.trans (if_pos (.inr c2)))
                have hc2 : decide (mx < b0) = true := decide_eq_true c2
                clear c1 c2
                go_wp2_with fail
                go_roundw
                case rel => exact ⟨k + 1, by omega, by rw [HBX.out], by go_num, hx9⟩
                case measure => simp [intOf]; omega
              · have HBX := Lib.hid (HBX1.out.trans (if_neg (by omega)))
                have hc2 : decide (mx < b0) = false := decide_eq_false c2
                clear c1 c2
                go_wp2_with fail
                go_roundw
                case rel => exact ⟨k + 1, by omega, by rw [HBX.out], by go_num, hx9⟩
                case measure => simp [intOf]; omega
        · obtain rfl : k = m := by omega
          have hbe := HBE.out s (by omega)
          rw [hbe]
          have hset := HST.out s (by omega)
          have hil := HIL.out (s + 1)
          have OW := OI.out
          generalize L s = x at hset ⊢
          have hv9 : OwnI G wr (.slice (some ⟨G, 0, none⟩) (lsN h l p (s + 1)).length M) (lsN h l p (s + 1)) := by rw [hil]; exact OW
          obtain ⟨g', cap', cur, eg, hg1, hg2, hcur, hcap, hcapm, hcs, hct⟩ := hv9.form (by omega)
          simp only [Value.slice.injEq, Option.some.injEq, Addr.mk.injEq] at eg
          obtain ⟨⟨rfl, -, -⟩, -, rfl⟩ := eg
          have t0 : wr.cell? ⟨G, s, none⟩ = some (cur[s]'(by omega)) := by
            simp only [World.cell?, hcur]
            exact Array.getElem?_eq_getElem _
          have f0 : wr.frozen? ⟨G, s, none⟩ = false := by simp [World.frozen?, hcur]
          obtain ⟨x0, t0'⟩ : ∃ x, wr.cell? ⟨G, s, none⟩ = some x := ⟨_, t0⟩
          have OS := hv9.set (k := s) (by omega) x
          rw [hset, hil] at OS
          have HOS := Lib.hid OS
          have hbs : Below G wr (wr.setCell ⟨G, s, none⟩ (.int .i64 x)) := (Below.refl G wr).setCell (p := ⟨G, s, none⟩) (Nat.le_refl G) _
          have HBS := Lib.hid (DR2.out.trans hbs)
          clear OS hbs OW t0 hct hcur hset hil hv9 hbe hg2
          go_wp2_with fail
          go_roundw
          case rel => exact ⟨s, by omega, rfl, HOS, HBS⟩
          case measure => simp [intOf]
    · obtain rfl : t = 0 := by omega
      have C9 := HB.out.trans (DR.out.mono hBG)
      have O9 := OR.out.from_ hBG
      go_wp2_with fail
      go_ret
      exact ⟨_, rfl, O9, C9⟩

end Go.Proofs.Ytbaebamiiigmlac
