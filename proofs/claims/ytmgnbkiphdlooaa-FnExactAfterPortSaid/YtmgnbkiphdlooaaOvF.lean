/-
  The model's chapter 10, third part: AfterPort, VoyageMoves.
-/
import Derived.Test.YtmgnbkiphdlooaaOvQ
import Derived.Deep.RegionHeld3
namespace Go.Proofs.Ytmgnbkiphdlooaa
open Go.RowKit
set_option linter.unusedVariables false

/-- The plan behind the port, while it is built: r rows whole, and t slots of the next one looked at. -/
def AftAt (T : Nat) (f : Int → Int) (q : Int) (p : List Int) (r t : Nat) (out : List Int) : Prop :=
  out.length = p.length ∧ ∀ s, s < p.length → pAt out s = if s / T < r then pAt (aftP T f q p) s else if s / T = r then (kpR f q (colT T p r t)).reverse.getD (s % T) 0 else 0
theorem AftAt.zero (T : Nat) (f : Int → Int) (q : Int) (p : List Int) : AftAt T f q p 0 0 (List.replicate p.length 0) := by
  refine ⟨by simp, fun s hs => ?_⟩
  rw [if_neg (Nat.not_lt_zero _)]
  have e : pAt (List.replicate p.length (0 : Int)) s = 0 := by unfold pAt; rw [List.getD_eq_getElem?_getD, List.getElem?_replicate]; split <;> rfl
  rw [e]
  split
  · rfl
  · rfl
theorem AftAt.row {T : Nat} {f : Int → Int} {q : Int} {p : List Int} {r : Nat} {out : List Int} (h : AftAt T f q p r T out) : AftAt T f q p (r + 1) 0 out := by
  refine ⟨h.1, fun s hs => ?_⟩
  rw [h.2 s hs]
  by_cases h1 : s / T < r
  · rw [if_pos h1, if_pos (by omega)]
  · rw [if_neg h1]
    by_cases h2 : s / T = r
    · rw [if_pos h2, if_pos (by omega), aftP_at hs, h2]
    · rw [if_neg h2, if_neg (by omega)]
      split <;> rfl
theorem AftAt.end_ {T : Nat} {f : Int → Int} {q : Int} {p : List Int} {R : Nat} {out : List Int} (hT : 0 < T) (hn : p.length = R * T) (h : AftAt T f q p R 0 out) : out = aftP T f q p := by
  refine List.ext_getElem (by rw [aftP_len]; exact h.1) fun s h1 h2 => ?_
  rw [← pAt_get h1, ← pAt_get h2]
  have hs : s < p.length := by rw [h.1] at h1; exact h1
  rw [h.2 s hs, if_pos (slot_row hT (by omega)).1]
theorem kpR_at {T : Nat} {f : Int → Int} {q : Int} {p : List Int} {r t : Nat} : (kpR f q (colT T p r t)).length ≤ t := by
  have := kpR_len f q (colT T p r t); rw [colT_len] at this; exact this
theorem AftAt.skip {T : Nat} {f : Int → Int} {q : Int} {p : List Int} {r t : Nat} {out : List Int} (h : AftAt T f q p r t out) (hx : pAt p (r * T + t) = 0 ∨ f (pAt p (r * T + t)) = q) : AftAt T f q p r (t + 1) out ∧ (kpR f q (colT T p r (t + 1))).length = (kpR f q (colT T p r t)).length := by
  have e : kpR f q (colT T p r (t + 1)) = kpR f q (colT T p r t) := by
    rw [colT]
    unfold kpR
    rw [List.filter_cons_of_neg]
    simp only [decide_eq_true_eq]
    rintro ⟨h1, h2⟩
    rcases hx with hx | hx
    · exact h1 hx
    · exact h2 hx
  refine ⟨⟨h.1, fun s hs => ?_⟩, by rw [e]⟩
  rw [e]; exact h.2 s hs
theorem AftAt.keep {T : Nat} {f : Int → Int} {q : Int} {p : List Int} {r t : Nat} {out : List Int} (h : AftAt T f q p r t out) (ht : t < T) (hl : r * T + t < p.length) (hz : pAt p (r * T + t) ≠ 0) (hf : f (pAt p (r * T + t)) ≠ q) :
    AftAt T f q p r (t + 1) (out.set (r * T + (kpR f q (colT T p r t)).length) (pAt p (r * T + t))) ∧ (kpR f q (colT T p r (t + 1))).length = (kpR f q (colT T p r t)).length + 1 := by
  have e : kpR f q (colT T p r (t + 1)) = pAt p (r * T + t) :: kpR f q (colT T p r t) := by
    rw [colT]
    unfold kpR
    rw [List.filter_cons_of_pos]
    simp only [decide_eq_true_eq]
    exact ⟨hz, hf⟩
  have hm := kpR_at (T := T) (f := f) (q := q) (p := p) (r := r) (t := t)
  obtain ⟨m, hme⟩ : ∃ m, m = (kpR f q (colT T p r t)).length := ⟨_, rfl⟩
  rw [← hme] at hm ⊢
  refine ⟨⟨by rw [List.length_set]; exact h.1, fun s hs => ?_⟩, by rw [e, List.length_cons, ← hme]⟩
  have hml : r * T + m < out.length := by rw [h.1]; omega
  by_cases hse : r * T + m = s
  · subst hse
    have hd : (r * T + m) / T = r := row_div (by omega)
    have hmo : (r * T + m) % T = m := by rw [Nat.add_comm, Nat.add_mul_mod_self_right, Nat.mod_eq_of_lt (by omega)]
    rw [pAt_set_self hml, hd, if_neg (by omega), if_pos rfl, hmo, e, List.reverse_cons, List.getD_eq_getElem?_getD, List.getElem?_append_right (by rw [List.length_reverse, ← hme]; omega)]
    rw [List.length_reverse, ← hme, Nat.sub_self]
    rfl
  · rw [pAt_set_ne hse, h.2 s hs]
    by_cases h1 : s / T < r
    · rw [if_pos h1, if_pos h1]
    · rw [if_neg h1, if_neg h1]
      by_cases h2 : s / T = r
      · rw [if_pos h2, if_pos h2, e, List.reverse_cons]
        have hsm : s % T ≠ m := fun e9 => hse (by
          have := Nat.div_add_mod s T
          rw [h2, e9, Nat.mul_comm] at this
          exact this)
        rw [List.getD_eq_getElem?_getD, List.getD_eq_getElem?_getD]
        rcases Nat.lt_or_ge (s % T) m with h3 | h3
        · rw [List.getElem?_append_left (by rw [List.length_reverse, ← hme]; exact h3)]
        · rw [List.getElem?_eq_none (by rw [List.length_reverse, ← hme]; exact h3), List.getElem?_append_right (by rw [List.length_reverse, ← hme]; exact h3), List.length_reverse, ← hme]
          rw [List.getElem?_eq_none (by simp; omega)]
      · rw [if_neg h2, if_neg h2]

set_option maxRecDepth 10000 in
set_option maxHeartbeats 8000000 in
theorem specAfterPort_any (h : Hl) (u v : Value) (l : List Bx) (p : List Int) (q : Int) (w : World) (hb : HoldsBx w u l) (hp : HoldsI w v p) :
    Calls Try.prog 25 #[.agg #[.int .i64 h.b, .int .i64 h.r, .int .i64 h.t], u, v, .int .i64 q] w fun e w' => ∃ v', e = .returned v' ∧ OwnI w.heap.size w' v' (aftO h l p q) ∧ Below w.heap.size w w' := by
  have hb1 := (Below.refl w.heap.size w).alloc (Nat.le_refl _) (.cells #[.int .i64 h.b, .int .i64 h.r, .int .i64 h.t] 24)
  have hx1 := BoxH.new w h
  obtain ⟨W1, hW1⟩ : ∃ W1, W1 = w.alloc (.cells #[.int .i64 h.b, .int .i64 h.r, .int .i64 h.t] 24) := ⟨_, rfl⟩
  rw [← hW1] at hb1 hx1
  have HW := Lib.hid hW1
  have HB := Lib.hid hb1
  have y0 := hx1.c0
  have y1 := hx1.c1
  have y2 := hx1.c2
  have HX := Lib.hid fun (w' : World) (hs : Below W1.heap.size W1 w') => hx1.keep hs
  have hs1 : W1.heap.size = w.heap.size + 1 := by rw [hW1]; simp
  clear hW1 hb1 hx1
  have HPV := Lib.hid fun (w' : World) (hs : Below w.heap.size w w') => specPlanValid_any h u v l p w' (hb.keep hs) (hp.keep hs)
  have PK := Lib.hid fun (w' : World) (hs : Below w.heap.size w w') => hp.keep hs
  obtain ⟨i0, hi, hz0, hz1, hz2⟩ := info_parts infoInt
  have HI := Lib.hid hi
  have HZ0 := Lib.hid hz0
  have HZ1 := Lib.hid hz1
  have HZ2 := Lib.hid hz2
  clear hi hz0 hz1 hz2
  rw [hs1] at HX
  cases hok : plOk h (bxsOk l) (bxIds l) p
  · have HE := Lib.hid (show aftO h l p q = [] from by unfold aftO; rw [hok]; rfl)
    rw [hok] at HPV
    clear hok hb hp
    go_enter Try.func25, Try.ntmps25
    go_wp2_with fail
    rw [← HW.out]
    go_wp2_with fail
    refine (HPV.out _ HB.out).mono ?_
    rintro e w3 ⟨rfl, b3⟩
    have C3 := HB.out.trans (b3.mono HB.out.size)
    go_wp2_with fail
    go_ret
    exact ⟨_, rfl, by rw [HE.out]; exact (OwnI.zero (Nat.le_refl _)).from_ C3.size, C3.alloc C3.size _⟩
  · have hlen := pl_len hok
    obtain ⟨R, hTt, hT0, hRT⟩ := rows_pl hok
    obtain ⟨T, hT⟩ : ∃ T : Nat, T = h.t.toNat := ⟨_, rfl⟩
    have HPT := Lib.hid fun k (hl : k < p.length) (hz : pAt p k ≠ 0) (w' : World) (hs : Below w.heap.size w w') => specPort_any u v l p k w' (hb.keep hs) (hp.keep hs) hl (pl_find hok hl hz)
    rw [← hT] at hTt hT0 hRT
    have hT3 : T ≤ 3 := by have := hlOk_iff.1 (plOk_iff.1 hok).1; omega
    rw [hok] at HPV
    by_cases hq : 0 ≤ q ∧ q ≤ 6
    · have HE := Lib.hid (show aftO h l p q = aftP T (ptB l) q p from by unfold aftO; rw [if_pos ⟨hok, hq.1, hq.2⟩, hT])
      generalize ptB l = f at HPT HE
      obtain ⟨pa, pc, rfl⟩ := hp.form
      have hpc : p.length ≤ pc ∧ pc ≤ 9223372036854775807 := by
        obtain ⟨a', c', e, q1, q2, _⟩ := hp
        simp only [Value.slice.injEq] at e
        obtain ⟨-, -, rfl⟩ := e
        unfold maxLen at q2
        omega
      have HZ := Lib.hid (AftAt.zero T f q p)
      have HEND := Lib.hid fun out (ho : AftAt T f q p R 0 out) => AftAt.end_ hT0 hRT ho
      have HKP := Lib.hid fun r t out (ho : AftAt T f q p r t out) (ht : t < T) (hl : r * T + t < p.length) hz hf => AftAt.keep ho ht hl hz hf
      have HLN := Lib.hid fun r t out (ho : AftAt T f q p r t out) => ho.1
      obtain ⟨n, hn⟩ : ∃ n, n = p.length := ⟨_, rfl⟩
      rw [← hn] at HPV PK HPT HZ HKP HLN hlen hRT hpc ⊢
      have HQ := Lib.hid hq
      have HTT := Lib.hid hTt
      have HRT := Lib.hid hRT
      clear hok hb hp hn hT hq hTt hRT
      go_enter Try.func25, Try.ntmps25
      go_wp2_with fail
      rw [← HW.out]
      go_wp2_with fail
      refine (HPV.out _ HB.out).mono ?_
      rintro e w3 ⟨rfl, b3⟩
      have C3 := Lib.hid (HB.out.trans (b3.mono HB.out.size))
      have D3 := Lib.hid (show Below (w.heap.size + 1) W1 w3 from b3.mono (by omega))
      have hw3 : w.heap.size + 1 ≤ w3.heap.size := by have := D3.out.size; omega
      have hb2 : i0.bytes * n ≤ 281474976710656 := by rw [HZ2.out]; omega
      have hb3 : n ≤ maxLen := by unfold maxLen; omega
      clear b3 HPV y0 y1 y2
      go_wp2_with fail
      refine (l1In_yes q 0 6 _ HQ.out.1 HQ.out.2).mono ?_
      rintro e w' ⟨rfl, rfl⟩
      go_wp2_with (at_make; refine wpList_make_full _ rfl _ _ _ rfl (w.heap.size + 1) 3 i0 (.int .i64 0) 1 Try.underlying26 HI.out HZ0.out HZ1.out .i64 .i64 _ _ n rfl rfl rfl rfl hb2 hb3 hw3 ?_; intro w4 hown hgrow)
      have hbel : Below (w.heap.size + 1) w3 w4 := (Below.refl _ _).grown hgrow hw3 (fun k hk => by cases hk)
      have D4 := Lib.hid (D3.out.trans hbel)
      have O4 := Lib.hid (OwnI.made hown)
      clear hown hgrow hbel C3 D3
      go_wp2_with fail
      obtain ⟨g, hg⟩ : ∃ g, g = w3.heap.size := ⟨_, rfl⟩
      rw [← hg] at O4
      have hwg : w.heap.size + 1 ≤ g := by omega
      rw [← hg]
      have HG := Lib.hid hg
      clear hg hw3 HZ0 HZ1 HZ2 HI hb2 hb3
      go_loopw [10] (fun i wr => ∃ (r ro : Nat) (out : List Int), r ≤ R ∧ Hid (ro = r * T) ∧ i = .int .i64 (ro : Int) ∧ Hid (AftAt T f q p r 0 out) ∧ Hid (OwnI (w.heap.size + 1) wr (.slice (some ⟨g, 0, none⟩) n n) out) ∧ Hid (Below (w.heap.size + 1) W1 wr)) (fun i _ => n - (intOf i).toNat)
      case atStart => exact ⟨0, 0, _, by omega, Lib.hid (by omega), rfl, HZ, O4, D4⟩
      case round =>
        clear D4 O4 HZ
        obtain ⟨wo, rfl⟩ : ∃ wo : World, wo = wr := ⟨_, rfl⟩
        obtain ⟨r, ro, out, hrR, HRO, rfl, HA, HOW, DO⟩ := hrel
        have yo := HX.out wo DO.out
        by_cases hlt : r < R
        · have hron : ro + T ≤ n := by
            have h1 := HRO.out
            have h2 := HRT.out
            have h3 : (r + 1) * T ≤ R * T := Nat.mul_le_mul_right T hlt
            rw [Nat.succ_mul] at h3
            omega
          have hrn : ro < n := by omega
          have iro : (ro : Int) < (n : Int) := by omega
          have iro' : decide ((ro : Int) < (n : Int)) = true := decide_eq_true iro
          clear yo
          go_wp2_with fail
          go_loopw [11, 12] (fun av kv w2 => ∃ (t at_ kk : Nat) (out : List Int), t ≤ T ∧ Hid (at_ = ro + (kpR f q (colT T p r t)).length) ∧ Hid (kk = ro + t) ∧ av = .int .i64 (at_ : Int) ∧ kv = .int .i64 (kk : Int) ∧ Hid (AftAt T f q p r t out) ∧ Hid (OwnI (w.heap.size + 1) w2 (.slice (some ⟨g, 0, none⟩) n n) out) ∧ Hid (Below (w.heap.size + 1) W1 w2)) (fun _ kv _ => ro + T - (intOf kv).toNat)
          case atStart => exact ⟨0, ro, ro, out, by omega, Lib.hid rfl, Lib.hid rfl, rfl, rfl, HA, HOW, DO⟩
          case round =>
            clear HA HOW DO
            obtain ⟨t, at_, kk, out, htT, HAT, HKK, rfl, rfl, HA, HOW, DI⟩ := hrel
            have EI := Lib.hid (HB.out.trans (DI.out.mono (by omega)))
            have yi := HX.out wr DI.out
            have c0 := yi.c0
            have c1 := yi.c1
            have c2 := yi.c2
            obtain ⟨e, he⟩ : ∃ e : Nat, e = ro + T := ⟨_, rfl⟩
            have zt : IntKind.i64.wrap ((ro : Int) + h.t) = (e : Int) := by rw [← HTT.out, IntWalk.i64_in _ (by omega)]; omega
            clear yi
            by_cases htl : t < T
            · have hkk := HKK.out
              have hkn : kk < n := by omega
              have hke : kk < e := by omega
              have ike : (kk : Int) < (e : Int) := by omega
              have ikn : (kk : Int) < (n : Int) := by omega
              have i0k : (0 : Int) ≤ (kk : Int) := by omega
              obtain ⟨pb, po, rfl, hpbl, s0⟩ := (PK.out wr EI.out).at_ hkn
              have e0 : p.getD kk 0 = pAt p kk := rfl
              rw [e0] at s0
              have hkr : r * T + t = kk := by have := HRO.out; omega
              have zk : IntKind.i64.wrap ((kk : Int) + 1) = (kk : Int) + 1 := IntWalk.i64_in _ (by omega)
              clear e0
              by_cases hz : pAt p kk = 0
              · have hsk := AftAt.skip HA.out (.inl (by rw [hkr]; exact hz))
                have HS := Lib.hid hsk
                rw [hz] at s0
                have HE9 := Lib.hid he
                have HK9 := Lib.hid hkr
                clear hsk he hkr hkk
                go_wp2_with fail
                go_roundw
                case rel => exact ⟨t + 1, at_, kk + 1, out, by omega, Lib.hid (by rw [HS.out.2]; exact HAT.out), Lib.hid (by have := HKK.out; omega), rfl, by go_num, Lib.hid HS.out.1, HOW, DI⟩
                case measure => have := HE9.out; simp [intOf]; omega
              · have hdz : (pAt p kk != 0) = true := by simpa using hz
                have HPk := Lib.hid (HPT.out kk hkn hz wr EI.out)
                obtain ⟨fk, hfk⟩ : ∃ fk, fk = f (pAt p kk) := ⟨_, rfl⟩
                by_cases hfq : fk = q
                · have hsk := AftAt.skip HA.out (.inr (by rw [hkr, ← hfk]; exact hfq))
                  have HS := Lib.hid hsk
                  have hnq : (fk != q) = false := by simp [hfq]
                  have HE9 := Lib.hid he
                  rw [← hfk] at HPk
                  obtain ⟨x, hx⟩ : ∃ x, x = pAt p kk := ⟨_, rfl⟩
                  rw [← hx] at s0 hdz
                  clear hsk he hkr hkk hfk hfq hx hz
                  go_wp2_with fail
                  refine HPk.out.mono ?_
                  rintro e9 w' ⟨rfl, rfl⟩
                  go_wp2_with fail
                  go_roundw
                  case rel => exact ⟨t + 1, at_, kk + 1, out, by omega, Lib.hid (by rw [HS.out.2]; exact HAT.out), Lib.hid (by have := HKK.out; omega), rfl, by go_num, Lib.hid HS.out.1, HOW, DI⟩
                  case measure => have := HE9.out; simp [intOf]; omega
                · have hsk := HKP.out r t out HA.out htl (by rw [hkr]; exact hkn) (by rw [hkr]; exact hz) (by rw [hkr, ← hfk]; exact hfq)
                  have hml := kpR_at (T := T) (f := f) (q := q) (p := p) (r := r) (t := t)
                  have hat := HAT.out
                  have ro2 : r * T + (kpR f q (colT T p r t)).length = at_ := by have := HRO.out; omega
                  rw [hkr, ro2] at hsk
                  have hatn : at_ < n := by omega
                  have iatn : (at_ : Int) < (n : Int) := by omega
                  have i0a : (0 : Int) ≤ (at_ : Int) := by omega
                  have hon := HLN.out r t out HA.out
                  obtain ⟨g', cap', cur, hge, hg1, hg2, hcur, hc1, hc2, hc3, hc4⟩ := HOW.out.form (by omega)
                  rw [hon] at hge
                  simp only [Value.slice.injEq, Option.some.injEq, Addr.mk.injEq, and_true, true_and] at hge
                  obtain ⟨rfl, rfl⟩ := hge
                  have fr0 : wr.frozen? ⟨g, at_, none⟩ = false := by simp [World.frozen?, hcur]
                  obtain ⟨z9, t9⟩ : ∃ z, wr.cell? ⟨g, at_, none⟩ = some z := by
                    simp only [World.cell?, hcur]
                    exact ⟨_, Array.getElem?_eq_getElem (by omega)⟩
                  have hset : OwnI (w.heap.size + 1) (wr.setCell ⟨g, at_, none⟩ (.int .i64 (pAt p kk))) (.slice (some ⟨g, 0, none⟩) n n) (out.set at_ (pAt p kk)) := by
                    have h8 : OwnI (w.heap.size + 1) wr (.slice (some ⟨g, 0, none⟩) out.length n) out := by rw [hon]; exact HOW.out
                    have h9 := h8.set (k := at_) (by omega) (pAt p kk)
                    rw [hon] at h9
                    exact h9
                  have HS := Lib.hid hsk
                  have hnq : (fk != q) = true := by simpa using hfq
                  have HE9 := Lib.hid he
                  rw [← hfk] at HPk
                  obtain ⟨x, hx⟩ : ∃ x, x = pAt p kk := ⟨_, rfl⟩
                  rw [← hx] at s0 hdz hset HS
                  have HST := Lib.hid hset
                  have hbs : Below (w.heap.size + 1) wr (wr.setCell ⟨g, at_, none⟩ (.int .i64 x)) := (Below.refl _ _).setCell hg1 _
                  have DS := Lib.hid (DI.out.trans hbs)
                  have za : IntKind.i64.wrap ((at_ : Int) + 1) = (at_ : Int) + 1 := IntWalk.i64_in _ (by omega)
                  clear hsk he hkr hkk hfk hfq hx hz hml hat ro2 hon hg1 hg2 hcur hc1 hc2 hc3 hc4 hset hbs
                  go_wp2_with fail
                  refine HPk.out.mono ?_
                  rintro e9 w' ⟨rfl, rfl⟩
                  go_wp2_with fail
                  go_roundw
                  case rel => exact ⟨t + 1, at_ + 1, kk + 1, _, by omega, Lib.hid (by rw [HS.out.2]; have := HAT.out; omega), Lib.hid (by have := HKK.out; omega), by go_num, by go_num, Lib.hid HS.out.1, HST, DS⟩
                  case measure => have := HE9.out; simp [intOf]; omega
            · obtain rfl : t = T := by omega
              have hkk := HKK.out
              have hke : ¬ kk < e := by omega
              have ike : decide ((kk : Int) < (e : Int)) = false := decide_eq_false (by omega)
              have HE9 := Lib.hid he
              have HA2 := Lib.hid (AftAt.row HA.out)
              clear he hkk
              go_wp2_with fail
              go_roundw
              case rel => exact ⟨r + 1, e, out, by omega, Lib.hid (by have := HRO.out; have := HE9.out; rw [Nat.succ_mul]; omega), rfl, HA2, HOW, DI⟩
              case measure => have := HE9.out; simp [intOf]; omega
        · obtain rfl : r = R := by omega
          have hro : ro = n := by have h1 := HRO.out; have h2 := HRT.out; omega
          have hrn : ¬ ro < n := by omega
          have iro : decide ((ro : Int) < (n : Int)) = false := decide_eq_false (by omega)
          have hfin := HEND.out out HA.out
          have O9 := HOW.out.from_ (show w.heap.size ≤ w.heap.size + 1 by omega)
          have C9 := HB.out.trans (DO.out.mono (by omega))
          have HRN := Lib.hid hro
          have HFI := Lib.hid hfin
          clear hro hfin yo
          go_wp2_with fail
          go_ret
          exact ⟨_, rfl, by rw [HE.out, ← HFI.out]; exact O9, C9⟩
    · have HE := Lib.hid (show aftO h l p q = [] from by unfold aftO; rw [if_neg (fun hc => hq hc.2)])
      have HQ := Lib.hid hq
      clear hok hb hp hq hT hTt hT0 hRT hT3
      go_enter Try.func25, Try.ntmps25
      go_wp2_with fail
      rw [← HW.out]
      go_wp2_with fail
      refine (HPV.out _ HB.out).mono ?_
      rintro e w3 ⟨rfl, b3⟩
      have C3 := HB.out.trans (b3.mono HB.out.size)
      go_wp2_with fail
      refine (l1In_no q 0 6 _ (by have := HQ.out; omega)).mono ?_
      rintro e w' ⟨rfl, rfl⟩
      go_wp2_with fail
      go_ret
      exact ⟨_, rfl, by rw [HE.out]; exact (OwnI.zero (Nat.le_refl _)).from_ C3.size, C3.alloc C3.size _⟩

set_option maxRecDepth 10000 in
set_option maxHeartbeats 8000000 in
theorem specVoyageMoves_any (h : Hl) (u v : Value) (l : List Bx) (p : List Int) (w : World) (hb : HoldsBx w u l) (hp : HoldsI w v p) :
    Calls Try.prog 31 #[.agg #[.int .i64 h.b, .int .i64 h.r, .int .i64 h.t], u, v] w fun e w' => e = .returned (.int .i64 (vyO h l p)) ∧ Below w.heap.size w w' := by
  have hb1 := (Below.refl w.heap.size w).alloc (Nat.le_refl _) (.cells #[.int .i64 h.b, .int .i64 h.r, .int .i64 h.t] 24)
  have hx1 := BoxH.new w h
  obtain ⟨W1, hW1⟩ : ∃ W1, W1 = w.alloc (.cells #[.int .i64 h.b, .int .i64 h.r, .int .i64 h.t] 24) := ⟨_, rfl⟩
  rw [← hW1] at hb1 hx1
  have HW := Lib.hid hW1
  have HB := Lib.hid hb1
  have y0 := hx1.c0
  have y1 := hx1.c1
  have y2 := hx1.c2
  have HX := Lib.hid fun (w' : World) (hs : Below W1.heap.size W1 w') => hx1.keep hs
  clear hW1 hb1 hx1
  have HPV := Lib.hid fun (w' : World) (hs : Below w.heap.size w w') => specPlanValid_any h u v l p w' (hb.keep hs) (hp.keep hs)
  cases hok : plOk h (bxsOk l) (bxIds l) p
  · have HE := Lib.hid (show vyO h l p = -1 from by unfold vyO; rw [hok]; rfl)
    rw [hok] at HPV
    clear hok hb hp
    go_enter Try.func31, Try.ntmps31
    go_wp2_with fail
    rw [← HW.out]
    go_wp2_with fail
    refine (HPV.out _ HB.out).mono ?_
    rintro e w2 ⟨rfl, b2⟩
    go_wp2_with fail
    go_ret
    exact ⟨by rw [HE.out]; rfl, HB.out.trans (b2.mono HB.out.size)⟩
  · have hlen := pl_len hok
    obtain ⟨T, hT⟩ : ∃ T : Nat, T = h.t.toNat := ⟨_, rfl⟩
    have HE := Lib.hid (show vyO h l p = (vyN T (ptB l) p 7 : Int) from by unfold vyO; rw [if_pos hok, hT])
    have HPM := Lib.hid fun (P : Nat) (hP : P ≤ 6) (pv : Value) (w' : World) (hs : Below w.heap.size w w') (hq : HoldsI w' pv (aftN T (ptB l) p P)) => (specPortMoves_any h u pv l (aftN T (ptB l) p P) (P : Int) w' (hb.keep hs) hq).mono (R' := fun e w'' => ∃ v', e = .returned v' ∧ OwnI w'.heap.size w'' v' (moveO h l (aftN T (ptB l) p P) (P : Int)) ∧ (moveO h l (aftN T (ptB l) p P) (P : Int)).length = cnt (moveS T (ptB l) (P : Int) (aftN T (ptB l) p P)) p.length ∧ Below w'.heap.size w' w'') (fun e w'' ⟨v', he, ho, hb⟩ => ⟨v', he, ho, by rw [hT]; exact moveO_len hok hP, hb⟩)
    have HAP := Lib.hid fun (P : Nat) (hP : P ≤ 6) (pv : Value) (w' : World) (hs : Below w.heap.size w w') (hq : HoldsI w' pv (aftN T (ptB l) p P)) => (show Calls Try.prog 25 #[.agg #[.int .i64 h.b, .int .i64 h.r, .int .i64 h.t], u, pv, .int .i64 (P : Int)] w' fun e w'' => ∃ v', e = .returned v' ∧ OwnI w'.heap.size w'' v' (aftN T (ptB l) p (P + 1)) ∧ Below w'.heap.size w' w'' from by
      have := specAfterPort_any h u pv l (aftN T (ptB l) p P) (P : Int) w' (hb.keep hs) hq
      rw [hT, aftO_next hok hP] at this
      rw [hT]
      exact this)
    have HVB := Lib.hid fun (P : Nat) => (show vyN T (ptB l) p (P + 1) = vyN T (ptB l) p P + cnt (moveS T (ptB l) (P : Int) (aftN T (ptB l) p P)) p.length from rfl)
    have HCB := Lib.hid fun (P : Nat) => cnt_le (moveS T (ptB l) (P : Int) (aftN T (ptB l) p P)) p.length
    have HP0 := Lib.hid fun (w' : World) (hs : Below w.heap.size w w') => (show HoldsI w' v (aftN T (ptB l) p 0) from hp.keep hs)
    have HVL : ∀ P, vyN T (ptB l) p P ≤ 36 * P := by
      intro P
      induction P with
      | zero => exact Nat.le_refl 0
      | succ P ih => have h1 := HVB.out P; have h2 := HCB.out P; omega
    have HVL := Lib.hid HVL
    rw [hok] at HPV
    generalize ptB l = f at HE HPM HAP HVB HCB HP0 HVL
    clear hok hb hp hT
    go_enter Try.func31, Try.ntmps31
    go_wp2_with fail
    rw [← HW.out]
    go_wp2_with fail
    refine (HPV.out _ HB.out).mono ?_
    rintro e w2 ⟨rfl, b2⟩
    have D2 := Lib.hid b2
    clear b2 y0 y1 y2 HPV
    go_wp2_with fail
    go_loopw [2, 7, 8] (fun va sm i wr => ∃ (P : Nat) (pv : Value), P ≤ 7 ∧ pv = va ∧ sm = .int .i64 (vyN T f p P : Int) ∧ i = .int .i64 (P : Int) ∧ Hid (HoldsI wr pv (aftN T f p P)) ∧ Hid (Below W1.heap.size W1 wr)) (fun _ _ i _ => 7 - (intOf i).toNat)
    case atStart => exact ⟨0, v, by omega, rfl, rfl, rfl, Lib.hid (HP0.out _ (HB.out.trans (D2.out.mono HB.out.size))), D2⟩
    case round =>
      clear D2
      obtain ⟨P, pv, hP7, rfl, rfl, rfl, HV, DR⟩ := hrel
      have ER := Lib.hid (HB.out.trans (DR.out.mono HB.out.size))
      have y := HX.out wr DR.out
      have c0 := y.c0
      have c1 := y.c1
      have c2 := y.c2
      by_cases hlt : P ≤ 6
      · have iP : (P : Int) ≤ 6 := by omega
        have iP' : decide ((P : Int) ≤ 6) = true := decide_eq_true iP
        have HM := Lib.hid (HPM.out P hlt pv wr ER.out HV.out)
        have hvb := HVB.out P
        have hvl := HVL.out P
        have hcb := HCB.out P
        clear y
        go_wp2_with fail
        refine HM.out.mono ?_
        rintro e w5 ⟨v5, rfl, O5, hl5, b5⟩
        obtain ⟨a5, c5, rfl⟩ := O5.holds.form
        rw [hl5]
        have D5 := Lib.hid (DR.out.trans (b5.mono DR.out.size))
        have E5 := HB.out.trans (D5.out.mono HB.out.size)
        have HV5 := Lib.hid (HV.out.keep b5)
        have HA := Lib.hid (HAP.out P hlt pv w5 E5 HV5.out)
        have y5 := HX.out w5 D5.out
        have d0 := y5.c0
        have d1 := y5.c1
        have d2 := y5.c2
        obtain ⟨cc, hcc⟩ : ∃ cc, cc = cnt (moveS T f (P : Int) (aftN T f p P)) p.length := ⟨_, rfl⟩
        rw [← hcc] at hvb hcb ⊢
        obtain ⟨vv, hvv⟩ : ∃ vv, vv = vyN T f p P := ⟨_, rfl⟩
        rw [← hvv] at hvb hvl ⊢
        have zc : IntKind.i64.wrap ((vv : Int) + (cc : Int)) = ((vv + cc : Nat) : Int) := by rw [IntWalk.i64_in _ (by omega)]; omega
        have HVV := Lib.hid hvb
        clear b5 O5 hl5 y5 c0 c1 c2 hcc hvv hvb E5
        go_wp2_with fail
        refine HA.out.mono ?_
        rintro e w6 ⟨v6, rfl, O6, b6⟩
        have D6 := Lib.hid (D5.out.trans (b6.mono D5.out.size))
        have HV6 := Lib.hid O6.holds
        clear b6 O6 d0 d1 d2
        go_wp2_with fail
        go_roundw
        case rel => exact ⟨P + 1, v6, by omega, rfl, by rw [HVV.out]; first | rfl | go_num, by go_num, HV6, D6⟩
        case measure => simp [intOf]; omega
      · obtain rfl : P = 7 := by omega
        have C9 := ER.out
        clear y
        go_wp2_with fail
        go_ret
        exact ⟨by rw [HE.out]; rfl, C9⟩
end Go.Proofs.Ytmgnbkiphdlooaa
