/-
  The program's chapter 13, second part: cmp.Compare, the closure that compares two slots, the library's stable sort at few numbers.
-/
import Derived.Test.YtmgnbkiphdlooabRwMath3
import Derived.Test.YtmgnbkiphdlooabWtI
import Derived.Test.YtmgnbkiphdlooabPlI
import Derived.Test.YtmgnbkiphdlooabGPl
import Derived.Laws.AppendOwnNone
import Derived.Deep.RegionHeld3
import Derived.BigQuiet
import Derived.Deep.QuietTactic
namespace Go.Proofs.Ytmgnbkiphdlooab
open Go.RowKit
set_option linter.unusedVariables false

/-- What cmp.Compare gives. -/
def cmpI (x y : Int) : Int := if x < y then -1 else if y < x then 1 else 0
theorem cmpI_lt (x y : Int) : decide (cmpI x y < 0) = decide (x < y) := by
  unfold cmpI
  by_cases h1 : x < y
  · simp [h1]
  · by_cases h2 : y < x <;> simp [h1, h2]
set_option maxRecDepth 10000 in
set_option maxHeartbeats 1000000 in
theorem cmpIsNaN_any (x : Int) (w : World) : Calls Try.prog 89 #[.int .i64 x] w fun e w' => e = .returned (.bool false) ∧ w' = w := by
  have h1 : (x != x) = false := by simp
  go_enter Try.func89, Try.ntmps89
  go_wp2_with fail
  go_ret
  exact ⟨rfl, rfl⟩
set_option maxRecDepth 10000 in
set_option maxHeartbeats 1000000 in
theorem cmpCompare_any (x y : Int) (w : World) : Calls Try.prog 65 #[.int .i64 x, .int .i64 y] w fun e w' => e = .returned (.int .i64 (cmpI x y)) ∧ w' = w := by
  have HX := Lib.hid (cmpIsNaN_any x w)
  have HY := Lib.hid (cmpIsNaN_any y w)
  by_cases h1 : x < y
  · have HE := Lib.hid (show cmpI x y = -1 from if_pos h1)
    have d1 : decide (x < y) = true := decide_eq_true h1
    go_enter Try.func65, Try.ntmps65
    go_wp2_with fail
    refine HX.out.mono ?_
    rintro e w' ⟨rfl, rfl⟩
    go_wp2_with fail
    refine HY.out.mono ?_
    rintro e w' ⟨rfl, rfl⟩
    go_wp2_with fail
    go_ret
    exact ⟨by rw [HE.out]; rfl, rfl⟩
  · have d1 : decide (x < y) = false := decide_eq_false h1
    by_cases h2 : y < x
    · have HE := Lib.hid (show cmpI x y = 1 from by unfold cmpI; rw [if_neg h1, if_pos h2])
      have d2 : decide (y < x) = true := decide_eq_true h2
      have d3 : decide (x > y) = true := d2
      go_enter Try.func65, Try.ntmps65
      go_wp2_with fail
      refine HX.out.mono ?_
      rintro e w' ⟨rfl, rfl⟩
      go_wp2_with fail
      refine HY.out.mono ?_
      rintro e w' ⟨rfl, rfl⟩
      go_wp2_with fail
      go_ret
      exact ⟨by rw [HE.out]; rfl, rfl⟩
    · have HE := Lib.hid (show cmpI x y = 0 from by unfold cmpI; rw [if_neg h1, if_neg h2])
      have d2 : decide (y < x) = false := decide_eq_false h2
      have d3 : decide (x > y) = false := d2
      go_enter Try.func65, Try.ntmps65
      go_wp2_with fail
      refine HX.out.mono ?_
      rintro e w' ⟨rfl, rfl⟩
      go_wp2_with fail
      refine HY.out.mono ?_
      rintro e w' ⟨rfl, rfl⟩
      go_wp2_with fail
      go_ret
      exact ⟨by rw [HE.out]; rfl, rfl⟩
set_option maxRecDepth 10000 in
set_option maxHeartbeats 4000000 in
theorem heavier_any (B1 B2 : Nat) (h : Hl) (u v : Value) (l : List Bx) (p : List Int) (a b : Nat) (w : World) (hb : HoldsBx w u l) (hp : HoldsI w v p) (hok : plOk h (bxsOk l) (bxIds l) p = true) (h1 : B1 < w.heap.size) (h2 : B2 < w.heap.size) (c1 : w.cell? ⟨B1, 0, none⟩ = some u) (c2 : w.cell? ⟨B2, 0, none⟩ = some v) (ha : a < p.length) (hbl : b < p.length) :
    Calls Try.prog 64 #[.int .i64 (a : Int), .int .i64 (b : Int), .pointer (some ⟨B1, 0, none⟩), .pointer (some ⟨B2, 0, none⟩)] w fun e w' => e = .returned (.int .i64 (cmpI (wBx l (pAt p b)) (wBx l (pAt p a)))) ∧ Below w.heap.size w w' := by
  have HW8 : ∀ k, k < p.length → ∀ (w' : World), Below w.heap.size w w' → Calls Try.prog 45 #[u, .int .i64 (pAt p k)] w' fun e w'' => e = .returned (.int .i64 (wBx l (pAt p k))) ∧ Below w'.heap.size w' w'' := fun k hl w' hs => (gIn_plan hok hl) ▸ weightIn_any u l (pAt p k) w' (hb.keep hs)
  have HWa := Lib.hid fun (w' : World) (hs : Since w w') => HW8 a ha w' hs
  have HWb := Lib.hid fun (w' : World) (hs : Since w w') => HW8 b hbl w' hs
  obtain ⟨ua, uc, rfl⟩ : ∃ ua uc, u = .slice ua l.length uc := by
    obtain ⟨a', c', e, _⟩ := hb
    exact ⟨a', c', e⟩
  obtain ⟨pa, pc, rfl⟩ := hp.form
  obtain ⟨pb, po, rfl, hpb, s0⟩ := hp.at_ ha
  obtain ⟨pb2, po2, e0, -, s1⟩ := hp.at_ hbl
  simp only [Option.some.injEq, Addr.mk.injEq, and_true] at e0
  obtain ⟨rfl, rfl⟩ := e0
  rw [show p.getD a 0 = pAt p a from rfl] at s0
  rw [show p.getD b 0 = pAt p b from rfl] at s1
  obtain ⟨xa, hxa⟩ : ∃ x, x = pAt p a := ⟨_, rfl⟩
  obtain ⟨xb, hxb⟩ : ∃ x, x = pAt p b := ⟨_, rfl⟩
  rw [← hxa] at s0 HWa ⊢
  rw [← hxb] at s1 HWb ⊢
  obtain ⟨n, hn⟩ : ∃ n, n = p.length := ⟨_, rfl⟩
  obtain ⟨m, hm⟩ : ∃ m, m = l.length := ⟨_, rfl⟩
  rw [← hn] at c2 ha hbl
  rw [← hm] at c1 HWa HWb
  generalize wBx l xa = wa at HWa ⊢
  generalize wBx l xb = wb at HWb ⊢
  have ia : (a : Int) < (n : Int) := by omega
  have i0a : (0 : Int) ≤ (a : Int) := by omega
  have ib : (b : Int) < (n : Int) := by omega
  have i0b : (0 : Int) ≤ (b : Int) := by omega
  have HC := Lib.hid fun (w' : World) => cmpCompare_any wb wa w'
  have HK2 := Lib.hid fun (w' : World) (hs : Since w w') => (show w'.cell? ⟨B1, 0, none⟩ = some (.slice ua m uc) ∧ w'.cell? ⟨B2, 0, none⟩ = some (.slice (some ⟨pb, po, none⟩) n pc) ∧ w'.cell? ⟨pb, po + a, none⟩ = some (.int .i64 xa) ∧ w'.cell? ⟨pb, po + b, none⟩ = some (.int .i64 xb) ∧ Since w w' from ⟨(Below.cell hs (p := ⟨B1, 0, none⟩) h1).trans c1, (Below.cell hs (p := ⟨B2, 0, none⟩) h2).trans c2, (Below.cell hs (p := ⟨pb, po + a, none⟩) hpb).trans s0, (Below.cell hs (p := ⟨pb, po + b, none⟩) hpb).trans s1, hs⟩)
  have hstart := HK2.out _ (show Since w w.drew from (Below.refl _ _).drew)
  clear HW8 hb hp hok h1 h2 c1 c2 s0 s1 hxa hxb hn hm ha hbl hpb
  go_enter Try.func64, Try.ntmps64
  go_wp2_with fail
  go_region_held3 (fun w' => w'.cell? ⟨B1, 0, none⟩ = some (.slice ua m uc) ∧ w'.cell? ⟨B2, 0, none⟩ = some (.slice (some ⟨pb, po, none⟩) n pc) ∧ w'.cell? ⟨pb, po + a, none⟩ = some (.int .i64 xa) ∧ w'.cell? ⟨pb, po + b, none⟩ = some (.int .i64 xb) ∧ Since w w')
    (first | exact hstart | exact HK2.out _ s7 | exact HK2.out _ (by exact (‹_ ∧ _› : _ ∧ _ ∧ _ ∧ _ ∧ Since w _).2.2.2.2) | fail)
    (first
      | (go_at_call 45; ((with_reducible refine (HWa.out _ (by exact (‹_ ∧ _› : _ ∧ _ ∧ _ ∧ _ ∧ Since w _).2.2.2.2)).mono ?_); rintro e w7 ⟨rfl, d7⟩; have s7 : Since w w7 := Since.call (by exact (‹_ ∧ _› : _ ∧ _ ∧ _ ∧ _ ∧ Since w _).2.2.2.2) d7; clear d7))
      | (go_at_call 45; ((with_reducible refine (HWb.out _ (by exact (‹_ ∧ _› : _ ∧ _ ∧ _ ∧ _ ∧ Since w _).2.2.2.2)).mono ?_); rintro e w7 ⟨rfl, d7⟩; have s7 : Since w w7 := Since.call (by exact (‹_ ∧ _› : _ ∧ _ ∧ _ ∧ _ ∧ Since w _).2.2.2.2) d7; clear d7))
      | (go_at_call 65; ((with_reducible refine (HC.out _).mono ?_); rintro e w8 ⟨rfl, rfl⟩))
      | fail)
  rename_i hheld
  have b9 := hheld.2.2.2.2
  clear hheld hstart
  go_wp2_with fail
  go_ret
  exact ⟨rfl, b9⟩
set_option maxRecDepth 10000 in
set_option maxHeartbeats 8000000 in
theorem insSort_some (K B1 B2 : Nat) (c : List Int) (v : Value) (lt : Int → Int → Bool) (cf : Int → Int → Int) (w : World) (ho : OwnI K w v c) (hn0 : 0 < c.length) (hn6 : c.length ≤ 6) (hlt : ∀ x y, lt x y = decide (cf x y < 0))
    (hc : ∀ x y, x ∈ c → y ∈ c → ∀ w', Below K w w' → Calls Try.prog 64 #[.int .i64 x, .int .i64 y, .pointer (some ⟨B1, 0, none⟩), .pointer (some ⟨B2, 0, none⟩)] w' fun e w'' => e = .returned (.int .i64 (cf x y)) ∧ Below w'.heap.size w' w'') :
    Calls Try.prog 97 #[v, .int .i64 0, .int .i64 c.length, (.func (.func 64) #[] #[.pointer (some ⟨B1, 0, none⟩), .pointer (some ⟨B2, 0, none⟩)])] w fun e w' => e = .returned (.tuple #[]) ∧ OwnI K w' v (isN lt c c.length) ∧ Below K w w' := by
  obtain ⟨g, cap, cur, rfl, hKg, hg4, -, hcp1, hcp2, -, -⟩ := ho.form hn0
  have hKw : K ≤ w.heap.size := by omega
  have HO := Lib.hid ho
  have HB := Lib.hid (Below.refl K w)
  have HC := Lib.hid hc
  have HLT := Lib.hid hlt
  have HM := Lib.hid fun x i (hi : i ≤ c.length) (hx : x ∈ isN lt c i) => isN_mem i hi hx
  have HL := Lib.hid (isN_len lt c)
  have hz1 : isN lt c 1 = c := rfl
  have HNX := Lib.hid fun i => (show inI lt i (isN lt c i) = isN lt c (i + 1) from rfl)
  obtain ⟨n, hn⟩ : ∃ n, n = c.length := ⟨_, rfl⟩
  rw [← hn] at HM HL hn0 hn6 hcp1 ⊢
  have hcap : n ≤ cap ∧ cap ≤ 9223372036854775807 := by unfold maxLen at hcp2; omega
  have HNN := Lib.hid hn
  clear ho hc hlt hcp1 hcp2 hn
  go_enter Try.func97, Try.ntmps97
  go_wp2_with fail
  go_loopw [8] (fun iv wr => ∃ i : Nat, 1 ≤ i ∧ i ≤ n ∧ iv = .int .i64 i ∧ Hid (OwnI K wr (.slice (some ⟨g, 0, none⟩) n cap) (isN lt c i)) ∧ Hid (Below K w wr)) (fun iv _ => n - (intOf iv).toNat)
  case atStart => exact ⟨1, by omega, by omega, by go_num, by rw [hz1, HNN.out]; exact HO, HB⟩
  case round =>
    clear HO HB hz1
    obtain ⟨i, hi1, hin, rfl, HOO, BO⟩ := hrel
    obtain ⟨wo, rfl⟩ : ∃ wo : World, wo = wr := ⟨_, rfl⟩
    by_cases hlt : i < n
    · have ii : (i : Int) < (n : Int) := by omega
      have HS0 := Lib.hid (HNX.out i)
      have HMM := Lib.hid fun x (hx : x ∈ isN lt c i) => HM.out x i (by omega) hx
      have HLL := Lib.hid (HL.out i)
      go_wp2_with fail
      go_loopw [9] (fun jv w2 => ∃ (j : Nat) (d : List Int), j ≤ i ∧ jv = .int .i64 j ∧ d.length = n ∧ Hid (inI lt j d = isN lt c (i + 1)) ∧ Hid (∀ x, x ∈ d → x ∈ c) ∧ Hid (OwnI K w2 (.slice (some ⟨g, 0, none⟩) n cap) d) ∧ Hid (Below K w w2)) (fun jv _ => (intOf jv).toNat)
      case atStart => exact ⟨i, isN lt c i, by omega, rfl, by rw [HLL.out, HNN.out], HS0, HMM, HOO, BO⟩
      case round =>
        clear HS0 HMM HLL HOO BO
        obtain ⟨j, d, hji, rfl, hdl, HS, HMD, HOW, BR⟩ := hrel
        have HDL := Lib.hid hdl
        rcases Nat.eq_zero_or_pos j with hj0 | hj0
        · subst hj0
          have HS2 := Lib.hid (show d = isN lt c (i + 1) from HS.out)
          have d0 : decide ((0 : Int) > 0) = false := rfl
          clear hdl
          go_wp2_with fail
          go_quiet (fail)
          have b7 : Below wr.heap.size wr (wr.drewN nq) := Below.drewN_ (Below.refl _ _) _
          have D7 := Lib.hid (BR.out.trans (b7.mono (Nat.le_trans hKw BR.out.size)))
          have HO7 := Lib.hid (HOW.out.keep b7)
          generalize wr.drewN nq = w7 at D7 HO7 ⊢
          clear b7
          go_wp2_with fail
          go_roundw
          case rel => exact ⟨i + 1, by omega, by omega, by go_num, by rw [← HS2.out]; exact HO7, D7⟩
          case measure => simp [intOf]; omega
        · obtain ⟨q, hq⟩ : ∃ q, j = q + 1 := ⟨j - 1, by omega⟩
          have hjn : j < n := by omega
          have hqn : q < n := by omega
          obtain ⟨b, off, e0, -, s0⟩ := HOW.out.holds.at_ hjn
          simp only [Option.some.injEq, Addr.mk.injEq, and_true] at e0
          obtain ⟨rfl, rfl⟩ := e0
          obtain ⟨b, off, e0, hgl, s1⟩ := HOW.out.holds.at_ hqn
          simp only [Option.some.injEq, Addr.mk.injEq, and_true] at e0
          obtain ⟨rfl, rfl⟩ := e0
          rw [Nat.zero_add, show d.getD j 0 = pAt d j from rfl] at s0
          rw [Nat.zero_add, show d.getD q 0 = pAt d q from rfl] at s1
          have hjd : j < d.length := by omega
          have hqd : q < d.length := by omega
          have hmx : pAt d j ∈ c := HMD.out _ (by rw [pAt_get hjd]; exact List.getElem_mem hjd)
          have hmy : pAt d q ∈ c := HMD.out _ (by rw [pAt_get hqd]; exact List.getElem_mem hqd)
          have hgo : lt (pAt d j) (pAt d q) = true → inI lt j d = inI lt q ((d.set j (pAt d q)).set q (pAt d j)) := fun hh => by subst hq; exact inI_go hh
          have hst : lt (pAt d j) (pAt d q) = false → inI lt j d = d := fun hh => by subst hq; exact inI_stop hh
          have hlv := HLT.out (pAt d j) (pAt d q)
          have HCk0 := HC.out (pAt d j) (pAt d q) hmx hmy
          obtain ⟨x, hx⟩ : ∃ x, x = pAt d j := ⟨_, rfl⟩
          obtain ⟨y, hy⟩ : ∃ y, y = pAt d q := ⟨_, rfl⟩
          rw [← hx] at s0 hgo hst hlv HCk0 hmx
          rw [← hy] at s1 hgo hst hlv HCk0 hmy
          generalize cf x y = r at hlv HCk0
          have HCk := Lib.hid fun (w' : World) (hs : Since wr w') => HCk0 w' (BR.out.trans (Below.mono hs (Nat.le_trans hKw BR.out.size)))
          have HK2 := Lib.hid fun (w' : World) (hs : Since wr w') => (show w'.cell? ⟨g, j, none⟩ = some (.int .i64 x) ∧ w'.cell? ⟨g, q, none⟩ = some (.int .i64 y) ∧ Since wr w' from ⟨(Below.cell hs (p := ⟨g, j, none⟩) hgl).trans s0, (Below.cell hs (p := ⟨g, q, none⟩) hgl).trans s1, hs⟩)
          have hstart := HK2.out _ (show Since wr wr.drew from (Below.refl _ _).drew)
          have HMX := Lib.hid hmx
          have HMY := Lib.hid hmy
          have HGO := Lib.hid hgo
          have HST := Lib.hid hst
          have ij : (j : Int) < (n : Int) := by omega
          have i0j : (0 : Int) ≤ (j : Int) := by omega
          have iq : (q : Int) < (n : Int) := by omega
          have i0q : (0 : Int) ≤ (q : Int) := by omega
          have zq : IntKind.i64.wrap ((j : Int) - 1) = (q : Int) := by rw [IntWalk.i64_in _ (by omega)]; omega
          have d1 : decide ((j : Int) > 0) = true := decide_eq_true (by omega)
          have d2 : decide ((0 : Int) < (j : Int)) = true := d1
          have HQ := Lib.hid hq
          have hjq : j ≠ q := by omega
          have HLV := Lib.hid hlv
          clear hgo hst hlv HCk0 hmx hmy hx hy s0 s1 hq hdl
          by_cases hr : r < 0
          · have HL9 := Lib.hid (show lt x y = true from by rw [HLV.out]; exact decide_eq_true hr)
            have d3 : decide (r < 0) = true := decide_eq_true hr
            have HS2 := Lib.hid ((HGO.out HL9.out).symm.trans HS.out)
            clear HGO HST HS hr
            go_wp2_with fail
            go_region_held3 (fun w' => w'.cell? ⟨g, j, none⟩ = some (.int .i64 x) ∧ w'.cell? ⟨g, q, none⟩ = some (.int .i64 y) ∧ Since wr w')
              (first | exact hstart | exact HK2.out _ s7 | exact HK2.out _ (by exact (‹_ ∧ _› : _ ∧ _ ∧ Since wr _).2.2) | fail)
              (first
                | (go_at_call 64; ((with_reducible refine (HCk.out _ (by exact (‹_ ∧ _› : _ ∧ _ ∧ Since wr _).2.2)).mono ?_); rintro e w7 ⟨rfl, d7⟩; have s7 : Since wr w7 := Since.call (by exact (‹_ ∧ _› : _ ∧ _ ∧ Since wr _).2.2) d7; clear d7))
                | fail)
            rename_i hheld
            have b9 : Below wr.heap.size wr w7 := hheld.2.2
            have BR7 := Lib.hid (BR.out.trans (b9.mono (Nat.le_trans hKw BR.out.size)))
            have HO7 := Lib.hid (HOW.out.keep b9)
            clear hheld hstart b9
            have hjd8 : j < d.length := hjd
            have h8 : OwnI K w7 (.slice (some ⟨g, 0, none⟩) d.length cap) d := by rw [HDL.out]; exact HO7.out
            obtain ⟨hKg7, hgl7, -, -, f2⟩ := h8.slot hjd
            obtain ⟨-, -, -, -, f4⟩ := h8.slot hqd
            have h9 := h8.set hjd y
            have hqd2 : q < (d.set j y).length := by rw [List.length_set]; exact hqd
            have h9' : OwnI K (w7.setCell ⟨g, j, none⟩ (.int .i64 y)) (.slice (some ⟨g, 0, none⟩) (d.set j y).length cap) (d.set j y) := by rw [List.length_set]; exact h9
            have h10 := h9'.set hqd2 x
            rw [List.length_set, HDL.out] at h10
            have t0 : w7.cell? ⟨g, j, none⟩ = some (.int .i64 x) := (HK2.out _ (by assumption)).1
            have t1 : w7.cell? ⟨g, q, none⟩ = some (.int .i64 y) := (HK2.out _ (by assumption)).2.1
            have HO9 := Lib.hid (h10.keep (Below.refl _ _).drew)
            have D9 := Lib.hid ((BR7.out.setCell (p := ⟨g, j, none⟩) hKg (.int .i64 y)).setCell (p := ⟨g, q, none⟩) hKg (.int .i64 x)).drew
            have HM9 := Lib.hid fun z (hz : z ∈ (d.set j y).set q x) => (show z ∈ c from by
              rcases List.mem_or_eq_of_mem_set hz with e | e
              · rcases List.mem_or_eq_of_mem_set e with e | e
                · exact HMD.out z e
                · rw [e]; exact HMY.out
              · rw [e]; exact HMX.out)
            have HL10 := Lib.hid (show ((d.set j y).set q x).length = n from by rw [List.length_set, List.length_set]; exact HDL.out)
            clear h8 h9 h9' h10 hqd2
            go_wp2_with fail
            go_region
            go_wp2_with fail
            go_roundw
            case rel => exact ⟨q, (d.set j y).set q x, by have := HQ.out; omega, by go_num, HL10.out, HS2, HM9, HO9, D9⟩
            case measure => have := HQ.out; simp [intOf]; omega
          · have HL9 := Lib.hid (show lt x y = false from by rw [HLV.out]; exact decide_eq_false hr)
            have d3 : decide (r < 0) = false := decide_eq_false hr
            have HS2 := Lib.hid ((HST.out HL9.out).symm.trans HS.out)
            clear HGO HST HS hr
            go_wp2_with fail
            go_region_held3 (fun w' => w'.cell? ⟨g, j, none⟩ = some (.int .i64 x) ∧ w'.cell? ⟨g, q, none⟩ = some (.int .i64 y) ∧ Since wr w')
              (first | exact hstart | exact HK2.out _ s7 | exact HK2.out _ (by exact (‹_ ∧ _› : _ ∧ _ ∧ Since wr _).2.2) | fail)
              (first
                | (go_at_call 64; ((with_reducible refine (HCk.out _ (by exact (‹_ ∧ _› : _ ∧ _ ∧ Since wr _).2.2)).mono ?_); rintro e w7 ⟨rfl, d7⟩; have s7 : Since wr w7 := Since.call (by exact (‹_ ∧ _› : _ ∧ _ ∧ Since wr _).2.2) d7; clear d7))
                | fail)
            rename_i hheld
            have b9 : Below wr.heap.size wr w7 := hheld.2.2
            have BR7 := Lib.hid (BR.out.trans (b9.mono (Nat.le_trans hKw BR.out.size)))
            have HO7 := Lib.hid (HOW.out.keep b9)
            clear hheld hstart b9
            go_wp2_with fail
            go_roundw
            case rel => exact ⟨i + 1, by omega, by omega, by go_num, by rw [← HS2.out]; exact HO7, BR7⟩
            case measure => simp [intOf]; omega
    · obtain rfl : i = n := by omega
      have O9 := HOO.out
      have C9 := BO.out
      go_wp2_with fail
      go_end0
      exact ⟨rfl, O9, C9⟩
set_option maxRecDepth 10000 in
set_option maxHeartbeats 2000000 in
theorem insSort_any (K B1 B2 : Nat) (c : List Int) (v : Value) (lt : Int → Int → Bool) (cf : Int → Int → Int) (w : World) (ho : OwnI K w v c) (hn6 : c.length ≤ 6) (hlt : ∀ x y, lt x y = decide (cf x y < 0))
    (hc : ∀ x y, x ∈ c → y ∈ c → ∀ w', Below K w w' → Calls Try.prog 64 #[.int .i64 x, .int .i64 y, .pointer (some ⟨B1, 0, none⟩), .pointer (some ⟨B2, 0, none⟩)] w' fun e w'' => e = .returned (.int .i64 (cf x y)) ∧ Below w'.heap.size w' w'') :
    Calls Try.prog 97 #[v, .int .i64 0, .int .i64 c.length, (.func (.func 64) #[] #[.pointer (some ⟨B1, 0, none⟩), .pointer (some ⟨B2, 0, none⟩)])] w fun e w' => e = .returned (.tuple #[]) ∧ OwnI K w' v (isN lt c c.length) ∧ Below K w w' := by
  by_cases hn0 : 0 < c.length
  · exact insSort_some K B1 B2 c v lt cf w ho hn0 hn6 hlt hc
  · obtain rfl : c = [] := List.eq_nil_of_length_eq_zero (by omega)
    obtain ⟨pa, pc, rfl⟩ := ho.holds.form
    have HO := Lib.hid ho
    clear ho hc hlt hn6 hn0
    go_enter Try.func97, Try.ntmps97
    go_wp2_with fail
    go_loopw [8] (fun iv wr => iv = .int .i64 1 ∧ wr = w) (fun _ _ => 0)
    case atStart => exact ⟨rfl, rfl⟩
    case round =>
      obtain ⟨rfl, rfl⟩ := hrel
      go_wp2_with fail
      go_end0
      exact ⟨rfl, HO.out, Below.refl _ _⟩
set_option maxRecDepth 10000 in
set_option maxHeartbeats 2000000 in
theorem stable_any (K B1 B2 : Nat) (c : List Int) (v : Value) (lt : Int → Int → Bool) (cf : Int → Int → Int) (w : World) (ho : OwnI K w v c) (hn6 : c.length ≤ 6) (hlt : ∀ x y, lt x y = decide (cf x y < 0))
    (hc : ∀ x y, x ∈ c → y ∈ c → ∀ w', Below K w w' → Calls Try.prog 64 #[.int .i64 x, .int .i64 y, .pointer (some ⟨B1, 0, none⟩), .pointer (some ⟨B2, 0, none⟩)] w' fun e w'' => e = .returned (.int .i64 (cf x y)) ∧ Below w'.heap.size w' w'') :
    Calls Try.prog 88 #[v, .int .i64 c.length, (.func (.func 64) #[] #[.pointer (some ⟨B1, 0, none⟩), .pointer (some ⟨B2, 0, none⟩)])] w fun e w' => e = .returned (.tuple #[]) ∧ OwnI K w' v (isN lt c c.length) ∧ Below K w w' := by
  have HI := Lib.hid (insSort_any K B1 B2 c v lt cf w ho hn6 hlt hc)
  obtain ⟨n, hn⟩ : ∃ n, n = c.length := ⟨_, rfl⟩
  rw [← hn] at HI hn6 ⊢
  have h20 : ¬ (20 : Int) ≤ (n : Int) := by omega
  have h21 : ¬ (20 : Int) < (n : Int) := by omega
  have d20 : decide ((20 : Int) ≤ (n : Int)) = false := decide_eq_false h20
  have d21 : decide ((20 : Int) < (n : Int)) = false := decide_eq_false h21
  obtain ⟨pa, pc, e⟩ : ∃ pa pc, v = .slice pa n pc := by
    obtain ⟨pa, pc, e⟩ := ho.holds.form
    exact ⟨pa, pc, by rw [hn]; exact e⟩
  subst e
  clear ho hc hlt hn
  go_enter Try.func88, Try.ntmps88
  go_wp2_with fail
  go_loopw [7, 8] (fun av bv wr => av = .int .i64 0 ∧ bv = .int .i64 20 ∧ wr = w) (fun _ _ _ => 0)
  case atStart => exact ⟨rfl, rfl, rfl⟩
  case round =>
    obtain ⟨rfl, rfl, rfl⟩ := hrel
    go_wp2_with fail
    refine HI.out.mono ?_
    rintro e w2 ⟨rfl, O2, b2⟩
    have O3 := Lib.hid O2
    have B3 := Lib.hid b2
    clear O2 b2
    go_wp2_with fail
    go_loopw [6] (fun sv wr => sv = .int .i64 20 ∧ wr = w2) (fun _ _ => 0)
    case atStart => exact ⟨rfl, rfl⟩
    case round =>
      obtain ⟨rfl, rfl⟩ := hrel
      go_wp2_with fail
      go_end0
      exact ⟨rfl, O3.out, B3.out⟩
set_option maxRecDepth 10000 in
set_option maxHeartbeats 2000000 in
theorem sortStable_any (K B1 B2 : Nat) (c : List Int) (v : Value) (lt : Int → Int → Bool) (cf : Int → Int → Int) (w : World) (ho : OwnI K w v c) (hn6 : c.length ≤ 6) (hlt : ∀ x y, lt x y = decide (cf x y < 0))
    (hc : ∀ x y, x ∈ c → y ∈ c → ∀ w', Below K w w' → Calls Try.prog 64 #[.int .i64 x, .int .i64 y, .pointer (some ⟨B1, 0, none⟩), .pointer (some ⟨B2, 0, none⟩)] w' fun e w'' => e = .returned (.int .i64 (cf x y)) ∧ Below w'.heap.size w' w'') :
    Calls Try.prog 63 #[v, (.func (.func 64) #[] #[.pointer (some ⟨B1, 0, none⟩), .pointer (some ⟨B2, 0, none⟩)])] w fun e w' => e = .returned (.tuple #[]) ∧ OwnI K w' v (isN lt c c.length) ∧ Below K w w' := by
  have HI := Lib.hid (stable_any K B1 B2 c v lt cf w ho hn6 hlt hc)
  obtain ⟨n, hn⟩ : ∃ n, n = c.length := ⟨_, rfl⟩
  rw [← hn] at HI ⊢
  obtain ⟨pa, pc, e⟩ : ∃ pa pc, v = .slice pa n pc := by
    obtain ⟨pa, pc, e⟩ := ho.holds.form
    exact ⟨pa, pc, by rw [hn]; exact e⟩
  subst e
  clear ho hc hlt hn hn6
  go_enter Try.func63, Try.ntmps63
  go_wp2_with fail
  refine HI.out.mono ?_
  rintro e w2 ⟨rfl, O2, b2⟩
  go_wp2_with fail
  go_end0
  exact ⟨rfl, O2, b2⟩
end Go.Proofs.Ytmgnbkiphdlooab
