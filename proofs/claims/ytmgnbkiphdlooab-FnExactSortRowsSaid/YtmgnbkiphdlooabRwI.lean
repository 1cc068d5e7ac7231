/-
  The program's chapter 13, third part: SortRows.
-/
import Derived.Test.YtmgnbkiphdlooabRwIa
import Derived.Test.YtmgnbkiphdlooabRwIb
import Derived.Test.YtmgnbkiphdlooabOvI
import Derived.Test.YtmgnbkiphdlooabGStk
import Derived.Test.YtmgnbkiphdlooabLsI
import Derived.Laws.AppendOwnNone
import Derived.Deep.RegionHeld3
namespace Go.Proofs.Ytmgnbkiphdlooab
open Go.RowKit
set_option linter.unusedVariables false

theorem three_new (w : World) (a b c : Obj) : (((w.alloc a).alloc b).alloc c).heap[w.heap.size]? = some a ∧ (((w.alloc a).alloc b).alloc c).heap[w.heap.size + 1]? = some b ∧ (((w.alloc a).alloc b).alloc c).heap[w.heap.size + 1 + 1]? = some c := by
  have z1 : (w.alloc a).heap.size = w.heap.size + 1 := by simp
  have z2 : ((w.alloc a).alloc b).heap.size = w.heap.size + 1 + 1 := by simp
  have h1 := heap_alloc_new (w.alloc a) b
  have h2 := heap_alloc_new ((w.alloc a).alloc b) c
  rw [z1] at h1
  rw [z2] at h2
  have b1 := (Below.refl (w.alloc a).heap.size (w.alloc a)).alloc (Nat.le_refl _) b
  have b2 := (Below.refl ((w.alloc a).alloc b).heap.size ((w.alloc a).alloc b)).alloc (Nat.le_refl _) c
  exact ⟨(b2.block _ (by omega)).trans ((b1.block _ (by omega)).trans (heap_alloc_new _ _)), (b2.block _ (by omega)).trans h1, h2⟩
theorem OwnI.keepG {K g n cap : Nat} {w w' : World} {l : List Int} (h : OwnI K w (.slice (some ⟨g, 0, none⟩) n cap) l) (hk : w'.heap[g]? = w.heap[g]?) : OwnI K w' (.slice (some ⟨g, 0, none⟩) n cap) l := by
  obtain ⟨h1, h2⟩ := h
  refine ⟨h1, ?_⟩
  rcases h2 with ⟨e, _⟩ | ⟨g', cap', cur, e1, e2, e3, e4⟩
  · cases e
  · have e1' := e1
    simp only [Value.slice.injEq, Option.some.injEq, Addr.mk.injEq, and_true] at e1'
    obtain ⟨rfl, -, -⟩ := e1'
    exact .inr ⟨_, cap', cur, e1, e2, hk.trans e3, e4⟩
/-- How SortRows compares two slots. -/
def cfP (l : List Bx) (p : List Int) (x y : Int) : Int := cmpI (wBx l (pAt p y.toNat)) (wBx l (pAt p x.toNat))
def ltP (l : List Bx) (p : List Int) (x y : Int) : Bool := decide (cfP l p x y < 0)
theorem row_sorted {h : Hl} {l : List Bx} {p : List Int} (hk : plOk h (bxsOk l) (bxIds l) p = true) {T R : Nat} (hT : h.t = (T : Int)) (hT0 : 0 < T) (hn : p.length = R * T) {r : Nat} (hr : r < R) {c : List Int}
    (hc : c.length = hgtR T p r) (hg : ∀ t, t < hgtR T p r → c.getD t 0 = ((r * T + t : Nat) : Int)) (hb : r * T + T ≤ p.length) (hm : hgtR T p r ≤ T) :
    (∀ x, x ∈ c → ∃ k : Nat, x = (k : Int) ∧ k < p.length) ∧ (∀ t, t < hgtR T p r → ∃ k : Nat, (isN (ltP l p) c c.length).getD t 0 = (k : Int) ∧ k < p.length ∧ pAt p k = pAt (sortS T (wBx l) p T) (r * T + t)) ∧ (∀ t, hgtR T p r ≤ t → t < T → pAt (sortS T (wBx l) p T) (r * T + t) = 0) := by
  have hmem : ∀ x, x ∈ c → ∃ k : Nat, x = (k : Int) ∧ k < p.length := fun x hx => by
    obtain ⟨t, ht, rfl⟩ := List.getElem_of_mem hx
    refine ⟨r * T + t, ?_, by omega⟩
    rw [← hg t (by omega), List.getD_eq_getElem?_getD, List.getElem?_eq_getElem ht, Option.getD_some]
  obtain ⟨s1, s2⟩ := sort_at hk hT hT0 hn hr hc hg (lt := ltP l p) (fun x y _ _ => cmpI_lt _ _)
  refine ⟨hmem, fun t ht => ?_, s2⟩
  have hl : t < (isN (ltP l p) c c.length).length := by rw [isN_len, hc]; exact ht
  have hmm : (isN (ltP l p) c c.length).getD t 0 ∈ c := by
    rw [List.getD_eq_getElem?_getD, List.getElem?_eq_getElem hl, Option.getD_some]
    exact isN_mem _ (Nat.le_refl _) (List.getElem_mem hl)
  obtain ⟨k, e, hkn⟩ := hmem _ hmm
  have h1 := s1 t ht
  rw [e, Int.toNat_natCast] at h1
  exact ⟨k, e, hkn, h1⟩

set_option maxRecDepth 10000 in
set_option maxHeartbeats 16000000 in
theorem implSortRows_any (h : Hl) (u v : Value) (l : List Bx) (p : List Int) (w : World) (hb : HoldsBx w u l) (hp : HoldsI w v p) :
    Calls Try.prog 28 #[.agg #[.int .i64 h.b, .int .i64 h.r, .int .i64 h.t], u, v] w fun e w' => ∃ v', e = .returned v' ∧ FreeE w.heap.size w' v' (sortO h l p) ∧ Below w.heap.size w w' := by
  have HPV := Lib.hid fun (w' : World) (hs : Below w.heap.size w w') => implPlanValid_any h u v l p w' (hb.keep hs) (hp.keep hs)
  obtain ⟨ua, uc, rfl⟩ : ∃ ua uc, u = .slice ua l.length uc := by
    obtain ⟨a', c', e, _⟩ := hb
    exact ⟨a', c', e⟩
  obtain ⟨pa, pc, rfl⟩ := hp.form
  have PK := Lib.hid fun (w' : World) (hs : Below w.heap.size w w') => hp.keep hs
  obtain ⟨W1, hW1⟩ : ∃ W1, W1 = ((w.alloc (.cells #[.int .i64 h.b, .int .i64 h.r, .int .i64 h.t] 24)).alloc (.cells #[.slice ua l.length uc] 25)).alloc (.cells #[.slice pa p.length pc] 26) := ⟨_, rfl⟩
  have hb1 : Below w.heap.size w W1 := by rw [hW1]; exact (((Below.refl _ w).alloc (Nat.le_refl _) _).alloc (by simp) _).alloc (by simp; omega) _
  have hs1 : W1.heap.size = w.heap.size + 3 := by rw [hW1]; simp
  have hx1 : W1.cell? ⟨w.heap.size, 0, none⟩ = some (.int .i64 h.b) ∧ W1.cell? ⟨w.heap.size, 1, none⟩ = some (.int .i64 h.r) ∧ W1.cell? ⟨w.heap.size, 2, none⟩ = some (.int .i64 h.t) ∧ W1.cell? ⟨w.heap.size + 1, 0, none⟩ = some (.slice ua l.length uc) ∧ W1.cell? ⟨w.heap.size + 1 + 1, 0, none⟩ = some (.slice pa p.length pc) := by
    rw [hW1]
    obtain ⟨g0, g1, g2⟩ := three_new w (.cells #[.int .i64 h.b, .int .i64 h.r, .int .i64 h.t] 24) (.cells #[.slice ua l.length uc] 25) (.cells #[.slice pa p.length pc] 26)
    refine ⟨?_, ?_, ?_, ?_, ?_⟩
    · simp only [World.cell?, g0]; rfl
    · simp only [World.cell?, g0]; rfl
    · simp only [World.cell?, g0]; rfl
    · simp only [World.cell?, g1]; rfl
    · simp only [World.cell?, g2]; rfl
  have HX := Lib.hid fun (w' : World) (hs : Below (w.heap.size + 3) W1 w') => (show w'.cell? ⟨w.heap.size, 0, none⟩ = some (.int .i64 h.b) ∧ w'.cell? ⟨w.heap.size, 1, none⟩ = some (.int .i64 h.r) ∧ w'.cell? ⟨w.heap.size, 2, none⟩ = some (.int .i64 h.t) ∧ w'.cell? ⟨w.heap.size + 1, 0, none⟩ = some (.slice ua l.length uc) ∧ w'.cell? ⟨w.heap.size + 1 + 1, 0, none⟩ = some (.slice pa p.length pc) from ⟨(hs.cell (p := ⟨w.heap.size, 0, none⟩) (show w.heap.size < _ by omega)).trans hx1.1, (hs.cell (p := ⟨w.heap.size, 1, none⟩) (show w.heap.size < _ by omega)).trans hx1.2.1, (hs.cell (p := ⟨w.heap.size, 2, none⟩) (show w.heap.size < _ by omega)).trans hx1.2.2.1, (hs.cell (p := ⟨w.heap.size + 1, 0, none⟩) (show w.heap.size + 1 < _ by omega)).trans hx1.2.2.2.1, (hs.cell (p := ⟨w.heap.size + 1 + 1, 0, none⟩) (show w.heap.size + 1 + 1 < _ by omega)).trans hx1.2.2.2.2⟩)
  have HW := Lib.hid hW1
  have HB := Lib.hid hb1
  obtain ⟨y0, y1, y2, y3, y4⟩ := hx1
  clear hW1 hb1
  cases hok : plOk h (bxsOk l) (bxIds l) p
  · have HE := Lib.hid (show sortO h l p = [] from sortO_bad hok)
    rw [hok] at HPV
    clear hok hb hp PK
    go_enter Try.func28, Try.ntmps28
    go_wp2_with fail
    rw [← HW.out]
    go_wp2_with fail
    refine (HPV.out _ HB.out).mono ?_
    rintro e w3 ⟨rfl, b3⟩
    have C9 := HB.out.trans (b3.mono HB.out.size)
    go_wp2_with fail
    go_ret
    exact ⟨_, rfl, by rw [HE.out]; exact FreeE.zero, C9⟩
  · obtain ⟨R, T, hT, hR, hT0, hT3, hn0, hn36, hR36⟩ := rows_two hok
    have HLR := Lib.hid fun (w' : World) (hs : Below w.heap.size w w') => loadedRows_any h _ p T R w' (hp.keep hs) (plOk_iff.1 hok).1 (plOk_iff.1 hok).2.2.1 hT hR
    have HRW := Lib.hid fun r (hr : r < R) => rows_hold hok hT hT0 hn0 hr
    have hTN : h.t.toNat = T := by omega
    have hss := rowsL_len T p R
    have hpl : 1 ≤ p.length := by
      obtain ⟨m1, _, _⟩ := slMany_bd (plOk_iff.1 hok).1
      have h1 := (plOk_iff.1 hok).2.2.1
      omega
    have HE := Lib.hid (show sortO h l p = sortS T (wBx l) p T from by unfold sortO; rw [if_pos hok, hTN])
    have HEM := Lib.hid (show emptyP h = List.replicate p.length 0 from by
      have h1 := (plOk_iff.1 hok).2.2.1
      unfold emptyP
      rw [if_pos (plOk_iff.1 hok).1, ← h1]
      rfl)
    have HEP := Lib.hid fun (w' : World) => implPlanEmpty_own h w'
    have HZ := Lib.hid (SrtAt.zero T (wBx l) p)
    have HEND := Lib.hid fun out (ho : SrtAt T (wBx l) p R 0 out) => SrtAt.end_ hn0 ho
    have HNXT := Lib.hid fun r t out (ho : SrtAt T (wBx l) p r t out) (hl : r * T + t < p.length) x hx => SrtAt.next ho hl (x := x) hx
    have HRES := Lib.hid fun r m out (ho : SrtAt T (wBx l) p r m out) hm hz => SrtAt.rest ho hm hz
    have HLN := Lib.hid fun r t out (ho : SrtAt T (wBx l) p r t out) => ho.1
    have HRS := Lib.hid fun r (hr : r < R) => row_sorted hok hT hT0 hn0 hr (HRW.out r hr).1 (HRW.out r hr).2.1 (HRW.out r hr).2.2.2.2.2 (HRW.out r hr).2.2.1
    have HCL := Lib.hid fun (a b : Nat) (ha : a < p.length) (hbl : b < p.length) (w' : World) (hs : Below (w.heap.size + 3) W1 w') => heavier_any (w.heap.size + 1) (w.heap.size + 1 + 1) h _ _ l p a b w' (hb.keep (HB.out.trans (hs.mono (by omega)))) (hp.keep (HB.out.trans (hs.mono (by omega)))) hok (by have := hs.size; omega) (by have := hs.size; omega) (HX.out w' hs).2.2.2.1 (HX.out w' hs).2.2.2.2 ha hbl
    have hcf : ∀ a b : Nat, cfP l p (a : Int) (b : Int) = cmpI (wBx l (pAt p b)) (wBx l (pAt p a)) := fun a b => rfl
    have hlt0 : ∀ x y, ltP l p x y = decide (cfP l p x y < 0) := fun x y => rfl
    have HCF := Lib.hid hcf
    have HLT0 := Lib.hid hlt0
    generalize ltP l p = lt at HRS HLT0
    generalize cfP l p = cf at HCF HLT0
    generalize wBx l = wt at HE HZ HEND HNXT HRES HLN HRS HCL HCF
    rw [hok] at HPV
    obtain ⟨ss, hsv⟩ : ∃ ss, ss = rowsL T p R := ⟨_, rfl⟩
    rw [← hsv] at HLR HRW HRS hss
    obtain ⟨n, hn⟩ : ∃ n, n = p.length := ⟨_, rfl⟩
    rw [← hn] at HPV PK HLR HRW HRS HX HW HEM HZ HNXT HLN HCL hn0 hn36 hpl y4 ⊢
    obtain ⟨ml, hml⟩ : ∃ ml, ml = l.length := ⟨_, rfl⟩
    rw [← hml] at HPV HX HW y3 ⊢
    clear hok hb hp hn hml hsv hT hR hTN hn0 hcf hlt0
    go_enter Try.func28, Try.ntmps28
    go_wp2_with fail
    rw [← HW.out]
    go_wp2_with fail
    refine (HPV.out _ HB.out).mono ?_
    rintro e w3 ⟨rfl, b3⟩
    have D3 := Lib.hid (show Below (w.heap.size + 3) W1 w3 from hs1 ▸ b3)
    obtain ⟨c0, c1, c2, c3, c4⟩ := HX.out w3 D3.out
    clear y0 y1 y2 y3 y4 b3 HPV
    go_wp2_with fail
    refine (HEP.out _).mono ?_
    rintro e w4 ⟨v4, rfl, O4, b4⟩
    rw [HEM.out] at O4
    have hz3 := D3.out.size
    rw [hs1] at hz3
    obtain ⟨g, cap, cur, rfl, hKg, hg4, hcur, hcp1, hcp2, -⟩ := O4.form (by rw [List.length_replicate]; omega)
    rw [List.length_replicate] at O4 ⊢
    have hwg : w.heap.size + 3 ≤ g := by omega
    have HO4 := Lib.hid (O4.from_ hz3)
    have D4 := Lib.hid (D3.out.trans (b4.mono hz3))
    obtain ⟨d0, d1, d2, d3, d4⟩ := HX.out w4 D4.out
    have C4 := Lib.hid (HB.out.trans (D4.out.mono (by omega)))
    have hz4 := b4.size
    clear hcur hcp1 hcp2 O4 b4 D3 hKg HEP c0 c1 c2 c3 c4
    go_wp2_with fail
    refine (HLR.out w4 C4.out).mono ?_
    rintro e w5 ⟨v5, rfl, N5, b5⟩
    obtain ⟨a5, c5, rfl⟩ := N5.form
    rw [hss] at N5 ⊢
    have NY := Lib.hid N5
    have O5 := Lib.hid (HO4.out.keep b5)
    have hz5 := b5.size
    have D5 := Lib.hid (D4.out.trans (b5.mono (by omega)))
    clear N5 hss HLR HO4 C4 D4 b5 d0 d1 d2 d3 d4
    have hmf : ∀ (fn : Fn) (first cap : Array Value) (w : World), (Instr.makeFunc fn first cap).run Try.prog w = .ok (.func fn first cap) w := fun _ _ _ _ => rfl
    go_wp2_with fail
    go_loopw [24] (fun i wr => ∃ (r : Nat) (out : List Int), r ≤ R ∧ i = .int .i64 r ∧ Hid (SrtAt T wt p r 0 out) ∧ Hid (OwnI (w.heap.size + 3) wr (.slice (some ⟨g, 0, none⟩) n cap) out) ∧ Hid (MostB g w5 wr) ∧ Hid (Below (w.heap.size + 3) W1 wr)) (fun i _ => R - (intOf i).toNat)
    case atStart => exact ⟨0, _, by omega, rfl, HZ, O5, Lib.hid (MostB.refl _ _), D5⟩
    case round =>
      clear O5 HZ D5
      obtain ⟨r, out, hrR, rfl, HA, HOW, MM, DR⟩ := hrel
      obtain ⟨wo, rfl⟩ : ∃ wo : World, wo = wr := ⟨_, rfl⟩
      by_cases hlt : r < R
      · obtain ⟨yb, yo, rx, rc, rfl, hKy, hyb, s0', hl1, hl2, HRow⟩ := NY.out.rowAt_ hlt
        have s0 := (World.cell?_of_block (w := w5) (a := ⟨yb, yo + r, none⟩) (MM.out.block yb (by omega) hyb)).trans s0'
        obtain ⟨hrl, hrg, hmT, hfull, hempty, hrn⟩ := HRW.out r hlt
        obtain ⟨rs1, rs2, rs3⟩ := HRS.out r hlt
        have hm3 : (rowAt ss r).length ≤ 3 := by omega
        obtain ⟨c, hc⟩ : ∃ c, c = rowAt ss r := ⟨_, rfl⟩
        rw [← hc] at s0 s0' hl1 HRow hrl hrg rs1 rs2 hm3
        obtain ⟨m, hm⟩ : ∃ m, m = hgtR T p r := ⟨_, rfl⟩
        rw [← hm] at hrl hrg hmT rs2 rs3
        rw [hrl] at s0 hl1 HRow hm3
        have HRK := Lib.hid fun (w' : World) (hs : MostB g w5 w') => (HRow.most hs (by omega)).holds
        have HRL := Lib.hid hrl
        have HG := Lib.hid hrg
        have HS1 := Lib.hid rs1
        have HS2 := Lib.hid rs2
        have HS3 := Lib.hid rs3
        have ir : (r : Int) < (R : Int) := by omega
        have i0r : (0 : Int) ≤ (r : Int) := by omega
        have hzo := DR.out.size
        rw [hs1] at hzo
        have hz5o := MM.out.size
        have hcn := slClone_any (.slice rx c.length rc) c wo (by rw [hrl]; exact HRK.out wo MM.out) (by omega)
        rw [hrl] at hcn
        have HCn := Lib.hid hcn
        clear hcn hrl hrg rs1 rs2 rs3 hfull hempty hm hc HRow s0'
        go_wp2_with fail
        refine HCn.out.mono ?_
        rintro e w6 ⟨v6, rfl, O6, b6⟩
        have HO6 := Lib.hid (show OwnI wo.heap.size w6 v6 c from O6)
        have D6 := Lib.hid (DR.out.trans (b6.mono hzo))
        have M6 := Lib.hid (MM.out.below_ (b6.mono hz5o))
        have HOW6 := Lib.hid (HOW.out.keep b6)
        have hz6 := b6.size
        have HSS := Lib.hid (sortStable_any wo.heap.size (w.heap.size + 1) (w.heap.size + 1 + 1) c v6 lt cf w6 HO6.out (by have := HRL.out; omega) HLT0.out (fun x y hx hy w' hs => by
          obtain ⟨a, rfl, han⟩ := HS1.out x hx
          obtain ⟨b, rfl, hbn⟩ := HS1.out y hy
          rw [HCF.out a b]
          exact HCL.out a b han hbn w' (D6.out.trans (hs.mono (by omega)))))
        obtain ⟨xa, xc, rfl⟩ : ∃ xa xc, v6 = .slice xa m xc := by
          obtain ⟨xa, xc, e⟩ := HO6.out.holds.form
          exact ⟨xa, xc, by rw [← HRL.out]; exact e⟩
        clear O6 b6 HOW HO6 s0 HCn
        go_wp2_with fail
        refine HSS.out.mono ?_
        rintro e w7 ⟨rfl, O7, b7⟩
        have hz7 := b7.size
        have D7 := Lib.hid (D6.out.trans (b7.mono (by omega)))
        have M7 := Lib.hid (M6.out.below_ (b7.mono (by omega)))
        have HOW7 := Lib.hid (HOW6.out.keepG (b7.block g (by omega)))
        have HV := Lib.hid fun (w' : World) (hs : MostB g w7 w') => (O7.new.most hs (by omega)).holds
        clear O7 b7 HSS HOW6 M6 D6
        go_wp2_with fail
        go_loopw [35] (fun jv w2 => ∃ (t : Nat) (out : List Int), t ≤ m ∧ jv = .int .i64 t ∧ Hid (SrtAt T wt p r t out) ∧ Hid (OwnI (w.heap.size + 3) w2 (.slice (some ⟨g, 0, none⟩) n cap) out) ∧ Hid (MostB g w5 w2) ∧ Hid (MostB g w7 w2) ∧ Hid (Below (w.heap.size + 3) W1 w2)) (fun jv _ => m - (intOf jv).toNat)
        case atStart => exact ⟨0, out, by omega, rfl, HA, HOW7, M7, Lib.hid (MostB.refl _ _), D7⟩
        case round =>
          clear HA HOW7 M7 MM D7 DR
          obtain ⟨t, out, htm, rfl, HA, HOW, MM, MV, DR⟩ := hrel
          by_cases hltt : t < m
          · have it : (t : Int) < (m : Int) := by omega
            have i0t : (0 : Int) ≤ (t : Int) := by omega
            obtain ⟨kb, ko, rfl, hkb, t0⟩ := (HRK.out wr MM.out).at_ hltt
            rw [HG.out t hltt] at t0
            obtain ⟨k2, hk2, hkn2, hval⟩ := HS2.out t hltt
            obtain ⟨vb, vo, rfl, hvb, t1⟩ := (HV.out wr MV.out).at_ hltt
            rw [hk2] at t1
            obtain ⟨pb, po, rfl, hpb, t2⟩ := (PK.out wr (HB.out.trans (DR.out.mono (by omega)))).at_ hkn2
            rw [show p.getD k2 0 = pAt p k2 from rfl] at t2
            have t3 := (HX.out wr DR.out).2.2.2.2
            have hrt : r * T + t < n := by omega
            have hout := HLN.out r t out HA.out
            have hnx := HNXT.out r t out HA.out hrt _ hval
            obtain ⟨k, hk⟩ : ∃ k, k = r * T + t := ⟨_, rfl⟩
            rw [← hk] at t0 hrt hnx
            obtain ⟨x, hx⟩ : ∃ x, x = pAt p k2 := ⟨_, rfl⟩
            rw [← hx] at t2 hnx
            have HNXx := Lib.hid hnx
            have ik : (k : Int) < (n : Int) := by omega
            have i0k : (0 : Int) ≤ (k : Int) := by omega
            have ik2 : (k2 : Int) < (n : Int) := by omega
            have i0k2 : (0 : Int) ≤ (k2 : Int) := by omega
            have hko : k < out.length := by omega
            have h8 : OwnI (w.heap.size + 3) wr (.slice (some ⟨g, 0, none⟩) out.length cap) out := by rw [hout]; exact HOW.out
            obtain ⟨-, -, -, ⟨z1, f1⟩, f2⟩ := h8.slot hko
            have h9 := h8.set hko x
            rw [hout] at h9
            have HO9 := Lib.hid (h9.keep (Below.refl _ _).drew)
            have M9 := Lib.hid ((MM.out.set_ k (.int .i64 x)).below_ (Below.refl _ _).drew)
            have V9 := Lib.hid ((MV.out.set_ k (.int .i64 x)).below_ (Below.refl _ _).drew)
            have D9 := Lib.hid ((DR.out.setCell (p := ⟨g, k, none⟩) hwg (.int .i64 x)).drew)
            clear HA hout hnx hk hx h8 h9 hval hk2 hkb hvb hpb hko HOW MM MV DR
            go_wp2_with fail
            go_region
            go_wp2_with fail
            go_roundw
            case rel => exact ⟨t + 1, out.set k x, by omega, by go_num, HNXx, HO9, M9, V9, D9⟩
            case measure => simp [intOf]; omega
          · obtain rfl : t = m := by omega
            have HA2 := Lib.hid (HRES.out r t out HA.out hmT HS3.out)
            clear HA MV
            go_wp2_with fail
            go_roundw
            case rel => exact ⟨r + 1, out, by omega, by go_num, HA2, HOW, MM, DR⟩
            case measure => simp [intOf]; omega
      · obtain rfl : r = R := by omega
        have C9 := HB.out.trans (DR.out.mono (by omega))
        have O9 := HOW.out.freeE.from_ (show w.heap.size ≤ w.heap.size + 3 by omega)
        rw [HEND.out out HA.out] at O9
        go_wp2_with fail
        go_ret
        exact ⟨_, rfl, by rw [HE.out]; exact O9, C9⟩
end Go.Proofs.Ytmgnbkiphdlooab
