/-
  The contracts of the library's slices.Clone on lists of lists and of the program's copyYard.
-/
import Derived.Test.YtlcfldmiibjboabGYh
import Derived.Test.YtlcfldmiibjboabGStk
namespace Go.Proofs.Ytlcfldmiibjboab
open Go.RowKit
set_option linter.unusedVariables false

/-- The cells of a list of lists. -/
theorem HoldsY.cells {w : World} {b off n cap : Nat} {ss : List (List Int)} (h : HoldsY w (.slice (some ⟨b, off, none⟩) n cap) ss) : ∃ us : List Value, us.length = n ∧ ∀ k u, us[k]? = some u → w.cell? ⟨b, off + k, none⟩ = some u ∧ HoldsI w u (rowAt ss k) ∧ NilOk u := by
  obtain ⟨a', cap', he, h2, h3, h0, h4⟩ := h
  simp only [Value.slice.injEq] at he
  obtain ⟨rfl, rfl, rfl⟩ := he
  rcases h4 with h4 | ⟨b', off', h5, h6, h7⟩
  · exact ⟨[], by rw [h4]; rfl, fun k u hu => by simp at hu⟩
  · simp only [Option.some.injEq, Addr.mk.injEq, and_true] at h5
    obtain ⟨rfl, rfl⟩ := h5
    have hc : ∀ k, ∃ u, k < ss.length → w.cell? ⟨b, off + k, none⟩ = some u ∧ HoldsI w u (rowAt ss k) ∧ NilOk u := fun k => by
      by_cases hk : k < ss.length
      · obtain ⟨u, q⟩ := h7 k hk
        exact ⟨u, fun _ => q⟩
      · exact ⟨.bool false, fun hk' => absurd hk' hk⟩
    refine ⟨(List.range ss.length).map fun k => (hc k).choose, by simp, fun k u hu => ?_⟩
    have hk : k < ss.length := by
      rcases Nat.lt_or_ge k ss.length with h | h
      · exact h
      · rw [List.getElem?_eq_none (by simpa using h)] at hu; cases hu
    rw [List.getElem?_map, List.getElem?_range hk, Option.map_some] at hu
    obtain rfl := Option.some.inj hu
    exact (hc k).choose_spec hk
theorem addr_add (b off j : Nat) : (⟨b, off, none⟩ : Addr).add j = ⟨b, off + j, none⟩ := by
  unfold Addr.add
  split
  · next h => subst h; rfl
  · rfl

set_option maxRecDepth 10000 in
set_option maxHeartbeats 1000000 in
theorem slCloneY_some (b off n cap : Nat) (us : List Value) (w : World) (hlen : us.length = n) (hn : n ≤ 1048576) (hb : b < w.heap.size) (hone : ∀ u ∈ us, u.oneCell' = true) (hc : ∀ k u, us[k]? = some u → w.cell? ⟨b, off + k, none⟩ = some u) :
    Calls Try.prog 47 #[.slice (some ⟨b, off, none⟩) n cap] w fun e w' => ∃ v, e = .returned v ∧ w'.ownsRow w.heap.size 25 1 v n us ∧ v ≠ .slice none 0 0 ∧ Below w.heap.size w w' := by
  obtain ⟨i0, hi, hz0, hz1, hz2⟩ := info_parts infoRow
  have HC := Lib.hid fun k u hu => ((Below.refl w.heap.size w).alloc (Nat.le_refl _) (.cells #[] 25)).cell (p := ⟨b, off + k, none⟩) hb |>.trans (hc k u hu)
  have own2 : (w.alloc (.cells #[] 25)).ownsRow w.heap.size 25 1 (.slice (some ⟨w.heap.size, 0, none⟩) 0 0) 0 [] := own_empty (Nat.le_refl _) (heap_alloc_new _ _)
  have qN : ∀ (w : World) (a : Option Addr) (n c : Nat), (binOp .eql 22 (.slice a n c) (.slice none 0 0)).run Try.prog w = .ok (.bool a.isNone) w := fun w a n c => Lib.run_eql_slice_nil w _ _ a n c 0 0 Try.underlying22
  clear hc
  go_enter Try.func47, Try.ntmps47
  go_wp2_with (at_builtin; refine wpList_append_own _ rfl _ _ 22 rfl w.heap.size 25 i0 (.slice none 0 0) 1 24 Try.underlying22 hi hz0 hz1 hz2 rfl (by decide) _ 0 [] rfl own2 ⟨b, off, none⟩ n cap us rfl (by rw [Nat.mul_one]; exact hlen) (fun j u hu => by rw [addr_add]; exact HC.out j u hu) hone (by unfold maxLen; omega) (by omega) (by simp) ?_; intro v4 w4 hown4 hgrow4 hnil4)
  simp only [Nat.zero_add, List.nil_append] at hown4
  have hb4 : Below w.heap.size w w4 := ((Below.refl w.heap.size w).alloc (Nat.le_refl _) (.cells #[] 25)).trans (own_below (v := .slice (some ⟨w.heap.size, 0, none⟩) 0 0) hgrow4 (by simp) (fun k hk => (own_lt own2 k hk).1))
  have hnn : v4 ≠ .slice none 0 0 := fun e => by
    cases (hnil4.1 e).1
  go_ret
  exact ⟨_, rfl, hown4, hnn, hb4⟩

/-- What a call gives that copies a yard. -/
def CopyGivesF (h : Int) (ss : List (List Int)) (w : World) (e : Ending) (w' : World) : Prop :=
  ∃ u, e = .returned (.agg #[.int .i64 h, u]) ∧ FreeY w.heap.size w'.heap.size w' u ss.length (rowAt ss) ∧ Below w.heap.size w w'

set_option maxRecDepth 10000 in
set_option maxHeartbeats 2000000 in
theorem copyYard_any (h : Int) (v : Value) (ss : List (List Int)) (w : World) (hh : HoldsY w v ss) (hk : ydOk h ss = true) :
    Calls Try.prog 37 #[.agg #[.int .i64 h, v]] w (CopyGivesF h ss w) := by
  have hn5 : ss.length ≤ 5 := (ydOk_iff.1 hk).2.2.2.1
  have hn1 : 1 ≤ ss.length := (ydOk_iff.1 hk).2.2.1
  have HROW5 := Lib.hid fun k (hl : k < ss.length) => stOk_len (ydOk_row hk hl)
  obtain ⟨a, cap, rfl⟩ : ∃ a cap, v = .slice a ss.length cap := by obtain ⟨a, cap, h1, _⟩ := hh; exact ⟨a, cap, h1⟩
  obtain ⟨b, off, _, _, rfl, hbl, -⟩ := hh.at_ (k := 0) (by omega)
  obtain ⟨us, hul, hus⟩ := hh.cells
  have hY0 : BoxY w.heap.size ((w.alloc (.cells #[.int .i64 h, .slice (some ⟨b, off, none⟩) ss.length cap] 29)).alloc (.cells #[.int .i64 0, .slice none 0 0] 29)) h (.slice (some ⟨b, off, none⟩) ss.length cap) := two_lo _ _ _
  have hR0 : BoxY (w.heap.size + 1) ((w.alloc (.cells #[.int .i64 h, .slice (some ⟨b, off, none⟩) ss.length cap] 29)).alloc (.cells #[.int .i64 0, .slice none 0 0] 29)) 0 (.slice none 0 0) := two_hi _ _ _
  have hb2 := ((Below.refl w.heap.size w).alloc (Nat.le_refl _) (.cells #[.int .i64 h, .slice (some ⟨b, off, none⟩) ss.length cap] 29)).alloc (by simp) (.cells #[.int .i64 0, .slice none 0 0] 29)
  obtain ⟨W2, hW2⟩ : ∃ W2, W2 = (w.alloc (.cells #[.int .i64 h, .slice (some ⟨b, off, none⟩) ss.length cap] 29)).alloc (.cells #[.int .i64 0, .slice none 0 0] 29) := ⟨_, rfl⟩
  rw [← hW2] at hY0 hR0 hb2
  have hz2 : W2.heap.size = w.heap.size + 2 := by rw [hW2]; simp
  have HX := Lib.hid hW2
  have hone : ∀ u ∈ us, u.oneCell' = true := fun u hu => by
    obtain ⟨k, hk, rfl⟩ := List.getElem_of_mem hu
    obtain ⟨a, c, e⟩ := ((hus k _ (List.getElem?_eq_getElem hk)).2.1).form
    rw [e]; rfl
  have HCL := Lib.hid (slCloneY_some b off ss.length cap us W2 hul (by omega) (Nat.lt_of_lt_of_le hbl hb2.size) hone fun k u hu => (hb2.cell (p := ⟨b, off + k, none⟩) hbl).trans (hus k u hu).1)
  have HUS := Lib.hid fun k u hu w' (hb : Below w.heap.size w w') => ((hus k u hu).2.1).keep hb
  have H0 := Lib.hid (And.intro hb2 (And.intro hY0 (And.intro hR0 hz2)))
  obtain ⟨n, hn⟩ : ∃ n, n = ss.length := ⟨_, rfl⟩
  unfold CopyGivesF
  rw [← hn] at hn5 hn1 HROW5 HX HCL H0 hul ⊢
  have hmm : n ≤ 9223372036854775807 := by omega
  have HUL := Lib.hid hul
  clear hk hh hus hY0 hR0 hb2 hW2 hz2 hone hn hul
  go_enter Try.func37, Try.ntmps37
  go_wp2_with fail
  rw [← HX.out]
  refine HCL.out.mono ?_
  rintro e w3 ⟨v3, rfl, o3, hnn3, b3⟩
  obtain ⟨g, c, rfl, hg0, hgl, hnc, hcm⟩ : ∃ g c, v3 = .slice (some ⟨g, 0, none⟩) n c ∧ W2.heap.size ≤ g ∧ g < w3.heap.size ∧ n ≤ c ∧ c ≤ maxLen := by
    rcases o3.2 with ⟨e, _⟩ | ⟨g, c, cur, rfl, q1, q2, q3, q4, _⟩
    · exact absurd e hnn3
    · exact ⟨g, c, rfl, q1, free_lt q2, q3, q4⟩
  have hP0 : PartY w3 g n 0 (rowAt ss) := by
    rcases o3.2 with ⟨e, _⟩ | ⟨g', c', cur, hv, q1, q2, q3, q4, q5, _⟩
    · cases e
    · simp only [Value.slice.injEq, Option.some.injEq, Addr.mk.injEq, and_true, true_and] at hv
      obtain ⟨rfl, rfl⟩ := hv
      exact PartY.start q2 (by omega)
  have hcell : ∀ j, j < n → w3.cell? ⟨g, j, none⟩ = us[j]? := fun j hj => by
    obtain ⟨g', e, _, _, _, _, _, h1, _⟩ := own_cell o3 hj
    simp only [Option.some.injEq, Addr.mk.injEq, and_true] at e
    subst e
    exact h1
  have HP0 := Lib.hid hP0
  have HC0 := Lib.hid hcell
  have HB3 := Lib.hid b3
  have hs3 := b3.size
  unfold maxLen at hcm
  clear o3 hnn3 b3 hP0 hcell HCL
  go_wp2_with fail
  go_loopw [11] (fun i wr => ∃ k : Nat, k ≤ n ∧ i = .int .i64 k ∧ Hid (PartY wr g n k (rowAt ss)) ∧ Hid (∀ j, k ≤ j → j < n → wr.cell? ⟨g, j, none⟩ = us[j]?) ∧ Below W2.heap.size W2 wr) (fun i _ => n - (intOf i).toNat)
  case atStart => exact ⟨0, by omega, rfl, HP0, Lib.hid fun j _ hj => HC0.out j hj, HB3.out⟩
  case round =>
    obtain ⟨k, hk, rfl, HP, HC, hbr⟩ := hrel
    obtain ⟨hb2, hY0, hR0, hz2⟩ := H0.out
    have hbw := hb2.trans (hbr.mono hb2.size)
    by_cases hlt : k < n
    · have hku : k < us.length := by rw [HUL.out]; exact hlt
      obtain ⟨u, hu⟩ : ∃ u, us[k]? = some u := ⟨_, List.getElem?_eq_getElem hku⟩
      have s0 : wr.cell? ⟨g, k, none⟩ = some u := (HC.out k (Nat.le_refl _) hlt).trans hu
      have hrow := HUS.out k u hu wr hbw
      have h5 := HROW5.out k hlt
      have ik : (k : Int) < (n : Int) := by omega
      have i0k : (0 : Int) ≤ (k : Int) := by omega
      have HCL := Lib.hid (slClone_any u (rowAt ss k) wr hrow (by omega))
      unfold CloneGives at HCL
      obtain ⟨ua, uc, rfl⟩ := hrow.form
      have HBR := Lib.hid hbr
      have hgr := HP.out.lt
      clear hrow hbw hb2 hY0 hR0 hz2 hbr
      generalize hr : (rowAt ss k).length = r at s0 HCL
      have HR := Lib.hid hr
      clear hr
      go_wp2_with fail
      refine HCL.out.mono ?_
      rintro e w5 ⟨x, rfl, o5, b5⟩
      obtain ⟨xa, xc, rfl⟩ := own_slice o5
      have f5 : FreeE wr.heap.size w5 (.slice xa r xc) (rowAt ss k) := FreeE.of_own (e := 3) (by rw [HR.out]; exact o5)
      have p5 := HP.out.keep b5
      have q0 := p5.frozen k
      obtain ⟨x0, q1⟩ := p5.cell hlt
      have HS := Lib.hid (HP.out.step b5 hlt f5)
      have HC5 := Lib.hid fun j (h1 : k + 1 ≤ j) (h2 : j < n) => (show (w5.setCell ⟨g, k, none⟩ (.slice xa r xc)).cell? ⟨g, j, none⟩ = us[j]? by
        rw [World.cell?_setCell_other _ _ _ _ (by intro e; cases e; omega), b5.cell (p := ⟨g, j, none⟩) hgr]
        exact HC.out j (by omega) h2)
      have hs5 := HBR.out.size
      have hB5 := Lib.hid ((HBR.out.trans (b5.mono hs5)).setCell (p := ⟨g, k, none⟩) hg0 (.slice xa r xc))
      clear f5 b5 p5 HCL o5 s0 HP HC HBR
      go_wp2_with fail
      go_roundw
      case rel => exact ⟨k + 1, by omega, by go_num, HS, HC5, hB5.out⟩
      case measure => simp [intOf]; omega
    · have hkn : k = n := by omega
      subst hkn
      have y0 := (hY0.keep hbr).c0
      have q0 := hR0.keep hbr
      have c0 := q0.c0
      have c1 := q0.c1
      have e0 := q0.frozen 0
      have e1 := q0.frozen 1
      have hF := Lib.hid (HP.out.done (K := W2.heap.size) hg0 hnc (by unfold maxLen; exact hcm))
      have BW := Lib.hid hbw
      clear q0 hbw hb2 hY0 hR0 HP HC hbr
      go_wp2_with fail
      have hB := (BW.out.setCell (p := ⟨w.heap.size + 1, 0, none⟩) (Nat.le_add_right _ _) (.int .i64 h)).setCell (p := ⟨w.heap.size + 1, 1, none⟩) (Nat.le_add_right _ _) (.slice (some ⟨g, 0, none⟩) k c)
      have hFF := ((hF.out.setLow (N := w.heap.size + 1) (by omega) 0 (.int .i64 h)).setLow (N := w.heap.size + 1) (by omega) 1 (.slice (some ⟨g, 0, none⟩) k c)).wide (show w.heap.size ≤ W2.heap.size by omega) (Nat.le_refl _)
      exact bodyPost_ret (v := .agg #[.int .i64 h, .slice (some ⟨g, 0, none⟩) k c]) (by simp [results, Try.results37, go_sem, c0, c1]) rfl ⟨_, rfl, by simpa [World.setCell] using hFF, hB⟩
end Go.Proofs.Ytlcfldmiibjboab
