/-
  The contract of the model's ReadBox.
-/
import Derived.Test.YtjnoekhdkmgagaaDoorLc
import Derived.Test.YtjnoekhdkmgagaaDoorRsMath
import Derived.Test.YtjnoekhdkmgagaaDoorFive
import Derived.Test.YtjnoekhdkmgagaaDoorRbI
namespace Go.Proofs.YtjnoekhdkmgagaaDoor
open Go.RowKit
set_option linter.unusedVariables false

/-- The result's place (block R) and the box under way (block N), and nothing else has turned. -/
def TwoBx (w : World) (R N : Nat) (b : Bx) (w' : World) : Prop :=
  (∃ T, w'.heap[R]? = some (.cells #[.int .i64 0, .int .i64 0, .int .i64 0, .int .i64 0, .bool false] T (0, 0))) ∧
  (∃ T, w'.heap[N]? = some (.cells #[.int .i64 b.i, .int .i64 b.g, .int .i64 b.c, .int .i64 b.p, .bool b.d] T (0, 0))) ∧
  R < N ∧ N < w'.heap.size ∧ Below R w w' ∧ w.heap.size = R
theorem TwoBx.keep {w w1 w2 : World} {R N : Nat} {b : Bx} (h : TwoBx w R N b w1) (hb : Below w1.heap.size w1 w2) : TwoBx w R N b w2 := by
  obtain ⟨⟨T, h1⟩, ⟨T', h2⟩, h3, h4, h5, h6⟩ := h
  exact ⟨⟨T, by rw [hb.block R (by omega)]; exact h1⟩, ⟨T', by rw [hb.block N h4]; exact h2⟩, h3, Nat.lt_of_lt_of_le h4 hb.size, h5.trans (hb.mono (by omega)), h6⟩
theorem TwoBx.set {w w1 : World} {R N : Nat} {b b' : Bx} (h : TwoBx w R N b w1) (j : Nat) (v : Value) (e : (#[.int .i64 b.i, .int .i64 b.g, .int .i64 b.c, .int .i64 b.p, .bool b.d] : Array Value).setIfInBounds j v = #[.int .i64 b'.i, .int .i64 b'.g, .int .i64 b'.c, .int .i64 b'.p, .bool b'.d]) :
    TwoBx w R N b' (w1.setCell ⟨N, j, none⟩ v) := by
  obtain ⟨⟨T, h1⟩, ⟨T', h2⟩, h3, h4, h5, h6⟩ := h
  refine ⟨⟨T, (Below.heap_setCell _ _ _ _ (by show R ≠ N; omega)).trans h1⟩, ⟨T', ?_⟩, h3, by simpa [World.setCell] using h4, h5.setCell (p := ⟨N, j, none⟩) (by show R ≤ N; omega) v, h6⟩
  rw [Joins.block_setCell h2 v, e]
theorem TwoBx.open_ {w w' : World} {R N : Nat} {b : Bx} (h : TwoBx w R N b w') :
    (w'.cell? ⟨N, 0, none⟩ = some (.int .i64 b.i) ∧ w'.cell? ⟨N, 1, none⟩ = some (.int .i64 b.g) ∧ w'.cell? ⟨N, 2, none⟩ = some (.int .i64 b.c) ∧ w'.cell? ⟨N, 3, none⟩ = some (.int .i64 b.p) ∧ w'.cell? ⟨N, 4, none⟩ = some (.bool b.d)) ∧ ∀ j, w'.frozen? ⟨N, j, none⟩ = false := by
  obtain ⟨_, ⟨T', h2⟩, _⟩ := h
  exact fiveOpen h2
theorem TwoBx.ends {w w' : World} {R N : Nat} {b : Bx} (h : TwoBx w R N b w') (v0 v1 v2 v3 v4 : Value) :
    ((w'.cell? ⟨R, 0, none⟩ = some (.int .i64 0) ∧ w'.cell? ⟨R, 1, none⟩ = some (.int .i64 0) ∧ w'.cell? ⟨R, 2, none⟩ = some (.int .i64 0) ∧ w'.cell? ⟨R, 3, none⟩ = some (.int .i64 0) ∧ w'.cell? ⟨R, 4, none⟩ = some (.bool false)) ∧ ∀ j, w'.frozen? ⟨R, j, none⟩ = false) ∧
    Below w.heap.size w (((((w'.setCell ⟨R, 0, none⟩ v0).setCell ⟨R, 1, none⟩ v1).setCell ⟨R, 2, none⟩ v2).setCell ⟨R, 3, none⟩ v3).setCell ⟨R, 4, none⟩ v4) ∧
    ∃ T, (((((w'.setCell ⟨R, 0, none⟩ v0).setCell ⟨R, 1, none⟩ v1).setCell ⟨R, 2, none⟩ v2).setCell ⟨R, 3, none⟩ v3).setCell ⟨R, 4, none⟩ v4).heap[R]? = some (.cells #[v0, v1, v2, v3, v4] T (0, 0)) := by
  obtain ⟨⟨T, h1⟩, _, h3, h4, h5, h6⟩ := h
  obtain ⟨z, ze⟩ := fiveEnds (by rw [h6]; exact h5) h1 (by omega) rfl v0 v1 v2 v3 v4
  exact ⟨fiveOpen h1, z, T, ze⟩

theorem flatC_mem {c : UInt8} {l : List ByteArray} {q : ByteArray} (h : q ∈ l) : q.size ≤ (flatC c l).length := by
  induction l with
  | nil => simp at h
  | cons p l ih =>
    have e : (flatC c (p :: l)).length = p.size + 1 + (flatC c l).length := by
      have e0 : flatC c (p :: l) = (p.data.toList ++ [c]) ++ flatC c l := rfl
      rw [e0, List.length_append, List.length_append, ba_len]
      rfl
    rcases List.mem_cons.1 h with h | h
    · subst h; omega
    · have := ih h; omega
theorem cutup_size {s : ByteArray} {c : UInt8} {done : List ByteArray} {last : ByteArray} (h : CutUp s c done last) (q : ByteArray) (hq : q ∈ done) : q.size ≤ s.size := by
  have e := congrArg List.length h.1
  rw [ba_len, List.length_append] at e
  have := flatC_mem (c := c) hq
  omega
theorem cutup_last {s : ByteArray} {c : UInt8} {done : List ByteArray} {last : ByteArray} (h : CutUp s c done last) : last.size ≤ s.size := by
  have e := congrArg List.length h.1
  rw [ba_len, List.length_append, ba_len] at e
  omega
theorem last_byte {s : ByteArray} (h : 0 < s.size) (hc : (s[s.size - 1].toNat : Int) = 99) : s.extract (s.size - 1) s.size = ⟨#[99]⟩ := by
  apply ba_ext
  rw [ex_from]
  have hl : s.size - 1 < s.data.toList.length := by rw [ba_len]; omega
  rw [List.drop_eq_getElem_cons hl, List.drop_eq_nil_of_le (by rw [ba_len]; omega)]
  have e : s.data.toList[s.size - 1] = 99 := by
    have e1 : s.data.toList[s.size - 1] = s[s.size - 1] := rfl
    rw [e1]
    exact UInt8.toNat_inj.1 (by have : (99 : UInt8).toNat = 99 := rfl; omega)
  rw [e]

theorem not_last {s : ByteArray} (h : 0 < s.size) (hc : ¬ (s[s.size - 1].toNat : Int) = 99) : s.extract (s.size - 1) s.size ≠ ⟨#[99]⟩ := fun he => by
  have e := congrArg (fun x : ByteArray => x.data.toList) he
  simp only [ex_from] at e
  have hl : s.size - 1 < s.data.toList.length := by rw [ba_len]; omega
  rw [List.drop_eq_getElem_cons hl] at e
  simp only [List.cons.injEq] at e
  have e1 : s.data.toList[s.size - 1] = s[s.size - 1] := rfl
  rw [e1] at e
  exact hc (by rw [e.1]; rfl)

set_option maxHeartbeats 4000000 in
theorem specReadBox_any (s : ByteArray) (w : World) (hm : s.size ≤ 2000000) :
    Calls Tryd.prog 13 #[.string s] w (RbGives s w) := by
  have HC := Lib.hid (show ∀ (s : ByteArray) (w : World), s.size ≤ 2000000 → Calls Tryd.prog 28 #[.string s, .int .u8 58] w (LcGives s 58 w) from fun s w h => l1Cut_any s 58 w h)
  have HS := Lib.hid (show ∀ (s : ByteArray) (w : World), s.size ≤ 2000000 → Calls Tryd.prog 28 #[.string s, .int .u8 47] w (LcGives s 47 w) from fun s w h => l1Cut_any s 47 w h)
  have HR := Lib.hid fun s w h => l1Read_any s w h
  have HX := Lib.hid fun i g c p d w => specBoxText_any i g c p d w
  by_cases h0 : 0 < s.size
  · by_cases hc : (s[s.size - 1].toNat : Int) = 99
    · have b1 : ((s[s.size - 1].toNat : Int) == 99) = true := by rw [beq_iff_eq]; exact hc
      have i0 : (0 : Int) ≤ (s.size : Int) - 1 := by omega
      have hxs : (s.extract 0 (s.size - 1)).size ≤ 2000000 := by rw [ByteArray.size_extract]; omega
      have HT := Lib.hid (show TailIs s 99 (s.extract 0 (s.size - 1)) true from tail_at (by omega) (last_byte h0 hc))
      clear hc
      go_enter Tryd.func13, Tryd.ntmps13
      go_wp2_with fail
      generalize s.extract 0 (s.size - 1) = x at hxs HT ⊢
      have htwo : TwoBx w w.heap.size (w.heap.size + 1) ⟨0, 0, 0, 0, true⟩ ((w.alloc (.cells #[.int .i64 0, .int .i64 0, .int .i64 0, .int .i64 0, .bool false] 24)).alloc (.cells #[.int .i64 0, .int .i64 0, .int .i64 0, .int .i64 0, .bool true] 24)) :=
        ⟨⟨24, (Below.heap_alloc _ _ _ (by simp)).trans (by show (w.heap.push _)[w.heap.size]? = _; simp)⟩, ⟨24, by have e := heap_alloc_new (w.alloc (.cells #[.int .i64 0, .int .i64 0, .int .i64 0, .int .i64 0, .bool false] 24)) (.cells #[.int .i64 0, .int .i64 0, .int .i64 0, .int .i64 0, .bool true] 24); rw [show (w.alloc (.cells #[.int .i64 0, .int .i64 0, .int .i64 0, .int .i64 0, .bool false] 24)).heap.size = w.heap.size + 1 by simp] at e; exact e⟩, by omega, by simp, ((Below.refl _ _).alloc (Nat.le_refl _) _).alloc (by simp) _, rfl⟩
      generalize ((w.alloc (.cells #[.int .i64 0, .int .i64 0, .int .i64 0, .int .i64 0, .bool false] 24)).alloc (.cells #[.int .i64 0, .int .i64 0, .int .i64 0, .int .i64 0, .bool true] 24)) = W at htwo ⊢
      generalize w.heap.size + 1 = N at htwo ⊢
      generalize w.heap.size = R at htwo ⊢
      refine (HC.out _ W hxs).mono ?_
      rintro e w1 ⟨g1, cap1, d1, t1, rfl, q1, q2, q3, u1, h1, b1⟩
      have H1 := Lib.hid h1
      have T1 := Lib.hid u1
      have htwo1 := htwo.keep b1
      have hg1 : N < g1 := by have := htwo.2.2.2.1; omega
      have hts : t1.size ≤ 2000000 := by
        have e := congrArg List.length H1.out.1
        rw [ba_len, List.length_append, ba_len] at e
        omega
      clear h1 b1 q3 htwo u1
      unfold maxLen at q2
      by_cases hn1 : d1.length = 1
      · match d1, hn1 with
        | [a1], _ =>
        clear hn1
        have sz1 : ∀ q : ByteArray, q ∈ [a1] → q.size ≤ maxLen := fun q hq => by have := cutup_size H1.out q hq; unfold maxLen; omega
        have p0 : w1.cell? ⟨g1, 0, none⟩ = some (.string a1) := T1.out.2 0 (by simp)
        have p1 : w1.cell? ⟨g1, 1, none⟩ = some (.string t1) := T1.out.2 1 (by simp)
        have hq1 : (2 : Nat) ≤ cap1 := q1
        clear q1
        go_wp2_with fail
        refine (HS.out _ _ hts).mono ?_
        rintro e w2 ⟨g2, cap2, d2, t2, rfl, r1, r2, r3, u2, h2, b2⟩
        have H2 := Lib.hid h2
        have T2 := Lib.hid u2
        have T1' := Lib.hid (T1.out.keep b2)
        have htwo2 := htwo1.keep b2
        have hg2 : N < g2 := by have := htwo1.2.2.2.1; omega
        clear h2 b2 r3 htwo1 p0 p1 T1 u2
        unfold maxLen at r2
        by_cases hn2 : d2.length = 2
        · match d2, hn2 with
          | [a2, a3], _ =>
          clear hn2
          have sz2 : ∀ q : ByteArray, q ∈ [a2, a3] → q.size ≤ maxLen := fun q hq => by have := cutup_size H2.out q hq; unfold maxLen; omega
          have szt : t2.size ≤ maxLen := by have := cutup_last H2.out; unfold maxLen; omega
          have SZ1 := Lib.hid sz1
          have SZ2 := Lib.hid sz2
          clear sz1 sz2
          have p0 : w2.cell? ⟨g1, 0, none⟩ = some (.string a1) := T1'.out.2 0 (by simp)
          have p2 : w2.cell? ⟨g2, 0, none⟩ = some (.string a2) := T2.out.2 0 (by simp)
          have p3 : w2.cell? ⟨g2, 1, none⟩ = some (.string a3) := T2.out.2 1 (by simp)
          have p4 : w2.cell? ⟨g2, 2, none⟩ = some (.string t2) := T2.out.2 2 (by simp)
          have hq2 : (3 : Nat) ≤ cap2 := r1
          clear r1 T1' T2
          obtain ⟨⟨c0, c1, c2, c3, c4⟩, hf⟩ := htwo2.open_
          have f0 := hf 0
          have f1 := hf 1
          have f2 := hf 2
          have f3 := hf 3
          clear hf
          have n1 : ¬ g1 = N := by omega
          have n2 : ¬ g2 = N := by omega
          go_wp2_with fail
          refine (HR.out a1 _ (SZ1.out a1 (by simp))).mono ?_
          rintro e w3 ⟨i, rfl, k1, rfl⟩
          have K1 := Lib.hid k1
          clear k1
          go_wp2_with fail
          refine (HR.out a2 _ (SZ2.out a2 (by simp))).mono ?_
          rintro e w3 ⟨g, rfl, k2, rfl⟩
          have K2 := Lib.hid k2
          clear k2
          go_wp2_with fail
          refine (HR.out a3 _ (SZ2.out a3 (by simp))).mono ?_
          rintro e w3 ⟨c, rfl, k3, rfl⟩
          have K3 := Lib.hid k3
          clear k3
          go_wp2_with fail
          refine (HR.out t2 _ szt).mono ?_
          rintro e w3 ⟨p, rfl, k4, rfl⟩
          have HP := Lib.hid (four_parts HT.out H1.out H2.out K1.out K2.out K3.out k4)
          clear k4
          have htwo3 : TwoBx w R N ⟨i, g, c, p, true⟩ ((((w2.setCell ⟨N, 0, none⟩ (.int .i64 i)).setCell ⟨N, 1, none⟩ (.int .i64 g)).setCell ⟨N, 2, none⟩ (.int .i64 c)).setCell ⟨N, 3, none⟩ (.int .i64 p)) :=
            (((htwo2.set 0 _ (b' := ⟨i, 0, 0, 0, true⟩) rfl).set 1 _ (b' := ⟨i, g, 0, 0, true⟩) rfl).set 2 _ (b' := ⟨i, g, c, 0, true⟩) rfl).set 3 _ (b' := ⟨i, g, c, p, true⟩) rfl
          clear p0 p2 p3 p4 htwo2
          go_wp2_with fail
          have HX1 := Lib.hid fun w => HX.out i g c p true w
          refine (HX1.out _).mono ?_
          rintro e w4 ⟨rfl, b4⟩
          have htwo4 := htwo3.keep b4
          clear c0 c1 c2 c3 c4 f0 f1 f2 f3 b4 htwo3
          obtain ⟨⟨c0, c1, c2, c3, c4⟩, -⟩ := htwo4.open_
          have hRN : ¬ R = N := by have := htwo4.2.2.1; omega
          by_cases he : bxText i g c p true = s
          · have hr := Lib.hid (HP.out.1 he)
            have hb : ((bxText i g c p true).toList == s.toList) = true := (Lib.bytes_beq_iff _ _).2 he
            clear he HP
            generalize bxText i g c p true = t at hb ⊢
            obtain ⟨⟨⟨y0, y1, y2, y3, y4⟩, hf⟩, z, T, ze⟩ := htwo4.ends (.int .i64 i) (.int .i64 g) (.int .i64 c) (.int .i64 p) (.bool true)
            have f0 := hf 0
            have f1 := hf 1
            have f2 := hf 2
            have f3 := hf 3
            have f4 := hf 4
            clear hf
            go_wp2_with fail
            obtain ⟨⟨z0, z1, z2, z3, z4⟩, -⟩ := fiveOpen ze
            exact bodyPost_ret (v := .tuple #[.agg #[.int .i64 i, .int .i64 g, .int .i64 c, .int .i64 p, .bool true], .bool true]) (by simp [results, Tryd.results13, go_sem, z0, z1, z2, z3, z4]) rfl ⟨⟨i, g, c, p, true⟩, true, rfl, hr.out, z⟩
          · have hr := Lib.hid (HP.out.2 he)
            have hb : ((bxText i g c p true).toList == s.toList) = false := (Lib.bytes_beq_false_iff _ _).2 he
            clear he HP
            generalize bxText i g c p true = t at hb ⊢
            clear c0 c1 c2 c3 c4
            obtain ⟨⟨⟨y0, y1, y2, y3, y4⟩, hf⟩, z, T, ze⟩ := htwo4.ends (.int .i64 0) (.int .i64 0) (.int .i64 0) (.int .i64 0) (.bool false)
            have f0 := hf 0
            have f1 := hf 1
            have f2 := hf 2
            have f3 := hf 3
            have f4 := hf 4
            clear hf
            go_wp2_with fail
            obtain ⟨⟨z0, z1, z2, z3, z4⟩, -⟩ := fiveOpen ze
            exact bodyPost_ret (v := .tuple #[.agg #[.int .i64 0, .int .i64 0, .int .i64 0, .int .i64 0, .bool false], .bool false]) (by simp [results, Tryd.results13, go_sem, z0, z1, z2, z3, z4]) rfl ⟨Bx.zero, false, rfl, hr.out, z⟩
        · have hr := Lib.hid (not_three HT.out H1.out H2.out hn2)
          have hl : ((d2.length : Int) + 1 == 3) = false := by rw [beq_eq_false_iff_ne]; omega
          have hl2 : ((d2.length : Int) + 1 != 3) = true := by rw [bne_iff_ne]; omega
          clear hn2 T2 T1'
          obtain ⟨⟨⟨c0, c1, c2, c3, c4⟩, hf⟩, z, T, ze⟩ := htwo2.ends (.int .i64 0) (.int .i64 0) (.int .i64 0) (.int .i64 0) (.bool false)
          have f0 := hf 0
          have f1 := hf 1
          have f2 := hf 2
          have f3 := hf 3
          have f4 := hf 4
          clear hf
          go_wp2_with fail
          obtain ⟨⟨z0, z1, z2, z3, z4⟩, -⟩ := fiveOpen ze
          exact bodyPost_ret (v := .tuple #[.agg #[.int .i64 0, .int .i64 0, .int .i64 0, .int .i64 0, .bool false], .bool false]) (by simp [results, Tryd.results13, go_sem, z0, z1, z2, z3, z4]) rfl ⟨Bx.zero, false, rfl, hr.out, z⟩
      · have hr := Lib.hid (not_two HT.out H1.out hn1)
        have hl : ((d1.length : Int) + 1 == 2) = false := by rw [beq_eq_false_iff_ne]; omega
        have hl2 : ((d1.length : Int) + 1 != 2) = true := by rw [bne_iff_ne]; omega
        clear hn1 T1
        obtain ⟨⟨⟨c0, c1, c2, c3, c4⟩, hf⟩, z, T, ze⟩ := htwo1.ends (.int .i64 0) (.int .i64 0) (.int .i64 0) (.int .i64 0) (.bool false)
        have f0 := hf 0
        have f1 := hf 1
        have f2 := hf 2
        have f3 := hf 3
        have f4 := hf 4
        clear hf
        go_wp2_with fail
        obtain ⟨⟨z0, z1, z2, z3, z4⟩, -⟩ := fiveOpen ze
        exact bodyPost_ret (v := .tuple #[.agg #[.int .i64 0, .int .i64 0, .int .i64 0, .int .i64 0, .bool false], .bool false]) (by simp [results, Tryd.results13, go_sem, z0, z1, z2, z3, z4]) rfl ⟨Bx.zero, false, rfl, hr.out, z⟩

    · have b1 : ((s[s.size - 1].toNat : Int) == 99) = false := by rw [beq_eq_false_iff_ne]; exact hc
      have i0 : (0 : Int) ≤ (s.size : Int) - 1 := by omega
      have hxs : s.size ≤ 2000000 := hm
      have HT := Lib.hid (show TailIs s 99 s false from tail_no (not_last h0 hc))
      clear hc
      go_enter Tryd.func13, Tryd.ntmps13
      go_wp2_with fail
      have htwo : TwoBx w w.heap.size (w.heap.size + 1) ⟨0, 0, 0, 0, false⟩ ((w.alloc (.cells #[.int .i64 0, .int .i64 0, .int .i64 0, .int .i64 0, .bool false] 24)).alloc (.cells #[.int .i64 0, .int .i64 0, .int .i64 0, .int .i64 0, .bool false] 24)) :=
        ⟨⟨24, (Below.heap_alloc _ _ _ (by simp)).trans (by show (w.heap.push _)[w.heap.size]? = _; simp)⟩, ⟨24, by have e := heap_alloc_new (w.alloc (.cells #[.int .i64 0, .int .i64 0, .int .i64 0, .int .i64 0, .bool false] 24)) (.cells #[.int .i64 0, .int .i64 0, .int .i64 0, .int .i64 0, .bool false] 24); rw [show (w.alloc (.cells #[.int .i64 0, .int .i64 0, .int .i64 0, .int .i64 0, .bool false] 24)).heap.size = w.heap.size + 1 by simp] at e; exact e⟩, by omega, by simp, ((Below.refl _ _).alloc (Nat.le_refl _) _).alloc (by simp) _, rfl⟩
      generalize ((w.alloc (.cells #[.int .i64 0, .int .i64 0, .int .i64 0, .int .i64 0, .bool false] 24)).alloc (.cells #[.int .i64 0, .int .i64 0, .int .i64 0, .int .i64 0, .bool false] 24)) = W at htwo ⊢
      generalize w.heap.size + 1 = N at htwo ⊢
      generalize w.heap.size = R at htwo ⊢
      refine (HC.out s W hxs).mono ?_
      rintro e w1 ⟨g1, cap1, d1, t1, rfl, q1, q2, q3, u1, h1, b1⟩
      have H1 := Lib.hid h1
      have T1 := Lib.hid u1
      have htwo1 := htwo.keep b1
      have hg1 : N < g1 := by have := htwo.2.2.2.1; omega
      have hts : t1.size ≤ 2000000 := by
        have e := congrArg List.length H1.out.1
        rw [ba_len, List.length_append, ba_len] at e
        omega
      clear h1 b1 q3 htwo u1
      unfold maxLen at q2
      by_cases hn1 : d1.length = 1
      · match d1, hn1 with
        | [a1], _ =>
        clear hn1
        have sz1 : ∀ q : ByteArray, q ∈ [a1] → q.size ≤ maxLen := fun q hq => by have := cutup_size H1.out q hq; unfold maxLen; omega
        have p0 : w1.cell? ⟨g1, 0, none⟩ = some (.string a1) := T1.out.2 0 (by simp)
        have p1 : w1.cell? ⟨g1, 1, none⟩ = some (.string t1) := T1.out.2 1 (by simp)
        have hq1 : (2 : Nat) ≤ cap1 := q1
        clear q1
        go_wp2_with fail
        refine (HS.out _ _ hts).mono ?_
        rintro e w2 ⟨g2, cap2, d2, t2, rfl, r1, r2, r3, u2, h2, b2⟩
        have H2 := Lib.hid h2
        have T2 := Lib.hid u2
        have T1' := Lib.hid (T1.out.keep b2)
        have htwo2 := htwo1.keep b2
        have hg2 : N < g2 := by have := htwo1.2.2.2.1; omega
        clear h2 b2 r3 htwo1 p0 p1 T1 u2
        unfold maxLen at r2
        by_cases hn2 : d2.length = 2
        · match d2, hn2 with
          | [a2, a3], _ =>
          clear hn2
          have sz2 : ∀ q : ByteArray, q ∈ [a2, a3] → q.size ≤ maxLen := fun q hq => by have := cutup_size H2.out q hq; unfold maxLen; omega
          have szt : t2.size ≤ maxLen := by have := cutup_last H2.out; unfold maxLen; omega
          have SZ1 := Lib.hid sz1
          have SZ2 := Lib.hid sz2
          clear sz1 sz2
          have p0 : w2.cell? ⟨g1, 0, none⟩ = some (.string a1) := T1'.out.2 0 (by simp)
          have p2 : w2.cell? ⟨g2, 0, none⟩ = some (.string a2) := T2.out.2 0 (by simp)
          have p3 : w2.cell? ⟨g2, 1, none⟩ = some (.string a3) := T2.out.2 1 (by simp)
          have p4 : w2.cell? ⟨g2, 2, none⟩ = some (.string t2) := T2.out.2 2 (by simp)
          have hq2 : (3 : Nat) ≤ cap2 := r1
          clear r1 T1' T2
          obtain ⟨⟨c0, c1, c2, c3, c4⟩, hf⟩ := htwo2.open_
          have f0 := hf 0
          have f1 := hf 1
          have f2 := hf 2
          have f3 := hf 3
          clear hf
          have n1 : ¬ g1 = N := by omega
          have n2 : ¬ g2 = N := by omega
          go_wp2_with fail
          refine (HR.out a1 _ (SZ1.out a1 (by simp))).mono ?_
          rintro e w3 ⟨i, rfl, k1, rfl⟩
          have K1 := Lib.hid k1
          clear k1
          go_wp2_with fail
          refine (HR.out a2 _ (SZ2.out a2 (by simp))).mono ?_
          rintro e w3 ⟨g, rfl, k2, rfl⟩
          have K2 := Lib.hid k2
          clear k2
          go_wp2_with fail
          refine (HR.out a3 _ (SZ2.out a3 (by simp))).mono ?_
          rintro e w3 ⟨c, rfl, k3, rfl⟩
          have K3 := Lib.hid k3
          clear k3
          go_wp2_with fail
          refine (HR.out t2 _ szt).mono ?_
          rintro e w3 ⟨p, rfl, k4, rfl⟩
          have HP := Lib.hid (four_parts HT.out H1.out H2.out K1.out K2.out K3.out k4)
          clear k4
          have htwo3 : TwoBx w R N ⟨i, g, c, p, false⟩ ((((w2.setCell ⟨N, 0, none⟩ (.int .i64 i)).setCell ⟨N, 1, none⟩ (.int .i64 g)).setCell ⟨N, 2, none⟩ (.int .i64 c)).setCell ⟨N, 3, none⟩ (.int .i64 p)) :=
            (((htwo2.set 0 _ (b' := ⟨i, 0, 0, 0, false⟩) rfl).set 1 _ (b' := ⟨i, g, 0, 0, false⟩) rfl).set 2 _ (b' := ⟨i, g, c, 0, false⟩) rfl).set 3 _ (b' := ⟨i, g, c, p, false⟩) rfl
          clear p0 p2 p3 p4 htwo2
          go_wp2_with fail
          have HX1 := Lib.hid fun w => HX.out i g c p false w
          refine (HX1.out _).mono ?_
          rintro e w4 ⟨rfl, b4⟩
          have htwo4 := htwo3.keep b4
          clear c0 c1 c2 c3 c4 f0 f1 f2 f3 b4 htwo3
          obtain ⟨⟨c0, c1, c2, c3, c4⟩, -⟩ := htwo4.open_
          have hRN : ¬ R = N := by have := htwo4.2.2.1; omega
          by_cases he : bxText i g c p false = s
          · have hr := Lib.hid (HP.out.1 he)
            have hb : ((bxText i g c p false).toList == s.toList) = true := (Lib.bytes_beq_iff _ _).2 he
            clear he HP
            generalize bxText i g c p false = t at hb ⊢
            obtain ⟨⟨⟨y0, y1, y2, y3, y4⟩, hf⟩, z, T, ze⟩ := htwo4.ends (.int .i64 i) (.int .i64 g) (.int .i64 c) (.int .i64 p) (.bool false)
            have f0 := hf 0
            have f1 := hf 1
            have f2 := hf 2
            have f3 := hf 3
            have f4 := hf 4
            clear hf
            go_wp2_with fail
            obtain ⟨⟨z0, z1, z2, z3, z4⟩, -⟩ := fiveOpen ze
            exact bodyPost_ret (v := .tuple #[.agg #[.int .i64 i, .int .i64 g, .int .i64 c, .int .i64 p, .bool false], .bool true]) (by simp [results, Tryd.results13, go_sem, z0, z1, z2, z3, z4]) rfl ⟨⟨i, g, c, p, false⟩, true, rfl, hr.out, z⟩
          · have hr := Lib.hid (HP.out.2 he)
            have hb : ((bxText i g c p false).toList == s.toList) = false := (Lib.bytes_beq_false_iff _ _).2 he
            clear he HP
            generalize bxText i g c p false = t at hb ⊢
            clear c0 c1 c2 c3 c4
            obtain ⟨⟨⟨y0, y1, y2, y3, y4⟩, hf⟩, z, T, ze⟩ := htwo4.ends (.int .i64 0) (.int .i64 0) (.int .i64 0) (.int .i64 0) (.bool false)
            have f0 := hf 0
            have f1 := hf 1
            have f2 := hf 2
            have f3 := hf 3
            have f4 := hf 4
            clear hf
            go_wp2_with fail
            obtain ⟨⟨z0, z1, z2, z3, z4⟩, -⟩ := fiveOpen ze
            exact bodyPost_ret (v := .tuple #[.agg #[.int .i64 0, .int .i64 0, .int .i64 0, .int .i64 0, .bool false], .bool false]) (by simp [results, Tryd.results13, go_sem, z0, z1, z2, z3, z4]) rfl ⟨Bx.zero, false, rfl, hr.out, z⟩
        · have hr := Lib.hid (not_three HT.out H1.out H2.out hn2)
          have hl : ((d2.length : Int) + 1 == 3) = false := by rw [beq_eq_false_iff_ne]; omega
          have hl2 : ((d2.length : Int) + 1 != 3) = true := by rw [bne_iff_ne]; omega
          clear hn2 T2 T1'
          obtain ⟨⟨⟨c0, c1, c2, c3, c4⟩, hf⟩, z, T, ze⟩ := htwo2.ends (.int .i64 0) (.int .i64 0) (.int .i64 0) (.int .i64 0) (.bool false)
          have f0 := hf 0
          have f1 := hf 1
          have f2 := hf 2
          have f3 := hf 3
          have f4 := hf 4
          clear hf
          go_wp2_with fail
          obtain ⟨⟨z0, z1, z2, z3, z4⟩, -⟩ := fiveOpen ze
          exact bodyPost_ret (v := .tuple #[.agg #[.int .i64 0, .int .i64 0, .int .i64 0, .int .i64 0, .bool false], .bool false]) (by simp [results, Tryd.results13, go_sem, z0, z1, z2, z3, z4]) rfl ⟨Bx.zero, false, rfl, hr.out, z⟩
      · have hr := Lib.hid (not_two HT.out H1.out hn1)
        have hl : ((d1.length : Int) + 1 == 2) = false := by rw [beq_eq_false_iff_ne]; omega
        have hl2 : ((d1.length : Int) + 1 != 2) = true := by rw [bne_iff_ne]; omega
        clear hn1 T1
        obtain ⟨⟨⟨c0, c1, c2, c3, c4⟩, hf⟩, z, T, ze⟩ := htwo1.ends (.int .i64 0) (.int .i64 0) (.int .i64 0) (.int .i64 0) (.bool false)
        have f0 := hf 0
        have f1 := hf 1
        have f2 := hf 2
        have f3 := hf 3
        have f4 := hf 4
        clear hf
        go_wp2_with fail
        obtain ⟨⟨z0, z1, z2, z3, z4⟩, -⟩ := fiveOpen ze
        exact bodyPost_ret (v := .tuple #[.agg #[.int .i64 0, .int .i64 0, .int .i64 0, .int .i64 0, .bool false], .bool false]) (by simp [results, Tryd.results13, go_sem, z0, z1, z2, z3, z4]) rfl ⟨Bx.zero, false, rfl, hr.out, z⟩

  · have hxs : s.size ≤ 2000000 := hm
    have h1 : ¬ 0 < (s.size : Int) := by omega
    have HT := Lib.hid (show TailIs s 99 s false from tail_short (by omega))
    go_enter Tryd.func13, Tryd.ntmps13
    go_wp2_with fail
    have htwo : TwoBx w w.heap.size (w.heap.size + 1) ⟨0, 0, 0, 0, false⟩ ((w.alloc (.cells #[.int .i64 0, .int .i64 0, .int .i64 0, .int .i64 0, .bool false] 24)).alloc (.cells #[.int .i64 0, .int .i64 0, .int .i64 0, .int .i64 0, .bool false] 24)) :=
      ⟨⟨24, (Below.heap_alloc _ _ _ (by simp)).trans (by show (w.heap.push _)[w.heap.size]? = _; simp)⟩, ⟨24, by have e := heap_alloc_new (w.alloc (.cells #[.int .i64 0, .int .i64 0, .int .i64 0, .int .i64 0, .bool false] 24)) (.cells #[.int .i64 0, .int .i64 0, .int .i64 0, .int .i64 0, .bool false] 24); rw [show (w.alloc (.cells #[.int .i64 0, .int .i64 0, .int .i64 0, .int .i64 0, .bool false] 24)).heap.size = w.heap.size + 1 by simp] at e; exact e⟩, by omega, by simp, ((Below.refl _ _).alloc (Nat.le_refl _) _).alloc (by simp) _, rfl⟩
    generalize ((w.alloc (.cells #[.int .i64 0, .int .i64 0, .int .i64 0, .int .i64 0, .bool false] 24)).alloc (.cells #[.int .i64 0, .int .i64 0, .int .i64 0, .int .i64 0, .bool false] 24)) = W at htwo ⊢
    generalize w.heap.size + 1 = N at htwo ⊢
    generalize w.heap.size = R at htwo ⊢
    refine (HC.out s W hxs).mono ?_
    rintro e w1 ⟨g1, cap1, d1, t1, rfl, q1, q2, q3, u1, h1, b1⟩
    have H1 := Lib.hid h1
    have T1 := Lib.hid u1
    have htwo1 := htwo.keep b1
    have hg1 : N < g1 := by have := htwo.2.2.2.1; omega
    have hts : t1.size ≤ 2000000 := by
      have e := congrArg List.length H1.out.1
      rw [ba_len, List.length_append, ba_len] at e
      omega
    clear h1 b1 q3 htwo u1
    unfold maxLen at q2
    by_cases hn1 : d1.length = 1
    · match d1, hn1 with
      | [a1], _ =>
      clear hn1
      have sz1 : ∀ q : ByteArray, q ∈ [a1] → q.size ≤ maxLen := fun q hq => by have := cutup_size H1.out q hq; unfold maxLen; omega
      have p0 : w1.cell? ⟨g1, 0, none⟩ = some (.string a1) := T1.out.2 0 (by simp)
      have p1 : w1.cell? ⟨g1, 1, none⟩ = some (.string t1) := T1.out.2 1 (by simp)
      have hq1 : (2 : Nat) ≤ cap1 := q1
      clear q1
      go_wp2_with fail
      refine (HS.out _ _ hts).mono ?_
      rintro e w2 ⟨g2, cap2, d2, t2, rfl, r1, r2, r3, u2, h2, b2⟩
      have H2 := Lib.hid h2
      have T2 := Lib.hid u2
      have T1' := Lib.hid (T1.out.keep b2)
      have htwo2 := htwo1.keep b2
      have hg2 : N < g2 := by have := htwo1.2.2.2.1; omega
      clear h2 b2 r3 htwo1 p0 p1 T1 u2
      unfold maxLen at r2
      by_cases hn2 : d2.length = 2
      · match d2, hn2 with
        | [a2, a3], _ =>
        clear hn2
        have sz2 : ∀ q : ByteArray, q ∈ [a2, a3] → q.size ≤ maxLen := fun q hq => by have := cutup_size H2.out q hq; unfold maxLen; omega
        have szt : t2.size ≤ maxLen := by have := cutup_last H2.out; unfold maxLen; omega
        have SZ1 := Lib.hid sz1
        have SZ2 := Lib.hid sz2
        clear sz1 sz2
        have p0 : w2.cell? ⟨g1, 0, none⟩ = some (.string a1) := T1'.out.2 0 (by simp)
        have p2 : w2.cell? ⟨g2, 0, none⟩ = some (.string a2) := T2.out.2 0 (by simp)
        have p3 : w2.cell? ⟨g2, 1, none⟩ = some (.string a3) := T2.out.2 1 (by simp)
        have p4 : w2.cell? ⟨g2, 2, none⟩ = some (.string t2) := T2.out.2 2 (by simp)
        have hq2 : (3 : Nat) ≤ cap2 := r1
        clear r1 T1' T2
        obtain ⟨⟨c0, c1, c2, c3, c4⟩, hf⟩ := htwo2.open_
        have f0 := hf 0
        have f1 := hf 1
        have f2 := hf 2
        have f3 := hf 3
        clear hf
        have n1 : ¬ g1 = N := by omega
        have n2 : ¬ g2 = N := by omega
        go_wp2_with fail
        refine (HR.out a1 _ (SZ1.out a1 (by simp))).mono ?_
        rintro e w3 ⟨i, rfl, k1, rfl⟩
        have K1 := Lib.hid k1
        clear k1
        go_wp2_with fail
        refine (HR.out a2 _ (SZ2.out a2 (by simp))).mono ?_
        rintro e w3 ⟨g, rfl, k2, rfl⟩
        have K2 := Lib.hid k2
        clear k2
        go_wp2_with fail
        refine (HR.out a3 _ (SZ2.out a3 (by simp))).mono ?_
        rintro e w3 ⟨c, rfl, k3, rfl⟩
        have K3 := Lib.hid k3
        clear k3
        go_wp2_with fail
        refine (HR.out t2 _ szt).mono ?_
        rintro e w3 ⟨p, rfl, k4, rfl⟩
        have HP := Lib.hid (four_parts HT.out H1.out H2.out K1.out K2.out K3.out k4)
        clear k4
        have htwo3 : TwoBx w R N ⟨i, g, c, p, false⟩ ((((w2.setCell ⟨N, 0, none⟩ (.int .i64 i)).setCell ⟨N, 1, none⟩ (.int .i64 g)).setCell ⟨N, 2, none⟩ (.int .i64 c)).setCell ⟨N, 3, none⟩ (.int .i64 p)) :=
          (((htwo2.set 0 _ (b' := ⟨i, 0, 0, 0, false⟩) rfl).set 1 _ (b' := ⟨i, g, 0, 0, false⟩) rfl).set 2 _ (b' := ⟨i, g, c, 0, false⟩) rfl).set 3 _ (b' := ⟨i, g, c, p, false⟩) rfl
        clear p0 p2 p3 p4 htwo2
        go_wp2_with fail
        have HX1 := Lib.hid fun w => HX.out i g c p false w
        refine (HX1.out _).mono ?_
        rintro e w4 ⟨rfl, b4⟩
        have htwo4 := htwo3.keep b4
        clear c0 c1 c2 c3 c4 f0 f1 f2 f3 b4 htwo3
        obtain ⟨⟨c0, c1, c2, c3, c4⟩, -⟩ := htwo4.open_
        have hRN : ¬ R = N := by have := htwo4.2.2.1; omega
        by_cases he : bxText i g c p false = s
        · have hr := Lib.hid (HP.out.1 he)
          have hb : ((bxText i g c p false).toList == s.toList) = true := (Lib.bytes_beq_iff _ _).2 he
          clear he HP
          generalize bxText i g c p false = t at hb ⊢
          obtain ⟨⟨⟨y0, y1, y2, y3, y4⟩, hf⟩, z, T, ze⟩ := htwo4.ends (.int .i64 i) (.int .i64 g) (.int .i64 c) (.int .i64 p) (.bool false)
          have f0 := hf 0
          have f1 := hf 1
          have f2 := hf 2
          have f3 := hf 3
          have f4 := hf 4
          clear hf
          go_wp2_with fail
          obtain ⟨⟨z0, z1, z2, z3, z4⟩, -⟩ := fiveOpen ze
          exact bodyPost_ret (v := .tuple #[.agg #[.int .i64 i, .int .i64 g, .int .i64 c, .int .i64 p, .bool false], .bool true]) (by simp [results, Tryd.results13, go_sem, z0, z1, z2, z3, z4]) rfl ⟨⟨i, g, c, p, false⟩, true, rfl, hr.out, z⟩
        · have hr := Lib.hid (HP.out.2 he)
          have hb : ((bxText i g c p false).toList == s.toList) = false := (Lib.bytes_beq_false_iff _ _).2 he
          clear he HP
          generalize bxText i g c p false = t at hb ⊢
          clear c0 c1 c2 c3 c4
          obtain ⟨⟨⟨y0, y1, y2, y3, y4⟩, hf⟩, z, T, ze⟩ := htwo4.ends (.int .i64 0) (.int .i64 0) (.int .i64 0) (.int .i64 0) (.bool false)
          have f0 := hf 0
          have f1 := hf 1
          have f2 := hf 2
          have f3 := hf 3
          have f4 := hf 4
          clear hf
          go_wp2_with fail
          obtain ⟨⟨z0, z1, z2, z3, z4⟩, -⟩ := fiveOpen ze
          exact bodyPost_ret (v := .tuple #[.agg #[.int .i64 0, .int .i64 0, .int .i64 0, .int .i64 0, .bool false], .bool false]) (by simp [results, Tryd.results13, go_sem, z0, z1, z2, z3, z4]) rfl ⟨Bx.zero, false, rfl, hr.out, z⟩
      · have hr := Lib.hid (not_three HT.out H1.out H2.out hn2)
        have hl : ((d2.length : Int) + 1 == 3) = false := by rw [beq_eq_false_iff_ne]; omega
        have hl2 : ((d2.length : Int) + 1 != 3) = true := by rw [bne_iff_ne]; omega
        clear hn2 T2 T1'
        obtain ⟨⟨⟨c0, c1, c2, c3, c4⟩, hf⟩, z, T, ze⟩ := htwo2.ends (.int .i64 0) (.int .i64 0) (.int .i64 0) (.int .i64 0) (.bool false)
        have f0 := hf 0
        have f1 := hf 1
        have f2 := hf 2
        have f3 := hf 3
        have f4 := hf 4
        clear hf
        go_wp2_with fail
        obtain ⟨⟨z0, z1, z2, z3, z4⟩, -⟩ := fiveOpen ze
        exact bodyPost_ret (v := .tuple #[.agg #[.int .i64 0, .int .i64 0, .int .i64 0, .int .i64 0, .bool false], .bool false]) (by simp [results, Tryd.results13, go_sem, z0, z1, z2, z3, z4]) rfl ⟨Bx.zero, false, rfl, hr.out, z⟩
    · have hr := Lib.hid (not_two HT.out H1.out hn1)
      have hl : ((d1.length : Int) + 1 == 2) = false := by rw [beq_eq_false_iff_ne]; omega
      have hl2 : ((d1.length : Int) + 1 != 2) = true := by rw [bne_iff_ne]; omega
      clear hn1 T1
      obtain ⟨⟨⟨c0, c1, c2, c3, c4⟩, hf⟩, z, T, ze⟩ := htwo1.ends (.int .i64 0) (.int .i64 0) (.int .i64 0) (.int .i64 0) (.bool false)
      have f0 := hf 0
      have f1 := hf 1
      have f2 := hf 2
      have f3 := hf 3
      have f4 := hf 4
      clear hf
      go_wp2_with fail
      obtain ⟨⟨z0, z1, z2, z3, z4⟩, -⟩ := fiveOpen ze
      exact bodyPost_ret (v := .tuple #[.agg #[.int .i64 0, .int .i64 0, .int .i64 0, .int .i64 0, .bool false], .bool false]) (by simp [results, Tryd.results13, go_sem, z0, z1, z2, z3, z4]) rfl ⟨Bx.zero, false, rfl, hr.out, z⟩

end Go.Proofs.YtjnoekhdkmgagaaDoor
