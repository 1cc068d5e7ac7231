/-
  The program's chapter 14, first part: cmp.Or, the closure that compares two boxes, the library's sort at few boxes.
-/
import Derived.Test.YtfeobdgdhgcgoaaFlMath3
import Derived.Test.YtfeobdgdhgcgoaaFlS
import Derived.Test.YtfeobdgdhgcgoaaGPs
import Derived.Test.YtfeobdgdhgcgoaaRwIb
import Derived.Test.YtfeobdgdhgcgoaaGBl
import Derived.Test.YtfeobdgdhgcgoaaLsI
import Derived.Test.YtfeobdgdhgcgoaaGAp
import Derived.Laws.AppendOwnNone
import Derived.Deep.RegionHeld3
import Derived.BigQuiet
import Derived.Deep.QuietTactic
namespace Go.Proofs.Ytfeobdgdhgcgoaa
open Go.RowKit
set_option linter.unusedVariables false

theorem FreeBx.of_own {K : Nat} {w : World} {v : Value} {l : List Bx} (h : w.ownsRow K 33 5 v l.length (rowB l)) (h0 : 0 < l.length) : FreeBx K w v l := by
  rcases h.2 with ⟨rfl, h9⟩ | ⟨g, cap, cur, rfl, hb, hg, hc, hm, hs, hx⟩
  · omega
  · have hlt := (own_lt h g (by simp [Value.ownBlock])).2
    refine ⟨g, cap, rfl, hb, hlt, hc, hm, cur, _, hg, by omega, fun k hk j hj => ?_⟩
    rw [← rowB_at l k hk j hj, ← hx, List.getElem?_take, if_pos (by omega)]
    simp
theorem FreeBx.put {K g cap : Nat} {w : World} {l : List Bx} (h : FreeBx K w (.slice (some ⟨g, 0, none⟩) l.length cap) l) {k : Nat} (hk : k < l.length) (b : Bx) :
    FreeBx K (((((w.setCell ⟨g, k * 5, none⟩ (.int .i64 b.i)).setCell ⟨g, k * 5 + 1, none⟩ (.int .i64 b.g)).setCell ⟨g, k * 5 + 2, none⟩ (.int .i64 b.c)).setCell ⟨g, k * 5 + 3, none⟩ (.int .i64 b.p)).setCell ⟨g, k * 5 + 4, none⟩ (.bool b.d)) (.slice (some ⟨g, 0, none⟩) l.length cap) (l.set k b) := by
  obtain ⟨g', cap', e, h2, h3, h4, h5, cur, T, h6, h7, h8⟩ := h
  simp only [Value.slice.injEq, Option.some.injEq, Addr.mk.injEq, and_true, true_and] at e
  obtain ⟨rfl, rfl⟩ := e
  refine ⟨g, cap, by rw [List.length_set], h2, by simpa [World.setCell] using h3, by rw [List.length_set]; exact h4, h5, _, T, five_set h6 _ _ _ _ _ _, by simpa using h7, fun j hj i hi => ?_⟩
  rw [List.length_set] at hj
  rw [five_get cur (k * 5) 0 (by omega) b]
  by_cases e : j = k
  · subst e
    rw [if_pos (by omega), List.getElem_set_self, show j * 5 + i - j * 5 = i by omega]
  · rw [if_neg (by omega), List.getElem_set_ne (Ne.symm e)]
    exact h8 j hj i hi
theorem FreeBx.at5 {K g cap n : Nat} {w : World} {l : List Bx} (h : FreeBx K w (.slice (some ⟨g, 0, none⟩) n cap) l) {k : Nat} (hk : k < l.length) : K ≤ g ∧ g < w.heap.size ∧ n = l.length ∧ (∀ j, j < 5 → w.cell? ⟨g, k * 5 + j, none⟩ = (bxAt l k).cells[j]?) ∧ ∀ o, w.frozen? ⟨g, o, none⟩ = false := by
  obtain ⟨g', cap', e, h2, h3, h4, h5, cur, T, h6, h7, h8⟩ := h
  simp only [Value.slice.injEq, Option.some.injEq, Addr.mk.injEq, and_true] at e
  obtain ⟨rfl, rfl, rfl⟩ := e
  refine ⟨h2, h3, rfl, fun j hj => ?_, fun o => by simp [World.frozen?, h6]⟩
  rw [bxAt_get hk, ← h8 k hk j hj]
  simp [World.cell?, h6]
theorem FreeBx.from_ {K K' : Nat} {w : World} {v : Value} {l : List Bx} (h : FreeBx K w v l) (hk : K' ≤ K) : FreeBx K' w v l := by
  obtain ⟨g, cap, h1, h2, h3⟩ := h
  exact ⟨g, cap, h1, by omega, h3⟩
/-- A slice of three numbers just built. -/
theorem three_at (w : World) (a b c : Int) : HoldsI (w.alloc (.cells #[.int .i64 a, .int .i64 b, .int .i64 c] 3)) (.slice (some ⟨w.heap.size, 0, none⟩) 3 3) [a, b, c] := by
  refine ⟨some ⟨w.heap.size, 0, none⟩, 3, rfl, Nat.le_refl 3, by unfold maxLen; omega, .inr ⟨w.heap.size, 0, rfl, by simp, fun k hk => ?_⟩⟩
  have h3 : k < 3 := hk
  rw [World.cell?_alloc_new]
  match k, h3 with
  | 0, _ => rfl
  | 1, _ => rfl
  | 2, _ => rfl
set_option maxRecDepth 10000 in
set_option maxHeartbeats 2000000 in
theorem cmpOr_any (v : Value) (a b c : Int) (w : World) (hv : HoldsI w v [a, b, c]) : Calls Try.prog 44 #[v] w fun e w' => e = .returned (.int .i64 (orI a b c)) ∧ w' = w := by
  obtain ⟨pa, pc, e⟩ := hv.form
  obtain ⟨g, o, e0, -, s0⟩ := (show HoldsI w (.slice pa 3 pc) [a, b, c] from e ▸ hv).at_ (k := 0) (by decide)
  subst e0
  obtain ⟨g', o', e1, -, s1⟩ := (show HoldsI w (.slice (some ⟨g, o, none⟩) 3 pc) [a, b, c] from e ▸ hv).at_ (k := 1) (by decide)
  obtain ⟨g2, o2, e2, -, s2⟩ := (show HoldsI w (.slice (some ⟨g, o, none⟩) 3 pc) [a, b, c] from e ▸ hv).at_ (k := 2) (by decide)
  simp only [Option.some.injEq, Addr.mk.injEq, and_true] at e1 e2
  obtain ⟨rfl, rfl⟩ := e1
  obtain ⟨rfl, rfl⟩ := e2
  rw [show [a, b, c].getD 0 0 = a from rfl, Nat.add_zero] at s0
  rw [show [a, b, c].getD 1 0 = b from rfl] at s1
  rw [show [a, b, c].getD 2 0 = c from rfl] at s2
  have e' : v = .slice (some ⟨g, o, none⟩) 3 pc := e
  subst e'
  have HE := Lib.hid (show orI a b c = if a = 0 then (if b = 0 then c else b) else a from rfl)
  clear hv e
  go_enter Try.func44, Try.ntmps44
  go_wp2_with fail
  go_loopw [8] (fun i wr => ((i = .int .i64 0 ∨ i = .int .i64 1 ∧ a = 0 ∨ i = .int .i64 2 ∧ a = 0 ∧ b = 0 ∨ i = .int .i64 3 ∧ a = 0 ∧ b = 0 ∧ c = 0) ∧ wr = w)) (fun i _ => 3 - (intOf i).toNat)
  case atStart => exact ⟨.inl rfl, rfl⟩
  case round =>
    obtain ⟨hi, rfl⟩ := hrel
    rcases hi with rfl | ⟨rfl, h1⟩ | ⟨rfl, h1, h2⟩ | ⟨rfl, h1, h2, h3⟩
    · by_cases hz : a = 0
      · have d1 : (a != 0) = false := by simp [hz]
        have HZ := Lib.hid hz
        clear hz
        go_wp2_with fail
        go_roundw
        case rel => exact ⟨.inr (.inl ⟨by go_num, HZ.out⟩), trivial⟩
        case measure => simp [intOf]
      · have d1 : (a != 0) = true := by simpa using hz
        have HR := Lib.hid (HE.out.trans (if_neg hz))
        clear hz
        go_wp2_with fail
        go_ret
        exact ⟨by rw [HR.out]; rfl, rfl⟩
    · have H1 := Lib.hid h1
      have HE2 := Lib.hid (HE.out.trans (if_pos h1))
      clear h1
      by_cases hz : b = 0
      · have d1 : (b != 0) = false := by simp [hz]
        have HZ := Lib.hid hz
        clear hz
        go_wp2_with fail
        go_roundw
        case rel => exact ⟨.inr (.inr (.inl ⟨by go_num, H1.out, HZ.out⟩)), trivial⟩
        case measure => simp [intOf]
      · have d1 : (b != 0) = true := by simpa using hz
        have HR := Lib.hid (HE2.out.trans (if_neg hz))
        clear hz
        go_wp2_with fail
        go_ret
        exact ⟨by rw [HR.out]; rfl, rfl⟩
    · have H1 := Lib.hid h1
      have H2 := Lib.hid h2
      have HE2 := Lib.hid ((HE.out.trans (if_pos h1)).trans (if_pos h2))
      clear h1 h2
      by_cases hz : c = 0
      · have d1 : (c != 0) = false := by simp [hz]
        have HZ := Lib.hid hz
        clear hz
        go_wp2_with fail
        go_roundw
        case rel => exact ⟨.inr (.inr (.inr ⟨by go_num, H1.out, H2.out, HZ.out⟩)), trivial⟩
        case measure => simp [intOf]
      · have d1 : (c != 0) = true := by simpa using hz
        clear hz
        go_wp2_with fail
        go_ret
        exact ⟨by rw [HE2.out]; rfl, rfl⟩
    · have HR := Lib.hid (show orI a b c = 0 from by unfold orI; rw [if_pos h1, if_pos h2, h3])
      clear h1 h2 h3
      go_wp2_with fail
      go_ret
      exact ⟨by rw [HR.out]; rfl, rfl⟩
set_option maxRecDepth 10000 in
set_option maxHeartbeats 4000000 in
theorem before_any (a b : Bx) (w : World) :
    Calls Try.prog 43 #[.agg #[.int .i64 a.i, .int .i64 a.g, .int .i64 a.c, .int .i64 a.p, .bool a.d], .agg #[.int .i64 b.i, .int .i64 b.g, .int .i64 b.c, .int .i64 b.p, .bool b.d]] w fun e w' => e = .returned (.int .i64 (cmpB a b)) ∧ Below w.heap.size w w' := by
  have hs1 : (w.alloc (.cells #[.int .i64 a.i, .int .i64 a.g, .int .i64 a.c, .int .i64 a.p, .bool a.d] 33)).heap.size = w.heap.size + 1 := by simp
  have b2 := BoxAt.new (w := w.alloc (.cells #[.int .i64 a.i, .int .i64 a.g, .int .i64 a.c, .int .i64 a.p, .bool a.d] 33)) (i := b.i) (g := b.g) (c := b.c) (p := b.p) (d := b.d) (T := 33) (Below.refl _ _)
  have b1 := BoxAt.new (w := w) (i := a.i) (g := a.g) (c := a.c) (p := a.p) (d := a.d) (T := 33) (w' := (w.alloc (.cells #[.int .i64 a.i, .int .i64 a.g, .int .i64 a.c, .int .i64 a.p, .bool a.d] 33)).alloc (.cells #[.int .i64 b.i, .int .i64 b.g, .int .i64 b.c, .int .i64 b.p, .bool b.d] 33)) ((Below.refl _ _).alloc (Nat.le_refl _) _)
  rw [hs1] at b2
  obtain ⟨W2, hW2⟩ : ∃ W2, W2 = (w.alloc (.cells #[.int .i64 a.i, .int .i64 a.g, .int .i64 a.c, .int .i64 a.p, .bool a.d] 33)).alloc (.cells #[.int .i64 b.i, .int .i64 b.g, .int .i64 b.c, .int .i64 b.p, .bool b.d] 33) := ⟨_, rfl⟩
  rw [← hW2] at b1 b2
  have HW := Lib.hid hW2
  have C9 : Below w.heap.size w W2 := b1.2.2
  have hsz : w.heap.size + 2 ≤ W2.heap.size := by rw [hW2]; simp
  obtain ⟨x0, x1, -, x3, -⟩ := b1.cells
  obtain ⟨y0, y1, -, y3, -⟩ := b2.cells
  have hx : W2.cell? ⟨w.heap.size, 0, none⟩ = some (.int .i64 a.i) ∧ W2.cell? ⟨w.heap.size, 1, none⟩ = some (.int .i64 a.g) ∧ W2.cell? ⟨w.heap.size, 3, none⟩ = some (.int .i64 a.p) ∧ W2.cell? ⟨w.heap.size + 1, 0, none⟩ = some (.int .i64 b.i) ∧ W2.cell? ⟨w.heap.size + 1, 1, none⟩ = some (.int .i64 b.g) ∧ W2.cell? ⟨w.heap.size + 1, 3, none⟩ = some (.int .i64 b.p) := ⟨x0, x1, x3, y0, y1, y3⟩
  have HK := Lib.hid fun (w' : World) (hs : Since W2 w') => (show w'.cell? ⟨w.heap.size, 0, none⟩ = some (.int .i64 a.i) ∧ w'.cell? ⟨w.heap.size, 1, none⟩ = some (.int .i64 a.g) ∧ w'.cell? ⟨w.heap.size, 3, none⟩ = some (.int .i64 a.p) ∧ w'.cell? ⟨w.heap.size + 1, 0, none⟩ = some (.int .i64 b.i) ∧ w'.cell? ⟨w.heap.size + 1, 1, none⟩ = some (.int .i64 b.g) ∧ w'.cell? ⟨w.heap.size + 1, 3, none⟩ = some (.int .i64 b.p) ∧ Since W2 w' from ⟨(Below.cell hs (p := ⟨w.heap.size, 0, none⟩) (show w.heap.size < W2.heap.size by omega)).trans x0, (Below.cell hs (p := ⟨w.heap.size, 1, none⟩) (show w.heap.size < W2.heap.size by omega)).trans x1, (Below.cell hs (p := ⟨w.heap.size, 3, none⟩) (show w.heap.size < W2.heap.size by omega)).trans x3, (Below.cell hs (p := ⟨w.heap.size + 1, 0, none⟩) (show w.heap.size + 1 < W2.heap.size by omega)).trans y0, (Below.cell hs (p := ⟨w.heap.size + 1, 1, none⟩) (show w.heap.size + 1 < W2.heap.size by omega)).trans y1, (Below.cell hs (p := ⟨w.heap.size + 1, 3, none⟩) (show w.heap.size + 1 < W2.heap.size by omega)).trans y3, hs⟩)
  have hstart := HK.out _ (show Since W2 W2.drew from (Below.refl _ _).drew)
  obtain ⟨c1, hc1⟩ : ∃ c, c = cmpI b.p a.p := ⟨_, rfl⟩
  obtain ⟨c2, hc2⟩ : ∃ c, c = cmpI b.g a.g := ⟨_, rfl⟩
  obtain ⟨c3, hc3⟩ : ∃ c, c = cmpI a.i b.i := ⟨_, rfl⟩
  have HE := Lib.hid (show cmpB a b = orI c1 c2 c3 from by rw [hc1, hc2, hc3]; rfl)
  have H1 := Lib.hid fun w' => hc1 ▸ cmpCompare_any b.p a.p w'
  have H2 := Lib.hid fun w' => hc2 ▸ cmpCompare_any b.g a.g w'
  have H3 := Lib.hid fun w' => hc3 ▸ cmpCompare_any a.i b.i w'
  have HOR := Lib.hid fun (w' : World) => cmpOr_any _ c1 c2 c3 _ (three_at w' c1 c2 c3)
  have HOD := Lib.hid fun (w' : World) => cmpOr_any _ c1 c2 c3 _ ((three_at w' c1 c2 c3).keep (Below.refl _ _).drew)
  generalize cmpB a b = r at HE ⊢
  clear b1 b2 hW2 hs1 hx hc1 hc2 hc3
  go_enter Try.func43, Try.ntmps43
  go_wp2_with fail
  rw [← HW.out]
  clear HW x0 x1 x3 y0 y1 y3
  go_region_held3 (fun w' => w'.cell? ⟨w.heap.size, 0, none⟩ = some (.int .i64 a.i) ∧ w'.cell? ⟨w.heap.size, 1, none⟩ = some (.int .i64 a.g) ∧ w'.cell? ⟨w.heap.size, 3, none⟩ = some (.int .i64 a.p) ∧ w'.cell? ⟨w.heap.size + 1, 0, none⟩ = some (.int .i64 b.i) ∧ w'.cell? ⟨w.heap.size + 1, 1, none⟩ = some (.int .i64 b.g) ∧ w'.cell? ⟨w.heap.size + 1, 3, none⟩ = some (.int .i64 b.p) ∧ Since W2 w')
    (first | exact hstart | exact HK.out _ s7 | exact HK.out _ (by exact (‹_ ∧ _› : _ ∧ _ ∧ _ ∧ _ ∧ _ ∧ _ ∧ Since W2 _).2.2.2.2.2.2) | exact HK.out _ (Since.alloc (by exact (‹_ ∧ _› : _ ∧ _ ∧ _ ∧ _ ∧ _ ∧ _ ∧ Since W2 _).2.2.2.2.2.2) _) | exact HK.out _ (by exact ((Below.refl W2.heap.size W2).alloc (Nat.le_refl _) _).drew) | fail)
    (first
      | (go_at_call 45; ((with_reducible refine (H1.out _).mono ?_); rintro e w8 ⟨rfl, rfl⟩))
      | (go_at_call 45; ((with_reducible refine (H2.out _).mono ?_); rintro e w8 ⟨rfl, rfl⟩))
      | (go_at_call 45; ((with_reducible refine (H3.out _).mono ?_); rintro e w8 ⟨rfl, rfl⟩))
      | (go_at_call 44; ((with_reducible refine (HOD.out _).mono ?_); rintro e w8 ⟨rfl, rfl⟩))
      | (go_at_call 44; ((with_reducible refine (HOR.out _).mono ?_); rintro e w8 ⟨rfl, rfl⟩))
      | fail)
  rename_i hheld
  have b9 := hheld.2.2.2.2.2.2
  clear hheld hstart
  go_wp2_with fail
  go_ret
  exact ⟨by rw [HE.out]; rfl, C9.trans (Below.mono b9 C9.size)⟩
set_option maxRecDepth 10000 in
set_option maxHeartbeats 16000000 in
theorem insSortB_any (K : Nat) (c : List Bx) (v : Value) (w : World) (ho : FreeBx K w v c) (hn0 : 0 < c.length) (hn10 : c.length ≤ 10) :
    Calls Try.prog 96 #[v, .int .i64 0, .int .i64 c.length, (.func (.func 43) #[] #[])] w fun e w' => e = .returned (.tuple #[]) ∧ FreeBx K w' v (isB befB c c.length) ∧ Below K w w' := by
  obtain ⟨g, cap, rfl, hKg, hg4, hcp1, hcp2, -⟩ := id ho
  have hKw : K ≤ w.heap.size := by omega
  have HO := Lib.hid ho
  have HB := Lib.hid (Below.refl K w)
  have HL := Lib.hid fun i (hi : i ≤ c.length) => (isB_perm befB c i hi).length_eq
  have hz1 : isB befB c 1 = c := rfl
  have HNX := Lib.hid fun i => (show inB befB i (isB befB c i) = isB befB c (i + 1) from rfl)
  obtain ⟨n, hn⟩ : ∃ n, n = c.length := ⟨_, rfl⟩
  rw [← hn] at HL hn0 hn10 hcp1 ⊢
  have hcap : n ≤ cap ∧ cap ≤ 9223372036854775807 := by unfold maxLen at hcp2; omega
  have HNN := Lib.hid hn
  clear ho hcp1 hcp2 hn
  go_enter Try.func96, Try.ntmps96
  go_wp2_with fail
  go_loopw [8] (fun iv wr => ∃ i : Nat, 1 ≤ i ∧ i ≤ n ∧ iv = .int .i64 i ∧ Hid (FreeBx K wr (.slice (some ⟨g, 0, none⟩) n cap) (isB befB c i)) ∧ Hid (Below K w wr)) (fun iv _ => n - (intOf iv).toNat)
  case atStart => exact ⟨1, by omega, by omega, by go_num, by rw [hz1, HNN.out]; exact HO, HB⟩
  case round =>
    clear HO HB hz1
    obtain ⟨i, hi1, hin, rfl, HOO, BO⟩ := hrel
    obtain ⟨wo, rfl⟩ : ∃ wo : World, wo = wr := ⟨_, rfl⟩
    by_cases hlt : i < n
    · have ii : (i : Int) < (n : Int) := by omega
      have HS0 := Lib.hid (HNX.out i)
      have HLL := Lib.hid (HL.out i hin)
      go_wp2_with fail
      go_loopw [9] (fun jv w2 => ∃ (j : Nat) (d : List Bx), j ≤ i ∧ jv = .int .i64 j ∧ d.length = n ∧ Hid (inB befB j d = isB befB c (i + 1)) ∧ Hid (FreeBx K w2 (.slice (some ⟨g, 0, none⟩) n cap) d) ∧ Hid (Below K w w2)) (fun jv _ => (intOf jv).toNat)
      case atStart => exact ⟨i, isB befB c i, by omega, rfl, HLL.out, HS0, HOO, BO⟩
      case round =>
        clear HS0 HLL HOO BO
        obtain ⟨j, d, hji, rfl, hdl, HS, HOW, BR⟩ := hrel
        have HDL := Lib.hid hdl
        rcases Nat.eq_zero_or_pos j with hj0 | hj0
        · subst hj0
          have HS2 := Lib.hid (show d = isB befB c (i + 1) from HS.out)
          have d0 : decide ((0 : Int) > 0) = false := rfl
          clear hdl
          go_wp2_with fail
          go_quiet (fail)
          have b7 : Below wr.heap.size wr (wr.drewN nq) := Below.drewN_ (Below.refl _ _) _
          have D7 := Lib.hid (BR.out.trans (b7.mono (Nat.le_trans hKw BR.out.size)))
          have HO7 := Lib.hid (HOW.out.keep b7)
          generalize wr.drewN nq = w7 at D7 HO7 ⊢
          clear b7
          go_wp2_with fail
          go_roundw
          case rel => exact ⟨i + 1, by omega, by omega, by go_num, by rw [← HS2.out]; exact HO7, D7⟩
          case measure => simp [intOf]; omega
        · obtain ⟨q, hq⟩ : ∃ q, j = q + 1 := ⟨j - 1, by omega⟩
          have hjn : j < n := by omega
          have hqn : q < n := by omega
          have hjd : j < d.length := by omega
          have hqd : q < d.length := by omega
          obtain ⟨-, hgl, -, hs, hf⟩ := HOW.out.at5 hjd
          obtain ⟨-, -, -, ht, -⟩ := HOW.out.at5 hqd
          have hgo : befB (bxAt d j) (bxAt d q) = true → inB befB j d = inB befB q ((d.set j (bxAt d q)).set q (bxAt d j)) := fun hh => by subst hq; exact inB_go hh
          have hst : befB (bxAt d j) (bxAt d q) = false → inB befB j d = d := fun hh => by subst hq; exact inB_stop hh
          obtain ⟨x, hx⟩ : ∃ x, x = bxAt d j := ⟨_, rfl⟩
          obtain ⟨y, hy⟩ : ∃ y, y = bxAt d q := ⟨_, rfl⟩
          rw [← hx] at hs hgo hst
          rw [← hy] at ht hgo hst
          have hlv := cmpB_lt x y
          have HCk0 := fun (w' : World) => before_any x y w'
          generalize cmpB x y = r at hlv HCk0
          have HCk := Lib.hid HCk0
          have s0 : wr.cell? ⟨g, j * 5, none⟩ = some (.int .i64 x.i) ∧ wr.cell? ⟨g, j * 5 + 1, none⟩ = some (.int .i64 x.g) ∧ wr.cell? ⟨g, j * 5 + 2, none⟩ = some (.int .i64 x.c) ∧ wr.cell? ⟨g, j * 5 + 3, none⟩ = some (.int .i64 x.p) ∧ wr.cell? ⟨g, j * 5 + 4, none⟩ = some (.bool x.d) := ⟨hs 0 (by omega), hs 1 (by omega), hs 2 (by omega), hs 3 (by omega), hs 4 (by omega)⟩
          have t0 : wr.cell? ⟨g, q * 5, none⟩ = some (.int .i64 y.i) ∧ wr.cell? ⟨g, q * 5 + 1, none⟩ = some (.int .i64 y.g) ∧ wr.cell? ⟨g, q * 5 + 2, none⟩ = some (.int .i64 y.c) ∧ wr.cell? ⟨g, q * 5 + 3, none⟩ = some (.int .i64 y.p) ∧ wr.cell? ⟨g, q * 5 + 4, none⟩ = some (.bool y.d) := ⟨ht 0 (by omega), ht 1 (by omega), ht 2 (by omega), ht 3 (by omega), ht 4 (by omega)⟩
          have HK2 := Lib.hid fun (w' : World) (hs : Since wr w') => (show w'.cell? ⟨g, j * 5, none⟩ = some (.int .i64 x.i) ∧ w'.cell? ⟨g, j * 5 + 1, none⟩ = some (.int .i64 x.g) ∧ w'.cell? ⟨g, j * 5 + 2, none⟩ = some (.int .i64 x.c) ∧ w'.cell? ⟨g, j * 5 + 3, none⟩ = some (.int .i64 x.p) ∧ w'.cell? ⟨g, j * 5 + 4, none⟩ = some (.bool x.d) ∧ w'.cell? ⟨g, q * 5, none⟩ = some (.int .i64 y.i) ∧ w'.cell? ⟨g, q * 5 + 1, none⟩ = some (.int .i64 y.g) ∧ w'.cell? ⟨g, q * 5 + 2, none⟩ = some (.int .i64 y.c) ∧ w'.cell? ⟨g, q * 5 + 3, none⟩ = some (.int .i64 y.p) ∧ w'.cell? ⟨g, q * 5 + 4, none⟩ = some (.bool y.d) ∧ Since wr w' from ⟨(Below.cell hs (p := ⟨g, j * 5, none⟩) hgl).trans s0.1, (Below.cell hs (p := ⟨g, j * 5 + 1, none⟩) hgl).trans s0.2.1, (Below.cell hs (p := ⟨g, j * 5 + 2, none⟩) hgl).trans s0.2.2.1, (Below.cell hs (p := ⟨g, j * 5 + 3, none⟩) hgl).trans s0.2.2.2.1, (Below.cell hs (p := ⟨g, j * 5 + 4, none⟩) hgl).trans s0.2.2.2.2, (Below.cell hs (p := ⟨g, q * 5, none⟩) hgl).trans t0.1, (Below.cell hs (p := ⟨g, q * 5 + 1, none⟩) hgl).trans t0.2.1, (Below.cell hs (p := ⟨g, q * 5 + 2, none⟩) hgl).trans t0.2.2.1, (Below.cell hs (p := ⟨g, q * 5 + 3, none⟩) hgl).trans t0.2.2.2.1, (Below.cell hs (p := ⟨g, q * 5 + 4, none⟩) hgl).trans t0.2.2.2.2, hs⟩)
          have hstart := HK2.out _ (show Since wr wr.drew from (Below.refl _ _).drew)
          have HGO := Lib.hid hgo
          have HST := Lib.hid hst
          have ij : (j : Int) < (n : Int) := by omega
          have i0j : (0 : Int) ≤ (j : Int) := by omega
          have iq : (q : Int) < (n : Int) := by omega
          have i0q : (0 : Int) ≤ (q : Int) := by omega
          have zq : IntKind.i64.wrap ((j : Int) - 1) = (q : Int) := by rw [IntWalk.i64_in _ (by omega)]; omega
          have d1 : decide ((j : Int) > 0) = true := decide_eq_true (by omega)
          have d2 : decide ((0 : Int) < (j : Int)) = true := d1
          have HQ := Lib.hid hq
          have hjq : j ≠ q := by omega
          have HLV := Lib.hid hlv
          clear hgo hst hlv HCk0 hx hy hs ht s0 t0 hq hdl hf
          by_cases hr : r < 0
          · have HL9 := Lib.hid (show befB x y = true from by rw [HLV.out]; exact decide_eq_true hr)
            have d3 : decide (r < 0) = true := decide_eq_true hr
            have HS2 := Lib.hid ((HGO.out HL9.out).symm.trans HS.out)
            clear HGO HST HS hr
            go_wp2_with fail
            go_region_held3 (fun w' => w'.cell? ⟨g, j * 5, none⟩ = some (.int .i64 x.i) ∧ w'.cell? ⟨g, j * 5 + 1, none⟩ = some (.int .i64 x.g) ∧ w'.cell? ⟨g, j * 5 + 2, none⟩ = some (.int .i64 x.c) ∧ w'.cell? ⟨g, j * 5 + 3, none⟩ = some (.int .i64 x.p) ∧ w'.cell? ⟨g, j * 5 + 4, none⟩ = some (.bool x.d) ∧ w'.cell? ⟨g, q * 5, none⟩ = some (.int .i64 y.i) ∧ w'.cell? ⟨g, q * 5 + 1, none⟩ = some (.int .i64 y.g) ∧ w'.cell? ⟨g, q * 5 + 2, none⟩ = some (.int .i64 y.c) ∧ w'.cell? ⟨g, q * 5 + 3, none⟩ = some (.int .i64 y.p) ∧ w'.cell? ⟨g, q * 5 + 4, none⟩ = some (.bool y.d) ∧ Since wr w')
              (first | exact hstart | exact HK2.out _ s7 | exact HK2.out _ (by exact (‹_ ∧ _› : _ ∧ _ ∧ _ ∧ _ ∧ _ ∧ _ ∧ _ ∧ _ ∧ _ ∧ _ ∧ Since wr _).2.2.2.2.2.2.2.2.2.2) | fail)
              (first
                | (go_at_call 43; ((with_reducible refine (HCk.out _).mono ?_); rintro e w7 ⟨rfl, d7⟩; have s7 : Since wr w7 := Since.call (by exact (‹_ ∧ _› : _ ∧ _ ∧ _ ∧ _ ∧ _ ∧ _ ∧ _ ∧ _ ∧ _ ∧ _ ∧ Since wr _).2.2.2.2.2.2.2.2.2.2) d7; clear d7))
                | fail)
            rename_i hheld
            have b9 : Below wr.heap.size wr w7 := hheld.2.2.2.2.2.2.2.2.2.2
            have BR7 := Lib.hid (BR.out.trans (b9.mono (Nat.le_trans hKw BR.out.size)))
            have HO7 := Lib.hid (HOW.out.keep b9)
            clear hheld hstart b9
            have h8 : FreeBx K w7 (.slice (some ⟨g, 0, none⟩) d.length cap) d := by rw [HDL.out]; exact HO7.out
            obtain ⟨-, -, -, -, hf⟩ := h8.at5 hjd
            have h9 := h8.put hjd y
            have hqd2 : q < (d.set j y).length := by rw [List.length_set]; exact hqd
            have h9' : FreeBx K (((((w7.setCell ⟨g, j * 5, none⟩ (.int .i64 y.i)).setCell ⟨g, j * 5 + 1, none⟩ (.int .i64 y.g)).setCell ⟨g, j * 5 + 2, none⟩ (.int .i64 y.c)).setCell ⟨g, j * 5 + 3, none⟩ (.int .i64 y.p)).setCell ⟨g, j * 5 + 4, none⟩ (.bool y.d)) (.slice (some ⟨g, 0, none⟩) (d.set j y).length cap) (d.set j y) := by rw [List.length_set]; exact h9
            have h10 := h9'.put hqd2 x
            rw [List.length_set, HDL.out] at h10
            have hkk := HK2.out w7 (by assumption)
            obtain ⟨u0, u1, u2, u3, u4, v0, v1, v2, v3, v4, -⟩ := hkk
            have HO9 := Lib.hid (h10.keep (Below.refl _ _).drew)
            have D9 := Lib.hid ((((((((((BR7.out.setCell (p := ⟨g, j * 5, none⟩) hKg (.int .i64 y.i)).setCell (p := ⟨g, j * 5 + 1, none⟩) hKg (.int .i64 y.g)).setCell (p := ⟨g, j * 5 + 2, none⟩) hKg (.int .i64 y.c)).setCell (p := ⟨g, j * 5 + 3, none⟩) hKg (.int .i64 y.p)).setCell (p := ⟨g, j * 5 + 4, none⟩) hKg (.bool y.d)).setCell (p := ⟨g, q * 5, none⟩) hKg (.int .i64 x.i)).setCell (p := ⟨g, q * 5 + 1, none⟩) hKg (.int .i64 x.g)).setCell (p := ⟨g, q * 5 + 2, none⟩) hKg (.int .i64 x.c)).setCell (p := ⟨g, q * 5 + 3, none⟩) hKg (.int .i64 x.p)).setCell (p := ⟨g, q * 5 + 4, none⟩) hKg (.bool x.d)).drew
            have HL10 := Lib.hid (show ((d.set j y).set q x).length = n from by rw [List.length_set, List.length_set]; exact HDL.out)
            have fj0 := hf (j * 5); have fj1 := hf (j * 5 + 1); have fj2 := hf (j * 5 + 2); have fj3 := hf (j * 5 + 3); have fj4 := hf (j * 5 + 4); have fq0 := hf (q * 5); have fq1 := hf (q * 5 + 1); have fq2 := hf (q * 5 + 2); have fq3 := hf (q * 5 + 3); have fq4 := hf (q * 5 + 4)
            have n00 : j * 5 ≠ q * 5 := (by omega); have n01 : j * 5 ≠ q * 5 + 1 := (by omega); have n02 : j * 5 ≠ q * 5 + 2 := (by omega); have n03 : j * 5 ≠ q * 5 + 3 := (by omega); have n04 : j * 5 ≠ q * 5 + 4 := (by omega); have n10 : j * 5 + 1 ≠ q * 5 := (by omega); have n11 : j * 5 + 1 ≠ q * 5 + 1 := (by omega); have n12 : j * 5 + 1 ≠ q * 5 + 2 := (by omega); have n13 : j * 5 + 1 ≠ q * 5 + 3 := (by omega); have n14 : j * 5 + 1 ≠ q * 5 + 4 := (by omega); have n20 : j * 5 + 2 ≠ q * 5 := (by omega); have n21 : j * 5 + 2 ≠ q * 5 + 1 := (by omega); have n22 : j * 5 + 2 ≠ q * 5 + 2 := (by omega); have n23 : j * 5 + 2 ≠ q * 5 + 3 := (by omega); have n24 : j * 5 + 2 ≠ q * 5 + 4 := (by omega); have n30 : j * 5 + 3 ≠ q * 5 := (by omega); have n31 : j * 5 + 3 ≠ q * 5 + 1 := (by omega); have n32 : j * 5 + 3 ≠ q * 5 + 2 := (by omega); have n33 : j * 5 + 3 ≠ q * 5 + 3 := (by omega); have n34 : j * 5 + 3 ≠ q * 5 + 4 := (by omega); have n40 : j * 5 + 4 ≠ q * 5 := (by omega); have n41 : j * 5 + 4 ≠ q * 5 + 1 := (by omega); have n42 : j * 5 + 4 ≠ q * 5 + 2 := (by omega); have n43 : j * 5 + 4 ≠ q * 5 + 3 := (by omega); have n44 : j * 5 + 4 ≠ q * 5 + 4 := (by omega)
            clear h8 h9 h9' h10 hqd2 hf
            go_wp2_with fail
            go_region
            go_wp2_with fail
            go_roundw
            case rel => exact ⟨q, (d.set j y).set q x, by have := HQ.out; omega, by go_num, HL10.out, HS2, HO9, D9⟩
            case measure => have := HQ.out; simp [intOf]; omega
          · have HL9 := Lib.hid (show befB x y = false from by rw [HLV.out]; exact decide_eq_false hr)
            have d3 : decide (r < 0) = false := decide_eq_false hr
            have HS2 := Lib.hid ((HST.out HL9.out).symm.trans HS.out)
            clear HGO HST HS hr
            go_wp2_with fail
            go_region_held3 (fun w' => w'.cell? ⟨g, j * 5, none⟩ = some (.int .i64 x.i) ∧ w'.cell? ⟨g, j * 5 + 1, none⟩ = some (.int .i64 x.g) ∧ w'.cell? ⟨g, j * 5 + 2, none⟩ = some (.int .i64 x.c) ∧ w'.cell? ⟨g, j * 5 + 3, none⟩ = some (.int .i64 x.p) ∧ w'.cell? ⟨g, j * 5 + 4, none⟩ = some (.bool x.d) ∧ w'.cell? ⟨g, q * 5, none⟩ = some (.int .i64 y.i) ∧ w'.cell? ⟨g, q * 5 + 1, none⟩ = some (.int .i64 y.g) ∧ w'.cell? ⟨g, q * 5 + 2, none⟩ = some (.int .i64 y.c) ∧ w'.cell? ⟨g, q * 5 + 3, none⟩ = some (.int .i64 y.p) ∧ w'.cell? ⟨g, q * 5 + 4, none⟩ = some (.bool y.d) ∧ Since wr w')
              (first | exact hstart | exact HK2.out _ s7 | exact HK2.out _ (by exact (‹_ ∧ _› : _ ∧ _ ∧ _ ∧ _ ∧ _ ∧ _ ∧ _ ∧ _ ∧ _ ∧ _ ∧ Since wr _).2.2.2.2.2.2.2.2.2.2) | fail)
              (first
                | (go_at_call 43; ((with_reducible refine (HCk.out _).mono ?_); rintro e w7 ⟨rfl, d7⟩; have s7 : Since wr w7 := Since.call (by exact (‹_ ∧ _› : _ ∧ _ ∧ _ ∧ _ ∧ _ ∧ _ ∧ _ ∧ _ ∧ _ ∧ _ ∧ Since wr _).2.2.2.2.2.2.2.2.2.2) d7; clear d7))
                | fail)
            rename_i hheld
            have b9 : Below wr.heap.size wr w7 := hheld.2.2.2.2.2.2.2.2.2.2
            have BR7 := Lib.hid (BR.out.trans (b9.mono (Nat.le_trans hKw BR.out.size)))
            have HO7 := Lib.hid (HOW.out.keep b9)
            clear hheld hstart b9
            go_wp2_with fail
            go_roundw
            case rel => exact ⟨i + 1, by omega, by omega, by go_num, by rw [← HS2.out]; exact HO7, BR7⟩
            case measure => simp [intOf]; omega
    · obtain rfl : i = n := by omega
      have O9 := HOO.out
      have C9 := BO.out
      go_wp2_with fail
      go_end0
      exact ⟨rfl, O9, C9⟩
set_option maxRecDepth 10000 in
set_option maxHeartbeats 1000000 in
theorem insSortB_zero (a : Option Addr) (cap : Nat) (w : World) :
    Calls Try.prog 96 #[.slice a 0 cap, .int .i64 0, .int .i64 0, (.func (.func 43) #[] #[])] w fun e w' => e = .returned (.tuple #[]) ∧ w' = w := by
  go_enter Try.func96, Try.ntmps96
  go_wp2_with fail
  go_loopw [8] (fun iv wr => iv = .int .i64 1 ∧ wr = w) (fun _ _ => 0)
  case atStart => exact ⟨rfl, rfl⟩
  case round =>
    obtain ⟨rfl, rfl⟩ := hrel
    go_wp2_with fail
    go_end0
    exact ⟨rfl, rfl⟩
set_option maxRecDepth 10000 in
set_option maxHeartbeats 2000000 in
theorem bitsLen64_any (n : Nat) (w : World) (hn : n ≤ 10) :
    Calls Try.prog 105 #[.int .u64 n] w fun e w' => (∃ r : Int, e = .returned (.int .i64 r)) ∧ w' = w := by
  have h11 : n = 0 ∨ n = 1 ∨ n = 2 ∨ n = 3 ∨ n = 4 ∨ n = 5 ∨ n = 6 ∨ n = 7 ∨ n = 8 ∨ n = 9 ∨ n = 10 := by omega
  rcases h11 with rfl | rfl | rfl | rfl | rfl | rfl | rfl | rfl | rfl | rfl | rfl
  · go_enter Try.func105, Try.ntmps105
    go_wp2_with fail
    go_ret
    exact ⟨⟨_, rfl⟩, rfl⟩
  · go_enter Try.func105, Try.ntmps105
    go_wp2_with fail
    go_ret
    exact ⟨⟨_, rfl⟩, rfl⟩
  · go_enter Try.func105, Try.ntmps105
    go_wp2_with fail
    go_ret
    exact ⟨⟨_, rfl⟩, rfl⟩
  · go_enter Try.func105, Try.ntmps105
    go_wp2_with fail
    go_ret
    exact ⟨⟨_, rfl⟩, rfl⟩
  · go_enter Try.func105, Try.ntmps105
    go_wp2_with fail
    go_ret
    exact ⟨⟨_, rfl⟩, rfl⟩
  · go_enter Try.func105, Try.ntmps105
    go_wp2_with fail
    go_ret
    exact ⟨⟨_, rfl⟩, rfl⟩
  · go_enter Try.func105, Try.ntmps105
    go_wp2_with fail
    go_ret
    exact ⟨⟨_, rfl⟩, rfl⟩
  · go_enter Try.func105, Try.ntmps105
    go_wp2_with fail
    go_ret
    exact ⟨⟨_, rfl⟩, rfl⟩
  · go_enter Try.func105, Try.ntmps105
    go_wp2_with fail
    go_ret
    exact ⟨⟨_, rfl⟩, rfl⟩
  · go_enter Try.func105, Try.ntmps105
    go_wp2_with fail
    go_ret
    exact ⟨⟨_, rfl⟩, rfl⟩
  · go_enter Try.func105, Try.ntmps105
    go_wp2_with fail
    go_ret
    exact ⟨⟨_, rfl⟩, rfl⟩
set_option maxRecDepth 10000 in
set_option maxHeartbeats 1000000 in
theorem bitsLen_any (n : Nat) (w : World) (hn : n ≤ 10) :
    Calls Try.prog 76 #[.int .u64 n] w fun e w' => (∃ r : Int, e = .returned (.int .i64 r)) ∧ w' = w := by
  have HI := Lib.hid (bitsLen64_any n w hn)
  have zn : IntKind.u64.wrap (n : Int) = (n : Int) := IntWalk.u64_in _ ⟨by omega, by omega⟩
  go_enter Try.func76, Try.ntmps76
  go_wp2_with fail
  refine HI.out.mono ?_
  rintro e w2 ⟨⟨r, rfl⟩, rfl⟩
  go_wp2_with fail
  go_ret
  exact ⟨⟨_, rfl⟩, rfl⟩
set_option maxRecDepth 10000 in
set_option maxHeartbeats 4000000 in
theorem pdqB_of (v : Value) (n : Nat) (r : Int) (w : World) (Q : World → Prop) (hn : n ≤ 10) (HI0 : Calls Try.prog 96 #[v, .int .i64 0, .int .i64 n, (.func (.func 43) #[] #[])] w fun e w' => e = .returned (.tuple #[]) ∧ Q w') :
    Calls Try.prog 75 #[v, .int .i64 0, .int .i64 n, .int .i64 r, (.func (.func 43) #[] #[])] w fun e w' => e = .returned (.tuple #[]) ∧ Q w' := by
  have HI := Lib.hid HI0
  have d12 : decide ((n : Int) ≤ 12) = true := decide_eq_true (by omega)
  have z0 : IntKind.i64.wrap ((n : Int) - 0) = (n : Int) := by rw [IntWalk.i64_in _ (by omega)]; omega
  have z1 : IntKind.i64.wrap (n : Int) = (n : Int) := IntWalk.i64_in _ (by omega)
  clear HI0
  go_enter Try.func75, Try.ntmps75
  go_wp2_with fail
  go_loopw [1, 2, 3, 10, 11] (fun av bv lv p1 p2 wr => av = .int .i64 0 ∧ bv = .int .i64 n ∧ lv = .int .i64 r ∧ p1 = .bool true ∧ p2 = .bool true ∧ wr = w) (fun _ _ _ _ _ _ => 0)
  case atStart => exact ⟨rfl, rfl, rfl, rfl, rfl, rfl⟩
  case round =>
    obtain ⟨rfl, rfl, rfl, rfl, rfl, rfl⟩ := hrel
    go_wp2_with fail
    refine HI.out.mono ?_
    rintro e w2 ⟨rfl, q2⟩
    go_wp2_with fail
    refine bodyPost_ret (results_none rfl _ _ _) rfl ?_
    exact ⟨rfl, q2⟩
set_option maxRecDepth 10000 in
set_option maxHeartbeats 2000000 in
theorem sortB_of (a : Option Addr) (n cap : Nat) (w : World) (Q : World → Prop) (hn : n ≤ 10) (HI0 : Calls Try.prog 96 #[.slice a n cap, .int .i64 0, .int .i64 n, (.func (.func 43) #[] #[])] w fun e w' => e = .returned (.tuple #[]) ∧ Q w') :
    Calls Try.prog 42 #[.slice a n cap, (.func (.func 43) #[] #[])] w fun e w' => e = .returned (.tuple #[]) ∧ Q w' := by
  have HI := Lib.hid fun r => pdqB_of (.slice a n cap) n r w Q hn HI0
  have HBL := Lib.hid (bitsLen_any n w hn)
  have zn : IntKind.u64.wrap (n : Int) = (n : Int) := IntWalk.u64_in _ ⟨by omega, by omega⟩
  clear HI0
  go_enter Try.func42, Try.ntmps42
  go_wp2_with fail
  refine HBL.out.mono ?_
  rintro e w2 ⟨⟨r, rfl⟩, rfl⟩
  go_wp2_with fail
  refine (HI.out r).mono ?_
  rintro e w3 ⟨rfl, q3⟩
  go_wp2_with fail
  go_end0
  exact ⟨rfl, q3⟩
/-- The sort of a row of boxes that is the call's own. -/
theorem sortB_any (K : Nat) (c : List Bx) (v : Value) (w : World) (hK : K ≤ w.heap.size) (ho : w.ownsRow K 33 5 v c.length (rowB c)) (hn : c.length ≤ 10) :
    Calls Try.prog 42 #[v, (.func (.func 43) #[] #[])] w fun e w' => e = .returned (.tuple #[]) ∧ HoldsBx w' v (isB befB c c.length) ∧ Below K w w' := by
  have hh := (NewBx.of_own ho).holds
  obtain ⟨a, cap, e, _⟩ := id hh
  by_cases h0 : 0 < c.length
  · have hf := FreeBx.of_own ho h0
    subst e
    refine sortB_of a c.length cap w (fun w' => HoldsBx w' (.slice a c.length cap) (isB befB c c.length) ∧ Below K w w') hn ?_
    refine (insSortB_any K c _ w hf h0 hn).mono ?_
    rintro e w' ⟨rfl, o, b⟩
    exact ⟨rfl, o.holds, b⟩
  · obtain rfl : c = [] := List.eq_nil_of_length_eq_zero (by omega)
    subst e
    refine sortB_of a 0 cap w (fun w' => HoldsBx w' (.slice a 0 cap) [] ∧ Below K w w') (by omega) ?_
    refine (insSortB_zero a cap w).mono ?_
    rintro e w' ⟨rfl, rfl⟩
    exact ⟨rfl, hh, Below.refl _ _⟩
/-- A copy of boxes that is the call's own. -/
def CloneBx (l : List Bx) (w : World) (e : Ending) (w' : World) : Prop :=
  ∃ v, e = .returned v ∧ w'.ownsRow w.heap.size 33 5 v l.length (rowB l) ∧ Below w.heap.size w w'
theorem slCloneBx_none (l : List Bx) (n cap : Nat) (w : World) (hl : l = []) (hn : n = 0) :
    Calls Try.prog 41 #[.slice none n cap] w (CloneBx l w) := by
  subst hl hn
  have qN : ∀ (w : World) (a : Option Addr) (n c : Nat), (binOp .eql 23 (.slice a n c) (.slice none 0 0)).run Try.prog w = .ok (.bool a.isNone) w := fun w a n c => Lib.run_eql_slice_nil w _ _ a n c 0 0 Try.underlying23
  go_enter Try.func41, Try.ntmps41
  go_wp2_with fail
  go_ret
  exact ⟨_, rfl, ⟨by simp [rowB], .inl ⟨rfl, rfl⟩⟩, Below.refl _ _⟩
set_option maxHeartbeats 2000000 in
theorem slCloneBx_some (x : Addr) (l : List Bx) (cap : Nat) (w : World) (h : ∀ w', Below w.heap.size w w' → ∀ j u, (rowB l)[j]? = some u → w'.cell? (x.add j) = some u) (hlen : l.length ≤ 1048577) :
    Calls Try.prog 41 #[.slice (some x) l.length cap] w (CloneBx l w) := by
  obtain ⟨i0, hi, hz0, hz1, hz2⟩ := info_parts infoBox
  have HH := Lib.hid (h _ ((Below.refl _ _).alloc (Nat.le_refl _) (.cells #[] 33)))
  have own2 : (w.alloc (.cells #[] 33)).ownsRow w.heap.size 33 5 (.slice (some ⟨w.heap.size, 0, none⟩) 0 0) 0 [] := own_empty (Nat.le_refl _) (heap_alloc_new _ _)
  clear h
  have qN : ∀ (w : World) (a : Option Addr) (n c : Nat), (binOp .eql 23 (.slice a n c) (.slice none 0 0)).run Try.prog w = .ok (.bool a.isNone) w := fun w a n c => Lib.run_eql_slice_nil w _ _ a n c 0 0 Try.underlying23
  go_enter Try.func41, Try.ntmps41
  go_wp2_with (at_builtin; refine wpList_append_own _ rfl _ _ 23 rfl w.heap.size 33 i0 (.agg #[.int .i64 0, .int .i64 0, .int .i64 0, .int .i64 0, .bool false]) 5 40 Try.underlying23 hi hz0 hz1 hz2 rfl (by decide) _ 0 [] rfl own2 x l.length cap (rowB l) rfl (by rw [rowB_len]) (fun j u hu => HH.out j u hu) (rowB_one l) (by unfold maxLen; omega) (by omega) (by simp) ?_; intro v4 w4 hown4 hgrow4 _)
  simp only [Nat.zero_add, List.nil_append] at hown4
  have hb4 : Below w.heap.size w w4 := ((Below.refl w.heap.size w).alloc (Nat.le_refl _) (.cells #[] 33)).trans (own_below (v := .slice (some ⟨w.heap.size, 0, none⟩) 0 0) hgrow4 (by simp) (fun k hk => (own_lt own2 k hk).1))
  go_ret
  exact ⟨_, rfl, hown4, hb4⟩
theorem slCloneBx_any (v : Value) (l : List Bx) (w : World) (h : HoldsBx w v l) (hlen : l.length ≤ 1048577) :
    Calls Try.prog 41 #[v] w (CloneBx l w) := by
  have h0 := h
  obtain ⟨a, cap, rfl, h2, h3, h4⟩ := h
  rcases a with _ | x
  · rcases h4 with h4 | ⟨b, off, h5, _⟩
    · exact slCloneBx_none l _ _ w (List.eq_nil_of_length_eq_zero h4) h4
    · cases h5
  · refine slCloneBx_some x l cap w (fun w' hs j u hu => ?_) hlen
    rcases h4 with h4 | ⟨b', off', h5, _⟩
    · rw [List.eq_nil_of_length_eq_zero h4] at hu
      simp [rowB] at hu
    · simp only [Option.some.injEq] at h5
      subst h5
      exact HoldsBx.row (h0.keep hs) j u hu
end Go.Proofs.Ytfeobdgdhgcgoaa
