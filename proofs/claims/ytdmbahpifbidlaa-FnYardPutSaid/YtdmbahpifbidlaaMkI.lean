/-
  Contracts of the laws' hasInt, and of the marks that the exact laws lay in slices of numbers and look for.
-/
import Derived.Test.YtdmbahpifbidlaaSt
import Derived.Test.YtdmbahpifbidlaaFrI
namespace Go.Proofs.Ytdmbahpifbidlaa
open Go.RowKit
set_option linter.unusedVariables false

set_option maxHeartbeats 400000 in
theorem hasInt_any (v : Value) (l : List Int) (n : Int) (w : World) (h : HoldsI w v l) :
    Calls Try.prog 22 #[v, .int .i64 n] w fun e w' => e = .returned (.bool (hasI l n)) ∧ w = w' := by
  obtain ⟨a, cap, rfl, h2, h3, h4⟩ := h
  have hm : l.length ≤ 9223372036854775807 := by unfold maxLen at h3; omega
  obtain ⟨m, hn⟩ : ∃ m, m = l.length := ⟨_, rfl⟩
  have HN := Lib.hid hn.symm
  rw [← hn]
  have hm' : m ≤ 9223372036854775807 := by omega
  have H4 := Lib.hid h4
  clear hn h2 h3 h4 hm
  go_enter Try.func22, Try.ntmps22
  go_wp2_with fail
  go_loop [5] (fun i => ∃ k : Nat, k ≤ m ∧ i = .int .i64 k ∧ Hid (∀ j (hj : j < l.length), j < k → l[j] ≠ n)) (fun i => m - (intOf i).toNat)
  case atStart => exact ⟨0, by omega, rfl, Lib.hid fun j _ hj => by omega⟩
  case round =>
    obtain ⟨k, hk, rfl, HF⟩ := hrel
    by_cases hlt : k < m
    · rcases H4.out with h4 | ⟨b, off, rfl, h6, h7⟩
      · have := HN.out; omega
      · have hkl : k < l.length := by rw [HN.out]; exact hlt
        have s0 : w.cell? ⟨b, off + k, none⟩ = some (.int .i64 l[k]) := h7 k hkl
        have H7 := Lib.hid h7
        clear h7
        by_cases he : l[k] = n
        · have b1 : (l[k] == n) = true := by rw [beq_iff_eq]; exact he
          have hr := Lib.hid (hasI_yes hkl he)
          clear he
          go_wp2_with fail
          go_ret
          exact ⟨by rw [hr.out]; rfl, rfl⟩
        · have b1 : (l[k] == n) = false := by rw [beq_eq_false_iff_ne]; exact he
          have HE := Lib.hid he
          clear he
          go_wp2_with fail
          go_round
          case rel => exact ⟨k + 1, by omega, by go_num, Lib.hid fun j hj hjk => by
            by_cases e : j = k
            · subst e; exact HE.out
            · exact HF.out j hj (by omega)⟩
          case measure => simp [intOf]; omega
    · have hr := Lib.hid (hasI_no fun j hj => HF.out j hj (by rw [HN.out] at hj; omega))
      go_wp2_with fail
      go_ret
      exact ⟨by rw [hr.out]; rfl, rfl⟩


/-- The marks from k on. -/
def marksI (k n : Nat) : List Int := (List.range n).map fun j => ((k + j : Nat) : Int)
theorem marksI_length (k n : Nat) : (marksI k n).length = n := by simp [marksI]
theorem marksI_get {k n j : Nat} (h : j < (marksI k n).length) : (marksI k n)[j] = ((k + j : Nat) : Int) := by simp [marksI]

/-- A slice at the head of block g, none of it frozen. -/
def FreeAt (g : Nat) (w : World) (v : Value) (l : List Int) : Prop :=
  ∃ cap, v = .slice (some ⟨g, 0, none⟩) l.length cap ∧ g < w.heap.size ∧ l.length ≤ cap ∧ cap ≤ maxLen ∧ ∃ cur T, w.heap[g]? = some (.cells cur T (0, 0)) ∧ l.length ≤ cur.size ∧ ∀ k (hk : k < l.length), cur[k]? = some (.int .i64 l[k])
theorem FreeI.at_ {K : Nat} {w : World} {v : Value} {l : List Int} (h : FreeI K w v l) : ∃ g, K ≤ g ∧ FreeAt g w v l := by
  obtain ⟨g, cap, h1, h2, h3, h4, h5, h6⟩ := h
  exact ⟨g, h2, cap, h1, h3, h4, h5, h6⟩
theorem FreeI.nil_ {K : Nat} {w : World} {v : Value} {l : List Int} (h : FreeI K w v l) : ∀ n c, v = .slice none n c → c = 0 := by
  obtain ⟨g, cap, rfl, _⟩ := h
  intro n c e
  simp at e
theorem FreeAt.free {g : Nat} {w : World} {v : Value} {l : List Int} (h : FreeAt g w v l) : FreeI g w v l := by
  obtain ⟨cap, h1, h3, h4, h5, h6⟩ := h
  exact ⟨g, cap, h1, Nat.le_refl _, h3, h4, h5, h6⟩
theorem FreeAt.keep {g : Nat} {w w' : World} {v : Value} {l : List Int} (h : FreeAt g w v l) (hb : Below w.heap.size w w') : FreeAt g w' v l := by
  obtain ⟨cap, h1, h3, h4, h5, cur, T, h6, h7⟩ := h
  exact ⟨cap, h1, Nat.lt_of_lt_of_le h3 hb.size, h4, h5, cur, T, by rw [hb.block g h3]; exact h6, h7⟩
theorem FreeAt.lt {g : Nat} {w : World} {v : Value} {l : List Int} (h : FreeAt g w v l) : g < w.heap.size := by
  obtain ⟨cap, h1, h3, h4⟩ := h
  exact h3
theorem MostB.set_ {B : Nat} {a w : World} (h : MostB B a w) (o : Nat) (u : Value) : MostB B a (w.setCell ⟨B, o, none⟩ u) :=
  h.trans ⟨rfl, rfl, rfl, by simp [World.setCell], fun k hk _ => Below.heap_setCell _ _ _ _ hk⟩
/-- A slice that is empty, or at the head of a block from K on that can be written. -/
def FreeE (K : Nat) (w : World) (v : Value) (l : List Int) : Prop :=
  (l = [] ∧ ∃ a cap, v = .slice a 0 cap ∧ cap ≤ maxLen ∧ (a = none → cap = 0)) ∨ ∃ g, K ≤ g ∧ FreeAt g w v l
theorem FreeE.of_own {w : World} {base : Nat} {e : TypeId} {v : Value} {l : List Int} (h : w.ownsRow base e 1 v l.length (rowI l)) : FreeE base w v l := by
  rcases h.2 with ⟨rfl, h0⟩ | ⟨g, cap, cur, rfl, hb, hg, hc, hm, hs, hx⟩
  · exact .inl ⟨List.eq_nil_of_length_eq_zero h0, _, _, rfl, by unfold maxLen; omega, fun _ => rfl⟩
  · refine .inr ⟨g, hb, cap, rfl, free_lt hg, hc, hm, cur, e, hg, by omega, fun k hk => ?_⟩
    have e1 : (rowI l)[k]? = some (.int .i64 l[k]) := by simp [rowI, List.getElem?_map, List.getElem?_eq_getElem hk]
    rw [← hx, List.getElem?_take, if_pos (by omega)] at e1
    simpa using e1
theorem FreeE.new {K : Nat} {w : World} {v : Value} {l : List Int} (h : FreeE K w v l) : NewI K w v l := by
  rcases h with ⟨rfl, a, cap, rfl, hc, -⟩ | ⟨g, hg, h⟩
  · exact NewI.empty hc
  · exact h.free.new.from_ hg
theorem FreeE.holds {K : Nat} {w : World} {v : Value} {l : List Int} (h : FreeE K w v l) : HoldsI w v l := h.new.holds
theorem FreeE.keep {K : Nat} {w w' : World} {v : Value} {l : List Int} (h : FreeE K w v l) (hb : Below w.heap.size w w') : FreeE K w' v l := by
  rcases h with h | ⟨g, hg, h⟩
  · exact .inl h
  · exact .inr ⟨g, hg, h.keep hb⟩
theorem FreeE.from_ {K K' : Nat} {w : World} {v : Value} {l : List Int} (h : FreeE K w v l) (hk : K' ≤ K) : FreeE K' w v l := by
  rcases h with h | ⟨g, hg, h⟩
  · exact .inl h
  · exact .inr ⟨g, Nat.le_trans hk hg, h⟩
theorem FreeE.most {K B : Nat} {w w' : World} {v : Value} {l : List Int} (h : FreeE K w v l) (hm : MostB B w w') (hB : B < K) : FreeE K w' v l := by
  rcases h with h | ⟨g, hg, cap, h1, h3, h4, h5, cur, T, h6, h7⟩
  · exact .inl h
  · exact .inr ⟨g, hg, cap, h1, Nat.lt_of_lt_of_le h3 hm.size, h4, h5, cur, T, by rw [hm.block g (by omega) h3]; exact h6, h7⟩
theorem FreeE.take {K : Nat} {w : World} {a : Option Addr} {cap : Nat} {l : List Int} (k : Nat) (hk : k ≤ l.length) (h : FreeE K w (.slice a l.length cap) l) : FreeE K w (.slice a k cap) (l.take k) := by
  have hl : (l.take k).length = k := by rw [List.length_take]; omega
  rcases h with ⟨rfl, a', cap', h1, h2, h9⟩ | ⟨g, hg, cap', h1, h3, h4, h5, cur, T, h6, h7, h8⟩
  · obtain rfl : k = 0 := by simpa using hk
    simp only [Value.slice.injEq] at h1
    exact .inl ⟨rfl, a, cap, rfl, by omega, by rw [h1.1, h1.2.2]; exact h9⟩
  · simp only [Value.slice.injEq, true_and] at h1
    obtain ⟨rfl, rfl⟩ := h1
    exact .inr ⟨g, hg, cap, by rw [hl], h3, by omega, h5, cur, T, h6, by omega, fun j hj => by rw [h8 j (by omega), List.getElem_take]⟩

set_option maxHeartbeats 1000000 in
theorem markIntS_at (v : Value) (len g : Nat) (l : List Int) (w : World) (hl : l.length = len) (h : FreeAt g w v l) (hm : len ≤ 281474976710656) :
    Calls Try.prog 46 #[v, .int .i64 1] w fun e w' => e = .returned (.int .i64 ((1 + len : Nat) : Int)) ∧ FreeAt g w' v (marksI 1 len) ∧ MostB g w w' := by
  obtain ⟨cap, rfl, h3, h4, h5, cur0, T, h6, h7, h8⟩ := h
  rw [hl] at *
  have H3 := Lib.hid h3
  have H45 := Lib.hid (And.intro h4 h5)
  clear h3 h4 h5 h8 hl
  go_enter Try.func46, Try.ntmps46
  go_wp2_with fail
  go_loopw [1, 5] (fun s i wr => ∃ (k : Nat) (cur : Array Value), k ≤ len ∧ i = .int .i64 k ∧ s = .int .i64 ((1 + k : Nat) : Int) ∧ Hid (wr.heap[g]? = some (.cells cur T (0, 0)) ∧ len ≤ cur.size ∧ ∀ j, j < k → cur[j]? = some (.int .i64 ((1 + j : Nat) : Int))) ∧ MostB g w wr) (fun _ i _ => len - (intOf i).toNat)
  case atStart => exact ⟨0, cur0, by omega, rfl, rfl, Lib.hid ⟨h6, h7, fun j hj => by omega⟩, MostB.refl _ _⟩
  case round =>
    obtain ⟨k, cur, hk, rfl, rfl, HC, hbr⟩ := hrel
    by_cases hlt : k < len
    · obtain ⟨hc1, hc2, hc3⟩ := HC.out
      have f0 : wr.frozen? ⟨g, k, none⟩ = false := by simp [World.frozen?, hc1]
      obtain ⟨x0, t0⟩ : ∃ x, wr.cell? ⟨g, k, none⟩ = some x := by
        refine ⟨cur[k]'(by omega), ?_⟩
        simp only [World.cell?, hc1]
        exact Array.getElem?_eq_getElem _
      have HC3 := Lib.hid (And.intro hc1 (And.intro hc2 hc3))
      clear hc1 hc2 hc3 HC h6 h7
      go_wp2_with fail
      go_roundw
      case rel =>
        obtain ⟨d1, d2, d3⟩ := HC3.out
        refine ⟨k + 1, _, by omega, by go_num, by go_num, Lib.hid ⟨Joins.block_setCell d1 _, by simpa using d2, fun j hjk => ?_⟩, hbr.set_ _ _⟩
        rw [Array.getElem?_setIfInBounds]
        by_cases hjk' : j = k
        · subst hjk'
          rw [if_pos rfl, if_pos (by omega), Int.natCast_add]
          rfl
        · rw [if_neg (by omega)]
          exact d3 j (by omega)
      case measure => simp [intOf]; omega
    · obtain ⟨d1, d2, d3⟩ := HC.out
      have he : k = len := by omega
      subst he
      clear HC
      go_wp2_with fail
      go_ret
      have hg : g < wr.heap.size := by
        rcases Nat.lt_or_ge g wr.heap.size with h | h
        · exact h
        · rw [Array.getElem?_eq_none h] at d1; cases d1
      exact ⟨rfl, ⟨cap, by rw [marksI_length], hg, by rw [marksI_length]; exact H45.out.1, H45.out.2, cur, T, d1, by rw [marksI_length]; exact d2, fun j hj => by rw [marksI_get hj]; exact d3 j (by rw [marksI_length] at hj; exact hj)⟩, hbr⟩
theorem markIntS_zero (a : Option Addr) (cap : Nat) (w : World) :
    Calls Try.prog 46 #[.slice a 0 cap, .int .i64 1] w fun e w' => e = .returned (.int .i64 1) ∧ w = w' := by
  go_enter Try.func46, Try.ntmps46
  go_wp2_with fail
  go_loop [1, 5] (fun s i => s = .int .i64 1 ∧ i = .int .i64 0) (fun _ _ => 0)
  case atStart => exact ⟨rfl, rfl⟩
  case round =>
    obtain ⟨rfl, rfl⟩ := hrel
    go_wp2_with fail
    go_ret
    exact ⟨rfl, rfl⟩
/-- The marks laid in whatever a call gave. -/
theorem markIntS_e (v : Value) (K : Nat) (l : List Int) (w : World) (h : FreeE K w v l) (hm : l.length ≤ 281474976710656) :
    Calls Try.prog 46 #[v, .int .i64 1] w fun e w' => e = .returned (.int .i64 ((1 + l.length : Nat) : Int)) ∧ HoldsI w' v (marksI 1 l.length) ∧ Below K w w' := by
  rcases h with ⟨rfl, a, cap, rfl, hc, -⟩ | ⟨g, hg, h⟩
  · refine (markIntS_zero a cap w).mono ?_
    rintro e w' ⟨rfl, rfl⟩
    exact ⟨rfl, ⟨a, cap, rfl, Nat.zero_le _, hc, .inl rfl⟩, Below.refl _ _⟩
  · refine (markIntS_at v l.length g l w rfl h hm).mono ?_
    rintro e w' ⟨rfl, h2, h3⟩
    refine ⟨rfl, h2.free.holds, ⟨h3.os, h3.tape, h3.output, h3.size, fun k hk => ?_⟩⟩
    rcases Nat.lt_or_ge k w.heap.size with h' | h'
    · exact h3.block k (by omega) h'
    · have := h.lt; omega

set_option maxHeartbeats 400000 in
theorem heldIntS_1 (v : Value) (len : Nat) (w : World) (h : HoldsI w v (marksI 1 len)) (hm : len ≤ 281474976710656) :
    Calls Try.prog 47 #[v, .int .i64 1] w fun e w' => e = .returned (.int .i64 ((1 + len : Nat) : Int)) ∧ w = w' := by
  obtain ⟨a, cap, rfl, h2, h3, h4⟩ := h
  rw [marksI_length] at *
  have H4 := Lib.hid h4
  clear h2 h3 h4
  go_enter Try.func47, Try.ntmps47
  go_wp2_with fail
  go_loop [1, 5] (fun s i => ∃ k : Nat, k ≤ len ∧ i = .int .i64 k ∧ s = .int .i64 ((1 + k : Nat) : Int)) (fun _ i => len - (intOf i).toNat)
  case atStart => exact ⟨0, by omega, rfl, rfl⟩
  case round =>
    obtain ⟨k, hk, rfl, rfl⟩ := hrel
    by_cases hlt : k < len
    · rcases H4.out with h4 | ⟨b, off, rfl, h6, h7⟩
      · exact absurd ((marksI_length 1 len).symm.trans h4) (by omega)
      · have s0 : w.cell? ⟨b, off + k, none⟩ = some (.int .i64 ((1 + k : Nat) : Int)) := by
          have h := h7 k (by rw [marksI_length]; exact hlt)
          rw [marksI_get] at h; exact h
        have b1 : (((1 + k : Nat) : Int) != ((1 + k : Nat) : Int)) = false := by simp
        clear h7
        go_wp2_with fail
        go_round
        case rel => exact ⟨k + 1, by omega, by go_num, by go_num⟩
        case measure => simp [intOf]; omega
    · have he : k = len := by omega
      subst he
      go_wp2_with fail
      go_ret
      exact ⟨rfl, rfl⟩
end Go.Proofs.Ytdmbahpifbidlaa
