/-
  The program's chapter 12, last part: PlugMany, PlugIn.
-/
import Derived.Test.YthlcjojhmhoadaaPgIk
import Derived.Test.YthlcjojhmhoadaaGYh
import Derived.Laws.AppendOwnNone
import Derived.Lib.SliceRun
import Derived.WalkSpells
import Derived.Maps.AppendAt
namespace Go.Proofs.Ythlcjojhmhoadaa
open Go.RowKit
set_option linter.unusedVariables false

set_option maxRecDepth 10000 in
set_option maxHeartbeats 400000 in
theorem implPlugMany_any (vu : Value) (u : List (List Int)) (w : World) (hu : HoldsY w vu u) :
    Calls Try.prog 20 #[vu] w fun e w' => e = .returned (.int .i64 (plugM u)) ∧ Below w.heap.size w w' := by
  have HUV := Lib.hid (implUsesValid_same vu u w hu)
  cases hok : usesOk u
  · have hr := Lib.hid (show plugM u = -1 from by unfold plugM; rw [hok]; rfl)
    rw [hok] at HUV
    clear hok hu
    go_enter Try.func20, Try.ntmps20
    go_wp2_with fail
    refine HUV.out.mono ?_
    rintro e w2 ⟨rfl, rfl⟩
    go_wp2_with fail
    go_ret
    exact ⟨by rw [hr.out]; rfl, Below.refl _ _⟩
  · have HM := Lib.hid (mostPlugged_any vu u w hu hok)
    rw [hok] at HUV
    clear hok hu
    go_enter Try.func20, Try.ntmps20
    go_wp2_with fail
    refine HUV.out.mono ?_
    rintro e w2 ⟨rfl, rfl⟩
    go_wp2_with fail
    refine HM.out.mono ?_
    rintro e w3 ⟨rfl, b3⟩
    go_wp2_with fail
    go_ret
    exact ⟨rfl, b3⟩
theorem own_farP {w w' : World} {base n size : Nat} {e : TypeId} {v : Value} {xs : List Value} (h : w.ownsRow base e size v n xs) (hb : ∀ k, v.ownBlock = some k → w'.heap[k]? = w.heap[k]?) : w'.ownsRow base e size v n xs := by
  refine ⟨h.1, ?_⟩
  rcases h.2 with q | ⟨g, cap, cur, rfl, q1, q2, q3⟩
  · exact .inl q
  · exact .inr ⟨g, cap, cur, rfl, q1, by rw [hb g (by simp [Value.ownBlock])]; exact q2, q3⟩
/-- A row beside the slice of slices in block G and beside the row in block pb. -/
def FarI (G : Nat) (pb : Option Nat) (w : World) (v : Value) (l : List Int) : Prop :=
  ∃ (a : Option Addr) (cap : Nat), v = .slice a l.length cap ∧ l.length ≤ cap ∧ cap ≤ maxLen ∧ (a = none → cap = 0) ∧
    (l.length = 0 ∨ ∃ b off, a = some ⟨b, off, none⟩ ∧ b < w.heap.size ∧ b ≠ G ∧ pb ≠ some b ∧ ∀ k (hk : k < l.length), w.cell? ⟨b, off + k, none⟩ = some (.int .i64 l[k]))
theorem cell_of_heap {w w' : World} {b o : Nat} (h : w'.heap[b]? = w.heap[b]?) : w'.cell? ⟨b, o, none⟩ = w.cell? ⟨b, o, none⟩ := by
  simp only [World.cell?, h]
theorem FarI.move {G : Nat} {pb pb' : Option Nat} {w w' : World} {v : Value} {l : List Int} (h : FarI G pb w v l) (hs : w.heap.size ≤ w'.heap.size) (hb : ∀ b, b < w.heap.size → b ≠ G → pb ≠ some b → w'.heap[b]? = w.heap[b]?) (hp : ∀ b, b < w.heap.size → pb ≠ some b → pb' ≠ some b) : FarI G pb' w' v l := by
  obtain ⟨a, cap, h1, h2, h3, h4, h5⟩ := h
  refine ⟨a, cap, h1, h2, h3, h4, ?_⟩
  rcases h5 with h5 | ⟨b, off, q1, q2, q3, q4, q5⟩
  · exact .inl h5
  · exact .inr ⟨b, off, q1, Nat.lt_of_lt_of_le q2 hs, q3, hp b q2 q4, fun k hk => (cell_of_heap (hb b q2 q3 q4)).trans (q5 k hk)⟩
theorem FarI.holds {G : Nat} {pb : Option Nat} {w : World} {v : Value} {l : List Int} (h : FarI G pb w v l) : HoldsI w v l ∧ NilOk v := by
  obtain ⟨a, cap, h1, h2, h3, h4, h5⟩ := h
  refine ⟨⟨a, cap, h1, h2, h3, ?_⟩, fun n c e => ?_⟩
  · rcases h5 with h5 | ⟨b, off, q1, q2, q3, q4, q5⟩
    · exact .inl h5
    · exact .inr ⟨b, off, q1, q2, q5⟩
  · rw [h1] at e
    simp only [Value.slice.injEq] at e
    rw [← e.2.2]; exact h4 e.1
theorem FarI.of {G : Nat} {pb : Option Nat} {w w' : World} {v : Value} {l : List Int} (h : HoldsI w v l) (hn : NilOk v) (hb : Below w.heap.size w w') (hG : w.heap.size ≤ G) (hp : ∀ b, b < w.heap.size → pb ≠ some b) : FarI G pb w' v l := by
  obtain ⟨a, cap, h1, h2, h3, h4⟩ := h
  refine ⟨a, cap, h1, h2, h3, fun e => hn _ _ (by rw [h1, e]), ?_⟩
  rcases h4 with h4 | ⟨b, off, q1, q2, q3⟩
  · exact .inl h4
  · exact .inr ⟨b, off, q1, Nat.lt_of_lt_of_le q2 hb.size, by omega, hp b q2, fun k hk => (cell_of_heap (hb.block b q2)).trans (q3 k hk)⟩
theorem FarI.nil {G : Nat} {pb : Option Nat} {w : World} : FarI G pb w (.slice none 0 0) [] := ⟨none, 0, rfl, Nat.le_refl _, by unfold maxLen; omega, fun _ => rfl, .inl rfl⟩
/-- A slice of slices in block G whose rows lie beside it, and beside the row in block pb. -/
structure LeftY (G : Nat) (pb : Option Nat) (n : Nat) (w : World) (R : Nat → List Int) : Prop where
  out : ∃ cur, w.heap[G]? = some (.cells cur 27 (0, 0)) ∧ n ≤ cur.size ∧ ∀ j, j < n → ∃ v, cur[j]? = some v ∧ FarI G pb w v (R j)
  apart : pb ≠ some G
section
variable {G n : Nat} {pb pb' : Option Nat} {w w' : World} {R : Nat → List Int}
theorem LeftY.lt (h : LeftY G pb n w R) : G < w.heap.size := by
  obtain ⟨cur, h1, _⟩ := h.out
  exact free_lt h1
theorem LeftY.move (h : LeftY G pb n w R) (hs : w.heap.size ≤ w'.heap.size) (hb : ∀ b, b < w.heap.size → pb ≠ some b → w'.heap[b]? = w.heap[b]?) (hp : ∀ b, b < w.heap.size → pb ≠ some b → pb' ≠ some b) : LeftY G pb' n w' R := by
  have hl := h.lt
  obtain ⟨cur, h1, h2, h3⟩ := h.out
  refine ⟨⟨cur, (hb G hl h.apart).trans h1, h2, fun j hj => ?_⟩, hp G hl h.apart⟩
  obtain ⟨v, q1, q2⟩ := h3 j hj
  exact ⟨v, q1, q2.move hs (fun b b1 _ b3 => hb b b1 b3) hp⟩
theorem LeftY.keep (h : LeftY G pb n w R) (hb : Below w.heap.size w w') : LeftY G pb n w' R := h.move hb.size (fun b hl _ => hb.block b hl) (fun _ _ h => h)
theorem LeftY.grown (h : LeftY G pb n w R) (hg : w.grownBy w' pb) (hp : pb' = pb ∨ pb' = some w.heap.size) : LeftY G pb' n w' R := h.move hg.size (fun b hl hne => hg.block b hl (fun h => hne h.symm)) (fun b hl hne => by
  rcases hp with e | e
  · rw [e]; exact hne
  · rw [e]; intro h; simp only [Option.some.injEq] at h; omega)
theorem LeftY.cell (h : LeftY G pb n w R) {i : Nat} (hi : i < n) : (∃ x, w.cell? ⟨G, i, none⟩ = some x) ∧ w.frozen? ⟨G, i, none⟩ = false := by
  obtain ⟨cur, h1, h2, h3⟩ := h.out
  obtain ⟨v, q1, _⟩ := h3 i hi
  exact ⟨⟨v, by simp only [World.cell?, h1]; exact q1⟩, by simp [World.frozen?, h1]⟩
theorem LeftY.set (h : LeftY G pb n w R) {i : Nat} {v : Value} {l : List Int} (hv : FarI G pb w v l) : LeftY G pb n (w.setCell ⟨G, i, none⟩ v) (upd R i l) := by
  obtain ⟨cur, h1, h2, h3⟩ := h.out
  have hsz : (w.setCell ⟨G, i, none⟩ v).heap.size = w.heap.size := by simp [World.setCell]
  have far : ∀ x m, FarI G pb w x m → FarI G pb (w.setCell ⟨G, i, none⟩ v) x m := fun x m hx => hx.move (by omega) (fun b _ hb _ => Below.heap_setCell _ _ _ _ hb) (fun _ _ h => h)
  refine ⟨⟨_, Joins.block_setCell h1 (i := i) v, by simpa using h2, fun j hj => ?_⟩, h.apart⟩
  by_cases e : j = i
  · subst e
    rw [upd_self]
    exact ⟨v, by rw [Array.getElem?_setIfInBounds_self, if_pos (by omega)], far _ _ hv⟩
  · rw [upd_ne e]
    obtain ⟨x, q1, q2⟩ := h3 j hj
    exact ⟨x, by rw [Array.getElem?_setIfInBounds_ne (Ne.symm e)]; exact q1, far _ _ q2⟩
theorem LeftY.holds (h : LeftY G pb n w R) {cap : Nat} {L : List (List Int)} (hn : L.length = n) (hc : n ≤ cap) (hm : cap ≤ maxLen) (hR : ∀ j, j < n → R j = rowAt L j) : HoldsY w (.slice (some ⟨G, 0, none⟩) n cap) L := by
  have hl := h.lt
  obtain ⟨cur, h1, h2, h3⟩ := h.out
  refine ⟨some ⟨G, 0, none⟩, cap, by rw [hn], by omega, hm, (fun e => by cases e), .inr ⟨G, 0, rfl, hl, fun k hk => ?_⟩⟩
  obtain ⟨v, q1, q2⟩ := h3 k (by omega)
  rw [hR k (by omega)] at q2
  exact ⟨v, by rw [Nat.zero_add]; simp only [World.cell?, h1]; exact q1, q2.holds.1, q2.holds.2⟩
end
theorem FarI.one {G : Nat} {pb : Option Nat} {w : World} (x : Int) (hG : G < w.heap.size) (hp : pb ≠ some w.heap.size) : FarI G pb (w.alloc (.cells #[.int .i64 x] 3)) (.slice (some ⟨w.heap.size, 0, none⟩) 1 1) [x] := by
  refine ⟨_, 1, rfl, Nat.le_refl _, by unfold maxLen; omega, (fun e => by cases e), .inr ⟨w.heap.size, 0, rfl, by simp, by omega, hp, fun k hk => ?_⟩⟩
  have hk0 : k = 0 := by simpa using hk
  subst hk0
  have := heap_alloc_new w (.cells #[.int .i64 x] 3)
  simp only [World.cell?, Nat.zero_add, this]
  rfl
/-- The slices that a slice of slices holds. -/
theorem HoldsY.news {w : World} {a : Addr} {c : Nat} {u : List (List Int)} (h : HoldsY w (.slice (some a) u.length c) u) : ∃ us : List Value, us.length = u.length ∧ (∀ k v, us[k]? = some v → w.cell? (a.add k) = some v ∧ HoldsI w v (rowAt u k) ∧ NilOk v) := by
  obtain ⟨a', cap', he, h2, h3, h0, h4⟩ := h
  simp only [Value.slice.injEq, true_and] at he
  obtain ⟨rfl, rfl⟩ := he
  rcases h4 with h4 | ⟨b, off, h5, h6, h7⟩
  · exact ⟨[], by simp [h4], fun k v hk => by simp at hk⟩
  · simp only [Option.some.injEq] at h5
    subst h5
    have hc : ∀ k, ∃ v, k < u.length → w.cell? ⟨b, off + k, none⟩ = some v ∧ HoldsI w v (rowAt u k) ∧ NilOk v := fun k => by
      by_cases hk : k < u.length
      · obtain ⟨v, hv⟩ := h7 k hk; exact ⟨v, fun _ => hv⟩
      · exact ⟨.slice none 0 0, fun h => absurd h hk⟩
    obtain ⟨f, hf⟩ := Classical.axiomOfChoice hc
    refine ⟨(List.range u.length).map f, by simp, fun k v hk => ?_⟩
    obtain ⟨q1, q2⟩ := List.getElem?_eq_some_iff.1 hk
    rw [List.getElem_map, List.getElem_range] at q2
    subst q2
    have e : (⟨b, off, none⟩ : Addr).add k = ⟨b, off + k, none⟩ := by simp [Addr.add]; try omega
    rw [e]
    exact hf k (by simpa using q1)
/-- The capacity of a slice of slices. -/
theorem clone_left {K : Nat} {w w' : World} {v : Value} {u : List (List Int)} {us : List Value} (hK : K = w.heap.size) (ho : w'.ownsRow K 27 1 v u.length us) (hl : us.length = u.length) (hus : ∀ k v, us[k]? = some v → HoldsI w v (rowAt u k) ∧ NilOk v) (hb : Below K w w') (h0 : 0 < u.length) : ∃ G cap, v = .slice (some ⟨G, 0, none⟩) u.length cap ∧ u.length ≤ cap ∧ cap ≤ maxLen ∧ K ≤ G ∧ LeftY G none u.length w' (rowAt u) := by
  subst hK
  rcases ho.2 with ⟨_, h⟩ | ⟨g, cap, cur, rfl, q1, q2, q3, q4, q5, q6⟩
  · omega
  · refine ⟨g, cap, rfl, q3, q4, q1, ⟨cur, q2, by omega, fun j hj => ?_⟩, by simp⟩
    have hj2 : j < us.length := by omega
    have e : cur[j]? = some us[j] := by
      rw [← Array.getElem?_toList, ← List.getElem?_eq_getElem hj2, ← q6, List.getElem?_take, if_pos (by omega)]
    obtain ⟨r1, r2⟩ := hus j _ (List.getElem?_eq_getElem hj2)
    exact ⟨us[j], e, FarI.of r1 r2 hb q1 (fun _ _ => by simp)⟩
/-- A copy of a slice of slices. -/
def CloneYG (u : List (List Int)) (n : Nat) (w : World) (e : Ending) (w' : World) : Prop := ∃ v', e = .returned v' ∧ Below w.heap.size w w' ∧ (0 < n → ∃ G cap, v' = .slice (some ⟨G, 0, none⟩) n cap ∧ n ≤ cap ∧ cap ≤ maxLen ∧ w.heap.size ≤ G ∧ LeftY G none n w' (rowAt u))
set_option maxRecDepth 10000 in
set_option maxHeartbeats 1000000 in
theorem slCloneY_any (v : Value) (u : List (List Int)) (w : World) (h : HoldsY w v u) (h6 : u.length ≤ 6) :
    Calls Try.prog 50 #[v] w (CloneYG u u.length w) := by
  obtain ⟨i1, ri, rz0, rz1, rz2⟩ := info_parts infoRow
  have qN : ∀ (w : World) (a : Option Addr) (n c : Nat), (binOp .eql 23 (.slice a n c) (.slice none 0 0)).run Try.prog w = .ok (.bool a.isNone) w := fun w a n c => Lib.run_eql_slice_nil w _ _ a n c 0 0 Try.underlying23
  have h0 := h
  obtain ⟨a, c, rfl, hc1, hc2, hnil, -⟩ := h
  rcases a with _ | x
  · have hc := hnil rfl
    obtain ⟨n, hn⟩ : ∃ n, n = u.length := ⟨_, rfl⟩
    rw [← hn] at hc1 ⊢
    obtain rfl : n = 0 := by omega
    clear h0 hn ri rz0 rz1 rz2
    go_enter Try.func50, Try.ntmps50
    go_wp2_with fail
    go_ret
    exact ⟨_, rfl, Below.refl _ _, fun h => absurd h (Nat.lt_irrefl 0)⟩
  · obtain ⟨us, hl, hus⟩ := h0.news
    have GI := Lib.hid ri
    have GZ0 := Lib.hid rz0
    have GZ1 := Lib.hid rz1
    have GZ2 := Lib.hid rz2
    have HB := Lib.hid ((Below.refl w.heap.size w).alloc (Nat.le_refl _) (.cells #[] 27))
    have HO := Lib.hid (show (w.alloc (.cells #[] 27)).ownsRow w.heap.size 27 1 (.slice (some ⟨w.heap.size, 0, none⟩) 0 0) 0 [] from own_empty (Nat.le_refl _) (heap_alloc_new _ _))
    have HN := Lib.hid fun j v (hj : us[j]? = some v) => (show (w.alloc (.cells #[] 27)).cell? (x.add j) = some v from by
      have q := (hus j v hj).1
      have hx : (x.add j).block < w.heap.size := by
        rcases Nat.lt_or_ge (x.add j).block w.heap.size with hlt | hge
        · exact hlt
        · simp only [World.cell?, Array.getElem?_eq_none hge] at q; cases q
      exact (HB.out.cell hx).trans q)
    have H1 := Lib.hid (show ∀ v ∈ us, v.oneCell' = true from fun v hv => by
      obtain ⟨k, hk, rfl⟩ := List.getElem_of_mem hv
      obtain ⟨a, cap, e, _⟩ := (hus k _ (List.getElem?_eq_getElem hk)).2.1
      rw [e]; rfl)
    have HLF := Lib.hid fun (w' : World) (v' : Value) (ho : w'.ownsRow w.heap.size 27 1 v' u.length us) (hb : Below w.heap.size w w') (hn : 0 < u.length) => clone_left rfl ho hl (fun k v hk => (hus k v hk).2) hb hn
    obtain ⟨n, hn⟩ : ∃ n, n = u.length := ⟨_, rfl⟩
    have HNL := Lib.hid hn
    have HL := Lib.hid hl
    rw [← hn] at h6 HLF HL hc1 ⊢
    clear h0 hl hus ri rz0 rz1 rz2 hn
    go_enter Try.func50, Try.ntmps50
    go_wp2_with (at_builtin; refine wpList_append_own _ rfl _ _ 23 rfl w.heap.size 27 i1 (.slice none 0 0) 1 24 Try.underlying23 GI.out GZ0.out GZ1.out GZ2.out rfl (by decide) _ 0 [] rfl HO.out x n c us rfl (by rw [HL.out, Nat.mul_one]) HN.out H1.out (by unfold maxLen; omega) (by omega) (by simp) ?_; intro v4 w4 hown4 hgrow4 _; have HB4 := Lib.hid (HB.out.trans (own_below (v := .slice (some ⟨w.heap.size, 0, none⟩) 0 0) hgrow4 (by simp) (fun k hk => (own_lt HO.out k hk).1))); have HO4 := Lib.hid hown4; clear hown4 hgrow4)
    go_ret
    have ho4 := HO4.out
    rw [Nat.zero_add, List.nil_append] at ho4
    exact ⟨_, rfl, HB4.out, fun h => HLF.out _ _ ho4 HB4.out h⟩
theorem own_nilP {K : Nat} {w : World} : OwnI K w (.slice none 0 0) [] := ⟨by simp [rowI], .inl ⟨rfl, rfl⟩⟩
/-- The first plugs of the best list, one more. -/
theorem best_take {u : List (List Int)} (hu : usesOk u = true) {k : Nat} (hk : k < u.length) : (plugI u).take (k + 1) = (plugI u).take k ++ [(plugI u).getD k 0] := by
  have hl := best_len hu
  rw [← List.take_append_getElem (by omega), getD_ps (by omega)]
/-- Of a box's plugs that are not the best one, those ahead of it are lesser. -/
theorem before_best {u : List (List Int)} (hu : usesOk u = true) {k t : Nat} (hk : k < u.length) (ht : t < (useA u k).length) (hno : ∀ i, i < t → (useA u k).getD i 0 ≠ (plugI u).getD k 0) (hne : (useA u k).getD t 0 ≠ (plugI u).getD k 0) : keyP ((useA u k).getD t 0) < keyP ((plugI u).getD k 0) := by
  obtain ⟨h1, h2⟩ := usesOk_us hu k hk
  have ht6 := h2 _ (List.getElem_mem ht)
  rw [getD_ps ht] at hne ⊢
  unfold keyP
  rw [if_neg (show ¬ (useA u k)[t] = -1 by omega)]
  by_cases hb : (plugI u).getD k 0 = -1
  · rw [if_pos hb]; omega
  · rw [if_neg hb]
    obtain ⟨s, hs, he⟩ := List.getElem_of_mem (best_use hu hk hb).1
    have hst : t < s := by
      rcases Nat.lt_trichotomy s t with hlt | e | hlt
      · exact absurd (by rw [getD_ps hs]; exact he) (hno s hlt)
      · subst e; exact absurd he hne
      · exact hlt
    rw [← he]
    exact List.pairwise_iff_getElem.1 h1 t s ht hs hst
theorem best_none {u : List (List Int)} (hu : usesOk u = true) {k : Nat} (hk : k < u.length) (hno : ∀ i, i < (useA u k).length → (useA u k).getD i 0 ≠ (plugI u).getD k 0) : (plugI u).getD k 0 = -1 := by
  refine Classical.byContradiction fun hb => ?_
  obtain ⟨s, hs, he⟩ := List.getElem_of_mem (best_use hu hk hb).1
  exact hno s hs (by rw [getD_ps hs]; exact he)
/-- What the rows are when the first k boxes have their plug. -/
def LRow (u : List (List Int)) (k : Nat) (R : Nat → List Int) : Prop := (∀ j, j < k → R j = oneP ((plugI u).getD j 0)) ∧ ∀ j, k < j → j < u.length → R j = useA u j
theorem LRow.try_ {u : List (List Int)} {k : Nat} {R : Nat → List Int} (h : LRow u k R) (x : Int) : ∀ j, j < u.length → upd R k [x] j = rowAt (leftU u (plugI u) k x) j := fun j hj => by
  show _ = useA (leftU u (plugI u) k x) j
  rw [leftU_at hj]
  by_cases c1 : j < k
  · rw [if_pos c1, upd_ne (by omega)]; exact h.1 j c1
  · rw [if_neg c1]
    by_cases c2 : j = k
    · rw [if_pos c2, c2, upd_self]
    · rw [if_neg c2, upd_ne c2]; exact h.2 j (by omega) hj
theorem LRow.upd {u : List (List Int)} {k : Nat} {R : Nat → List Int} (h : LRow u k R) (l : List Int) : LRow u k (upd R k l) := ⟨fun j hj => by rw [upd_ne (by omega)]; exact h.1 j hj, fun j hj hn => by rw [upd_ne (by omega)]; exact h.2 j hj hn⟩
theorem LRow.next {u : List (List Int)} {k : Nat} {R : Nat → List Int} (h : LRow u k R) : LRow u (k + 1) (Go.Proofs.Ythlcjojhmhoadaa.upd R k (oneP ((plugI u).getD k 0))) := ⟨fun j hj => by
  by_cases e : j = k
  · subst e; rw [upd_self]
  · rw [upd_ne e]; exact h.1 j (by omega), fun j hj hn => by rw [upd_ne (by omega)]; exact h.2 j (by omega) hn⟩
set_option maxRecDepth 10000 in
set_option maxHeartbeats 4000000 in
theorem implPlugIn_any (vu : Value) (u : List (List Int)) (w : World) (hu : HoldsY w vu u) :
    Calls Try.prog 22 #[vu] w fun e w' => ∃ v', e = .returned v' ∧ FreeE w.heap.size w' v' (plugI u) ∧ Below w.heap.size w w' := by
  obtain ⟨i0, hi, hz0, hz1, hz2⟩ := info_parts infoInt
  have HI := Lib.hid hi
  have HZ0 := Lib.hid hz0
  have HZ1 := Lib.hid hz1
  have HZ2 := Lib.hid hz2
  clear hi hz0 hz1 hz2
  have HUV := Lib.hid (implUsesValid_same vu u w hu)
  cases hok : usesOk u
  · have hr := Lib.hid (show plugI u = [] from by unfold plugI; rw [hok]; rfl)
    rw [hok] at HUV
    clear hok hu
    go_enter Try.func22, Try.ntmps22
    go_wp2_with fail
    go_step3
    go_wp2_with fail
    refine HUV.out.mono ?_
    rintro e w2 ⟨rfl, rfl⟩
    go_wp2_with fail
    try rw [Exit.noGoto_ret]
    go_ret
    exact ⟨_, rfl, by rw [hr.out]; exact free_none, Below.refl _ _⟩
  · have h6 : u.length ≤ 6 := (usesOk_iff.1 hok).1
    have HM := Lib.hid (mostPlugged_any vu u w hu hok)
    have HC := Lib.hid fun (w' : World) (hs : Below w.heap.size w w') => slCloneY_any vu u w' (hu.keep hs) h6
    rw [hok] at HUV
    by_cases h0 : u.length = 0
    · have hr := Lib.hid (show plugI u = [] from List.eq_nil_of_length_eq_zero (by rw [best_len hok]; exact h0))
      obtain ⟨a, c, rfl⟩ : ∃ a c, vu = .slice a u.length c := by obtain ⟨a, c, e, _⟩ := hu; exact ⟨a, c, e⟩
      obtain ⟨n, hn⟩ : ∃ n, n = u.length := ⟨_, rfl⟩
      rw [← hn] at HUV HM HC h0 ⊢
      subst h0
      clear hok hu hn h6
      go_enter Try.func22, Try.ntmps22
      go_wp2_with fail
      go_step3
      go_wp2_with fail
      refine HUV.out.mono ?_
      rintro e w2 ⟨rfl, rfl⟩
      go_wp2_with fail
      refine HM.out.mono ?_
      rintro e w3 ⟨rfl, b3⟩
      have B3 := Lib.hid b3
      clear b3
      go_wp2_with fail
      refine (HC.out _ B3.out).mono ?_
      rintro e w4 ⟨v4, rfl, b4, -⟩
      have B4 := Lib.hid (B3.out.trans (b4.mono B3.out.size))
      clear b4
      go_wp2_with fail
      go_step3
      go_wp2_with fail
      go_loopw [5, 19] (fun va i wr => va = .slice none 0 0 ∧ i = .int .i64 0 ∧ wr = w4) (fun _ _ _ => 0)
      case atStart => exact ⟨rfl, rfl, rfl⟩
      case round =>
        obtain ⟨rfl, rfl, rfl⟩ := hrel
        go_wp2_with fail
        try rw [Exit.noGoto_ret]
        go_ret
        exact ⟨_, rfl, by rw [hr.out]; exact free_none, B4.out⟩
    · have hn0 : 0 < u.length := by omega
      have BT := Lib.hid fun k (hk : k < u.length) => best_take hok hk
      have BLE := Lib.hid (best_len hok)
      have BEF := Lib.hid fun k t (hk : k < u.length) ht hno hne => before_best hok (k := k) (t := t) hk ht hno hne
      have BNO := Lib.hid fun k (hk : k < u.length) hno => best_none hok (k := k) hk hno
      have BUS := Lib.hid fun k (hk : k < u.length) hne => best_use hok (j := k) hk hne
      have LYES := Lib.hid fun k x (hk : k < u.length) (hx : x ∈ useA u k) he => left_yes hok (x := x) hk hx he
      have LNO := Lib.hid fun k x (hk : k < u.length) (hx : x ∈ useA u k) hnew hlt => left_no hok (x := x) hk hx hnew hlt
      have LOK := Lib.hid fun k x h0 h1 => leftU_ok (k := k) (r := plugI u) (x := x) hok (fun j _ hj => best_at hok hj) h0 h1
      have LLE := Lib.hid fun k x => leftU_len u (plugI u) k x
      have MM := Lib.hid fun (L : List (List Int)) v w' (h : HoldsY w' v L) (ho : usesOk L = true) => mostPlugged_any v L w' h ho
      have RL6 := Lib.hid fun k => useA_len hok k
      have HRNG := Lib.hid fun k (hk : k < u.length) x (hx : x ∈ useA u k) => (usesOk_us hok k hk).2 x hx
      have HU0 := Lib.hid hu
      have LTRY := Lib.hid fun k R (h : LRow u k R) x => h.try_ x
      obtain ⟨a, c, rfl⟩ : ∃ a c, vu = .slice a u.length c := by obtain ⟨a, c, e, _⟩ := hu; exact ⟨a, c, e⟩
      have LR0 := Lib.hid (show LRow u 0 (rowAt u) from ⟨fun j hj => by omega, fun j _ _ => rfl⟩)
      obtain ⟨n, hn⟩ : ∃ n, n = u.length := ⟨_, rfl⟩
      have HNU := Lib.hid hn
      rw [← hn] at HUV HM HC h0 hn0 h6 BT BLE BEF BNO BUS LYES LNO LLE HRNG HU0 LTRY ⊢
      obtain ⟨pm, hpm⟩ : ∃ pm, pm = plugM u := ⟨_, rfl⟩
      rw [← hpm] at HM LYES LNO
      clear hok hu hn hpm
      go_enter Try.func22, Try.ntmps22
      go_wp2_with fail
      go_step3
      go_wp2_with fail
      refine HUV.out.mono ?_
      rintro e w2 ⟨rfl, rfl⟩
      go_wp2_with fail
      refine HM.out.mono ?_
      rintro e w3 ⟨rfl, b3⟩
      have B3 := Lib.hid b3
      clear b3
      go_wp2_with fail
      refine (HC.out _ B3.out).mono ?_
      rintro e w4 ⟨v4, rfl, b4, h4⟩
      obtain ⟨G, cap, rfl, hc1, hc2, hG, hL4⟩ := h4 hn0
      have B4 := Lib.hid (B3.out.trans (b4.mono B3.out.size))
      have hGw : w.heap.size ≤ G := Nat.le_trans B3.out.size hG
      have LF4 := Lib.hid hL4
      have hcm : cap ≤ 9223372036854775807 := by unfold maxLen at hc2; omega
      clear b4 h4 hL4 HUV HM HC B3 hG
      go_wp2_with fail
      go_step3
      go_wp2_with fail
      go_loopw [5, 19] (fun va i wr => ∃ (k : Nat) (R : Nat → List Int), k ≤ n ∧ i = .int .i64 k ∧ Hid (LRow u k R) ∧ Hid (LeftY G va.ownBlock n wr R) ∧ Hid (OwnI w.heap.size wr va ((plugI u).take k)) ∧ Hid (Below w.heap.size w wr)) (fun _ i _ => n - (intOf i).toNat)
      case atStart => exact ⟨0, _, by omega, rfl, LR0, LF4, Lib.hid (by rw [List.take_zero]; exact own_nilP), B4⟩
      case round =>
        clear LR0 LF4 B4
        obtain ⟨k, R, hkn, rfl, LR, LF, OW, BR⟩ := hrel
        by_cases hlt : k < n
        · obtain ⟨ub, uo, xa, xc, rfl, hubl, s0', hl1, hl2, -, hrow⟩ := HU0.out.at_ hlt
          have s0 := (BR.out.cell (p := ⟨ub, uo + k, none⟩) hubl).trans s0'
          have HROW := Lib.hid fun (w' : World) (hs : Below w.heap.size w w') => hrow.keep hs
          have ik : (k : Int) < (n : Int) := by omega
          have i0k : (0 : Int) ≤ (k : Int) := by omega
          have eR : rowAt u k = useA u k := rfl
          have hm6 := RL6.out k
          have BTk := Lib.hid (BT.out k hlt)
          have BEFk := Lib.hid fun t ht hno hne => BEF.out k t hlt ht hno hne
          have BNOk := Lib.hid fun hno => BNO.out k hlt hno
          have BUSk := Lib.hid fun hne => BUS.out k hlt hne
          have LYk := Lib.hid fun x hx he => LYES.out k x hlt hx he
          have LNk := Lib.hid fun x hx hnew hl => LNO.out k x hlt hx hnew hl
          have RGk := Lib.hid fun x hx => HRNG.out k hlt x hx
          have LUP := Lib.hid fun R (h : LRow u k R) l => h.upd l
          have LNX := Lib.hid fun R (h : LRow u k R) => h.next
          have hkt : ((plugI u).take k).length ≤ 6 := by rw [List.length_take]; omega
          have hsz : w.heap.size ≤ wr.heap.size := BR.out.size
          obtain ⟨bk, hbk⟩ : ∃ b, b = (plugI u).getD k 0 := ⟨_, rfl⟩
          rw [← hbk] at BTk BEFk BNOk BUSk LYk LNk LNX
          rw [eR] at s0 HROW hl1
          obtain ⟨m, hmm⟩ : ∃ m, m = (useA u k).length := ⟨_, rfl⟩
          have HML := Lib.hid hmm
          rw [← hmm] at s0 HROW hl1 hm6 BEFk BNOk
          clear hrow s0' hmm eR hbk
          go_wp2_with fail
          go_loopw [5, 26] (fun va i wr => ∃ (t : Nat) (R : Nat → List Int), t ≤ m ∧ i = .int .i64 t ∧ Hid (LRow u k R) ∧ Hid (∀ j, j < t → (useA u k).getD j 0 ≠ bk) ∧ Hid (LeftY G va.ownBlock n wr R) ∧ Hid (OwnI w.heap.size wr va ((plugI u).take k)) ∧ Hid (Below w.heap.size w wr)) (fun _ i _ => m - (intOf i).toNat)
          case atStart => exact ⟨0, R, by omega, rfl, LR, Lib.hid fun j hj => by omega, LF, OW, BR⟩
          case round =>
            clear LR LF OW BR hsz s0
            obtain ⟨t, R, htm, rfl, LR, NOB, LF, OW, BR⟩ := hrel
            have hsz : w.heap.size ≤ wr.heap.size := BR.out.size
            by_cases hltt : t < m
            · obtain ⟨xb, xo, rfl, hxbl, t0⟩ := (HROW.out wr BR.out).at_ hltt
              have it : (t : Int) < (m : Int) := by omega
              have i0t : (0 : Int) ≤ (t : Int) := by omega
              have HMEM := Lib.hid (show (useA u k).getD t 0 ∈ useA u k from by rw [getD_ps (by have := HML.out; omega)]; exact List.getElem_mem _)
              have NX := Lib.hid fun (hne : (useA u k).getD t 0 ≠ bk) => (show ∀ j, j < t + 1 → (useA u k).getD j 0 ≠ bk from fun j hj => by
                by_cases e : j = t
                · subst e; exact hne
                · exact NOB.out j (by omega))
              have BEFt := Lib.hid fun hne => BEFk.out t hltt NOB.out hne
              obtain ⟨p, hp⟩ : ∃ p, p = (useA u k).getD t 0 := ⟨_, rfl⟩
              rw [← hp] at t0 HMEM NX BEFt
              have HCT := Lib.hid (slContains_any u5 ((plugI u).take k) p wr OW.out.holds)
              have HIF := Lib.hid (hasI_iffP (l := (plugI u).take k) (n := p))
              have hp6 := RGk.out p HMEM.out
              clear hp
              cases hh : hasI ((plugI u).take k) p
              · have hnew := Lib.hid (show p ∉ (plugI u).take k from fun hm => by rw [HIF.out.2 hm] at hh; cases hh)
                rw [hh] at HCT
                have hpb : u5.ownBlock ≠ some wr.heap.size := fun e => by have := (own_lt OW.out _ e).2; omega
                have hGl := LF.out.lt
                have hba := (Below.refl wr.heap.size wr).alloc (Nat.le_refl _) (.cells #[.int .i64 p] 3)
                have L1 := LF.out.keep hba
                obtain ⟨⟨cx, d0⟩, df⟩ := L1.cell hlt
                have L2 := L1.set (i := k) (FarI.one p hGl hpb)
                have O1 := OW.out.keep hba
                have O2 : OwnI w.heap.size ((wr.alloc (.cells #[.int .i64 p] 3)).setCell ⟨G, k, none⟩ (.slice (some ⟨wr.heap.size, 0, none⟩) 1 1)) u5 ((plugI u).take k) := own_farP O1 (fun b hb => Below.heap_setCell _ _ _ _ (fun e => L1.apart (by rw [hb, e])))
                have B2 : Below w.heap.size w ((wr.alloc (.cells #[.int .i64 p] 3)).setCell ⟨G, k, none⟩ (.slice (some ⟨wr.heap.size, 0, none⟩) 1 1)) := Below.setCell (BR.out.alloc hsz _) (p := ⟨G, k, none⟩) hGw _
                obtain ⟨W2, hW2⟩ : ∃ W2, W2 = (wr.alloc (.cells #[.int .i64 p] 3)).setCell ⟨G, k, none⟩ (.slice (some ⟨wr.heap.size, 0, none⟩) 1 1) := ⟨_, rfl⟩
                rw [← hW2] at L2 O2 B2
                have HW2 := Lib.hid (hW2.trans (World.setCell_alloc_past _ G k _ hGl))
                have HMP := Lib.hid (MM.out (leftU u (plugI u) k p) (.slice (some ⟨G, 0, none⟩) n cap) W2 (L2.holds (LLE.out k p) hc1 hc2 (LTRY.out k R LR.out p)) (LOK.out k p hp6.1 hp6.2))
                have LF2 := Lib.hid L2
                have OW2 := Lib.hid O2
                have BR2 := Lib.hid B2
                have LR2 := Lib.hid (LUP.out R LR.out [p])
                have LR3 := Lib.hid (LNX.out R LR.out)
                clear hba L1 L2 O1 O2 B2 hW2 hh LF OW BR LR
                by_cases hpe : p = bk
                · have LYp := LYk.out p HMEM.out hpe.symm
                  rw [LYp] at HMP
                  have LR9 : Hid (LRow u (k + 1) (upd R k [p])) := Lib.hid (by
                    have := LR3.out
                    rw [← hpe, show oneP p = [p] from by unfold oneP; rw [if_neg (by omega)]] at this
                    exact this)
                  rw [← hpe] at BTk
                  clear LYp hpe
                  go_wp2_with fail
                  refine HCT.out.mono ?_
                  rintro e w7 ⟨rfl, rfl⟩
                  go_wp2_with fail
                  rw [← HW2.out]
                  refine HMP.out.mono ?_
                  rintro e w9 ⟨rfl, b9⟩
                  have LF9 := Lib.hid (LF2.out.keep b9)
                  have OW9 := Lib.hid (OW2.out.keep b9)
                  have BR9 := Lib.hid (BR2.out.trans (b9.mono BR2.out.size))
                  have hs9 : w.heap.size ≤ w9.heap.size := BR9.out.size
                  clear b9
                  go_wp2_with (at_builtin; refine wpList_append_own_at _ rfl _ _ 27 rfl w.heap.size 3 i0 (.int .i64 0) 1 8 Try.underlying27 HI.out HZ0.out HZ1.out HZ2.out rfl (by decide) _ ((plugI u).take k).length (rowI ((plugI u).take k)) rfl (OW9.out.alloc _) ⟨w9.heap.size, 0, none⟩ 1 1 [.int .i64 p] rfl rfl (fun j u hu => cells_new j u hu) (by simp [Value.oneCell']) (by unfold maxLen; omega) (by omega) (by simp; omega) ?_; intro v5 w5 hown5 hgrow _ hvb; have LF5 := Lib.hid ((LF9.out.keep ((Below.refl _ _).alloc (Nat.le_refl _) _)).grown hgrow hvb); have OW5 := Lib.hid (show OwnI w.heap.size w5 v5 ((plugI u).take (k + 1)) from by rw [BTk.out]; exact own_put hown5); have BR5 := Lib.hid ((BR9.out.alloc (by omega) (.cells #[.int .i64 p] 3)).trans (own_below hgrow (by simp; omega) (fun k' hk' => (own_lt OW9.out k' hk').1))); clear hown5 hgrow hvb)
                  go_wp2_with fail
                  go_roundw
                  case rel => exact ⟨k + 1, _, by omega, by go_num, LR9, LF5, OW5, BR5⟩
                  case measure => simp [intOf]; omega
                · have hlt9 := BEFt.out hpe
                  have hne := LNk.out p HMEM.out hnew.out hlt9
                  have hnx := Lib.hid (NX.out hpe)
                  obtain ⟨pl, hpl⟩ : ∃ pl, pl = plugM (leftU u (plugI u) k p) := ⟨_, rfl⟩
                  rw [← hpl] at HMP hne
                  have heq : (pl == pm) = false := by simpa using hne
                  clear hlt9 hne hpl hpe
                  go_wp2_with fail
                  refine HCT.out.mono ?_
                  rintro e w7 ⟨rfl, rfl⟩
                  go_wp2_with fail
                  rw [← HW2.out]
                  refine HMP.out.mono ?_
                  rintro e w9 ⟨rfl, b9⟩
                  have LF9 := Lib.hid (LF2.out.keep b9)
                  have OW9 := Lib.hid (OW2.out.keep b9)
                  have BR9 := Lib.hid (BR2.out.trans (b9.mono BR2.out.size))
                  clear b9
                  go_wp2_with fail
                  go_roundw
                  case rel => exact ⟨t + 1, _, by omega, by go_num, LR2, hnx, LF9, OW9, BR9⟩
                  case measure => simp [intOf]; omega
              · have hpe : p ≠ bk := fun e => by
                  have := (BUSk.out (by omega)).2
                  rw [← e] at this
                  exact this (HIF.out.1 hh)
                have hnx := Lib.hid (NX.out hpe)
                rw [hh] at HCT
                clear hh hpe
                go_wp2_with fail
                refine HCT.out.mono ?_
                rintro e w7 ⟨rfl, rfl⟩
                go_wp2_with fail
                go_roundw
                case rel => exact ⟨t + 1, R, by omega, by go_num, LR, hnx, LF, OW, BR⟩
                case measure => simp [intOf]; omega
            · obtain rfl : t = m := by omega
              have hb1 := BNOk.out NOB.out
              obtain ⟨⟨cx, d0⟩, df⟩ := LF.out.cell hlt
              have L2 := LF.out.set (i := k) (FarI.nil (G := G) (pb := u5.ownBlock) (w := wr))
              have O2 : OwnI w.heap.size (wr.setCell ⟨G, k, none⟩ (.slice none 0 0)) u5 ((plugI u).take k) := own_farP OW.out (fun b hb => Below.heap_setCell _ _ _ _ (fun e => LF.out.apart (by rw [hb, e])))
              have B2 : Below w.heap.size w (wr.setCell ⟨G, k, none⟩ (.slice none 0 0)) := Below.setCell BR.out (p := ⟨G, k, none⟩) hGw _
              have hsz9 : (wr.setCell ⟨G, k, none⟩ (.slice none 0 0)).heap.size = wr.heap.size := by simp [World.setCell]
              have CN9 := Lib.hid fun j z (hj : [Value.int .i64 (-1)][j]? = some z) => (show ((wr.setCell ⟨G, k, none⟩ (.slice none 0 0)).alloc (.cells #[.int .i64 (-1)] 3)).cell? ((⟨wr.heap.size, 0, none⟩ : Addr).add j) = some z from by
                have := cells_new (w := wr.setCell ⟨G, k, none⟩ (.slice none 0 0)) (cs := [Value.int .i64 (-1)]) (T := 3) j z hj
                rwa [hsz9] at this)
              have LF9 := Lib.hid L2
              have OW9 := Lib.hid O2
              have BR9 := Lib.hid B2
              have LR9 : Hid (LRow u (k + 1) (upd R k [])) := Lib.hid (by
                have := LNX.out R LR.out
                rw [hb1, show oneP (-1) = [] from rfl] at this
                exact this)
              rw [hb1] at BTk
              clear L2 O2 B2 hb1
              go_wp2_with (at_builtin; refine wpList_append_own_at _ rfl _ _ 27 rfl w.heap.size 3 i0 (.int .i64 0) 1 8 Try.underlying27 HI.out HZ0.out HZ1.out HZ2.out rfl (by decide) _ ((plugI u).take k).length (rowI ((plugI u).take k)) rfl (OW9.out.alloc _) ⟨wr.heap.size, 0, none⟩ 1 1 [.int .i64 (-1)] rfl rfl CN9.out (by simp [Value.oneCell']) (by unfold maxLen; omega) (by omega) (by simp; omega) ?_; intro v5 w5 hown5 hgrow _ hvb; have LF5 := Lib.hid ((LF9.out.keep ((Below.refl _ _).alloc (Nat.le_refl _) _)).grown hgrow hvb); have OW5 := Lib.hid (show OwnI w.heap.size w5 v5 ((plugI u).take (k + 1)) from by rw [BTk.out]; exact own_put hown5); have BR5 := Lib.hid ((BR9.out.alloc (by omega) (.cells #[.int .i64 (-1)] 3)).trans (own_below hgrow (by simp; omega) (fun k' hk' => (own_lt OW9.out k' hk').1))); clear hown5 hgrow hvb)
              go_wp2_with fail
              go_roundw
              case rel => exact ⟨k + 1, _, by omega, by go_num, LR9, LF5, OW5, BR5⟩
              case measure => simp [intOf]; omega
        · obtain rfl : k = n := by omega
          have hr := Lib.hid (show (plugI u).take k = plugI u from List.take_of_length_le (by have := BLE.out; omega))
          have HF := Lib.hid (FreeE.of_own OW.out)
          rw [hr.out] at HF
          go_wp2_with fail
          try rw [Exit.noGoto_ret]
          go_ret
          exact ⟨_, rfl, HF.out, BR.out⟩
end Go.Proofs.Ythlcjojhmhoadaa
