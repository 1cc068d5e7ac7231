/-
  Slices of numbers that a call has made, whole, in a block of their own; the model's PlanEmpty.
-/
import Derived.Test.YtnnjphhkheocgaaPlV
import Derived.Test.YtnnjphhkheocgaaGBase
namespace Go.Proofs.Ytnnjphhkheocgaa
open Go.RowKit
set_option linter.unusedVariables false

/-- A slice that holds these numbers, at the head of a block of its own, from K on. -/
def OwnI (K : Nat) (w : World) (v : Value) (l : List Int) : Prop := w.ownsRow K 3 1 v l.length (rowI l)
theorem OwnI.new {K : Nat} {w : World} {v : Value} {l : List Int} (h : OwnI K w v l) : NewI K w v l := NewI.of_own h
theorem OwnI.holds {K : Nat} {w : World} {v : Value} {l : List Int} (h : OwnI K w v l) : HoldsI w v l := h.new.holds
theorem OwnI.keep {K : Nat} {w w' : World} {v : Value} {l : List Int} (h : OwnI K w v l) (hb : Below w.heap.size w w') : OwnI K w' v l := own_keep h fun k _ hk => hb.block k hk
theorem OwnI.from_ {K K' : Nat} {w : World} {v : Value} {l : List Int} (h : OwnI K w v l) (hk : K' ≤ K) : OwnI K' w v l := by
  obtain ⟨h1, h2⟩ := h
  refine ⟨h1, ?_⟩
  rcases h2 with h2 | ⟨g, cap, cur, e1, e2, e3⟩
  · exact .inl h2
  · exact .inr ⟨g, cap, cur, e1, Nat.le_trans hk e2, e3⟩
theorem OwnI.zero {K : Nat} {w : World} (hk : K ≤ w.heap.size) : OwnI K (w.alloc (.cells #[] 3)) (.slice (some ⟨w.heap.size, 0, none⟩) 0 0) [] := own_empty hk (heap_alloc_new _ _)
theorem OwnI.form {K : Nat} {w : World} {v : Value} {l : List Int} (h : OwnI K w v l) (hn : 0 < l.length) :
    ∃ g cap cur, v = .slice (some ⟨g, 0, none⟩) l.length cap ∧ K ≤ g ∧ g < w.heap.size ∧ w.heap[g]? = some (.cells cur 3 (0, 0)) ∧ l.length ≤ cap ∧ cap ≤ maxLen ∧ cur.size = cap ∧ cur.toList.take l.length = rowI l := by
  obtain ⟨h1, h2⟩ := h
  rcases h2 with ⟨_, h2⟩ | ⟨g, cap, cur, e1, e2, e3, e4, e5, e6, e7⟩
  · omega
  · refine ⟨g, cap, cur, e1, e2, free_lt e3, e3, e4, e5, by omega, by rw [Nat.mul_one] at e7; exact e7⟩
theorem OwnI.free {K : Nat} {w : World} {v : Value} {l : List Int} (h : OwnI K w v l) (hn : 0 < l.length) : FreeI K w v l := by
  obtain ⟨g, cap, cur, e1, e2, e3, e4, e5, e6, e7, e8⟩ := h.form hn
  refine ⟨g, cap, e1, e2, e3, e5, e6, cur, 3, e4, by omega, fun k hk => ?_⟩
  have : (cur.toList.take l.length)[k]? = (rowI l)[k]? := by rw [e8]
  rw [List.getElem?_take, if_pos hk] at this
  rw [← Array.getElem?_toList, this]
  simp [rowI, hk]
/-- A number is stored. -/
theorem OwnI.set {K g cap : Nat} {w : World} {l : List Int} (h : OwnI K w (.slice (some ⟨g, 0, none⟩) l.length cap) l) {k : Nat} (hk : k < l.length) (x : Int) :
    OwnI K (w.setCell ⟨g, k, none⟩ (.int .i64 x)) (.slice (some ⟨g, 0, none⟩) l.length cap) (l.set k x) := by
  obtain ⟨g', cap', cur, e1, e2, e3, e4, e5, e6, e7, e8⟩ := h.form (by omega)
  simp only [Value.slice.injEq, Option.some.injEq, Addr.mk.injEq] at e1
  obtain ⟨⟨rfl, -, -⟩, -, rfl⟩ := e1
  refine ⟨by simp [rowI], .inr ⟨g, cap, _, by rw [List.length_set], e2, Joins.block_setCell e4 _, by rw [List.length_set]; exact e5, e6, by simpa using e7, ?_⟩⟩
  rw [List.length_set, Nat.mul_one, Array.toList_setIfInBounds, List.take_set, e8]
  simp [rowI, List.map_set]
theorem OwnI.made {K n : Nat} {w : World} {v : Value} (h : w.ownsRow K 3 1 v n (madeCells (Value.int .i64 0).cells (n * 1)).toList) : OwnI K w v (List.replicate n 0) := by
  have e : (madeCells (Value.int .i64 0).cells (n * 1)).toList = rowI (List.replicate n 0) := by
    apply List.ext_getElem
    · simp [madeCells, rowI]
    · intro i h1 h2
      simp [madeCells, rowI, Value.cells, Nat.mod_one]
  rw [e] at h
  unfold OwnI
  rw [List.length_replicate]
  exact h

/-- What PlanEmpty gives. -/
def emptyP (h : Hl) : List Int := if hlOk h = true then List.replicate (slMany h).toNat 0 else []

set_option maxRecDepth 10000 in
set_option maxHeartbeats 1000000 in
theorem specPlanEmpty_any (h : Hl) (w : World) :
    Calls Try.prog 63 #[.agg #[.int .i64 h.b, .int .i64 h.r, .int .i64 h.t]] w fun e w' => ∃ v, e = .returned v ∧ OwnI w.heap.size w' v (emptyP h) ∧ Below w.heap.size w w' := by
  obtain ⟨i0, hi, hz0, hz1, hz2⟩ := info_parts infoInt
  have hb1 := (Below.refl w.heap.size w).alloc (Nat.le_refl _) (.cells #[.int .i64 h.b, .int .i64 h.r, .int .i64 h.t] 24)
  have hx1 := BoxH.new w h
  obtain ⟨W1, hW1⟩ : ∃ W1, W1 = w.alloc (.cells #[.int .i64 h.b, .int .i64 h.r, .int .i64 h.t] 24) := ⟨_, rfl⟩
  rw [← hW1] at hb1 hx1
  have HW := Lib.hid hW1
  have HB := Lib.hid hb1
  have y0 := hx1.c0
  have y1 := hx1.c1
  have y2 := hx1.c2
  have HX := Lib.hid fun (w' : World) (hs : Below W1.heap.size W1 w') => hx1.keep hs
  have HV := Lib.hid fun w => specHullValid_any h w
  have HM := Lib.hid fun w => specSlotMany_any h w
  clear hW1 hb1 hx1
  cases hk : hlOk h
  · have HE := Lib.hid (show emptyP h = [] by unfold emptyP; rw [hk]; rfl)
    rw [hk] at HV
    clear hk HM
    go_enter Try.func63, Try.ntmps63
    go_wp2_with fail
    rw [← HW.out]
    go_wp2_with fail
    refine (HV.out W1).mono ?_
    rintro e w2 ⟨rfl, b2⟩
    have C2 := HB.out.trans (b2.mono HB.out.size)
    go_wp2_with fail
    go_ret
    exact ⟨_, rfl, by rw [HE.out]; exact OwnI.zero C2.size, C2.alloc C2.size _⟩
  · obtain ⟨m1, m2, -⟩ := slMany_bd hk
    obtain ⟨n, hn⟩ : ∃ n : Nat, slMany h = (n : Int) := ⟨(slMany h).toNat, by omega⟩
    have HE := Lib.hid (show emptyP h = List.replicate n 0 by unfold emptyP; rw [if_pos hk, hn]; rfl)
    rw [hk] at HV
    rw [hn] at HM m1 m2
    have hb2 : i0.bytes * n ≤ 281474976710656 := by rw [hz2]; omega
    have hb3 : n ≤ maxLen := by unfold maxLen; omega
    clear hk hn
    go_enter Try.func63, Try.ntmps63
    go_wp2_with fail
    rw [← HW.out]
    go_wp2_with fail
    refine (HV.out W1).mono ?_
    rintro e w2 ⟨rfl, b2⟩
    have C2 := HB.out.trans (b2.mono HB.out.size)
    have x2 := HX.out w2 b2
    have c0 := x2.c0
    have c1 := x2.c1
    have c2 := x2.c2
    clear x2 y0 y1 y2
    go_wp2_with fail
    refine (HM.out w2).mono ?_
    rintro e w3 ⟨rfl, b3⟩
    have C3 := C2.trans (b3.mono C2.size)
    go_wp2_with (at_make; refine wpList_make_full _ rfl _ _ _ rfl w.heap.size 3 i0 (.int .i64 0) 1 Try.underlying26 hi hz0 hz1 .i64 .i64 _ _ n rfl rfl rfl rfl hb2 hb3 C3.size ?_; intro w4 hown hgrow)
    have hbel : Below w.heap.size w3 w4 := (Below.refl _ _).grown hgrow C3.size (fun k hk => by cases hk)
    go_ret
    exact ⟨_, rfl, by rw [HE.out]; exact OwnI.made hown, C3.trans hbel⟩
end Go.Proofs.Ytnnjphhkheocgaa
