/-
  The contract of the model's StackPut.
-/
import Derived.Test.YtnjmdfjplmakpaaStT
import Derived.Laws.AppendOwnNone
namespace Go.Proofs.Ytnjmdfjplmakpaa
open Go.RowKit
set_option linter.unusedVariables false

/-- What a call gives that puts onto a stack. -/
def PutGives (l : List Int) (high id : Int) (w : World) (e : Ending) (w' : World) : Prop :=
  ∃ v, e = .returned (.tuple #[v, .bool (putS l high id).2]) ∧ NewI w.heap.size w' v (putS l high id).1 ∧ Below w.heap.size w w'
theorem putS_bad {l : List Int} {high id : Int} (h : stOk l high = false) : putS l high id = ([], false) := by unfold putS; rw [h]; rfl
theorem putS_no {l : List Int} {high id : Int} (h : stOk l high = true) (h' : stOk (l ++ [id]) high = false) : putS l high id = (l, false) := by unfold putS; rw [h, h']; rfl
theorem putS_yes {l : List Int} {high id : Int} (h : stOk l high = true) (h' : stOk (l ++ [id]) high = true) : putS l high id = (l ++ [id], true) := by unfold putS; rw [h, h']; rfl
theorem HoldsI.rowA {w : World} {x : Addr} {cap : Nat} {l : List Int} (h : HoldsI w (.slice (some x) l.length cap) l) (j : Nat) (u : Value) (hu : (rowI l)[j]? = some u) : w.cell? (x.add j) = some u := by
  have hj : j < l.length := by
    rcases Nat.lt_or_ge j l.length with h' | h'
    · exact h'
    · rw [List.getElem?_eq_none (by rw [rowI_len]; exact h')] at hu; cases hu
  have h0 := h
  obtain ⟨a, cap', he, _, _, h4⟩ := h
  simp only [Value.slice.injEq, true_and] at he
  obtain ⟨rfl, rfl⟩ := he
  rcases h4 with h4 | ⟨b', off', h5, _⟩
  · omega
  · obtain rfl := Option.some.inj h5
    exact HoldsI.row h0 j u hu
theorem own_put {w : World} {base : Nat} {e : TypeId} {v : Value} {l : List Int} {id : Int} (h : w.ownsRow base e 1 v (l.length + 1) (rowI l ++ [.int .i64 id])) : w.ownsRow base e 1 v (l ++ [id]).length (rowI (l ++ [id])) := own_ints (m := [id]) h rfl rfl

theorem specStackPut_bad (v : Value) (l : List Int) (high id : Int) (w : World) (h : HoldsI w v l) (hok : stOk l high = false) :
    Calls Try.prog 17 #[v, .int .i64 high, .int .i64 id] w (PutGives l high id w) := by
  have HV := Lib.hid (specStackValid_any v l high w h)
  rw [hok] at HV
  unfold PutGives
  rw [putS_bad hok]
  clear hok h
  go_enter Try.func17, Try.ntmps17
  go_wp2_with fail
  refine HV.out.mono ?_
  rintro e w2 ⟨rfl, b2⟩
  go_wp2_with fail
  go_ret2
  exact ⟨_, rfl, NewI.empty (Nat.zero_le _), b2.alloc b2.size _⟩

set_option maxHeartbeats 2000000 in
theorem specStackPut_good (v : Value) (l : List Int) (high id : Int) (w : World) (h : HoldsI w v l) (hnil : ∀ n c, v = .slice none n c → c = 0) (hok : stOk l high = true) :
    Calls Try.prog 17 #[v, .int .i64 high, .int .i64 id] w (PutGives l high id w) := by
  obtain ⟨i0, hi, hz0, hz1, hz2⟩ := info_parts infoInt
  have HI := Lib.hid hi
  have HZ0 := Lib.hid hz0
  have HZ1 := Lib.hid hz1
  have HZ2 := Lib.hid hz2
  clear hi hz0 hz1 hz2
  have HH := Lib.hid h
  have HV := Lib.hid (specStackValid_any v l high w h)
  have HV2 := Lib.hid fun v' w' h' => specStackValid_any v' (l ++ [id]) high w' h'
  have hlen := stOk_len hok
  rw [hok] at HV
  have HY := Lib.hid (putS_yes (id := id) hok)
  have HN := Lib.hid (putS_no (id := id) hok)
  obtain ⟨a, cap, rfl, h2, h3, h4⟩ := h
  clear hok h4
  rcases a with _ | x
  · have hl0 : l.length = 0 := by
      obtain ⟨a', cap', he, _, _, h4⟩ := HH.out
      rcases h4 with h4 | ⟨b, off, h5, _⟩
      · exact h4
      · simp only [Value.slice.injEq, true_and] at he
        rw [← he.1] at h5; cases h5
    obtain rfl := List.eq_nil_of_length_eq_zero hl0
    obtain rfl : cap = 0 := hnil 0 cap rfl
    clear hl0 h2 h3 hnil
    go_enter Try.func17, Try.ntmps17
    go_wp2_with fail
    refine HV.out.mono ?_
    rintro e w2 ⟨rfl, b2⟩
    have HH2 := Lib.hid (HH.out.keep b2)
    have own2 : (w2.alloc (.cells #[] 3)).ownsRow w2.heap.size 3 1 (.slice (some ⟨w2.heap.size, 0, none⟩) 0 0) 0 [] := own_empty (Nat.le_refl _) (heap_alloc_new _ _)
    have tok1 : True := trivial
    have tok2 : True := trivial
    go_wp2_with (first
      | (at_builtin; have _t := tok1; refine wpList_append_own_none _ rfl _ _ 23 rfl w2.heap.size 3 i0 1 Try.underlying23 HI.out _ 0 [] rfl own2 rfl ?_; clear tok1)
      | (at_builtin; refine wpList_append_own _ rfl _ _ 23 rfl w2.heap.size 3 i0 (.int .i64 0) 1 8 Try.underlying23 HI.out HZ0.out HZ1.out HZ2.out rfl (by decide) _ 0 [] rfl (own2.alloc _) ⟨w2.heap.size + 1, 0, none⟩ 1 1 [.int .i64 id] rfl rfl (fun j u hu => cells_kept (two_hi w2 _ _) rfl j u hu) (by simp [Value.oneCell']) (by decide) (by decide) (by simp; omega) ?_; intro v5 w5 hown5 hgrow _))
    have hb5 : Below w2.heap.size w2 w5 := (((Below.refl w2.heap.size w2).alloc (Nat.le_refl _) (.cells #[] 3)).alloc (by simp) (.cells #[.int .i64 id] 3)).trans (own_below (v := .slice (some ⟨w2.heap.size, 0, none⟩) 0 0) hgrow (by simp; omega) (fun k hk => (own_lt own2 k hk).1))
    have hown6 := own_put (l := ([] : List Int)) (by first | exact hown5 | (simp only [Nat.zero_add, List.nil_append] at hown5; exact hown5))
    have hn := NewI.of_own hown6
    have hnn := Lib.hid (hn.from_ b2.size)
    have hbb := b2.trans (hb5.mono b2.size)
    have HV3 := Lib.hid (HV2.out _ _ hn.holds)
    clear hgrow hown5 hown6 hn own2
    cases hok2 : stOk (([] : List Int) ++ [id]) high
    · have he := HN.out hok2
      rw [hok2] at HV3
      have HE := Lib.hid he
      clear he hok2 HY
      go_wp2_with fail
      refine HV3.out.mono ?_
      rintro e w6 ⟨rfl, b6⟩
      have hb6 := hbb.trans (b6.mono hbb.size)
      have own6 : (w6.alloc (.cells #[] 3)).ownsRow w6.heap.size 3 1 (.slice (some ⟨w6.heap.size, 0, none⟩) 0 0) 0 [] := own_empty (Nat.le_refl _) (heap_alloc_new _ _)
      go_wp2_with (at_builtin; refine wpList_append_own_none _ rfl _ _ 23 rfl w6.heap.size 3 i0 1 Try.underlying23 HI.out _ 0 [] rfl own6 rfl ?_)
      go_ret2
      exact ⟨_, by rw [HE.out]; rfl, by rw [HE.out]; exact NewI.empty (Nat.zero_le _), hb6.alloc hb6.size _⟩
    · have he := HY.out hok2
      rw [hok2] at HV3
      have HE := Lib.hid he
      clear he hok2 HN
      go_wp2_with fail
      refine HV3.out.mono ?_
      rintro e w6 ⟨rfl, b6⟩
      go_wp2_with fail
      go_ret2
      exact ⟨v5, by rw [HE.out]; rfl, by rw [HE.out]; exact hnn.out.keep b6, hbb.trans (b6.mono hbb.size)⟩
  · clear hnil
    go_enter Try.func17, Try.ntmps17
    go_wp2_with fail
    refine HV.out.mono ?_
    rintro e w2 ⟨rfl, b2⟩
    have HH2 := Lib.hid (HH.out.keep b2)
    have own2 : (w2.alloc (.cells #[] 3)).ownsRow w2.heap.size 3 1 (.slice (some ⟨w2.heap.size, 0, none⟩) 0 0) 0 [] := own_empty (Nat.le_refl _) (heap_alloc_new _ _)
    have HH3 := Lib.hid (HH2.out.keep ((Below.refl _ _).alloc (Nat.le_refl _) (.cells #[] 3)))
    have tok1 : True := trivial
    go_wp2_with (first
      | (at_builtin; have _t := tok1; refine wpList_append_own _ rfl _ _ 23 rfl w2.heap.size 3 i0 (.int .i64 0) 1 8 Try.underlying23 HI.out HZ0.out HZ1.out HZ2.out rfl (by decide) _ 0 [] rfl own2 x l.length cap (rowI l) rfl (by rw [rowI_len, Nat.mul_one]) (fun j u hu => HoldsI.rowA HH3.out j u hu) (rowI_one l) (by unfold maxLen; omega) (by omega) (by simp) ?_; intro v4 w4 hown4 hgrow4 _; clear tok1; simp only [Nat.zero_add, List.nil_append] at hown4; have hb4 : Below w2.heap.size w2 w4 := ((Below.refl w2.heap.size w2).alloc (Nat.le_refl _) (.cells #[] 3)).trans (own_below (v := .slice (some ⟨w2.heap.size, 0, none⟩) 0 0) hgrow4 (by simp) (fun k hk => (own_lt own2 k hk).1)); clear hgrow4)
      | (at_builtin; refine wpList_append_own _ rfl _ _ 23 rfl w2.heap.size 3 i0 (.int .i64 0) 1 8 Try.underlying23 HI.out HZ0.out HZ1.out HZ2.out rfl (by decide) _ l.length (rowI l) rfl (hown4.alloc _) ⟨w4.heap.size, 0, none⟩ 1 1 [.int .i64 id] rfl rfl (fun j u hu => cells_new j u hu) (by simp [Value.oneCell']) (by unfold maxLen; omega) (by omega) (by have := hb4.size; simp; omega) ?_; intro v5 w5 hown5 hgrow _))
    have hb5 : Below w2.heap.size w2 w5 := (hb4.alloc hb4.size (.cells #[.int .i64 id] 3)).trans (own_below (v := v4) hgrow (by have := hb4.size; simp; omega) (fun k hk => (own_lt hown4 k hk).1))
    have hown6 := own_put (l := l) (by first | exact hown5 | (simp only [Nat.zero_add, List.nil_append] at hown5; exact hown5))
    have hn := NewI.of_own hown6
    have hnn := Lib.hid (hn.from_ b2.size)
    have hbb := b2.trans (hb5.mono b2.size)
    have HV3 := Lib.hid (HV2.out _ _ hn.holds)
    clear hgrow hown5 hown6 hn own2 hown4 hb4
    cases hok2 : stOk (l ++ [id]) high
    · have he := HN.out hok2
      rw [hok2] at HV3
      have HE := Lib.hid he
      clear he hok2 HY
      go_wp2_with fail
      refine HV3.out.mono ?_
      rintro e w6 ⟨rfl, b6⟩
      have hb6 := hbb.trans (b6.mono hbb.size)
      have own6 : (w6.alloc (.cells #[] 3)).ownsRow w6.heap.size 3 1 (.slice (some ⟨w6.heap.size, 0, none⟩) 0 0) 0 [] := own_empty (Nat.le_refl _) (heap_alloc_new _ _)
      have HH6 := Lib.hid ((HH2.out.keep ((hb5.mono (Nat.le_refl _)).trans (b6.mono hb5.size))).keep ((Below.refl _ _).alloc (Nat.le_refl _) (.cells #[] 3)))
      go_wp2_with (at_builtin; refine wpList_append_own _ rfl _ _ 23 rfl w6.heap.size 3 i0 (.int .i64 0) 1 8 Try.underlying23 HI.out HZ0.out HZ1.out HZ2.out rfl (by decide) _ 0 [] rfl own6 x l.length cap (rowI l) rfl (by rw [rowI_len, Nat.mul_one]) (fun j u hu => HoldsI.rowA HH6.out j u hu) (rowI_one l) (by unfold maxLen; omega) (by omega) (by simp) ?_; intro v7 w7 hown7 hgrow7 _)
      simp only [Nat.zero_add, List.nil_append] at hown7
      have hb7 : Below w6.heap.size w6 w7 := ((Below.refl w6.heap.size w6).alloc (Nat.le_refl _) (.cells #[] 3)).trans (own_below (v := .slice (some ⟨w6.heap.size, 0, none⟩) 0 0) hgrow7 (by simp) (fun k hk => (own_lt own6 k hk).1))
      have hn7 := Lib.hid ((NewI.of_own hown7).from_ hb6.size)
      clear hgrow7 hown7
      go_ret2
      exact ⟨v7, by rw [HE.out]; rfl, by rw [HE.out]; exact hn7.out, hb6.trans (hb7.mono hb6.size)⟩
    · have he := HY.out hok2
      rw [hok2] at HV3
      have HE := Lib.hid he
      clear he hok2 HN
      go_wp2_with fail
      refine HV3.out.mono ?_
      rintro e w6 ⟨rfl, b6⟩
      go_wp2_with fail
      go_ret2
      exact ⟨v5, by rw [HE.out]; rfl, by rw [HE.out]; exact hnn.out.keep b6, hbb.trans (b6.mono hbb.size)⟩
theorem specStackPut_any (v : Value) (l : List Int) (high id : Int) (w : World) (h : HoldsI w v l) (hnil : ∀ n c, v = .slice none n c → c = 0) :
    Calls Try.prog 17 #[v, .int .i64 high, .int .i64 id] w (PutGives l high id w) := by
  cases hok : stOk l high
  · exact specStackPut_bad v l high id w h hok
  · exact specStackPut_good v l high id w h hnil hok
end Go.Proofs.Ytnjmdfjplmakpaa
