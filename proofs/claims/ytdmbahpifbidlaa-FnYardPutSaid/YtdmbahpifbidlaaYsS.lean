/-
  The contract of the model's l4Sorted: a number laid at its place in a list.
-/
import Derived.Test.YtdmbahpifbidlaaYh
import Derived.Deep.RegionLaw
namespace Go.Proofs.Ytdmbahpifbidlaa
open Go.RowKit
set_option linter.unusedVariables false

theorem insI_split : ∀ (l : List Int) (n : Int) (k : Nat), k ≤ l.length → (∀ j (hj : j < l.length), j < k → l[j] < n) → (k = l.length ∨ ∃ hk : k < l.length, n ≤ l[k]) → insI l n = l.take k ++ n :: l.drop k
  | [], n, k, h1, _, _ => by
    obtain rfl : k = 0 := by simpa using h1
    rfl
  | a :: l, n, 0, _, _, h => by
    rcases h with h | ⟨_, h⟩
    · simp at h
    · have h' : n ≤ a := h
      rw [insI, if_neg (by omega)]; rfl
  | a :: l, n, k + 1, h1, h2, h3 => by
    have h' : a < n := h2 0 (by simp) (by omega)
    rw [insI, if_pos h', insI_split l n k (by simpa using h1) (fun j hj hjk => h2 (j + 1) (by simpa using hj) (by omega)) ?_]
    · rfl
    · rcases h3 with h3 | ⟨hk, h3⟩
      · exact .inl (by simpa using h3)
      · exact .inr ⟨by simpa using hk, h3⟩
theorem insI_len (l : List Int) (n : Int) : (insI l n).length = l.length + 1 := (insI_perm l n).length_eq
theorem drop_cells {w : World} {b off cap m k : Nat} {l : List Int} (h : HoldsI w (.slice (some ⟨b, off, none⟩) m cap) l) (hk : k < m) (j : Nat) (u : Value) (hu : (rowI (l.drop k))[j]? = some u) : w.cell? ((⟨b, off + k, none⟩ : Addr).add j) = some u := by
  have hm : m = l.length := by
    obtain ⟨a, c, he, _⟩ := h
    simp only [Value.slice.injEq] at he
    exact he.2.1
  subst hm
  have h2 := HoldsI.drop k hk h
  rw [← List.length_drop] at h2
  exact HoldsI.rowA h2 j u hu
theorem sorted_own {w : World} {base : Nat} {e : TypeId} {v : Value} {l : List Int} {n : Int} {k c : Nat} (h : w.ownsRow base e 1 v c (rowI (l.take k) ++ [.int .i64 n] ++ rowI (l.drop k))) (hi : insI l n = l.take k ++ n :: l.drop k) (hc : c = l.length + 1) : w.ownsRow base e 1 v (insI l n).length (rowI (insI l n)) := by
  rw [insI_len, ← hc, hi, rowI_app]
  have : rowI (n :: l.drop k) = [.int .i64 n] ++ rowI (l.drop k) := rfl
  rw [this, ← List.append_assoc]
  exact h
theorem sorted_own0 {w : World} {base : Nat} {e : TypeId} {v : Value} {l : List Int} {n : Int} {k c : Nat} (h : w.ownsRow base e 1 v c (rowI (l.take k) ++ [.int .i64 n] ++ [])) (hi : insI l n = l.take k ++ n :: l.drop k) (hk : l.length = k) (hc : c = l.length + 1) : w.ownsRow base e 1 v (insI l n).length (rowI (insI l n)) := by
  refine sorted_own (k := k) ?_ hi hc
  rw [List.drop_eq_nil_of_le (by omega)]
  exact h
theorem own_from {w : World} {base base' n size : Nat} {e : TypeId} {v : Value} {xs : List Value} (h : w.ownsRow base e size v n xs) (hb : base' ≤ base) : w.ownsRow base' e size v n xs := by
  refine ⟨h.1, ?_⟩
  rcases h.2 with h2 | ⟨g, cap, cur, rfl, hg, h3⟩
  · exact .inl h2
  · exact .inr ⟨g, cap, cur, rfl, Nat.le_trans hb hg, h3⟩

/-- What a call gives that lays a number at its place. -/
def SortedGives (l : List Int) (n : Int) (w : World) (e : Ending) (w' : World) : Prop :=
  ∃ v, e = .returned v ∧ w'.ownsRow w.heap.size 3 1 v (insI l n).length (rowI (insI l n)) ∧ Below w.heap.size w w'

set_option maxRecDepth 10000 in
set_option maxHeartbeats 2000000 in
theorem l4Sorted_any (b off cap : Nat) (l : List Int) (n : Int) (w : World) (hh : HoldsI w (.slice (some ⟨b, off, none⟩) l.length cap) l) (hlen : l.length ≤ 1048576) :
    Calls Try.prog 60 #[.slice (some ⟨b, off, none⟩) l.length cap, .int .i64 n] w (SortedGives l n w) := by
  obtain ⟨i0, hi, hz0, hz1, hz2⟩ := info_parts infoInt
  have HI := Lib.hid hi
  have HZ0 := Lib.hid hz0
  have HZ1 := Lib.hid hz1
  have HZ2 := Lib.hid hz2
  clear hi hz0 hz1 hz2
  have hcap : l.length ≤ cap ∧ cap ≤ 9223372036854775807 := by
    obtain ⟨a, c, he, h2, h3, _⟩ := hh
    simp only [Value.slice.injEq, true_and] at he
    obtain ⟨-, rfl⟩ := he
    exact ⟨h2, by unfold maxLen at h3; omega⟩
  have HW := Lib.hid fun w' (hb : Below w.heap.size w w') => hh.keep hb
  have HB0 := Lib.hid (show Below w.heap.size w (w.alloc (.cells #[] 3)) from (Below.refl _ _).alloc (Nat.le_refl _) _)
  have HO0 := Lib.hid (show (w.alloc (.cells #[] 3)).ownsRow w.heap.size 3 1 (.slice (some ⟨w.heap.size, 0, none⟩) 0 0) 0 [] from own_empty (Nat.le_refl _) (heap_alloc_new _ _))
  have HINS := Lib.hid fun k h1 h2 h3 => insI_split l n k h1 h2 h3
  obtain ⟨m, hm⟩ : ∃ m, m = l.length := ⟨_, rfl⟩
  have HM := Lib.hid hm.symm
  rw [← hm] at hcap hlen HW ⊢
  obtain ⟨hc1, hc2⟩ := hcap
  clear hh hm
  go_enter Try.func60, Try.ntmps60
  go_wp2_with fail
  go_loopw [5, 6] (fun va i wr => ∃ (k : Nat) (u : Value), k ≤ m ∧ u = va ∧ i = .int .i64 k ∧ Hid (∀ j (hj : j < l.length), j < k → l[j] < n) ∧ Hid (wr.ownsRow w.heap.size 3 1 u k (rowI (l.take k))) ∧ Below w.heap.size w wr) (fun _ i _ => m - (intOf i).toNat)
  case atStart => exact ⟨0, _, by omega, rfl, rfl, Lib.hid fun j _ hj => by omega, HO0, HB0.out⟩
  case round =>
    obtain ⟨k, u, hk, rfl, rfl, HF, HO, hbr⟩ := hrel
    have hbs := hbr.size
    by_cases hlt : k < m
    · have hkl : k < l.length := by rw [HM.out]; exact hlt
      obtain ⟨b1, off1, he1, hb1, s0⟩ := (HW.out wr hbr).at_ hlt
      simp only [Option.some.injEq, Addr.mk.injEq, and_true] at he1
      obtain ⟨rfl, rfl⟩ := he1
      rw [getD_i hkl] at s0
      have ik : (k : Int) < (m : Int) := by omega
      have i0k : (0 : Int) ≤ (k : Int) := by omega
      by_cases hx : l[k] < n
      · have HF2 := Lib.hid fun j (hj : j < l.length) (hjk : j < k + 1) => (show l[j] < n by
          by_cases e : j = k
          · subst e; exact hx
          · exact HF.out j hj (by omega))
        have HT := Lib.hid (show l.take k ++ [l[k]] = l.take (k + 1) from List.take_append_getElem hkl)
        have hx2 : decide (l[k] < n) = true := decide_eq_true hx
        clear HF
        generalize l[k] = y at s0 HT hx hx2
        go_wp2_with (at_builtin; refine wpList_append_own _ rfl _ _ 28 rfl w.heap.size 3 i0 (.int .i64 0) 1 8 Try.underlying28 HI.out HZ0.out HZ1.out HZ2.out rfl (by decide) _ _ _ rfl (HO.out.alloc _) ⟨wr.heap.size, 0, none⟩ 1 1 [.int .i64 y] rfl rfl (fun j u hu => cells_new j u hu) (by simp [Value.oneCell']) (by unfold maxLen; omega) (by omega) (by simp; omega) ?_; intro v7 w7 hown7 hgrow7 _)
        have hb7 : Below w.heap.size wr w7 := ((Below.refl w.heap.size wr).alloc hbs (.cells #[.int .i64 y] 3)).trans (own_below (v := u) hgrow7 (by simp; omega) (fun k hk => (own_lt HO.out k hk).1))
        have HB7 := Lib.hid (hbr.trans hb7)
        have HO7 := Lib.hid hown7
        rw [show rowI (l.take k) ++ [Value.int .i64 y] = rowI (l.take (k + 1)) by rw [← HT.out, rowI_app]; rfl] at HO7
        clear hown7 hgrow7 hb7 HO s0 hx hx2
        go_wp2_with fail
        go_roundw
        case rel => exact ⟨k + 1, _, by omega, rfl, by go_num, HF2, HO7, HB7.out⟩
        case measure => simp [intOf]; omega
      · have hx2 : decide (l[k] < n) = false := decide_eq_false hx
        have hx3 : n ≤ l[k] := by omega
        have HS := Lib.hid (HINS.out k (by omega) HF.out (.inr ⟨hkl, hx3⟩))
        generalize l[k] = y at s0 hx hx2 hx3
        have hnc : ¬ cap = k := by omega
        have ikc : (k : Int) ≤ (m : Int) := by omega
        have imc : (m : Int) ≤ (cap : Int) := by omega
        have z1 : IntKind.i64.wrap ((m : Int) - (k : Int)) = ((m - k : Nat) : Int) := by rw [IntKind.wrap_i64]; omega
        go_wp2_with fail
        (first | go_region_law (first
            | (refine step_append_o (by rfl) _ _ 28 (by rfl) w.heap.size 3 i0 (.int .i64 0) 1 8 Try.underlying28 HI.out HZ0.out HZ1.out HZ2.out rfl (by decide) _ _ _ (by rfl) (HO.out.alloc _) ⟨wr.heap.size, 0, none⟩ 1 1 [.int .i64 n] (by rfl) rfl (fun j u hu => cells_new j u hu) (by simp [Value.oneCell']) (by unfold maxLen; omega) (by omega) (by simp; omega) ?_; intro v5 w5 hown5 hb5 hn5; have hw5 : Below w.heap.size w w5 := hbr.trans (Below.trans (((Below.refl w.heap.size wr).alloc hbs (.cells #[.int .i64 n] 3)).drew) hb5); have hs5 := hw5.size)
            | (refine step_append_o (by rfl) _ _ 28 (by rfl) w.heap.size 3 i0 (.int .i64 0) 1 8 Try.underlying28 HI.out HZ0.out HZ1.out HZ2.out rfl (by decide) _ _ _ (by rfl) hown5 ⟨b, off + k, none⟩ (m - k) (cap - k) (rowI (l.drop k)) (by rfl) (by rw [rowI_len, List.length_drop, HM.out, Nat.mul_one]) (fun j u hu => drop_cells (HW.out w5 hw5) hlt j u hu) (rowI_one _) (by unfold maxLen; omega) (by omega) hs5 ?_; intro v6 w6 hown6 hb6 hn6)) | fail)
        have hb7 := hw5.trans hb6
        have HO7 := Lib.hid (sorted_own hown6 HS.out (by rw [HM.out]; omega))
        have HB7 := Lib.hid hb7
        clear hown5 hown6 hb5 hb6 hb7 hn5 hn6 hw5 hs5
        go_wp2_with fail
        go_ret
        exact ⟨_, rfl, HO7.out, HB7.out⟩
    · have hkm : k = m := by omega
      subst hkm
      have HS := Lib.hid (HINS.out k (by rw [HM.out]; omega) HF.out (.inl HM.out.symm))
      have ikc : (k : Int) ≤ (cap : Int) := by omega
      by_cases hck : cap = k
      · subst hck
        go_wp2_with fail
        (first | go_region_law (first
            | (refine step_append_o (by rfl) _ _ 28 (by rfl) w.heap.size 3 i0 (.int .i64 0) 1 8 Try.underlying28 HI.out HZ0.out HZ1.out HZ2.out rfl (by decide) _ _ _ (by rfl) (HO.out.alloc _) ⟨wr.heap.size, 0, none⟩ 1 1 [.int .i64 n] (by rfl) rfl (fun j u hu => cells_new j u hu) (by simp [Value.oneCell']) (by unfold maxLen; omega) (by omega) (by simp; omega) ?_; intro v5 w5 hown5 hb5 hn5; have hw5 : Below w.heap.size w w5 := hbr.trans (Below.trans (((Below.refl w.heap.size wr).alloc hbs (.cells #[.int .i64 n] 3)).drew) hb5); have hs5 := hw5.size)
            | (refine step_append_o (by rfl) _ _ 28 (by rfl) w.heap.size 3 i0 (.int .i64 0) 1 8 Try.underlying28 HI.out HZ0.out HZ1.out HZ2.out rfl (by decide) _ _ _ (by rfl) hown5 ⟨b, off, none⟩ 0 0 [] (by rfl) (by rfl) (fun j u hu => by cases hu) (fun u hu => by cases hu) (by unfold maxLen; omega) (by omega) hs5 ?_; intro v6 w6 hown6 hb6 hn6)) | fail)
        have hb7 := hw5.trans hb6
        have HO7 := Lib.hid (sorted_own0 hown6 HS.out HM.out (by rw [HM.out]))
        have HB7 := Lib.hid hb7
        clear hown5 hown6 hb5 hb6 hb7 hn5 hn6 hw5 hs5
        go_wp2_with fail
        go_ret
        exact ⟨_, rfl, HO7.out, HB7.out⟩
      · go_wp2_with fail
        (first | go_region_law (first
            | (refine step_append_o (by rfl) _ _ 28 (by rfl) w.heap.size 3 i0 (.int .i64 0) 1 8 Try.underlying28 HI.out HZ0.out HZ1.out HZ2.out rfl (by decide) _ _ _ (by rfl) (HO.out.alloc _) ⟨wr.heap.size, 0, none⟩ 1 1 [.int .i64 n] (by rfl) rfl (fun j u hu => cells_new j u hu) (by simp [Value.oneCell']) (by unfold maxLen; omega) (by omega) (by simp; omega) ?_; intro v5 w5 hown5 hb5 hn5; have hw5 : Below w.heap.size w w5 := hbr.trans (Below.trans (((Below.refl w.heap.size wr).alloc hbs (.cells #[.int .i64 n] 3)).drew) hb5); have hs5 := hw5.size)
            | (refine step_append_o (by rfl) _ _ 28 (by rfl) w.heap.size 3 i0 (.int .i64 0) 1 8 Try.underlying28 HI.out HZ0.out HZ1.out HZ2.out rfl (by decide) _ _ _ (by rfl) hown5 ⟨b, off + k, none⟩ 0 (cap - k) [] (by rfl) (by rfl) (fun j u hu => by cases hu) (fun u hu => by cases hu) (by unfold maxLen; omega) (by omega) hs5 ?_; intro v6 w6 hown6 hb6 hn6)) | fail)
        have hb7 := hw5.trans hb6
        have HO7 := Lib.hid (sorted_own0 hown6 HS.out HM.out (by rw [HM.out]))
        have HB7 := Lib.hid hb7
        clear hown5 hown6 hb5 hb6 hb7 hn5 hn6 hw5 hs5
        go_wp2_with fail
        go_ret
        exact ⟨_, rfl, HO7.out, HB7.out⟩
end Go.Proofs.Ytdmbahpifbidlaa
