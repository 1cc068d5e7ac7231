/-
  The contract of the model's StackAbove.
-/
import Derived.Test.YtlcfldmiibjboabGBase
namespace Go.Proofs.Ytlcfldmiibjboab
open Go.RowKit
set_option linter.unusedVariables false

set_option maxHeartbeats 1000000 in
theorem specStackAbove_any (v : Value) (l : List Int) (high id : Int) (w : World) (h : HoldsI w v l) :
    Calls Try.prog 27 #[v, .int .i64 high, .int .i64 id] w fun e w' => e = .returned (.int .i64 (aboveS l high id)) ∧ Below w.heap.size w w' := by
  have HV := Lib.hid fun w' (hb : Below w.heap.size w w') => specStackValid_any v l high w' (h.keep hb)
  obtain ⟨a, cap, rfl, h2, h3, h4⟩ := h
  have hm : l.length ≤ 9223372036854775807 := by unfold maxLen at h3; omega
  obtain ⟨n, hn⟩ : ∃ n, n = l.length := ⟨_, rfl⟩
  have HN := Lib.hid hn.symm
  rw [← hn] at HV ⊢
  have hm' : n ≤ 9223372036854775807 := by omega
  have H4 := Lib.hid h4
  clear hn h2 h3 h4 hm
  cases hok : stOk l high
  · have hr := Lib.hid (aboveS_bad (id := id) hok)
    rw [hok] at HV
    clear hok
    go_enter Try.func27, Try.ntmps27
    go_wp2_with fail
    go_loopw [7] (fun i wr => i = .int .i64 0 ∧ Below w.heap.size w wr) (fun _ _ => 0)
    case atStart => exact ⟨rfl, Below.refl _ _⟩
    case round =>
      obtain ⟨rfl, hbr⟩ := hrel
      have HVr := Lib.hid (HV.out _ hbr)
      by_cases hlt : 0 < n
      · have hi : decide ((0 : Int) < (n : Int)) = true := decide_eq_true (by omega)
        go_wp2_with fail
        refine HVr.out.mono ?_
        rintro e w2 ⟨rfl, b2⟩
        go_wp2_with fail
        go_ret
        exact ⟨by rw [hr.out]; rfl, hbr.trans (b2.mono hbr.size)⟩
      · have hi : decide ((0 : Int) < (n : Int)) = false := decide_eq_false (by omega)
        go_wp2_with fail
        go_ret
        exact ⟨by rw [hr.out]; rfl, hbr⟩
  · have HOK := Lib.hid hok
    rw [hok] at HV
    clear hok
    go_enter Try.func27, Try.ntmps27
    go_wp2_with fail
    go_loopw [7] (fun i wr => ∃ k : Nat, k ≤ n ∧ i = .int .i64 k ∧ Hid (∀ j (hj : j < l.length), j < k → l[j] ≠ id) ∧ Below w.heap.size w wr) (fun i _ => n - (intOf i).toNat)
    case atStart => exact ⟨0, by omega, rfl, Lib.hid fun j _ hj => by omega, Below.refl _ _⟩
    case round =>
      obtain ⟨k, hk, rfl, HF, hbr⟩ := hrel
      have HVr := Lib.hid (HV.out _ hbr)
      by_cases hlt : k < n
      · rcases H4.out with h4 | ⟨b, off, rfl, h6, h7⟩
        · have := HN.out; omega
        · have hkl : k < l.length := by rw [HN.out]; exact hlt
          have s0 : wr.cell? ⟨b, off + k, none⟩ = some (.int .i64 l[k]) := (hbr.cell (p := ⟨b, off + k, none⟩) h6).trans (h7 k hkl)
          have hbb : b < wr.heap.size := Nat.lt_of_lt_of_le h6 hbr.size
          have H7 := Lib.hid h7
          have hi : decide ((k : Int) < (n : Int)) = true := decide_eq_true (by omega)
          clear h7
          by_cases he : l[k] = id
          · have b1 : (l[k] == id) = true := by rw [beq_iff_eq]; exact he
            have hr0 := aboveS_hit HOK.out hkl HF.out he
            rw [HN.out] at hr0
            have hr := Lib.hid hr0
            clear he hr0
            generalize l[k] = x at s0 b1
            go_wp2_with fail
            refine HVr.out.mono ?_
            rintro e w2 ⟨rfl, b2⟩
            have s1 : w2.cell? ⟨b, off + k, none⟩ = some (.int .i64 x) := (b2.cell (p := ⟨b, off + k, none⟩) hbb).trans s0
            clear s0
            go_wp2_with fail
            go_ret
            exact ⟨by rw [hr.out]; rfl, hbr.trans (b2.mono hbr.size)⟩
          · have b1 : (l[k] == id) = false := by rw [beq_eq_false_iff_ne]; exact he
            have HE := Lib.hid he
            clear he
            have hnext : Hid (∀ j (hj : j < l.length), j < k + 1 → l[j] ≠ id) := Lib.hid fun j hj hjk => by
              by_cases e : j = k
              · subst e; exact HE.out
              · exact HF.out j hj (by omega)
            clear HE
            generalize l[k] = x at s0 b1
            go_wp2_with fail
            refine HVr.out.mono ?_
            rintro e w2 ⟨rfl, b2⟩
            have s1 : w2.cell? ⟨b, off + k, none⟩ = some (.int .i64 x) := (b2.cell (p := ⟨b, off + k, none⟩) hbb).trans s0
            clear s0
            go_wp2_with fail
            go_roundw
            case rel => exact ⟨k + 1, by omega, by go_num, hnext, hbr.trans (b2.mono hbr.size)⟩
            case measure => simp [intOf]; omega
      · have hi : decide ((k : Int) < (n : Int)) = false := decide_eq_false (by omega)
        have hr := Lib.hid (aboveS_none HOK.out fun j hj => HF.out j hj (by rw [HN.out] at hj; omega))
        go_wp2_with fail
        go_ret
        exact ⟨by rw [hr.out]; rfl, hbr⟩
end Go.Proofs.Ytlcfldmiibjboab
