/-
  The contract of the model's StackTake.
-/
import Derived.Test.YtnjmdfjplmakpaaSt
import Derived.Test.YtnjmdfjplmakpaaOwI
namespace Go.Proofs.Ytnjmdfjplmakpaa
open Go.RowKit
set_option linter.unusedVariables false

/-- What a call gives that takes from a stack. -/
def TakeGives (l : List Int) (high : Int) (w : World) (e : Ending) (w' : World) : Prop :=
  ∃ v, e = .returned (.tuple #[v, .int .i64 (takeS l high).2]) ∧ NewI w.heap.size w' v (takeS l high).1 ∧ Below w.heap.size w w'

theorem takeS_no {l : List Int} {high : Int} (h : stOk l high = false ∨ l.length = 0) : takeS l high = ([], -1) := by
  unfold takeS
  rw [if_neg]
  rintro ⟨h1, h2⟩
  rcases h with h | h
  · rw [h] at h1; cases h1
  · omega
theorem takeS_yes {l : List Int} {high : Int} (h : stOk l high = true) (hl : 0 < l.length) : takeS l high = (l.take (l.length - 1), l[l.length - 1]) := by
  unfold takeS
  rw [if_pos ⟨h, hl⟩, getD_i (by omega)]
theorem stOk_len {l : List Int} {high : Int} (h : stOk l high = true) : l.length ≤ 5 := by
  have := stOk_iff.1 h
  omega

set_option maxHeartbeats 1000000 in
theorem specStackTake_any (v : Value) (l : List Int) (high : Int) (w : World) (h : HoldsI w v l) :
    Calls Try.prog 22 #[v, .int .i64 high] w (TakeGives l high w) := by
  obtain ⟨i0, hi, hz0, hz1, hz2⟩ := info_parts infoInt
  have HI := Lib.hid hi
  have HZ0 := Lib.hid hz0
  have HZ1 := Lib.hid hz1
  have HZ2 := Lib.hid hz2
  clear hi hz0 hz1 hz2
  have HH := Lib.hid h
  have HV := Lib.hid (specStackValid_any v l high w h)
  cases hok : stOk l high
  · have he := takeS_no (.inl hok)
    rw [hok] at HV
    unfold TakeGives
    rw [he]
    clear he hok
    go_enter Try.func22, Try.ntmps22
    go_wp2_with fail
    refine HV.out.mono ?_
    rintro e w2 ⟨rfl, b2⟩
    go_wp2_with fail
    go_ret2
    exact ⟨_, rfl, NewI.empty (Nat.zero_le _), b2.alloc b2.size _⟩
  · have hlen := stOk_len hok
    rw [hok] at HV
    obtain ⟨a, cap, rfl, h2, h3, h4⟩ := h
    unfold maxLen at h3
    by_cases hz : l.length = 0
    · have he := takeS_no (high := high) (.inr hz)
      have b1 : ((l.length : Int) == 0) = true := by rw [beq_iff_eq]; omega
      unfold TakeGives
      rw [he]
      clear he hok hz
      go_enter Try.func22, Try.ntmps22
      go_wp2_with fail
      refine HV.out.mono ?_
      rintro e w2 ⟨rfl, b2⟩
      go_wp2_with fail
      go_ret2
      exact ⟨_, rfl, NewI.empty (Nat.zero_le _), b2.alloc b2.size _⟩
    · have b1 : ((l.length : Int) == 0) = false := by rw [beq_eq_false_iff_ne]; omega
      rcases h4 with h4 | ⟨b, off, rfl, h6, h7⟩
      · exact absurd h4 hz
      have hl1 : 0 < l.length := by omega
      have he := takeS_yes hok hl1
      have s0 := h7 (l.length - 1) (by omega)
      have ht := Lib.hid (HoldsI.take (l.length - 1) (by omega) HH.out)
      have htl := Lib.hid (List.length_take_of_le (show l.length - 1 ≤ l.length by omega))
      have H7 := Lib.hid h7
      unfold TakeGives
      rw [he]
      clear he hok hz h7
      generalize l[l.length - 1] = x at s0 ⊢
      have i1 : (1 : Int) ≤ (l.length : Int) := by omega
      have i2 : (0 : Int) ≤ (l.length : Int) - 1 := by omega
      have i3 : (l.length : Int) - 1 < (l.length : Int) := by omega
      have i4 : (l.length : Int) - 1 ≤ (cap : Int) := by omega
      have i5 : ((l.length : Int) - 1).toNat = l.length - 1 := by omega
      go_enter Try.func22, Try.ntmps22
      go_wp2_with fail
      refine HV.out.mono ?_
      rintro e w2 ⟨rfl, b2⟩
      have s1 : w2.cell? ⟨b, off + (l.length - 1), none⟩ = some (.int .i64 x) := (b2.cell (p := ⟨b, off + (l.length - 1), none⟩) h6).trans s0
      have HT2 := Lib.hid (ht.out.keep b2)
      have hb2 : b < w2.heap.size := Nat.lt_of_lt_of_le h6 b2.size
      clear s0
      have HTT : HoldsI w2 (.slice (some ⟨b, off, none⟩) (l.take (l.length - 1)).length cap) (l.take (l.length - 1)) := by rw [htl.out]; exact HT2.out
      have HT3 := Lib.hid HTT
      clear HTT
      have hsd : Since w2 w2.drew := (Below.refl _ _).drew
      have hstart : w2.drew.cell? ⟨b, off + (l.length - 1), none⟩ = some (.int .i64 x) ∧ Since w2 w2.drew := ⟨s1, hsd⟩
      have S1 := Lib.hid s1
      have HCELL := Lib.hid fun (w' : World) (hs : Since w2 w') => (show w'.cell? ⟨b, off + (l.length - 1), none⟩ = some (.int .i64 x) ∧ Since w2 w' from ⟨(Below.cell (p := ⟨b, off + (l.length - 1), none⟩) hs hb2).trans S1.out, hs⟩)
      clear s1
      go_wp2_with fail
      go_region_held3 (fun w' => w'.cell? ⟨b, off + (l.length - 1), none⟩ = some (.int .i64 x) ∧ Since w2 w')
        (first | exact hstart | exact HCELL.out _ (Below.drew (Below.alloc (Below.refl _ _) (Nat.le_refl _) _)) | exact HCELL.out _ (Since.on (‹_ ∧ Since w2 _› : _ ∧ Since w2 _).2 ‹Below w2.heap.size _ _›))
        ((refine step_append_o (by rfl) _ _ 23 (by rfl) w2.heap.size 3 i0 (.int .i64 0) 1 8 Try.underlying23 HI.out HZ0.out HZ1.out HZ2.out rfl (by decide) _ 0 [] (by rfl) (own_empty (Nat.le_refl _) (heap_alloc_new _ _)) ⟨b, off, none⟩ (l.length - 1) cap (rowI (l.take (l.length - 1))) (by rfl) (by rw [rowI_len, htl.out, Nat.mul_one]) (fun j u hu => HoldsI.row (HT3.out.keep (by exact (‹_ ∧ Since w2 _› : _ ∧ Since w2 _).2)) j u hu) (rowI_one _) (by unfold maxLen; omega) (by omega) (by exact (‹_ ∧ Since w2 _› : _ ∧ Since w2 _).2.size) ?_; intro v' w5 hown5 hb5 hnil))
      rename_i hheld
      have hx : Below w2.heap.size w2 w5 := hheld.2
      have hown6 : w5.ownsRow w2.heap.size 3 1 v' (l.take (l.length - 1)).length (rowI (l.take (l.length - 1))) := by
        rw [Nat.zero_add, List.nil_append, ← htl.out] at hown5
        rw [htl.out] at hown5 ⊢
        exact hown5
      have hn := Lib.hid ((NewI.of_own hown6).from_ b2.size)
      clear hheld hown5 hown6 hnil hb5
      go_wp2_with fail
      go_ret2
      exact ⟨v', rfl, hn.out, b2.trans (hx.mono b2.size)⟩
end Go.Proofs.Ytnjmdfjplmakpaa
