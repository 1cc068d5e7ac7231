/-
  Plain mathematics of yards: putting and taking by way of one stack. Nothing of the program.
-/
import Derived.Test.YtdmbahpifbidlaaYmMath
namespace Go.Proofs.Ytdmbahpifbidlaa
set_option linter.unusedVariables false

theorem putY_found {h : Int} {ss : List (List Int)} {t id : Int} (hk : ydOk h ss = true) (hf : 0 ≤ findY h ss id) : putY h ss t id = ((h, ss), false) := by
  refine putY_no hk fun hc => ?_
  have hl : t.toNat < ss.length := by omega
  have hn := (ydOk_iff.1 hc.2.2).2.1
  have hn2 := (flat_put ss t.toNat id hl).nodup_iff.1 hn
  rw [List.nodup_cons] at hn2
  rw [findY_flat hn2.1] at hf
  omega
theorem putY_out {h : Int} {ss : List (List Int)} {t id : Int} (hk : ydOk h ss = true) (hf : ¬ (0 ≤ t ∧ t < (ss.length : Int))) : putY h ss t id = ((h, ss), false) :=
  putY_no hk fun hc => hf ⟨hc.1, hc.2.1⟩
theorem ydOk_put {h : Int} {ss : List (List Int)} {k : Nat} {id : Int} (hk : ydOk h ss = true) (hl : k < ss.length) (hf : findY h ss id < 0) (hs : stOk (rowAt ss k ++ [id]) h = true) : ydOk h (ss.set k (rowAt ss k ++ [id])) = true := by
  obtain ⟨h1, h2, h3, h4, h5, h6⟩ := ydOk_iff.1 hk
  refine ydOk_iff.2 ⟨fun s hm => ?_, ?_, by rw [List.length_set]; exact h3, by rw [List.length_set]; exact h4, h5, h6⟩
  · rcases List.mem_or_eq_of_mem_set hm with hm | hm
    · exact h1 s hm
    · subst hm; exact hs
  · refine (flat_put ss k id hl).nodup_iff.2 (List.nodup_cons.2 ⟨fun hm => ?_, h2⟩)
    have := findY_in hk hm
    omega
theorem putY_stack {h : Int} {ss : List (List Int)} {k : Nat} {id : Int} (hk : ydOk h ss = true) (hl : k < ss.length) (hf : findY h ss id < 0) : putY h ss (k : Int) id = ((h, ss.set k (putS (rowAt ss k) h id).1), (putS (rowAt ss k) h id).2) := by
  have hrow := ydOk_row hk hl
  cases hs : stOk (rowAt ss k ++ [id]) h
  · rw [putS_no hrow hs, set_rowAt hl]
    refine putY_no hk fun hc => ?_
    rw [Int.toNat_natCast] at hc
    have := ydOk_row hc.2.2 (k := k) (by rw [List.length_set]; exact hl)
    rw [rowAt_set_self hl, hs] at this
    cases this
  · rw [putS_yes hrow hs]
    have := putY_yes (t := (k : Int)) (id := id) hk (by omega) (by omega) (by rw [Int.toNat_natCast]; exact ydOk_put hk hl hf hs)
    rw [Int.toNat_natCast] at this
    exact this
theorem takeY_out {h : Int} {ss : List (List Int)} {f : Int} (hk : ydOk h ss = true) (hf : ¬ (0 ≤ f ∧ f < (ss.length : Int))) : takeY h ss f = ((h, ss), -1) :=
  takeY_no hk fun hc => hf ⟨hc.1, hc.2.1⟩
theorem takeY_stack {h : Int} {ss : List (List Int)} {k : Nat} (hk : ydOk h ss = true) (hl : k < ss.length) (hp : 0 < (rowAt ss k).length) : takeY h ss (k : Int) = ((h, ss.set k (takeS (rowAt ss k) h).1), (takeS (rowAt ss k) h).2) ∧ 0 ≤ (takeS (rowAt ss k) h).2 := by
  have hrow := ydOk_row hk hl
  have hr := row_top hp
  have ht := takeS_yes hrow hp
  have hx : (takeS (rowAt ss k) h).2 = (rowAt ss k).getD ((rowAt ss k).length - 1) 0 := by rw [ht, getD_i (by omega)]
  have h1 := ydOk_take hk hl hr
  have h2 := takeY_yes (f := (k : Int)) hk (by omega) (by omega) (by rw [Int.toNat_natCast]; exact hr)
  rw [Int.toNat_natCast] at h2
  refine ⟨?_, by rw [hx]; omega⟩
  rw [h2, hx]
  have : (takeS (rowAt ss k) h).1 = (rowAt ss k).take ((rowAt ss k).length - 1) := by rw [ht]
  rw [this]
theorem takeY_none {h : Int} {ss : List (List Int)} {k : Nat} (hk : ydOk h ss = true) (hp : (rowAt ss k).length = 0) : takeY h ss (k : Int) = ((h, ss), -1) ∧ (takeS (rowAt ss k) h).2 = -1 := by
  refine ⟨takeY_no hk fun hc => ?_, by rw [takeS_no (.inr hp)]⟩
  rw [Int.toNat_natCast] at hc
  omega
end Go.Proofs.Ytdmbahpifbidlaa
