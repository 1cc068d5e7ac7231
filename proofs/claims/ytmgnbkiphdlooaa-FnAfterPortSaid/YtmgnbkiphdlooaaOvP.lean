/-
  The laws' portOf.
-/
import Derived.Test.YtmgnbkiphdlooaaGOm
import Derived.Test.YtmgnbkiphdlooaaGBx
import Derived.Test.YtmgnbkiphdlooaaGAp
import Derived.Test.YtmgnbkiphdlooaaGDr
namespace Go.Proofs.Ytmgnbkiphdlooaa
open Go.RowKit
set_option linter.unusedVariables false

/-- The port of what has an id; -1 where there is none. -/
def ptO (l : List Bx) (x : Int) : Int := if findB l x < 0 then -1 else ptB l x
theorem ptO_yes {l : List Bx} {x : Int} (h : 0 ≤ findB l x) : ptO l x = ptB l x := if_neg (by omega)
theorem samePt_ok {l : List Bx} (h : bxsOk l = true) : bxsOk (samePt l) = true := by
  obtain ⟨h1, h2⟩ := bxsOk_each h
  have ha : ∀ k, k < (samePt l).length → okAt (samePt l) k = true := fun k hk => by
    have hk' : k < l.length := by rw [samePt_len] at hk; exact hk
    have h3 := (okAt_iff hk').1 (h1 k hk')
    refine (okAt_iff hk).2 ⟨?_, ?_⟩
    · rw [samePt_at hk']
      have h9 := bxOk_yes h3.1
      exact decide_eq_true (by simp only []; omega)
    · rw [samePt_at hk', samePt_find]; exact h3.2
  rw [bxsOk_end ha]
  exact decide_eq_true (by rw [samePt_len]; exact h2)
theorem samePt_take {l : List Bx} {k : Nat} (hk : k < l.length) : (samePt l).take (k + 1) = (samePt l).take k ++ [{ l[k] with p := 2 }] := by
  rw [List.take_add_one, List.getElem?_eq_getElem (show k < (samePt l).length by rw [samePt_len]; exact hk), samePt_at hk]
  rfl
theorem samePt_take_len {l : List Bx} {k : Nat} (hk : k ≤ l.length) : ((samePt l).take k).length = k := by rw [List.length_take, samePt_len]; omega
set_option maxRecDepth 10000 in
set_option maxHeartbeats 1000000 in
theorem portOf_any (v : Value) (l : List Bx) (id : Int) (w : World) (h : HoldsBx w v l) :
    Calls Try.prog 22 #[v, .int .i64 id] w fun e w' => e = .returned (.int .i64 (ptO l id)) ∧ w = w' := by
  obtain ⟨a, cap, rfl, h2, h3, h4⟩ := h
  have hm : l.length ≤ 9223372036854775807 := by unfold maxLen at h3; omega
  obtain ⟨n, hn⟩ : ∃ n, n = l.length := ⟨_, rfl⟩
  have HN := Lib.hid hn.symm
  rw [← hn]
  have hm' : n ≤ 9223372036854775807 := by omega
  have H4 := Lib.hid h4
  clear hn h2 h3 h4 hm
  go_enter Try.func22, Try.ntmps22
  go_wp2_with fail
  go_loop [5] (fun i => ∃ k : Nat, k ≤ n ∧ i = .int .i64 k ∧ Hid (∀ j (hj : j < l.length), j < k → l[j].i ≠ id)) (fun i => n - (intOf i).toNat)
  case atStart => exact ⟨0, by omega, rfl, Lib.hid fun j _ hj => by omega⟩
  case round =>
    obtain ⟨k, hk, rfl, HF⟩ := hrel
    by_cases hlt : k < n
    · rcases H4.out with h4 | ⟨b, off, rfl, h6, h7⟩
      · have := HN.out; omega
      · have hkl : k < l.length := by rw [HN.out]; exact hlt
        have s0 : w.cell? ⟨b, off + k * 5, none⟩ = some (.int .i64 l[k].i) := h7 k hkl 0 (by omega)
        have s3 : w.cell? ⟨b, off + k * 5 + 3, none⟩ = some (.int .i64 l[k].p) := h7 k hkl 3 (by omega)
        have H7 := Lib.hid h7
        clear h7
        by_cases he : l[k].i = id
        · have b1 : (l[k].i == id) = true := by rw [beq_iff_eq]; exact he
          have hfk := findB_hit l id k hkl HF.out he
          have hr := Lib.hid (show ptO l id = l[k].p from by
            unfold ptO ptB
            rw [if_neg (by omega), hfk, Int.toNat_natCast, getD_bx hkl])
          clear he hfk
          go_wp2_with fail
          go_ret
          exact ⟨by rw [hr.out]; rfl, rfl⟩
        · have b1 : (l[k].i == id) = false := by rw [beq_eq_false_iff_ne]; exact he
          have HE := Lib.hid he
          clear he
          go_wp2_with fail
          go_round
          case rel => exact ⟨k + 1, by omega, by go_num, Lib.hid fun j hj hjk => by
            by_cases e : j = k
            · subst e; exact HE.out
            · exact HF.out j hj (by omega)⟩
          case measure => simp [intOf]; omega
    · have hr := Lib.hid (show ptO l id = -1 from if_pos (by rw [findB_none l id fun j hj => HF.out j hj (by rw [HN.out] at hj; omega)]; omega))
      go_wp2_with fail
      go_ret
      exact ⟨by rw [hr.out]; rfl, rfl⟩
end Go.Proofs.Ytmgnbkiphdlooaa
