/-
  The contract of the model's l1Cut.
-/
import Derived.Test.YtjnoekhdkmgagaaDoorLcMath
import Derived.Test.YtjnoekhdkmgagaaDoorRows
import Derived.WalkKit
import Derived.Lib.Hide
import Derived.OwnWalk
import Derived.Below
import Derived.Deep.Draws
import Derived.Laws.Rows
namespace Go.Proofs.YtjnoekhdkmgagaaDoor
open Go.RowKit
set_option linter.unusedVariables false

theorem infoStr : (Tryd.prog.info? 9).map (fun i => (i.zero, i.size, i.bytes)) = some (some (.string ByteArray.empty), 1, 16) := by kernel_rfl

/-- A row of texts, block g. -/
def TextsAt (w : World) (g : Nat) (l : List ByteArray) : Prop := g < w.heap.size ∧ ∀ k (hk : k < l.length), w.cell? ⟨g, k, none⟩ = some (.string l[k])
theorem TextsAt.keep {w w' : World} {g : Nat} {l : List ByteArray} (h : TextsAt w g l) (hb : Below w.heap.size w w') : TextsAt w' g l :=
  ⟨Nat.lt_of_lt_of_le h.1 hb.size, fun k hk => (hb.cell (p := ⟨g, k, none⟩) h.1).trans (h.2 k hk)⟩
theorem TextsAt.of_own {w : World} {base : Nat} {e : TypeId} {v : Value} {l : List ByteArray} (h : w.ownsRow base e 1 v l.length (l.map .string)) (hl : 0 < l.length) :
    ∃ g cap, v = .slice (some ⟨g, 0, none⟩) l.length cap ∧ l.length ≤ cap ∧ cap ≤ maxLen ∧ base ≤ g ∧ TextsAt w g l := by
  rcases h.2 with ⟨_, h0⟩ | ⟨g, cap, cur, rfl, hb, hg, hc, hm, hs, hx⟩
  · omega
  · have hlt : g < w.heap.size := by
      rcases Nat.lt_or_ge g w.heap.size with h' | h'
      · exact h'
      · rw [Array.getElem?_eq_none h'] at hg; cases hg
    refine ⟨g, cap, rfl, hc, hm, hb, hlt, fun k hk => ?_⟩
    have e1 : (l.map Value.string)[k]? = some (.string l[k]) := by rw [List.getElem?_map, List.getElem?_eq_getElem hk]; rfl
    rw [← hx, List.getElem?_take, if_pos (by omega)] at e1
    simp only [World.cell?, hg]
    simpa using e1

theorem own_base {w : World} {base n size : Nat} {e : TypeId} {v : Value} {xs : List Value} (h : w.ownsRow base e size v n xs) (k : Nat) (hk : v.ownBlock = some k) : base ≤ k := by
  rcases h.2 with ⟨rfl, _⟩ | ⟨g, cap, cur, rfl, hb, _⟩
  · simp [Value.ownBlock] at hk
  · simp [Value.ownBlock] at hk; omega
/-- What a cut at every one of a byte gives. -/
def LcGives (s : ByteArray) (c : UInt8) (w : World) (e : Ending) (w' : World) : Prop :=
  ∃ g cap done last, e = .returned (.slice (some ⟨g, 0, none⟩) (done.length + 1) cap) ∧ done.length + 1 ≤ cap ∧ cap ≤ maxLen ∧ w.heap.size ≤ g ∧ TextsAt w' g (done ++ [last]) ∧ CutUp s c done last ∧ Below w.heap.size w w'

theorem own_strs {w : World} {base : Nat} {e : TypeId} {v : Value} {done : List ByteArray} {p : ByteArray} (h : w.ownsRow base e 1 v (done.length + 1) (done.map .string ++ [.string p])) : w.ownsRow base e 1 v (done ++ [p]).length ((done ++ [p]).map .string) := by
  rw [List.map_append, List.length_append]; exact h

set_option maxHeartbeats 1000000 in
theorem l1Cut_any (s : ByteArray) (c : UInt8) (w : World) (hm : s.size ≤ 2000000) :
    Calls Tryd.prog 28 #[.string s, .int .u8 c.toNat] w (LcGives s c w) := by
  obtain ⟨i0, hi, hz0, hz1, hz2⟩ := info_parts infoStr
  have HI := Lib.hid hi
  have HZ0 := Lib.hid hz0
  have HZ1 := Lib.hid hz1
  have HZ2 := Lib.hid hz2
  clear hi hz0 hz1 hz2
  have hcc : (c.toNat : Int) ≤ 255 := by have := c.toNat_lt; omega
  go_enter Tryd.func28, Tryd.ntmps28
  go_wp2_with fail
  go_loopw [5, 6, 7] (fun v f i wr => ∃ (k g : Nat) (done : List ByteArray), i = .int .i64 k ∧ f = .int .i64 g ∧ Hid (CutRel s c done g k) ∧ wr.ownsRow w.heap.size 9 1 v done.length (done.map .string) ∧ Below w.heap.size w wr) (fun _ _ i _ => s.size - (intOf i).toNat)
  case atStart =>
    refine ⟨0, 0, [], rfl, rfl, Lib.hid (CutRel.start s c), ?_, (Below.refl _ _).alloc (Nat.le_refl _) _⟩
    refine ⟨rfl, .inr ⟨w.heap.size, 0, #[], rfl, Nat.le_refl _, ?_, Nat.le_refl _, Nat.zero_le _, rfl, rfl⟩⟩
    show (w.heap.push _)[w.heap.size]? = _
    simp
  case round =>
    obtain ⟨k, g, done, rfl, rfl, HR, hown, hbr⟩ := hrel
    have hgk : g ≤ k := HR.out.1
    have hks : k ≤ s.size := HR.out.2.1
    have hdl : done.length ≤ g := HR.out.2.2.2.2.2
    by_cases hlt : k < s.size
    · have hc1 : (s[k].toNat : Int) ≤ 255 := by have := s[k].toNat_lt; omega
      by_cases he : s[k] = c
      · have b1 : ((s[k].toNat : Int) == (c.toNat : Int)) = true := by rw [he]; exact beq_self_eq_true _
        have HR2 := Lib.hid (HR.out.yes hlt he)
        clear he
        have e1 : ((k : Int) + 1) ≤ (s.size : Int) := by omega
        go_wp2_with (at_builtin; refine wpList_append_own _ rfl _ _ 47 rfl w.heap.size 9 i0 (.string ByteArray.empty) 1 16 Tryd.underlying47 HI.out HZ0.out HZ1.out HZ2.out rfl (by decide) _ _ _ rfl (hown.alloc _) ⟨wr.heap.size, 0, none⟩ 1 1 [.string (s.extract g k)] rfl rfl (fun j u hu => by cases j with | zero => (rw [← Option.some.inj hu]; exact (World.cell?_alloc_new _ _ _ _).trans rfl) | succ j => cases hu) (by simp [Value.oneCell']) (by unfold maxLen; omega) (by omega) (by have := hbr.size; simp; omega) ?_; intro v' w1 hown1 hgrow _)
        have hb1 : Below w.heap.size w w1 := (hbr.alloc hbr.size _).grown hgrow (by have := hbr.size; simp; omega) (fun k hk => own_base hown k hk)
        clear hgrow
        go_roundw
        case rel => exact ⟨k + 1, k + 1, done ++ [s.extract g k], by go_num, by go_num, HR2, own_strs hown1, hb1⟩
        case measure => simp [intOf]; omega
      · have b1 : ((s[k].toNat : Int) == (c.toNat : Int)) = false := by
          rw [beq_eq_false_iff_ne]; intro e; exact he (UInt8.toNat_inj.1 (by omega))
        have HR2 := Lib.hid (HR.out.no hlt he)
        clear he
        go_wp2_with fail
        go_roundw
        case rel => exact ⟨k + 1, g, done, by go_num, rfl, HR2, hown, hbr⟩
        case measure => simp [intOf]; omega
    · obtain rfl : k = s.size := by omega
      have HE := Lib.hid HR.out.ends
      go_wp2_with (at_builtin; refine wpList_append_own _ rfl _ _ 47 rfl w.heap.size 9 i0 (.string ByteArray.empty) 1 16 Tryd.underlying47 HI.out HZ0.out HZ1.out HZ2.out rfl (by decide) _ _ _ rfl (hown.alloc _) ⟨wr.heap.size, 0, none⟩ 1 1 [.string (s.extract g s.size)] rfl rfl (fun j u hu => by cases j with | zero => (rw [← Option.some.inj hu]; exact (World.cell?_alloc_new _ _ _ _).trans rfl) | succ j => cases hu) (by simp [Value.oneCell']) (by unfold maxLen; omega) (by omega) (by have := hbr.size; simp; omega) ?_; intro v' w1 hown1 hgrow _)
      have hb1 : Below w.heap.size w w1 := (hbr.alloc hbr.size _).grown hgrow (by have := hbr.size; simp; omega) (fun k hk => own_base hown k hk)
      obtain ⟨g', cap', rfl, q1, q2, q3, hh⟩ := TextsAt.of_own (own_strs hown1) (by simp)
      have HH := Lib.hid hh
      have HQ := Lib.hid (show done.length + 1 ≤ cap' by simpa using q1)
      clear hgrow hown1 hh q1
      go_wp2_with fail
      go_ret
      exact ⟨_, _, _, _, by simp, HQ.out, q2, q3, HH.out, HE.out, hb1⟩
end Go.Proofs.YtjnoekhdkmgagaaDoor
