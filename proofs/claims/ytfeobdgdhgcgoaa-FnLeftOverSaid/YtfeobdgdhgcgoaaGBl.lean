/-
  The contract of the program's portValid (since b6d371d).
  The contract of the program's classValid (since d2745ae).
  The contract of the program's BoxValid (since d2745ae it calls classValid).
  Contracts of the program's functions on lists of boxes: indexOfId, BoxesValid, FindBox.
  The contract of the program's WeightOf.
-/
import Derived.Test.YtfeobdgdhgcgoaaRows
import Derived.WalkKit
import Derived.Lib.Hide
import Derived.Test.YtfeobdgdhgcgoaaGBx
import Derived.Test.YtfeobdgdhgcgoaaGStk
import Derived.Test.YtfeobdgdhgcgoaaGNo
namespace Go.Proofs.Ytfeobdgdhgcgoaa
open Go.RowKit
set_option linter.unusedVariables false


theorem implPortValid_yes (n : Int) (w : World) (h : 0 ≤ n ∧ n ≤ 6) :
    Calls Try.prog 91 #[.int .i64 n] w fun e w' => e = .returned (.bool true) ∧ w = w' := by
  obtain ⟨h1, h2⟩ := h
  go_enter Try.func91, Try.ntmps91
  go_wp2
  go_ret
  exact ⟨rfl, rfl⟩
theorem implPortValid_no (n : Int) (w : World) (h : ¬ (0 ≤ n ∧ n ≤ 6)) :
    Calls Try.prog 91 #[.int .i64 n] w fun e w' => e = .returned (.bool false) ∧ w = w' := by
  by_cases h1 : 0 ≤ n
  · have h2 : decide (n ≤ 6) = false := decide_eq_false (by omega)
    clear h
    go_enter Try.func91, Try.ntmps91
    go_wp2
    go_ret
    exact ⟨rfl, rfl⟩
  · have h2 : decide (0 ≤ n) = false := decide_eq_false h1
    clear h h1
    go_enter Try.func91, Try.ntmps91
    go_wp2
    go_ret
    exact ⟨rfl, rfl⟩
end Go.Proofs.Ytfeobdgdhgcgoaa
namespace Go.Proofs.Ytfeobdgdhgcgoaa
open Go.RowKit
set_option linter.unusedVariables false


theorem implClassValid_yes (n : Int) (w : World) (h : 0 ≤ n ∧ n ≤ 3) :
    Calls Try.prog 95 #[.int .i64 n] w fun e w' => e = .returned (.bool true) ∧ w = w' := by
  obtain ⟨h1, h2⟩ := h
  go_enter Try.func95, Try.ntmps95
  go_wp2
  go_ret
  exact ⟨rfl, rfl⟩
theorem implClassValid_no (n : Int) (w : World) (h : ¬ (0 ≤ n ∧ n ≤ 3)) :
    Calls Try.prog 95 #[.int .i64 n] w fun e w' => e = .returned (.bool false) ∧ w = w' := by
  by_cases h1 : 0 ≤ n
  · have h2 : decide (n ≤ 3) = false := decide_eq_false (by omega)
    clear h
    go_enter Try.func95, Try.ntmps95
    go_wp2
    go_ret
    exact ⟨rfl, rfl⟩
  · have h2 : decide (0 ≤ n) = false := decide_eq_false h1
    clear h h1
    go_enter Try.func95, Try.ntmps95
    go_wp2
    go_ret
    exact ⟨rfl, rfl⟩
end Go.Proofs.Ytfeobdgdhgcgoaa
namespace Go.Proofs.Ytfeobdgdhgcgoaa
open Go.RowKit
set_option linter.unusedVariables false

set_option maxHeartbeats 400000 in
theorem implBoxValid_any (i g c p : Int) (d : Bool) (w : World) :
    Calls Try.prog 74 #[.agg #[.int .i64 i, .int .i64 g, .int .i64 c, .int .i64 p, .bool d]] w fun e w' => e = .returned (.bool (bxOk i g c p)) ∧ Below w.heap.size w w' := by
  have HB := Lib.hid (show ∀ o, Below w.heap.size w (w.alloc o) from fun o => (Below.refl _ _).alloc (Nat.le_refl _) o)
  go_enter Try.func74, Try.ntmps74
  by_cases hi : 1 ≤ i ∧ i ≤ 999
  · by_cases h1 : 1 ≤ g
    · by_cases h2 : g ≤ 30
      · by_cases hc : 0 ≤ c ∧ c ≤ 3
        · by_cases hp : 0 ≤ p ∧ p ≤ 6
          · skip
            go_wp2_with fail
            refine (implIdValid_yes i _ hi).mono ?_
            rintro e w' ⟨rfl, rfl⟩
            go_wp2_with fail
            refine (implClassValid_yes c _ hc).mono ?_
            rintro e w' ⟨rfl, rfl⟩
            go_wp2_with fail
            refine (implPortValid_yes p _ hp).mono ?_
            rintro e w' ⟨rfl, rfl⟩
            go_wp2_with fail
            go_ret
            refine ⟨ret_bool ?_, HB.out _⟩
            unfold bxOk
            exact (decide_eq_true (by omega)).symm
          · skip
            go_wp2_with fail
            refine (implIdValid_yes i _ hi).mono ?_
            rintro e w' ⟨rfl, rfl⟩
            go_wp2_with fail
            refine (implClassValid_yes c _ hc).mono ?_
            rintro e w' ⟨rfl, rfl⟩
            go_wp2_with fail
            refine (implPortValid_no p _ hp).mono ?_
            rintro e w' ⟨rfl, rfl⟩
            go_wp2_with fail
            go_ret
            refine ⟨ret_bool ?_, HB.out _⟩
            unfold bxOk
            exact (decide_eq_false (by omega)).symm
        · skip
          go_wp2_with fail
          refine (implIdValid_yes i _ hi).mono ?_
          rintro e w' ⟨rfl, rfl⟩
          go_wp2_with fail
          refine (implClassValid_no c _ hc).mono ?_
          rintro e w' ⟨rfl, rfl⟩
          go_wp2_with fail
          go_ret
          refine ⟨ret_bool ?_, HB.out _⟩
          unfold bxOk
          exact (decide_eq_false (by omega)).symm
      · have hd : decide (g ≤ 30) = false := decide_eq_false h2
        go_wp2_with fail
        refine (implIdValid_yes i _ hi).mono ?_
        rintro e w' ⟨rfl, rfl⟩
        go_wp2_with fail
        go_ret
        refine ⟨ret_bool ?_, HB.out _⟩
        unfold bxOk
        exact (decide_eq_false (by omega)).symm
    · have hd : decide (1 ≤ g) = false := decide_eq_false h1
      go_wp2_with fail
      refine (implIdValid_yes i _ hi).mono ?_
      rintro e w' ⟨rfl, rfl⟩
      go_wp2_with fail
      go_ret
      refine ⟨ret_bool ?_, HB.out _⟩
      unfold bxOk
      exact (decide_eq_false (by omega)).symm
  · skip
    go_wp2_with fail
    refine (implIdValid_no i _ hi).mono ?_
    rintro e w' ⟨rfl, rfl⟩
    go_wp2_with fail
    go_ret
    refine ⟨ret_bool ?_, HB.out _⟩
    unfold bxOk
    exact (decide_eq_false (by omega)).symm
end Go.Proofs.Ytfeobdgdhgcgoaa
namespace Go.Proofs.Ytfeobdgdhgcgoaa
open Go.RowKit
set_option linter.unusedVariables false

/-- A list's beginning holds what the list holds. -/
theorem HoldsBx.take {w : World} {a : Option Addr} {cap : Nat} {l : List Bx} (k : Nat) (hk : k ≤ l.length) (h : HoldsBx w (.slice a l.length cap) l) : HoldsBx w (.slice a k cap) (l.take k) := by
  obtain ⟨a', cap', he, h2, h3, h4⟩ := h
  simp only [Value.slice.injEq, true_and] at he
  obtain ⟨rfl, rfl⟩ := he
  have hl : (l.take k).length = k := by rw [List.length_take]; omega
  refine ⟨a, cap, by rw [hl], by omega, h3, ?_⟩
  rcases h4 with h4 | ⟨b, off, h5, h6, h7⟩
  · exact .inl (by omega)
  · refine .inr ⟨b, off, h5, h6, fun j hj i hi => ?_⟩
    rw [h7 j (by omega) i hi, List.getElem_take]

theorem HasBox.new {w w' : World} {i g c p : Int} {d : Bool} {T : TypeId} (hb : Below w.heap.size w w') : HasBox w'.heap.size i g c p d w (w'.alloc (.cells #[.int .i64 i, .int .i64 g, .int .i64 c, .int .i64 p, .bool d] T)) := by
  refine ⟨by rw [World.cell?_alloc_new]; rfl, by rw [World.cell?_alloc_new]; rfl, by rw [World.cell?_alloc_new]; rfl, by rw [World.cell?_alloc_new]; rfl, by rw [World.cell?_alloc_new]; rfl, by simp, hb.alloc hb.size _⟩
/-- What the rounds' regions bear: the cells that they load, and the rest. -/
def Bears5 (B : Nat) (i g c p : Int) (d : Bool) (w w1 : World) : Prop :=
  w1.cell? ⟨B, 0, none⟩ = some (.int .i64 i) ∧ w1.cell? ⟨B, 1, none⟩ = some (.int .i64 g) ∧ w1.cell? ⟨B, 2, none⟩ = some (.int .i64 c) ∧ w1.cell? ⟨B, 3, none⟩ = some (.int .i64 p) ∧ w1.cell? ⟨B, 4, none⟩ = some (.bool d) ∧ HasBox B i g c p d w w1
theorem HasBox.bears5 {B : Nat} {i g c p : Int} {d : Bool} {w w1 : World} (h : HasBox B i g c p d w w1) :
    w1.cell? ⟨B, 0, none⟩ = some (.int .i64 i) ∧ w1.cell? ⟨B, 1, none⟩ = some (.int .i64 g) ∧ w1.cell? ⟨B, 2, none⟩ = some (.int .i64 c) ∧ w1.cell? ⟨B, 3, none⟩ = some (.int .i64 p) ∧ w1.cell? ⟨B, 4, none⟩ = some (.bool d) ∧ HasBox B i g c p d w w1 :=
  ⟨h.1, h.2.1, h.2.2.1, h.2.2.2.1, h.2.2.2.2.1, h⟩
theorem HasBox.bears5_on {B : Nat} {i g c p : Int} {d : Bool} {w w1 w2 : World} (hb : Below w1.heap.size w1 w2)
    (h : w1.cell? ⟨B, 0, none⟩ = some (.int .i64 i) ∧ w1.cell? ⟨B, 1, none⟩ = some (.int .i64 g) ∧ w1.cell? ⟨B, 2, none⟩ = some (.int .i64 c) ∧ w1.cell? ⟨B, 3, none⟩ = some (.int .i64 p) ∧ w1.cell? ⟨B, 4, none⟩ = some (.bool d) ∧ HasBox B i g c p d w w1) :
    w2.cell? ⟨B, 0, none⟩ = some (.int .i64 i) ∧ w2.cell? ⟨B, 1, none⟩ = some (.int .i64 g) ∧ w2.cell? ⟨B, 2, none⟩ = some (.int .i64 c) ∧ w2.cell? ⟨B, 3, none⟩ = some (.int .i64 p) ∧ w2.cell? ⟨B, 4, none⟩ = some (.bool d) ∧ HasBox B i g c p d w w2 := (h.2.2.2.2.2.keep hb).bears5

/-- A box that is there is found. -/
theorem findB_has {l : List Bx} {k : Nat} (hk : k < l.length) : 0 ≤ findB l l[k].i := by
  rcases Int.lt_or_le (findB l l[k].i) 0 with h | h
  · exfalso
    have : ∀ (l : List Bx) (k : Nat) (hk : k < l.length) (id : Int), l[k].i = id → ¬ findB l id < 0 := by
      intro l
      induction l with
      | nil => intro k hk; exact absurd hk (by simp)
      | cons b l ih =>
        intro k hk id he
        unfold findB
        by_cases e : b.i = id
        · rw [if_pos e]; omega
        · rw [if_neg e]
          cases k with
          | zero => exact absurd he e
          | succ k =>
            have := ih k (by simpa using hk) id he
            rw [if_neg this]; omega
    exact this l k hk _ rfl h
  · exact h

/-- The first with an id in a list's beginning. -/
theorem findB_take : ∀ (l : List Bx) (id : Int) (k : Nat), k ≤ l.length → findB (l.take k) id = if findB l id < k then findB l id else -1
  | [], id, k, h => by
    have : k = 0 := by simpa using h
    subst this; rfl
  | b :: l, id, 0, _ => by
    have := findB_bd (b :: l) id
    show (-1 : Int) = _
    split <;> omega
  | b :: l, id, k + 1, h => by
    have ih := findB_take l id k (by simpa using h)
    have hb := findB_bd l id
    rw [List.take_succ_cons, findB, findB, ih]
    by_cases e : b.i = id
    · rw [if_pos e, if_pos e, if_pos (by omega)]
    · rw [if_neg e, if_neg e]
      by_cases h1 : findB l id < k
      · rw [if_pos h1]
        by_cases h2 : findB l id < 0
        · rw [if_pos h2, if_pos (by omega)]
        · rw [if_neg h2, if_pos (by omega)]
      · rw [if_neg h1, if_pos (by omega), if_neg (by omega : ¬ findB l id < 0), if_neg (by omega)]

set_option maxHeartbeats 400000 in
theorem indexOf_any (v : Value) (l : List Bx) (id : Int) (w : World) (h : HoldsBx w v l) :
    Calls Try.prog 51 #[v, .int .i64 id] w fun e w' => e = .returned (.int .i64 (findB l id)) ∧ Below w.heap.size w w' := by
  obtain ⟨a, cap, rfl, h2, h3, h4⟩ := h
  have hm : l.length ≤ 9223372036854775807 := by unfold maxLen at h3; omega
  obtain ⟨n, hn⟩ : ∃ n, n = l.length := ⟨_, rfl⟩
  have HN := Lib.hid hn.symm
  rw [← hn]
  have hm' : n ≤ 9223372036854775807 := by omega
  have H4 := Lib.hid h4
  clear hn h2 h3 h4 hm
  go_enter Try.func51, Try.ntmps51
  go_wp2_with fail
  go_loopw [9] (fun i wr => ∃ k : Nat, k ≤ n ∧ i = .int .i64 k ∧ Hid (∀ j (hj : j < l.length), j < k → l[j].i ≠ id) ∧ Below w.heap.size w wr) (fun i _ => n - (intOf i).toNat)
  case atStart => exact ⟨0, by omega, rfl, Lib.hid fun j _ hj => by omega, Below.refl _ _⟩
  case round =>
    obtain ⟨k, hk, rfl, HF, hbr⟩ := hrel
    by_cases hlt : k < n
    · rcases H4.out with h4 | ⟨b, off, rfl, h6, h7⟩
      · have := HN.out; omega
      · have hkl : k < l.length := by rw [HN.out]; exact hlt
        have hs : ∀ j, j < 5 → wr.cell? ⟨b, off + (k * 5 + j), none⟩ = l[k].cells[j]? := fun j hj => (hbr.cell (p := ⟨b, off + (k * 5 + j), none⟩) h6).trans (h7 k hkl j hj)
        have s0 : wr.cell? ⟨b, off + k * 5, none⟩ = some (.int .i64 l[k].i) := hs 0 (by omega)
        have s1 : wr.cell? ⟨b, off + k * 5 + 1, none⟩ = some (.int .i64 l[k].g) := hs 1 (by omega)
        have s2 : wr.cell? ⟨b, off + k * 5 + 2, none⟩ = some (.int .i64 l[k].c) := hs 2 (by omega)
        have s3 : wr.cell? ⟨b, off + k * 5 + 3, none⟩ = some (.int .i64 l[k].p) := hs 3 (by omega)
        have s4 : wr.cell? ⟨b, off + k * 5 + 4, none⟩ = some (.bool l[k].d) := hs 4 (by omega)
        have H7 := Lib.hid h7
        clear hs h7
        by_cases he : l[k].i = id
        · have b1 : (l[k].i == id) = true := by rw [beq_iff_eq]; exact he
          have hr := Lib.hid (findB_hit l id k hkl HF.out he)
          clear he
          go_wp2_with fail
          go_ret
          exact ⟨by rw [hr.out]; rfl, hbr.alloc hbr.size _⟩
        · have b1 : (l[k].i == id) = false := by rw [beq_eq_false_iff_ne]; exact he
          have HE := Lib.hid he
          clear he
          go_wp2_with fail
          go_roundw
          case rel => exact ⟨k + 1, by omega, by go_num, Lib.hid fun j hj hjk => by
            by_cases e : j = k
            · subst e; exact HE.out
            · exact HF.out j hj (by omega), hbr.alloc hbr.size _⟩
          case measure => simp [intOf]; omega
    · have hr := Lib.hid (findB_none l id fun j hj => HF.out j hj (by rw [HN.out] at hj; omega))
      go_wp2_with fail
      go_ret
      exact ⟨by rw [hr.out]; rfl, hbr⟩

theorem bxsOk_long {l : List Bx} (h : 10 < l.length) : bxsOk l = false := by
  unfold bxsOk
  rw [decide_eq_false (by omega), Bool.and_false]

set_option maxHeartbeats 1000000 in
theorem implBoxesValid_any (v : Value) (l : List Bx) (w : World) (h : HoldsBx w v l) :
    Calls Try.prog 40 #[v] w fun e w' => e = .returned (.bool (bxsOk l)) ∧ Below w.heap.size w w' := by
  have HH := Lib.hid h
  obtain ⟨a, cap, rfl, h2, h3, h4⟩ := h
  have hm : l.length ≤ 9223372036854775807 := by unfold maxLen at h3; omega
  have hcap : l.length ≤ cap := h2
  have hcap2 : cap ≤ 9223372036854775807 := by unfold maxLen at h3; omega
  have HT := Lib.hid fun (w : World) (h : HoldsBx w (.slice a l.length cap) l) (k : Nat) (hk : k ≤ l.length) id => indexOf_any (.slice a k cap) (l.take k) id w (HoldsBx.take k hk h)
  obtain ⟨n, hn⟩ : ∃ n, n = l.length := ⟨_, rfl⟩
  have HN := Lib.hid hn.symm
  by_cases hlong : 10 < l.length
  · have hr := Lib.hid (bxsOk_long hlong)
    rw [← hn] at hlong ⊢
    clear h2 h3 h4 hm hn HH HT hcap
    go_enter Try.func40, Try.ntmps40
    go_wp2_with fail
    go_ret
    exact ⟨by rw [hr.out]; rfl, Below.refl _ _⟩
  rw [← hn] at HH hcap HT hlong ⊢
  have hm' : n ≤ 9223372036854775807 := by omega
  have H4 := Lib.hid h4
  clear hn h2 h3 h4 hm
  go_enter Try.func40, Try.ntmps40
  go_wp2_with fail
  go_loopw [10] (fun i wr => ∃ k : Nat, k ≤ n ∧ i = .int .i64 k ∧ Hid (∀ j, j < k → okAt l j = true) ∧ Below w.heap.size w wr) (fun i _ => n - (intOf i).toNat)
  case atStart => exact ⟨0, by omega, rfl, Lib.hid fun j hj => by omega, Below.refl _ _⟩
  case round =>
    obtain ⟨k, hk, rfl, HA, hbr⟩ := hrel
    by_cases hlt : k < n
    · have hkl : k < l.length := by rw [HN.out]; exact hlt
      rcases H4.out with h4 | ⟨b, off, rfl, h6, h7⟩
      · have := HN.out; omega
      · have hs : ∀ j, j < 5 → wr.cell? ⟨b, off + (k * 5 + j), none⟩ = l[k].cells[j]? := fun j hj => (hbr.cell (p := ⟨b, off + (k * 5 + j), none⟩) h6).trans (h7 k hkl j hj)
        have s0 : wr.cell? ⟨b, off + k * 5, none⟩ = some (.int .i64 l[k].i) := hs 0 (by omega)
        have s1 : wr.cell? ⟨b, off + k * 5 + 1, none⟩ = some (.int .i64 l[k].g) := hs 1 (by omega)
        have s2 : wr.cell? ⟨b, off + k * 5 + 2, none⟩ = some (.int .i64 l[k].c) := hs 2 (by omega)
        have s3 : wr.cell? ⟨b, off + k * 5 + 3, none⟩ = some (.int .i64 l[k].p) := hs 3 (by omega)
        have s4 : wr.cell? ⟨b, off + k * 5 + 4, none⟩ = some (.bool l[k].d) := hs 4 (by omega)
        have HV := Lib.hid fun w => implBoxValid_any l[k].i l[k].g l[k].c l[k].p l[k].d w
        have hgd := getD_bx hkl
        have hat : okAt l k = (bxOk l[k].i l[k].g l[k].c l[k].p && !decide (findB l l[k].i < k)) := by unfold okAt Bx.ok; rw [hgd]
        have HAT := Lib.hid hat
        have HBAD := Lib.hid (fun h => bxsOk_at hkl h)
        have htk := Lib.hid (findB_take l l[k].i k (by omega))
        have hhas := Lib.hid (findB_has hkl)
        have HTk := Lib.hid fun w h => HT.out w h k (by omega) l[k].i
        have H7 := Lib.hid h7
        clear hs h7 hgd hat
        generalize l[k].i = i at s0 HV HAT htk hhas HTk
        generalize l[k].g = g at s1 HV HAT
        generalize l[k].c = c at s2 HV HAT
        generalize l[k].p = p at s3 HV HAT
        generalize l[k].d = d at s4 HV
        generalize findB (l.take k) i = z at htk HTk
        cases hok : bxOk i g c p
        · rw [hok] at HV HAT
          have hr := Lib.hid (HBAD.out (by rw [HAT.out]; rfl))
          clear HAT hok
          go_wp2_with fail
          have hbx := HasBox.new (i := i) (g := g) (c := c) (p := p) (d := d) (T := 33) hbr
          clear s0 s1 s2 s3 s4
          generalize hW : wr.alloc (.cells #[.int .i64 i, .int .i64 g, .int .i64 c, .int .i64 p, .bool d] 33) = W at hbx ⊢
          clear hW
          obtain ⟨k0, k1, k2, k3, k4, -⟩ := hbx.bears5
          generalize wr.heap.size = B at hbx k0 k1 k2 k3 k4 ⊢
          (first | go_region_with (go_at_call 74; ((with_reducible refine (HV.out _).mono ?_); rintro e w2 ⟨rfl, b2⟩)) | fail)
          all_goals
            have hx := (hbx.drew.keep b2).2.2.2.2.2.2
            go_wp2_with fail
            go_ret
            exact ⟨by rw [hr.out]; rfl, hx⟩
        · rw [hok] at HV HAT
          clear hok
          go_wp2_with fail
          have hbx := HasBox.new (i := i) (g := g) (c := c) (p := p) (d := d) (T := 33) hbr
          clear s0 s1 s2 s3 s4
          generalize hW : wr.alloc (.cells #[.int .i64 i, .int .i64 g, .int .i64 c, .int .i64 p, .bool d] 33) = W at hbx ⊢
          clear hW
          generalize wr.heap.size = B at hbx ⊢
          have hbb := hbx.drew.bears5
          have HTS := Lib.hid fun (w' : World) (h : w'.cell? ⟨B, 0, none⟩ = some (.int .i64 i) ∧ w'.cell? ⟨B, 1, none⟩ = some (.int .i64 g) ∧ w'.cell? ⟨B, 2, none⟩ = some (.int .i64 c) ∧ w'.cell? ⟨B, 3, none⟩ = some (.int .i64 p) ∧ w'.cell? ⟨B, 4, none⟩ = some (.bool d) ∧ HasBox B i g c p d w w') => HTk.out w' (HH.out.keep h.2.2.2.2.2.2.2.2.2.2.2)
          have ik : (0 : Int) ≤ (k : Int) := by omega
          have ikn : (k : Int) ≤ (cap : Int) := by omega
          (first | (go_region_held3 (fun w' => w'.cell? ⟨B, 0, none⟩ = some (.int .i64 i) ∧ w'.cell? ⟨B, 1, none⟩ = some (.int .i64 g) ∧ w'.cell? ⟨B, 2, none⟩ = some (.int .i64 c) ∧ w'.cell? ⟨B, 3, none⟩ = some (.int .i64 p) ∧ w'.cell? ⟨B, 4, none⟩ = some (.bool d) ∧ HasBox B i g c p d w w')
            (first | exact hbb | (refine HasBox.bears5_on ‹_› ‹_›))
            (first | (go_at_call 74; ((with_reducible refine (HV.out _).mono ?_); rintro e w2 ⟨rfl, b2⟩)) | (go_at_call 51; ((with_reducible refine (HTS.out _ ‹_›).mono ?_); rintro e w2 ⟨rfl, b2⟩)))) | fail)
          rename_i hheld
          have hx := hheld.2.2.2.2.2.2.2.2.2.2.2
          clear hheld
          by_cases hz : z < 0
          · have hr := Lib.hid (show okAt l k = true by
              rw [HAT.out]
              have h1 : ¬ findB l i < k := fun h => by
                have e := htk.out
                rw [if_pos h] at e
                have := hhas.out
                omega
              rw [decide_eq_false h1]; rfl)
            clear HAT
            go_wp2_with fail
            go_roundw
            case rel => exact ⟨k + 1, by omega, by go_num, Lib.hid fun j hj => by
              by_cases e : j = k
              · subst e; exact hr.out
              · exact HA.out j (by omega), hx⟩
            case measure => simp [intOf]; omega
          · have hr := Lib.hid (HBAD.out (by
              rw [HAT.out]
              have h1 : findB l i < k := by
                rcases Int.lt_or_le (findB l i) k with hh | hh
                · exact hh
                · have e := htk.out
                  rw [if_neg (by omega)] at e; omega
              rw [decide_eq_true h1]; rfl))
            clear HAT
            go_wp2_with fail
            go_ret
            exact ⟨by rw [hr.out]; rfl, hx⟩
    · have hr := Lib.hid (bxsOk_end fun j hj => HA.out j (by rw [HN.out] at hj; omega))
      have hr2 := Lib.hid (show bxsOk l = true by rw [hr.out, HN.out]; exact decide_eq_true (by omega))
      go_wp2_with fail
      go_ret
      exact ⟨by rw [hr2.out]; rfl, hbr⟩

theorem implFindBox_any (v : Value) (l : List Bx) (id : Int) (w : World) (h : HoldsBx w v l) :
    Calls Try.prog 15 #[v, .int .i64 id] w fun e w' => e = .returned (.int .i64 (findS l id)) ∧ Below w.heap.size w w' := by
  have HV := Lib.hid (implBoxesValid_any v l w h)
  unfold findS
  cases hok : bxsOk l
  · rw [hok] at HV
    go_enter Try.func15, Try.ntmps15
    go_wp2_with fail
    refine HV.out.mono ?_
    rintro e w1 ⟨rfl, b1⟩
    go_wp2_with fail
    go_ret
    exact ⟨rfl, b1⟩
  · rw [hok] at HV
    have HF := Lib.hid fun w1 (b1 : Below w.heap.size w w1) => indexOf_any v l id w1 (h.keep b1)
    clear h
    go_enter Try.func15, Try.ntmps15
    go_wp2_with fail
    refine HV.out.mono ?_
    rintro e w1 ⟨rfl, b1⟩
    go_wp2_with fail
    refine (HF.out w1 b1).mono ?_
    rintro e w2 ⟨rfl, b2⟩
    go_wp2_with fail
    go_ret
    exact ⟨rfl, b1.trans (b2.mono b1.size)⟩
end Go.Proofs.Ytfeobdgdhgcgoaa
namespace Go.Proofs.Ytfeobdgdhgcgoaa
open Go.RowKit
set_option linter.unusedVariables false

end Go.Proofs.Ytfeobdgdhgcgoaa
