/-
  The model's PlanFind.
-/
import Derived.Test.YtggbgjadfmjaaaaPlO
namespace Go.Proofs.Ytggbgjadfmjaaaa
open Go.RowKit
set_option linter.unusedVariables false

set_option maxRecDepth 10000 in
set_option maxHeartbeats 2000000 in
theorem specPlanFind_any (h : Hl) (u v : Value) (l : List Bx) (p : List Int) (id : Int) (w : World) (hb : HoldsBx w u l) (hp : HoldsI w v p) :
    Calls Try.prog 31 #[.agg #[.int .i64 h.b, .int .i64 h.r, .int .i64 h.t], u, v, .int .i64 id] w fun e w' => e = .returned (.int .i64 (findP h (bxsOk l) (bxIds l) p id)) ∧ Below w.heap.size w w' := by
  have hb1 := (Below.refl w.heap.size w).alloc (Nat.le_refl _) (.cells #[.int .i64 h.b, .int .i64 h.r, .int .i64 h.t] 24)
  have hx1 := BoxH.new w h
  obtain ⟨W1, hW1⟩ : ∃ W1, W1 = w.alloc (.cells #[.int .i64 h.b, .int .i64 h.r, .int .i64 h.t] 24) := ⟨_, rfl⟩
  rw [← hW1] at hb1 hx1
  have HW := Lib.hid hW1
  have HB := Lib.hid hb1
  have y0 := hx1.c0
  have y1 := hx1.c1
  have y2 := hx1.c2
  have HX := Lib.hid fun (w' : World) (hs : Below W1.heap.size W1 w') => hx1.keep hs
  have PK := Lib.hid fun (w' : World) (hs : Below w.heap.size w w') => hp.keep hs
  have BK := Lib.hid fun (w' : World) (hs : Below w.heap.size w w') => hb.keep hs
  have HPV := Lib.hid fun (w' : World) (hs : Below w.heap.size w w') => specPlanValid_any h u v l p w' (hb.keep hs) (hp.keep hs)
  obtain ⟨pa, pc, rfl⟩ := hp.form
  have hpc : p.length ≤ pc ∧ pc ≤ 9223372036854775807 := by
    obtain ⟨a', c', e, q1, q2, _⟩ := hp
    simp only [Value.slice.injEq] at e
    obtain ⟨-, -, rfl⟩ := e
    unfold maxLen at q2
    omega
  by_cases hid : 0 < id
  · cases hok : plOk h (bxsOk l) (bxIds l) p
    · have hr := Lib.hid (findP_none (id := id) (h := h) (bok := bxsOk l) (ids := bxIds l) (p := p) (fun hc => by rw [hok] at hc; cases hc.2.1))
      rw [hok] at HPV
      obtain ⟨n, hn⟩ : ∃ n, n = p.length := ⟨_, rfl⟩
      rw [← hn] at HPV hpc ⊢
      clear hW1 hb1 hx1 hb hp hok hn
      go_enter Try.func31, Try.ntmps31
      go_wp2_with fail
      rw [← HW.out]
      go_wp2_with fail
      go_loopw [9] (fun i wr => i = .int .i64 0 ∧ wr = W1) (fun _ _ => 0)
      case atStart => exact ⟨rfl, rfl⟩
      case round =>
        obtain ⟨rfl, rfl⟩ := hrel
        by_cases hlt : 0 < n
        · have hi : decide ((0 : Int) < (n : Int)) = true := decide_eq_true (by omega)
          go_wp2_with fail
          refine (HPV.out _ HB.out).mono ?_
          rintro e w2 ⟨rfl, b2⟩
          go_wp2_with fail
          go_ret
          exact ⟨by rw [hr.out]; rfl, HB.out.trans (b2.mono HB.out.size)⟩
        · have hi : decide ((0 : Int) < (n : Int)) = false := decide_eq_false (by omega)
          go_wp2_with fail
          go_ret
          exact ⟨by rw [hr.out]; rfl, HB.out⟩
    · have HR := Lib.hid fun k (hl : k < p.length) he => findP_hit (h := h) (bok := bxsOk l) (ids := bxIds l) (p := p) (id := id) hid hok (k := k) hl he
      have HN := Lib.hid fun (ha : ∀ j, j < p.length → pAt p j ≠ id) => findP_none (id := id) (h := h) (bok := bxsOk l) (ids := bxIds l) (p := p) (fun hc => by
        obtain ⟨j, hj, he⟩ := List.getElem_of_mem hc.2.2
        exact ha j hj (by rw [pAt_get hj]; exact he))
      rw [hok] at HPV
      obtain ⟨n, hn⟩ : ∃ n, n = p.length := ⟨_, rfl⟩
      rw [← hn] at HPV HR HN PK hpc ⊢
      clear hW1 hb1 hx1 hb hp hok hn
      go_enter Try.func31, Try.ntmps31
      go_wp2_with fail
      rw [← HW.out]
      go_wp2_with fail
      go_loopw [9] (fun i wr => ∃ k : Nat, k ≤ n ∧ i = .int .i64 k ∧ Hid (∀ j, j < k → pAt p j ≠ id) ∧ Hid (Below W1.heap.size W1 wr) ∧ Hid (Below w.heap.size w wr)) (fun i _ => n - (intOf i).toNat)
      case atStart => exact ⟨0, by omega, rfl, Lib.hid fun j hj => by omega, Lib.hid (Below.refl _ _), HB⟩
      case round =>
        obtain ⟨k, hkn, rfl, HA, DR, BR⟩ := hrel
        have y := HX.out wr DR.out
        have y0 := y.c0
        have y1 := y.c1
        have y2 := y.c2
        clear y
        have HPr := Lib.hid (HPV.out wr BR.out)
        by_cases hlt : k < n
        · obtain ⟨b, off, rfl, hbl, s0⟩ := (PK.out wr BR.out).at_ hlt
          have ik : (k : Int) < (n : Int) := by omega
          have i0k : (0 : Int) ≤ (k : Int) := by omega
          have e1 : p.getD k 0 = pAt p k := rfl
          rw [e1] at s0
          clear e1
          by_cases hz : pAt p k = id
          · have hr := Lib.hid (HR.out k hlt hz)
            have b1 : (pAt p k == id) = true := by simpa using hz
            clear hz
            obtain ⟨x, hxx⟩ : ∃ x, x = pAt p k := ⟨_, rfl⟩
            rw [← hxx] at s0 b1
            clear hxx
            go_wp2_with fail
            refine HPr.out.mono ?_
            rintro e w2 ⟨rfl, b2⟩
            have s1 : w2.cell? ⟨b, off + k, none⟩ = some (.int .i64 x) := (b2.cell (p := ⟨b, off + k, none⟩) hbl).trans s0
            clear s0 y0 y1 y2
            go_wp2_with fail
            go_ret
            exact ⟨by rw [hr.out]; rfl, BR.out.trans (b2.mono BR.out.size)⟩
          · have hs := Lib.hid hz
            have b1 : (pAt p k == id) = false := by simpa using hz
            clear hz
            obtain ⟨x, hxx⟩ : ∃ x, x = pAt p k := ⟨_, rfl⟩
            rw [← hxx] at s0 b1 hs
            go_wp2_with fail
            refine HPr.out.mono ?_
            rintro e w2 ⟨rfl, b2⟩
            have s1 : w2.cell? ⟨b, off + k, none⟩ = some (.int .i64 x) := (b2.cell (p := ⟨b, off + k, none⟩) hbl).trans s0
            clear s0 y0 y1 y2
            go_wp2_with fail
            go_roundw
            case rel => exact ⟨k + 1, by omega, by go_num, Lib.hid fun j hj => by
              by_cases e : j = k
              · subst e; rw [← hxx]; exact hs.out
              · exact HA.out j (by omega), Lib.hid (DR.out.trans (b2.mono DR.out.size)), Lib.hid (BR.out.trans (b2.mono BR.out.size))⟩
            case measure => simp [intOf]; omega
        · obtain rfl : k = n := by omega
          have hr := Lib.hid (HN.out fun j hj => HA.out j hj)
          have C9 := BR.out
          go_wp2_with fail
          go_ret
          exact ⟨by rw [hr.out]; rfl, C9⟩
  · have hr := Lib.hid (findP_none (id := id) (h := h) (bok := bxsOk l) (ids := bxIds l) (p := p) (fun hc => hid hc.1))
    obtain ⟨n, hn⟩ : ∃ n, n = p.length := ⟨_, rfl⟩
    rw [← hn] at hpc ⊢
    have hd : decide (0 < id) = false := decide_eq_false hid
    clear hW1 hb1 hx1 hb hp hn HPV PK BK hid
    go_enter Try.func31, Try.ntmps31
    go_wp2_with fail
    rw [← HW.out]
    go_wp2_with fail
    go_loopw [9] (fun i wr => i = .int .i64 0 ∧ wr = W1) (fun _ _ => 0)
    case atStart => exact ⟨rfl, rfl⟩
    case round =>
      obtain ⟨rfl, rfl⟩ := hrel
      by_cases hlt : 0 < n
      · have hi : decide ((0 : Int) < (n : Int)) = true := decide_eq_true (by omega)
        go_wp2_with fail
        go_ret
        exact ⟨by rw [hr.out]; rfl, HB.out⟩
      · have hi : decide ((0 : Int) < (n : Int)) = false := decide_eq_false (by omega)
        go_wp2_with fail
        go_ret
        exact ⟨by rw [hr.out]; rfl, HB.out⟩
end Go.Proofs.Ytggbgjadfmjaaaa
