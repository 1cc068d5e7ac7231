/-
  For every code of bytes the law on FindBox (the model's answer; among other boxes none is found; each box is found at its own index, and what is found has the id) returns true and leaves its argument as it was. Conditions: none beyond the form's own reach.
-/
import Derived.Test.YtjnoekhdkmgagaaRows
import Derived.Test.YtjnoekhdkmgagaaGBase
import Derived.WalkKit
import Derived.ProofKit
import Derived.OpenShut
import Derived.ShutString
import Derived.ChangeOld
import Derived.Below
import Derived.Test.YtjnoekhdkmgagaaGCr
import Derived.Test.YtjnoekhdkmgagaaDrFb
import Derived.Test.YtjnoekhdkmgagaaGBl
import Derived.Test.YtjnoekhdkmgagaaGAp
namespace Go.Proofs.Ytjnoekhdkmgagaa.fnFindBox
open Go.ChangeShapes Go.WideShapes Go.ChangeAt Go.RowKit
open Go.ChangeMaps (open_string shut_string)
set_option linter.unusedVariables false


/-- What the walk is told of a slice of integers that came in. -/
def IsRow (k : IntKind) (w : World) (a : Option Addr) (len cap : Nat) (zs : List Int) : Prop :=
  (a = none ∧ len = 0 ∧ cap = 0 ∧ zs = []) ∨
  ∃ x, a = some x ∧ len ≤ cap ∧ cap ≤ maxLen ∧ zs.length = cap ∧ (∀ i, i < zs.length → w.cell? (x.add i) = some (.int k (zs.getD i 0))) ∧ ∀ n ∈ zs, (Lit.int k n).wf = true

set_option maxHeartbeats 2000000 in
theorem walk (a0 : Option Addr) (len0 cap0 : Nat) (w : World) (w0 : IsRow8 w a0 len0 cap0) :
    Calls Try.prog 5 #[.slice a0 len0 cap0] w fun e w' => e = .returned (.bool true) ∧ Below w.heap.size w w' := by
  have hm := row8_len w0
  unfold maxLen at hm
  by_cases hl : len0 ≤ 1048576
  · go_enter Try.func5, Try.ntmps5
    go_wp2_with fail
    refine (drawFindBox_any a0 len0 cap0 w w0).mono ?_
    rintro e w1 ⟨l, v, id, id0, id1, rfl, hh, hl40, hb⟩
    clear w0
    have HH := Lib.hid hh
    have HF := Lib.hid fun w (h : HoldsBx w v l) id => implFindBox_any v l id w h
    have HG := Lib.hid fun w (h : HoldsBx w v l) id => specFindBox_any v l id w h
    have HV := Lib.hid fun w (h : HoldsBx w v l) => specBoxesValid_any v l w h
    obtain ⟨a, cap, rfl, q1, q2, q3⟩ := hh
    unfold maxLen at q2
    go_wp2_with fail
    refine (HF.out _ HH.out id).mono ?_
    rintro e w2 ⟨rfl, b2⟩
    go_wp2_with fail
    refine (HG.out _ (HH.out.keep b2) id).mono ?_
    rintro e w3 ⟨rfl, b3⟩
    have hb3 : Below w.heap.size w w3 := (hb.trans (b2.mono hb.size)).trans (b3.mono (Nat.le_trans hb.size b2.size))
    have HH3 := Lib.hid ((HH.out.keep b2).keep b3)
    have hxx : (findS l id != findS l id) = false := by rw [bne_eq_false_iff_eq]
    generalize hok : bxsOk l = ok at HV
    cases ok
    · have hx : findS l id = -1 := by unfold findS; rw [hok]; rfl
      rw [hx] at hxx ⊢
      clear hx hok
      go_wp2_with fail
      refine (HV.out _ HH3.out).mono ?_
      rintro e w4 ⟨rfl, b4⟩
      go_wp2_with fail
      refine (alive_yes _).mono ?_
      rintro e w5 ⟨rfl, rfl⟩
      go_wp2
      go_ret
      exact ⟨rfl, hb3.trans (b4.mono hb3.size)⟩
    · have hx : findS l id = findB l id := by unfold findS; rw [hok]; rfl
      rw [hx] at hxx ⊢
      clear hx
      go_wp2_with fail
      refine (HV.out _ HH3.out).mono ?_
      rintro e w4 ⟨rfl, b4⟩
      have hb4 := hb3.trans (b4.mono hb3.size)
      have HH4 := Lib.hid (HH3.out.keep b4)
      have HFX := Lib.hid fun k (hk : k < l.length) => findS_at hok hk
      have hbd := findB_bd l id
      obtain ⟨n, hn⟩ : ∃ n, n = l.length := ⟨_, rfl⟩
      have HN := Lib.hid hn.symm
      have HIN := Lib.hid (findB_in l id)
      have HNEG := Lib.hid fun (h : findB l id < 0) k (hk : k < l.length) => findB_neg h hk
      clear q3
      rw [← hn] at q1 hl40 hbd HF HG HV HH HH3 HH4 ⊢
      clear hn hok HV HG HH3 HH hb hb3 b2 b3 b4
      generalize findB l id = x at hxx hbd HIN HNEG ⊢
      by_cases hx : x < 0
      · obtain rfl : x = -1 := by omega
        clear HIN
        go_wp2_with fail
        go_loopw [6] (fun i wr => ∃ k : Nat, k ≤ n ∧ i = .int .i64 k ∧ Below w.heap.size w wr ∧ Below w4.heap.size w4 wr) (fun i _ => n - (intOf i).toNat)
        case atStart => exact ⟨0, by omega, rfl, hb4, Below.refl _ _⟩
        case round =>
          obtain ⟨k, hk, rfl, hbr, hbr4⟩ := hrel
          by_cases hlt : k < n
          · have hkl : k < l.length := by rw [HN.out]; exact hlt
            obtain ⟨a', cap', he, z1, z2, z3⟩ := HH4.out.keep hbr4
            rw [HN.out] at he
            simp only [Value.slice.injEq, true_and] at he
            obtain ⟨rfl, rfl⟩ := he
            rcases z3 with z3 | ⟨b, off, rfl, z4, z5⟩
            · rw [HN.out] at z3; omega
            · have s0 : wr.cell? ⟨b, off + k * 5, none⟩ = some (.int .i64 l[k].i) := z5 k hkl 0 (by omega)
              have HFX1 := Lib.hid (HFX.out k hkl)
              have hne := HNEG.out hx k hkl
              have HF1 := Lib.hid (HF.out _ (HH4.out.keep hbr4) l[k].i)
              rw [HFX1.out] at HF1
              have hne1 : (l[k].i == id) = false := by rw [beq_eq_false_iff_ne]; exact hne
              have Z5 := Lib.hid z5
              clear hne z5 z1 z2
              generalize l[k].i = y at s0 HF1 hne1
              go_wp2_with fail
              refine (HF1.out).mono ?_
              rintro e w5 ⟨rfl, b5⟩
              have s1 : w5.cell? ⟨b, off + k * 5, none⟩ = some (.int .i64 y) := (b5.cell (p := ⟨b, off + k * 5, none⟩) z4).trans s0
              go_wp2_with fail
              go_roundw
              case rel => exact ⟨k + 1, by omega, by go_num, hbr.trans (b5.mono hbr.size), hbr4.trans (b5.mono hbr4.size)⟩
              case measure => simp [intOf]; omega
          · go_wp2_with fail
            go_ret
            exact ⟨rfl, hbr⟩
      · clear HNEG
        obtain ⟨hxl, hxi⟩ := HIN.out (by omega)
        have hx1 : (x == -1) = false := by rw [beq_eq_false_iff_ne]; omega
        have hx2 : (decide (x < 0)) = false := decide_eq_false hx
        go_wp2_with fail
        go_loopw [6] (fun i wr => ∃ k : Nat, k ≤ n ∧ i = .int .i64 k ∧ Below w.heap.size w wr ∧ Below w4.heap.size w4 wr) (fun i _ => n - (intOf i).toNat)
        case atStart => exact ⟨0, by omega, rfl, hb4, Below.refl _ _⟩
        case round =>
          obtain ⟨k, hk, rfl, hbr, hbr4⟩ := hrel
          obtain ⟨a', cap', he, z1, z2, z3⟩ := HH4.out.keep hbr4
          rw [HN.out] at he
          simp only [Value.slice.injEq, true_and] at he
          obtain ⟨rfl, rfl⟩ := he
          rcases z3 with z3 | ⟨b, off, rfl, z4, z5⟩
          · rw [HN.out] at z3; omega
          · by_cases hlt : k < n
            · have hkl : k < l.length := by rw [HN.out]; exact hlt
              have s0 : wr.cell? ⟨b, off + k * 5, none⟩ = some (.int .i64 l[k].i) := z5 k hkl 0 (by omega)
              have HFX1 := Lib.hid (HFX.out k hkl)
              have HF1 := Lib.hid (HF.out _ (HH4.out.keep hbr4) l[k].i)
              rw [HFX1.out] at HF1
              have Z5 := Lib.hid z5
              have HXI := Lib.hid hxi
              clear z5 z1 z2 hxi
              generalize l[k].i = y at s0 HF1
              go_wp2_with fail
              refine (HF1.out).mono ?_
              rintro e w5 ⟨rfl, b5⟩
              go_wp2_with fail
              go_roundw
              case rel => exact ⟨k + 1, by omega, by go_num, hbr.trans (b5.mono hbr.size), hbr4.trans (b5.mono hbr4.size)⟩
              case measure => simp [intOf]; omega
            · have s0 : wr.cell? ⟨b, off + x.toNat * 5, none⟩ = some (.int .i64 id) := by
                have := z5 x.toNat hxl 0 (by omega)
                rw [show x.toNat * 5 + 0 = x.toNat * 5 by omega] at this
                rw [this, ← hxi]; rfl
              have Z5 := Lib.hid z5
              have HXI := Lib.hid hxi
              clear z5 z1 z2 hxi
              go_wp2_with fail
              go_ret
              exact ⟨rfl, hbr⟩
  · go_enter Try.func5, Try.ntmps5
    go_wp2
    go_ret
    exact ⟨rfl, Below.refl _ _⟩

set_option maxRecDepth 100000 in
set_option maxHeartbeats 2000000 in
/-- What the walk gives, for every argument. -/
theorem contract (H : Type) (enc : TypeId × Value → H) (W : World) (base : Nat) (args : Array Value) (ds gs : List (DataW H)) (before : List MemPlace)
    (hval : ∀ (j : Nat) t v, Try.f5.params[j]? = some t → args[j]? = some v → Value.okWide Try.prog W .any base t v)
    (hW : DataW.Whole enc Try.prog Try.f5.params.toList Rows.fnFindBoxSpec.vars false W args.toList ds gs before) :
    Calls Try.prog 5 args W fun e W' => ∃ v, e = .returned v ∧ Rows.fnFindBoxSpec.post enc Try.prog Try.f5 false true false false W args v W' := by
  have hW' := hW
  obtain ⟨p, q, hA0, hV, rfl, hfz, hnd⟩ := hW
  have hA : DataW.TrodAll enc Try.prog W 0 (fun _ => true) true Try.f5.params.toList args.toList ds p := hA0
  rw [Try.params5] at hA hval
  obtain ⟨v0, vs0, d0, ds0, p0, q0, hargs, rfl, rfl, h0, r0⟩ := trodAll_cons hA
  obtain ⟨rfl, rfl, rfl⟩ := trodAll_nil r0
  obtain rfl : args = #[v0] := by cases args; simp_all
  obtain ⟨rfl, rfl⟩ := trodVars_none hV
  have k0 := h0
  have lt0 : ∀ x ∈ p0, x.block < W.heap.size := by obtain ⟨m, hm⟩ := k0; exact DataW.trod_lt m _ _ _ hm
  obtain ⟨a0, len0, cap0, rfl⟩ := okWide_slice Try.underlying22 (hval 0 22 v0 rfl rfl)
  obtain ⟨z0, x0⟩ : ∃ zs, IsRow .u8 W a0 len0 cap0 zs := by
    obtain ⟨fuel, hf⟩ := h0
    rcases open_ints Try.underlying22 Try.underlying5 (by kernel_rfl) hf with ⟨hcs, _⟩ | ⟨x, l, c, zs, hcs, _, hl, hm, hz, _, hcell, hwz⟩
    · simp [Value.cells] at hcs
      obtain ⟨rfl, rfl, rfl⟩ := hcs
      exact ⟨[], .inl ⟨rfl, rfl, rfl, rfl⟩⟩
    · simp [Value.cells] at hcs
      obtain ⟨rfl, rfl, rfl⟩ := hcs
      exact ⟨zs, .inr ⟨_, rfl, hl, hm, by simpa using hz, hcell, hwz⟩⟩
  clear hA0
  refine (walk a0 len0 cap0 W (row8_of x0)).mono fun e W' ⟨he, bel⟩ => ?_
  subst he
  exact ⟨_, rfl, _, _, _, [], _, [], hW', trodAll_mk1 (shut_bool Try.underlying4 _), (trodAll_cons_mk (Below.trod laidOut (by kernel_rfl) (of_decide_eq_true (by kernel_rfl)) k0 bel lt0) trodAll_mk0), rfl, bel.frame _, fun h => by cases h⟩

set_option maxRecDepth 100000 in
theorem lifted (os : Os) (started : os.Started) (H : Type) (enc : TypeId × Value → H) :
    ReturnsInHanded {} Try.checked os 5 .any (Rows.fnFindBoxSpec.pre6 enc Try.prog Try.f5 Rows.fnFindBoxRow.domain false) (Rows.fnFindBoxSpec.post enc Try.prog Try.f5 false true false false) := by
  refine returnsInHanded_of_change (C := Try.checked) own started (by kernel_rfl) Try.func5
    (ChangeSpec.witness6 (enc := enc) (C := Try.checked) false ⟨#[], #[.slice none 0 0], []⟩ 8 (by kernel_rfl) (by kernel_rfl) (by kernel_rfl) (by kernel_rfl)) ?_
  intro W base args ds gs before hval hW _ _
  exact contract H enc W base args ds gs before hval hW

theorem proved : Rows.FnFindBoxSaid :=
  OpenClaim.holds_of_wide 5 Try.f5 rfl rfl rfl rfl rfl rfl rfl ⟨rfl, rfl, rfl, rfl, rfl⟩ rfl rfl rfl rfl rfl (by kernel_rfl) Try.func5 (by kernel_rfl)
    (of_decide_eq_true (by kernel_rfl)) (by unfold Func.isWrapper; first | (rw [if_pos (by decide +kernel)]; kernel_rfl) | (rw [if_neg (by decide +kernel)]; exact ⟨rfl, rfl⟩))
    (fun os started H enc _ => lifted os started H enc)
#print axioms proved
end Go.Proofs.Ytjnoekhdkmgagaa.fnFindBox
