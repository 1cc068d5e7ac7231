/-
  For every code of bytes the law on FillOrder (the model's answer; every box comes once, and none before one of a later port, or of the same port and a greater weight) returns true and leaves its argument as it was. Conditions: none beyond the form's own reach.
-/
import Derived.Test.YtfeobdgdhgcgoaaRows
import Derived.Test.YtfeobdgdhgcgoaaGBase
import Derived.WalkKit
import Derived.ProofKit
import Derived.OpenShut
import Derived.ShutString
import Derived.ChangeOld
import Derived.Below
import Derived.Test.YtfeobdgdhgcgoaaGCr
import Derived.Test.YtfeobdgdhgcgoaaFlW
import Derived.Test.YtfeobdgdhgcgoaaFlMath2
import Derived.Test.YtfeobdgdhgcgoaaFlS
import Derived.Test.YtfeobdgdhgcgoaaFlI
import Derived.Test.YtfeobdgdhgcgoaaGBx
import Derived.Test.YtfeobdgdhgcgoaaGPs
import Derived.Test.YtfeobdgdhgcgoaaSkMath
import Derived.Test.YtfeobdgdhgcgoaaGBl
namespace Go.Proofs.Ytfeobdgdhgcgoaa.fnFillOrder
open Go.ChangeShapes Go.WideShapes Go.ChangeAt Go.RowKit
open Go.ChangeMaps (open_string shut_string)
set_option linter.unusedVariables false


/-- What the walk is told of a slice of integers that came in. -/
def IsRow (k : IntKind) (w : World) (a : Option Addr) (len cap : Nat) (zs : List Int) : Prop :=
  (a = none ∧ len = 0 ∧ cap = 0 ∧ zs = []) ∨
  ∃ x, a = some x ∧ len ≤ cap ∧ cap ≤ maxLen ∧ zs.length = cap ∧ (∀ i, i < zs.length → w.cell? (x.add i) = some (.int k (zs.getD i 0))) ∧ ∀ n ∈ zs, (Lit.int k n).wf = true

theorem belowQ_drewN {B : Nat} {a w : World} (h : Below B a w) (n : Nat) : Below B a (w.drewN n) := ⟨h.os, h.tape, h.output, h.size, h.block⟩
theorem quiet_sameQ {P : Program} {f : FuncId} {args : Array Value} {w : World} {n : Nat} {v : Value}
    (h : Calls P f args (w.drewN n) fun e w' => e = .returned v ∧ w.drewN n = w') : Calls P f args (w.drewN n) fun e w'' => e = .returned v ∧ ∃ m, w'' = w.drewN m :=
  h.mono fun _ _ ⟨he, hm⟩ => ⟨he, n, hm.symm⟩
theorem fill_pair {l : List Bx} (hb : bxsOk l = true) {j : Nat} (hj : j + 1 < (fillO l).length) : ∃ ia ib : Nat, findS l ((fillO l).getD j 0) = (ia : Int) ∧ findS l ((fillO l).getD (j + 1) 0) = (ib : Int) ∧ ia < l.length ∧ ib < l.length ∧ hasI ((fillO l).take (j + 1)) ((fillO l).getD (j + 1) 0) = false ∧
    (bxAt l ib).p ≤ (bxAt l ia).p ∧ ((bxAt l ib).p = (bxAt l ia).p → (bxAt l ib).g ≤ (bxAt l ia).g) := by
  obtain ⟨o1, o2, o3, o4⟩ := fillO_law hb
  have e1 : (fillO l).getD j 0 = (fillO l)[j] := by rw [List.getD_eq_getElem?_getD, List.getElem?_eq_getElem (by omega), Option.getD_some]
  have e2 : (fillO l).getD (j + 1) 0 = (fillO l)[j + 1] := by rw [List.getD_eq_getElem?_getD, List.getElem?_eq_getElem hj, Option.getD_some]
  have hx := o3 _ (List.getElem_mem (show j < (fillO l).length by omega))
  have hy := o3 _ (List.getElem_mem hj)
  have hk := List.pairwise_iff_getElem.1 o4 j (j + 1) (by omega) hj (by omega)
  have hp := key_port hb hx hy hk
  rw [e1, e2]
  have hnm : (fillO l)[j + 1] ∉ (fillO l).take (j + 1) := fun hm => by
    obtain ⟨i, hi, he⟩ := List.getElem_of_mem hm
    rw [List.length_take] at hi
    rw [List.getElem_take] at he
    exact List.pairwise_iff_getElem.1 (List.nodup_iff_pairwise_ne.1 o2) i (j + 1) (by omega) hj (by omega) he
  obtain ⟨ia, hia, ea⟩ := mem_ids.1 hx
  obtain ⟨ib, hib, eb⟩ := mem_ids.1 hy
  have fa := find_at hb hia
  have fb := find_at hb hib
  rw [ea] at fa
  rw [eb] at fb
  refine ⟨ia, ib, by unfold findS; rw [if_pos hb]; exact fa, by unfold findS; rw [if_pos hb]; exact fb, hia, hib, ?_, ?_⟩
  · cases h3 : hasI ((fillO l).take (j + 1)) (fillO l)[j + 1]
    · rfl
    · exact absurd (hasI_iffP.1 h3) hnm
  · unfold ptB wAt at hp
    rw [fa, fb, Int.toNat_natCast, Int.toNat_natCast] at hp
    exact hp
set_option maxRecDepth 10000 in
set_option maxHeartbeats 4000000 in
theorem walk (a0 : Option Addr) (len0 cap0 : Nat) (w : World) (w0 : IsRow8 w a0 len0 cap0) :
    Calls Try.prog 3 #[.slice a0 len0 cap0] w fun e w' => e = .returned (.bool true) ∧ Below w.heap.size w w' := by
  have hm := row8_len w0
  unfold maxLen at hm
  by_cases hl : ¬ len0 ≤ 1048576
  · go_enter Try.func3, Try.ntmps3
    go_wp2
    go_ret
    exact ⟨rfl, Below.refl _ _⟩
  · have hl := Nat.not_lt.1 (fun h => hl (Nat.not_le.2 h))
    go_enter Try.func3, Try.ntmps3
    go_wp2_with fail
    refine (drawFillOrder_any a0 len0 cap0 w w0).mono ?_
    rintro e w1 ⟨l, u, rfl, hu, hl40, hb⟩
    obtain ⟨ua, uc, rfl⟩ : ∃ a c, u = .slice a l.length c := by obtain ⟨a, c, e, _⟩ := hu; exact ⟨a, c, e⟩
    have BK := Lib.hid fun (w' : World) (hs : Below w1.heap.size w1 w') => hu.keep hs
    have CK := Lib.hid fun (w' : World) (hs : Below w1.heap.size w1 w') => hb.trans (hs.mono hb.size)
    have HI := Lib.hid fun (w' : World) (hs : Below w1.heap.size w1 w') => implFillOrder_any (.slice ua l.length uc) l w' (hu.keep hs)
    have HS := Lib.hid fun (w' : World) (hs : Below w1.heap.size w1 w') => specFillOrder_any (.slice ua l.length uc) l w' (hu.keep hs)
    have HSV := Lib.hid fun (w' : World) (hs : Below w1.heap.size w1 w') => specBoxesValid_any (.slice ua l.length uc) l w' (hu.keep hs)
    clear hb w0
    cases hok : bxsOk l
    · have e0 := fillO_bad hok
      rw [e0] at HI HS
      rw [hok] at HSV
      clear e0 hok hu
      go_wp2_with fail
      refine (HI.out w1 (Below.refl _ _)).mono ?_
      rintro e W2 ⟨vi, rfl, g, e2⟩
      have gi := g.holds
      obtain ⟨ia, ic, rfl⟩ := gi.form
      clear g
      go_wp2_with fail
      refine (HS.out W2 e2).mono ?_
      rintro e W3 ⟨vs, rfl, gs, d⟩
      have e3 := e2.trans (d.mono e2.size)
      have gi := gi.keep d
      have gs := gs.holds
      clear d e2
      go_wp2_with fail
      refine (sameInts_yes _ vs [] W3 gi gs).mono ?_
      rintro e W4 ⟨rfl, d⟩
      have e4 := e3.trans (d.mono e3.size)
      have gi := gi.keep d
      clear d gs e3
      go_wp2_with fail
      refine (HSV.out W4 e4).mono ?_
      rintro e W5 ⟨rfl, d⟩
      have e5 := e4.trans (d.mono e4.size)
      have gi := gi.keep d
      clear d e4
      go_wp2_with fail
      refine (alive_yes _).mono ?_
      rintro e w' ⟨rfl, rfl⟩
      have C9 := CK.out _ e5
      go_wp2_with fail
      go_ret
      exact ⟨rfl, C9⟩
    · have HX := Lib.hid fun j (hj : j + 1 < (fillO l).length) => fill_pair hok hj
      have hfl := (fillO_law hok).1
      rw [hok] at HSV
      generalize fillO l = L at HI HS HX hfl
      obtain ⟨n, hn⟩ : ∃ n, n = l.length := ⟨_, rfl⟩
      have HC0 := Lib.hid fun (h0 : 0 < l.length) => hu.cellsAt h0
      rw [← hn] at BK HI HS HSV HX HC0 hfl hl40 ⊢
      have HFL := Lib.hid hfl
      clear hok hu hn hfl
      go_wp2_with fail
      refine (HI.out w1 (Below.refl _ _)).mono ?_
      rintro e W2 ⟨vi, rfl, g, e2⟩
      have gi := g.holds
      obtain ⟨ia, ic, rfl⟩ := gi.form
      clear g
      go_wp2_with fail
      refine (HS.out W2 e2).mono ?_
      rintro e W3 ⟨vs, rfl, gs, d⟩
      have e3 := e2.trans (d.mono e2.size)
      have gi := gi.keep d
      have gs := gs.holds
      clear d e2
      go_wp2_with fail
      refine (sameInts_yes _ vs L W3 gi gs).mono ?_
      rintro e W4 ⟨rfl, d⟩
      have e4 := e3.trans (d.mono e3.size)
      have gi := gi.keep d
      clear d gs e3
      go_wp2_with fail
      refine (HSV.out W4 e4).mono ?_
      rintro e W5 ⟨rfl, d⟩
      have e5 := e4.trans (d.mono e4.size)
      have gi := gi.keep d
      clear d e4
      have EK := Lib.hid e5
      obtain ⟨N, hN⟩ : ∃ N, N = L.length := ⟨_, rfl⟩
      have hic : N ≤ ic ∧ ic ≤ 9223372036854775807 := by
        obtain ⟨a', c', e, q1, q2, _⟩ := gi
        simp only [Value.slice.injEq] at e
        obtain ⟨-, -, rfl⟩ := e
        unfold maxLen at q2
        omega
      have LK := Lib.hid fun (w' : World) (hs : Below W5.heap.size W5 w') => gi.keep hs
      have ZZ := Lib.hid (Below.refl W5.heap.size W5)
      have HNN := Lib.hid hN
      have hNn : N = n := by have := HFL.out; omega
      rw [← hN] at LK HX ⊢
      have HNE := Lib.hid hNn
      have hN40 : N ≤ 40 := by omega
      clear gi e5 hN hNn HFL HI HS HSV
      go_wp2_with fail
      go_loopw [5] (fun i wr => ∃ k : Nat, 1 ≤ k ∧ k ≤ 41 ∧ i = .int .i64 k ∧ Hid (Below W5.heap.size W5 wr)) (fun i _ => N - (intOf i).toNat)
      case atStart => exact ⟨1, by omega, by omega, rfl, ZZ⟩
      case round =>
        clear ZZ
        obtain ⟨k, hk1, hk41, rfl, BR⟩ := hrel
        have ER := Lib.hid (EK.out.trans (BR.out.mono EK.out.size))
        by_cases hlt : k < N
        · obtain ⟨bb, bo, rfl, hbbl, hcl⟩ := HC0.out (by have := HNE.out; omega)
          have HC := Lib.hid hcl
          have hNn := HNE.out
          clear hcl HC0
          have hn40 : n ≤ 40 := by omega
          clear hNn
          obtain ⟨j, hkj⟩ : ∃ j, k = j + 1 := ⟨k - 1, by omega⟩
          have HKJ := Lib.hid hkj
          obtain ⟨b, off, rfl, hbl, s1⟩ := (LK.out wr BR.out).at_ hlt
          obtain ⟨b2, off2, e2, -, s0⟩ := (LK.out wr BR.out).at_ (show j < N by omega)
          simp only [Option.some.injEq, Addr.mk.injEq, and_true] at e2
          obtain ⟨rfl, rfl⟩ := e2
          obtain ⟨qa, qb, f1, f2, f3, f4, f5, f6, f7⟩ := HX.out j (by omega)
          rw [← hkj] at f2 f5
          obtain ⟨x, hx⟩ : ∃ x, x = L.getD j 0 := ⟨_, rfl⟩
          obtain ⟨y, hy⟩ : ∃ y, y = L.getD k 0 := ⟨_, rfl⟩
          rw [← hx] at s0 f1
          rw [← hy] at s1 f2 f5
          have HF := Lib.hid fun (w' : World) (hs : Below w1.heap.size w1 w') => implFindBox_any (.slice (some ⟨bb, bo, none⟩) n uc) l x w' (BK.out w' hs)
          have HG := Lib.hid fun (w' : World) (hs : Below w1.heap.size w1 w') => implFindBox_any (.slice (some ⟨bb, bo, none⟩) n uc) l y w' (BK.out w' hs)
          rw [f1] at HF
          rw [f2] at HG
          have zk : IntKind.i64.wrap ((k : Int) - 1) = (j : Int) := by rw [IntWalk.i64_in _ (by omega)]; omega
          have ik : (k : Int) < (N : Int) := by omega
          have i0k : (0 : Int) ≤ (k : Int) := by omega
          have ij : (j : Int) < (N : Int) := by omega
          have i0j : (0 : Int) ≤ (j : Int) := by omega
          have ikc : (k : Int) ≤ (ic : Int) := by omega
          have hbo : bb < wr.heap.size := Nat.lt_of_lt_of_le hbbl ER.out.size
          clear hx hy f1 f2 hkj
          go_wp2_with fail
          refine (HF.out wr ER.out).mono ?_
          rintro e w6 ⟨rfl, d6⟩
          have B6 := Lib.hid (BR.out.trans (d6.mono BR.out.size))
          have E6 := Lib.hid (ER.out.trans (d6.mono ER.out.size))
          have t1 : w6.cell? ⟨b, off + k, none⟩ = some (.int .i64 y) := (Below.cell d6 (p := ⟨b, off + k, none⟩) hbl).trans s1
          have hbl6 : b < w6.heap.size := Nat.lt_of_lt_of_le hbl d6.size
          clear d6 s0 s1
          go_wp2_with fail
          refine (HG.out w6 E6.out).mono ?_
          rintro e w7 ⟨rfl, d7⟩
          have B7 := Lib.hid (B6.out.trans (d7.mono B6.out.size))
          have E7 := Lib.hid (E6.out.trans (d7.mono E6.out.size))
          have u1 : w7.cell? ⟨b, off + k, none⟩ = some (.int .i64 y) := (Below.cell d7 (p := ⟨b, off + k, none⟩) hbl6).trans t1
          have p0 : w7.cell? ⟨bb, bo + qa * 5 + 3, none⟩ = some (.int .i64 (bxAt l qa).p) := HC.out w7 E7.out qa f3 3 (by omega)
          have p1 : w7.cell? ⟨bb, bo + qb * 5 + 3, none⟩ = some (.int .i64 (bxAt l qb).p) := HC.out w7 E7.out qb f4 3 (by omega)
          have g0 : w7.cell? ⟨bb, bo + qa * 5 + 1, none⟩ = some (.int .i64 (bxAt l qa).g) := HC.out w7 E7.out qa f3 1 (by omega)
          have g1 : w7.cell? ⟨bb, bo + qb * 5 + 1, none⟩ = some (.int .i64 (bxAt l qb).g) := HC.out w7 E7.out qb f4 1 (by omega)
          have HH := Lib.hid fun m => hasInt_any (.slice (some ⟨b, off, none⟩) k ic) (L.take k) y (w7.drewN m) (HoldsI.take k (by have := HNN.out; omega) (by have := LK.out (w7.drewN m) (belowQ_drewN B7.out m); rw [HNN.out] at this; exact this))
          rw [f5] at HH
          generalize (bxAt l qa).p = pa at p0 f6 f7
          generalize (bxAt l qb).p = pb at p1 f6 f7
          generalize (bxAt l qa).g = ga at g0 f7
          generalize (bxAt l qb).g = gb at g1 f7
          have B9 := Lib.hid fun m => belowQ_drewN B7.out m
          have h1 : decide ((qa : Int) < 0) = false := decide_eq_false (by omega)
          have h2 : decide ((qb : Int) < 0) = false := decide_eq_false (by omega)
          have h3 : decide ((qa : Int) ≥ (n : Int)) = false := decide_eq_false (by omega)
          have h4 : decide ((qb : Int) ≥ (n : Int)) = false := decide_eq_false (by omega)
          have h3n : ¬ n ≤ qa := by omega
          have h4n : ¬ n ≤ qb := by omega
          have h3d : decide (n ≤ qa) = false := decide_eq_false h3n
          have h4d : decide (n ≤ qb) = false := decide_eq_false h4n
          have ia : (qa : Int) < (n : Int) := by omega
          have i0a : (0 : Int) ≤ (qa : Int) := by omega
          have ib : (qb : Int) < (n : Int) := by omega
          have i0b : (0 : Int) ≤ (qb : Int) := by omega
          have h5 : decide (pa < pb) = false := decide_eq_false (by omega)
          clear d7 t1 f3 f4 f5 HX
          by_cases hp : pa = pb
          · have h6 : decide (ga < gb) = false := decide_eq_false (by have := f7 hp.symm; omega)
            subst hp
            clear f6 f7
            go_wp2_with fail
            go_quiet (first | (go_at_call 16; with_reducible refine quiet_sameQ (HH.out _)) | fail)
            go_wp2_with fail
            go_quiet (fail)
            go_wp2_with fail
            go_roundw
            case rel => exact ⟨k + 1, by omega, by omega, by go_num, Lib.hid (B9.out _)⟩
            case measure => simp [intOf]; omega
          · have h6 : (pa == pb) = false := by simpa using hp
            clear f6 f7 hp g0 g1
            go_wp2_with fail
            go_quiet (first | (go_at_call 16; with_reducible refine quiet_sameQ (HH.out _)) | fail)
            go_wp2_with fail
            go_quiet (fail)
            go_wp2_with fail
            go_roundw
            case rel => exact ⟨k + 1, by omega, by omega, by go_num, Lib.hid (B9.out _)⟩
            case measure => simp [intOf]; omega
        · have C9 := CK.out _ ER.out
          have hq : ((N : Int) == (n : Int)) = true := by rw [HNE.out]; simp
          go_wp2_with fail
          go_ret
          exact ⟨rfl, C9⟩

set_option maxRecDepth 100000 in
set_option maxHeartbeats 2000000 in
/-- What the walk gives, for every argument. -/
theorem contract (H : Type) (enc : TypeId × Value → H) (W : World) (base : Nat) (args : Array Value) (ds gs : List (DataW H)) (before : List MemPlace)
    (hval : ∀ (j : Nat) t v, Try.f3.params[j]? = some t → args[j]? = some v → Value.okWide Try.prog W .any base t v)
    (hW : DataW.Whole enc Try.prog Try.f3.params.toList Rows.fnFillOrderSpec.vars false W args.toList ds gs before) :
    Calls Try.prog 3 args W fun e W' => ∃ v, e = .returned v ∧ Rows.fnFillOrderSpec.post enc Try.prog Try.f3 false true false false W args v W' := by
  have hW' := hW
  obtain ⟨p, q, hA0, hV, rfl, hfz, hnd⟩ := hW
  have hA : DataW.TrodAll enc Try.prog W 0 (fun _ => true) true Try.f3.params.toList args.toList ds p := hA0
  rw [Try.params3] at hA hval
  obtain ⟨v0, vs0, d0, ds0, p0, q0, hargs, rfl, rfl, h0, r0⟩ := trodAll_cons hA
  obtain ⟨rfl, rfl, rfl⟩ := trodAll_nil r0
  obtain rfl : args = #[v0] := by cases args; simp_all
  obtain ⟨rfl, rfl⟩ := trodVars_none hV
  have k0 := h0
  have lt0 : ∀ x ∈ p0, x.block < W.heap.size := by obtain ⟨m, hm⟩ := k0; exact DataW.trod_lt m _ _ _ hm
  obtain ⟨a0, len0, cap0, rfl⟩ := okWide_slice Try.underlying22 (hval 0 22 v0 rfl rfl)
  obtain ⟨z0, x0⟩ : ∃ zs, IsRow .u8 W a0 len0 cap0 zs := by
    obtain ⟨fuel, hf⟩ := h0
    rcases open_ints Try.underlying22 Try.underlying5 (by kernel_rfl) hf with ⟨hcs, _⟩ | ⟨x, l, c, zs, hcs, _, hl, hm, hz, _, hcell, hwz⟩
    · simp [Value.cells] at hcs
      obtain ⟨rfl, rfl, rfl⟩ := hcs
      exact ⟨[], .inl ⟨rfl, rfl, rfl, rfl⟩⟩
    · simp [Value.cells] at hcs
      obtain ⟨rfl, rfl, rfl⟩ := hcs
      exact ⟨zs, .inr ⟨_, rfl, hl, hm, by simpa using hz, hcell, hwz⟩⟩
  clear hA0
  refine (walk a0 len0 cap0 W (row8_of x0)).mono fun e W' ⟨he, bel⟩ => ?_
  subst he
  exact ⟨_, rfl, _, _, _, [], _, [], hW', trodAll_mk1 (shut_bool Try.underlying4 _), (trodAll_cons_mk (Below.trod laidOut (by kernel_rfl) (of_decide_eq_true (by kernel_rfl)) k0 bel lt0) trodAll_mk0), rfl, bel.frame _, fun h => by cases h⟩

set_option maxRecDepth 100000 in
theorem lifted (os : Os) (started : os.Started) (H : Type) (enc : TypeId × Value → H) :
    ReturnsInHanded {} Try.checked os 3 .any (Rows.fnFillOrderSpec.pre6 enc Try.prog Try.f3 Rows.fnFillOrderRow.domain false) (Rows.fnFillOrderSpec.post enc Try.prog Try.f3 false true false false) := by
  refine returnsInHanded_of_change (C := Try.checked) own started (by kernel_rfl) Try.func3
    (ChangeSpec.witness6 (enc := enc) (C := Try.checked) false ⟨#[], #[.slice none 0 0], []⟩ 8 (by kernel_rfl) (by kernel_rfl) (by kernel_rfl) (by kernel_rfl)) ?_
  intro W base args ds gs before hval hW _ _
  exact contract H enc W base args ds gs before hval hW

theorem proved : Rows.FnFillOrderSaid :=
  OpenClaim.holds_of_wide 3 Try.f3 rfl rfl rfl rfl rfl rfl rfl ⟨rfl, rfl, rfl, rfl, rfl⟩ rfl rfl rfl rfl rfl (by kernel_rfl) Try.func3 (by kernel_rfl)
    (of_decide_eq_true (by kernel_rfl)) (by unfold Func.isWrapper; first | (rw [if_pos (by decide +kernel)]; kernel_rfl) | (rw [if_neg (by decide +kernel)]; exact ⟨rfl, rfl⟩))
    (fun os started H enc _ => lifted os started H enc)
#print axioms proved
end Go.Proofs.Ytfeobdgdhgcgoaa.fnFillOrder
