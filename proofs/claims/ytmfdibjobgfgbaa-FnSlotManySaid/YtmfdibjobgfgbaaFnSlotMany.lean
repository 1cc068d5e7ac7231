/-
  For every code of bytes the law on SlotMany (the model's answer; all numbers from 0 on that are less have places, and no others) returns true and leaves its argument as it was. Conditions: none beyond the form's own reach.
-/
import Derived.Test.YtmfdibjobgfgbaaRows
import Derived.Test.YtmfdibjobgfgbaaGBase
import Derived.WalkKit
import Derived.ProofKit
import Derived.OpenShut
import Derived.ShutString
import Derived.ChangeOld
import Derived.Below
import Derived.Test.YtmfdibjobgfgbaaGCr
import Derived.Test.YtmfdibjobgfgbaaSlW
import Derived.Test.YtmfdibjobgfgbaaSlI
namespace Go.Proofs.Ytmfdibjobgfgbaa.fnSlotMany
open Go.ChangeShapes Go.WideShapes Go.ChangeAt Go.RowKit
open Go.ChangeMaps (open_string shut_string)
set_option linter.unusedVariables false


/-- What the walk is told of a slice of integers that came in. -/
def IsRow (k : IntKind) (w : World) (a : Option Addr) (len cap : Nat) (zs : List Int) : Prop :=
  (a = none ∧ len = 0 ∧ cap = 0 ∧ zs = []) ∨
  ∃ x, a = some x ∧ len ≤ cap ∧ cap ≤ maxLen ∧ zs.length = cap ∧ (∀ i, i < zs.length → w.cell? (x.add i) = some (.int k (zs.getD i 0))) ∧ ∀ n ∈ zs, (Lit.int k n).wf = true

set_option maxRecDepth 10000 in
set_option maxHeartbeats 4000000 in
theorem walk (a0 : Option Addr) (len0 cap0 : Nat) (w : World) (w0 : IsRow8 w a0 len0 cap0) :
    Calls Try.prog 3 #[.slice a0 len0 cap0] w fun e w' => e = .returned (.bool true) ∧ Below w.heap.size w w' := by
  have hm := row8_len w0
  unfold maxLen at hm
  by_cases hl : ¬ len0 ≤ 1048576
  · go_enter Try.func3, Try.ntmps3
    go_wp2
    go_ret
    exact ⟨rfl, Below.refl _ _⟩
  · have hl := Nat.not_lt.1 (fun h => hl (Nat.not_le.2 h))
    go_enter Try.func3, Try.ntmps3
    go_wp2_with fail
    refine (drawSlotMany_any a0 len0 cap0 w w0).mono ?_
    rintro e w1 ⟨h, rfl, hb⟩
    clear w0
    have HI := Lib.hid fun w => implSlotMany_any h w
    have HS := Lib.hid fun w => specSlotMany_any h w
    have HP := Lib.hid fun s w => implPlaceOf_any h s w
    have HC := Lib.hid fun s => plOf_cases h s
    have hbd : slMany h = -1 ∨ 1 ≤ slMany h ∧ slMany h ≤ 36 := by
      cases hk : hlOk h
      · exact .inl (slMany_bad hk)
      · exact .inr ⟨(slMany_bd hk).1, (slMany_bd hk).2.1⟩
    have HOK := Lib.hid fun (h1 : 1 ≤ slMany h) => (show hlOk h = true by
      cases hk : hlOk h
      · rw [slMany_bad hk] at h1; omega
      · rfl)
    generalize slMany h = r at HI HS HC hbd HOK
    have hr : (r != r) = false := by simp
    have b2 : Below w1.heap.size w1 (w1.alloc (.cells #[.int .i64 h.b, .int .i64 h.r, .int .i64 h.t] 24)) := (Below.refl _ _).alloc (Nat.le_refl _) _
    have y2 := BoxH.new w1 h
    have C2 := hb.trans (b2.mono hb.size)
    generalize hW2 : w1.alloc (.cells #[.int .i64 h.b, .int .i64 h.r, .int .i64 h.t] 24) = W2 at b2 y2 C2
    have HW2 := Lib.hid hW2
    clear hW2 b2 hb
    have c0 := y2.c0
    have c1 := y2.c1
    have c2 := y2.c2
    go_wp2_with fail
    rw [HW2.out]
    generalize w1.heap.size = Y at y2 c0 c1 c2
    clear HW2
    go_wp2_with fail
    refine (HI.out W2).mono ?_
    rintro e w3 ⟨rfl, b3⟩
    have C3 := C2.trans (b3.mono C2.size)
    have y3 := y2.keep b3
    clear c0 c1 c2 y2 C2 b3
    have c0 := y3.c0
    have c1 := y3.c1
    have c2 := y3.c2
    go_wp2_with fail
    refine (HS.out w3).mono ?_
    rintro e w4 ⟨rfl, b4⟩
    have C4 := C3.trans (b4.mono C3.size)
    have y4 := y3.keep b4
    clear c0 c1 c2 y3 C3 b4
    have c0 := y4.c0
    have c1 := y4.c1
    have c2 := y4.c2
    rcases hbd with rfl | ⟨r1, r36⟩
    · go_wp2_with fail
      refine (alive_yes _).mono ?_
      rintro e w99 ⟨rfl, rfl⟩
      go_wp2
      go_ret
      exact ⟨rfl, C4⟩
    · have hk := HOK.out r1
      have r0 : ¬ r < 0 := by omega
      have HCC := Lib.hid fun s => (show (¬ (0 ≤ s ∧ s ≤ r - 1) ∧ plOf h s = (-1, -1, -1)) ∨ (0 ≤ s ∧ s ≤ r - 1 ∧ 0 ≤ (plOf h s).1 ∧ 0 ≤ (plOf h s).2.1 ∧ 0 ≤ (plOf h s).2.2) by
        rcases HC.out s with ⟨hn, e⟩ | ⟨_, h0, h1, p1, p2, p3, _⟩
        · exact .inl ⟨fun hc => hn ⟨hk, hc.1, hc.2⟩, e⟩
        · exact .inr ⟨h0, h1, p1, p2, p3⟩)
      have YK := Lib.hid fun (w' : World) (hs : Below w4.heap.size w4 w') => y4.keep hs
      have CK := Lib.hid fun (w' : World) (hs : Below w4.heap.size w4 w') => C4.trans (hs.mono C4.size)
      have B4 := Lib.hid (Below.refl w4.heap.size w4)
      clear c0 c1 c2 y4 C4 HC HOK hk HI HS hr
      go_wp2_with fail
      go_loopw [5] (fun i wr => ∃ k : Int, -1 ≤ k ∧ k ≤ r + 1 ∧ i = .int .i64 k ∧ Hid (Below w4.heap.size w4 wr)) (fun i _ => (r + 1 - intOf i).toNat)
      case atStart => exact ⟨-1, by omega, by omega, rfl, B4⟩
      case round =>
        obtain ⟨k, k0, k1, rfl, BR⟩ := hrel
        by_cases hkr : k ≤ r
        · have y := YK.out wr BR.out
          have c0 := y.c0
          have c1 := y.c1
          have c2 := y.c2
          have zk : IntKind.i64.wrap (k + 1) = k + 1 := IntWalk.i64_in _ (by omega)
          have HPk := Lib.hid (HP.out k wr)
          have hcc := HCC.out k
          clear y
          generalize plOf h k = p at HPk hcc
          obtain ⟨x, z, t⟩ := p
          have HPk' : Hid (Calls Try.prog 16 #[.agg #[.int .i64 h.b, .int .i64 h.r, .int .i64 h.t], .int .i64 k] wr fun e w' => e = .returned (.tuple #[.int .i64 x, .int .i64 z, .int .i64 t]) ∧ Below wr.heap.size wr w') := HPk
          have hcc' : (¬ (0 ≤ k ∧ k ≤ r - 1) ∧ x = -1 ∧ z = -1 ∧ t = -1) ∨ (0 ≤ k ∧ k ≤ r - 1 ∧ 0 ≤ x ∧ 0 ≤ z ∧ 0 ≤ t) := by
            rcases hcc with ⟨h1, h2⟩ | h2
            · simp only [Prod.mk.injEq] at h2; exact .inl ⟨h1, h2⟩
            · exact .inr h2
          clear hcc HPk
          go_wp2_with fail
          refine HPk'.out.mono ?_
          rintro e w5 ⟨rfl, b5⟩
          have BR5 := Lib.hid (BR.out.trans (b5.mono BR.out.size))
          clear b5 BR c0 c1 c2
          rcases hcc' with ⟨h1, rfl, rfl, rfl⟩ | ⟨h1, h2, h3, h4, h5⟩
          · by_cases hk0 : 0 ≤ k
            · have hkn : ¬ k < r := by omega
              clear h1
              go_wp2_with fail
              go_roundw
              case rel => exact ⟨k + 1, by omega, by omega, rfl, BR5⟩
              case measure => simp [intOf]; omega
            · clear h1
              go_wp2_with fail
              go_roundw
              case rel => exact ⟨k + 1, by omega, by omega, rfl, BR5⟩
              case measure => simp [intOf]; omega
          · have hkn : k < r := by omega
            go_wp2_with fail
            go_roundw
            case rel => exact ⟨k + 1, by omega, by omega, rfl, BR5⟩
            case measure => simp [intOf]; omega
        · have C9 := CK.out wr BR.out
          clear BR
          go_wp2_with fail
          go_ret
          exact ⟨rfl, C9⟩

set_option maxRecDepth 100000 in
set_option maxHeartbeats 2000000 in
/-- What the walk gives, for every argument. -/
theorem contract (H : Type) (enc : TypeId × Value → H) (W : World) (base : Nat) (args : Array Value) (ds gs : List (DataW H)) (before : List MemPlace)
    (hval : ∀ (j : Nat) t v, Try.f3.params[j]? = some t → args[j]? = some v → Value.okWide Try.prog W .any base t v)
    (hW : DataW.Whole enc Try.prog Try.f3.params.toList Rows.fnSlotManySpec.vars false W args.toList ds gs before) :
    Calls Try.prog 3 args W fun e W' => ∃ v, e = .returned v ∧ Rows.fnSlotManySpec.post enc Try.prog Try.f3 false true false false W args v W' := by
  have hW' := hW
  obtain ⟨p, q, hA0, hV, rfl, hfz, hnd⟩ := hW
  have hA : DataW.TrodAll enc Try.prog W 0 (fun _ => true) true Try.f3.params.toList args.toList ds p := hA0
  rw [Try.params3] at hA hval
  obtain ⟨v0, vs0, d0, ds0, p0, q0, hargs, rfl, rfl, h0, r0⟩ := trodAll_cons hA
  obtain ⟨rfl, rfl, rfl⟩ := trodAll_nil r0
  obtain rfl : args = #[v0] := by cases args; simp_all
  obtain ⟨rfl, rfl⟩ := trodVars_none hV
  have k0 := h0
  have lt0 : ∀ x ∈ p0, x.block < W.heap.size := by obtain ⟨m, hm⟩ := k0; exact DataW.trod_lt m _ _ _ hm
  obtain ⟨a0, len0, cap0, rfl⟩ := okWide_slice Try.underlying22 (hval 0 22 v0 rfl rfl)
  obtain ⟨z0, x0⟩ : ∃ zs, IsRow .u8 W a0 len0 cap0 zs := by
    obtain ⟨fuel, hf⟩ := h0
    rcases open_ints Try.underlying22 Try.underlying5 (by kernel_rfl) hf with ⟨hcs, _⟩ | ⟨x, l, c, zs, hcs, _, hl, hm, hz, _, hcell, hwz⟩
    · simp [Value.cells] at hcs
      obtain ⟨rfl, rfl, rfl⟩ := hcs
      exact ⟨[], .inl ⟨rfl, rfl, rfl, rfl⟩⟩
    · simp [Value.cells] at hcs
      obtain ⟨rfl, rfl, rfl⟩ := hcs
      exact ⟨zs, .inr ⟨_, rfl, hl, hm, by simpa using hz, hcell, hwz⟩⟩
  clear hA0
  refine (walk a0 len0 cap0 W (row8_of x0)).mono fun e W' ⟨he, bel⟩ => ?_
  subst he
  exact ⟨_, rfl, _, _, _, [], _, [], hW', trodAll_mk1 (shut_bool Try.underlying4 _), (trodAll_cons_mk (Below.trod laidOut (by kernel_rfl) (of_decide_eq_true (by kernel_rfl)) k0 bel lt0) trodAll_mk0), rfl, bel.frame _, fun h => by cases h⟩

set_option maxRecDepth 100000 in
theorem lifted (os : Os) (started : os.Started) (H : Type) (enc : TypeId × Value → H) :
    ReturnsInHanded {} Try.checked os 3 .any (Rows.fnSlotManySpec.pre6 enc Try.prog Try.f3 Rows.fnSlotManyRow.domain false) (Rows.fnSlotManySpec.post enc Try.prog Try.f3 false true false false) := by
  refine returnsInHanded_of_change (C := Try.checked) own started (by kernel_rfl) Try.func3
    (ChangeSpec.witness6 (enc := enc) (C := Try.checked) false ⟨#[], #[.slice none 0 0], []⟩ 8 (by kernel_rfl) (by kernel_rfl) (by kernel_rfl) (by kernel_rfl)) ?_
  intro W base args ds gs before hval hW _ _
  exact contract H enc W base args ds gs before hval hW

theorem proved : Rows.FnSlotManySaid :=
  OpenClaim.holds_of_wide 3 Try.f3 rfl rfl rfl rfl rfl rfl rfl ⟨rfl, rfl, rfl, rfl, rfl⟩ rfl rfl rfl rfl rfl (by kernel_rfl) Try.func3 (by kernel_rfl)
    (of_decide_eq_true (by kernel_rfl)) (by unfold Func.isWrapper; first | (rw [if_pos (by decide +kernel)]; kernel_rfl) | (rw [if_neg (by decide +kernel)]; exact ⟨rfl, rfl⟩))
    (fun os started H enc _ => lifted os started H enc)
#print axioms proved
end Go.Proofs.Ytmfdibjobgfgbaa.fnSlotMany
