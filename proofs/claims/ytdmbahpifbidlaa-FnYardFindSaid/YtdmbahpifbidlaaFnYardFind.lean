/-
  For every code of bytes the law on YardFind (the model's answer; the stack told has the box and no other has it) returns true and leaves its argument as it was. Conditions: none beyond the form's own reach.
-/
import Derived.Test.YtdmbahpifbidlaaRows
import Derived.Test.YtdmbahpifbidlaaLaidOut
import Derived.WalkKit
import Derived.ProofKit
import Derived.OpenShut
import Derived.ShutString
import Derived.ChangeOld
import Derived.Below
import Derived.Test.YtdmbahpifbidlaaRd
import Derived.Test.YtdmbahpifbidlaaCrI
import Derived.Test.YtdmbahpifbidlaaMkI
import Derived.Test.YtdmbahpifbidlaaYkV
import Derived.Test.YtdmbahpifbidlaaYv
import Derived.Test.YtdmbahpifbidlaaYsF
import Derived.Test.YtdmbahpifbidlaaYiF
namespace Go.Proofs.Ytdmbahpifbidlaa.fnYardFind
open Go.ChangeShapes Go.WideShapes Go.ChangeAt Go.RowKit
open Go.ChangeMaps (open_string shut_string)
set_option linter.unusedVariables false


/-- What the walk is told of a slice of integers that came in. -/
def IsRow (k : IntKind) (w : World) (a : Option Addr) (len cap : Nat) (zs : List Int) : Prop :=
  (a = none ∧ len = 0 ∧ cap = 0 ∧ zs = []) ∨
  ∃ x, a = some x ∧ len ≤ cap ∧ cap ≤ maxLen ∧ zs.length = cap ∧ (∀ i, i < zs.length → w.cell? (x.add i) = some (.int k (zs.getD i 0))) ∧ ∀ n ∈ zs, (Lit.int k n).wf = true

set_option maxRecDepth 10000 in
set_option maxHeartbeats 4000000 in
theorem walk (a0 : Option Addr) (len0 cap0 : Nat) (w : World) (w0 : IsRow8 w a0 len0 cap0) :
    Calls Try.prog 4 #[.slice a0 len0 cap0] w fun e w' => e = .returned (.bool true) ∧ Below w.heap.size w w' := by
  have hm := row8_len w0
  unfold maxLen at hm
  by_cases hl : len0 ≤ 1048576
  · go_enter Try.func4, Try.ntmps4
    go_wp2_with fail
    refine (drawYardFind_any a0 len0 cap0 w w0).mono ?_
    rintro e w1 ⟨h0, u, ss, x, hl7, hf, rfl, hh, hb⟩
    clear w0
    have HI := Lib.hid fun v w (g : HoldsY w v ss) => implYardFind_any h0 v ss x w g
    have HS := Lib.hid fun v w (g : HoldsY w v ss) => specYardFind_any h0 v ss x w g (by omega)
    have HV := Lib.hid fun v w (g : HoldsY w v ss) => specYardValid_any h0 v ss w g (by omega)
    have HL := Lib.hid fun (hk : ydOk h0 ss = true) k (hkl : k < ss.length) => findY_law (n := x) hk hkl
    have HB := Lib.hid fun (hk : ydOk h0 ss = false) => findY_bad (n := x) hk
    generalize findY h0 ss x = r at HI HS HL HB
    have hr : (r != r) = false := by simp
    obtain ⟨ua, uc, rfl⟩ : ∃ a c, u = .slice a ss.length c := by obtain ⟨a, c, e, _⟩ := hh; exact ⟨a, c, e⟩
    have b2 : Below w1.heap.size w1 (w1.alloc (.cells #[.int .i64 h0, .slice ua ss.length uc] 25)) := (Below.refl _ _).alloc (Nat.le_refl _) _
    have y2 := BoxY.new w1 h0 (.slice ua ss.length uc)
    have h2 := hh.keep b2
    have C2 := hb.trans (b2.mono hb.size)
    generalize hW2 : w1.alloc (.cells #[.int .i64 h0, .slice ua ss.length uc] 25) = W2 at b2 y2 h2 C2
    have HW2 := Lib.hid hW2
    clear hW2 b2 hb hh
    have ya := y2.c0
    have yb := y2.c1
    go_wp2_with fail
    rw [HW2.out]
    generalize w1.heap.size = Y at y2 ya yb
    clear HW2
    go_wp2_with fail
    refine (HI.out _ W2 h2).mono ?_
    rintro e w3 ⟨rfl, b3⟩
    have C3 := C2.trans (b3.mono C2.size)
    have y3 := y2.keep b3
    have h3 := h2.keep b3
    clear C2 y2 h2 b3 ya yb
    have ya := y3.c0
    have yb := y3.c1
    go_wp2_with fail
    refine (HS.out _ w3 h3).mono ?_
    rintro e w4 ⟨rfl, b4⟩
    have C4 := C3.trans (b4.mono C3.size)
    have y4 := y3.keep b4
    have h4 := h3.keep b4
    clear C3 y3 h3 b4 ya yb
    have ya := y4.c0
    have yb := y4.c1
    go_wp2_with fail
    refine (HV.out _ w4 h4).mono ?_
    rintro e w5 ⟨rfl, b5⟩
    have C5 := C4.trans (b5.mono C4.size)
    have y5 := y4.keep b5
    have h5 := h4.keep b5
    clear C4 y4 h4 b5 ya yb
    cases hk : ydOk h0 ss
    · obtain rfl := HB.out hk
      clear HL HB HI HS HV
      go_wp2_with fail
      refine (alive_yes _).mono ?_
      rintro e w6 ⟨rfl, rfl⟩
      go_wp2
      go_ret
      exact ⟨rfl, C5⟩
    · have HR := Lib.hid (HL.out hk)
      have H5 := Lib.hid fun w' (hb : Below w5.heap.size w5 w') => h5.keep hb
      have Y5 := Lib.hid fun w' (hb : Below w5.heap.size w5 w') => y5.keep hb
      obtain ⟨n, hn⟩ : ∃ n, n = ss.length := ⟨_, rfl⟩
      rw [← hn] at HR H5 Y5 hl7
      have hn' := hn
      clear HL HB HI HS HV h5 y5 hk
      go_wp2_with fail
      rw [← hn]
      have HC5 := Lib.hid C5
      clear hn hn' C5
      go_loopw [6] (fun k wr => ∃ m : Nat, m ≤ n ∧ k = .int .i64 m ∧ Below w5.heap.size w5 wr) (fun k _ => n - (intOf k).toNat)
      case atStart => exact ⟨0, by omega, rfl, Below.refl _ _⟩
      case round =>
        obtain ⟨m, hmn, rfl, hbr⟩ := hrel
        have yr := Y5.out wr hbr
        have ya := yr.c0
        have yb := yr.c1
        have hr' := H5.out wr hbr
        by_cases hlt : m < n
        · obtain ⟨b, off, xa, c, rfl, hbl, s0, hc1, hc2, hnil, hrow⟩ := hr'.at_ hlt
          have HE := Lib.hid (hasInt_any _ _ x wr hrow)
          have hlaw := HR.out m hlt
          rw [hlaw] at HE
          have ik : (m : Int) < (n : Int) := by omega
          have i0k : (0 : Int) ≤ (m : Int) := by omega
          have heq : (((m : Int) == r) : Bool) = decide ((m : Int) = r) := by rw [Bool.eq_iff_iff]; simp
          generalize decide ((m : Int) = r) = bb at HE heq
          have hbb : (bb != bb) = false := by cases bb <;> rfl
          clear hr' hrow yr hlaw
          generalize (rowAt ss m).length = rl at s0 HE hc1
          go_wp2_with fail
          refine HE.out.mono ?_
          rintro e w6 ⟨rfl, rfl⟩
          go_wp2_with fail
          go_roundw
          case rel => exact ⟨m + 1, by omega, by go_num, hbr⟩
          case measure => simp [intOf]; omega
        · go_wp2_with fail
          go_ret
          exact ⟨rfl, HC5.out.trans (hbr.mono HC5.out.size)⟩
  · go_enter Try.func4, Try.ntmps4
    go_wp2
    go_ret
    exact ⟨rfl, Below.refl _ _⟩

set_option maxRecDepth 100000 in
set_option maxHeartbeats 2000000 in
/-- What the walk gives, for every argument. -/
theorem contract (H : Type) (enc : TypeId × Value → H) (W : World) (base : Nat) (args : Array Value) (ds gs : List (DataW H)) (before : List MemPlace)
    (hval : ∀ (j : Nat) t v, Try.f4.params[j]? = some t → args[j]? = some v → Value.okWide Try.prog W .any base t v)
    (hW : DataW.Whole enc Try.prog Try.f4.params.toList Rows.fnYardFindSpec.vars false W args.toList ds gs before) :
    Calls Try.prog 4 args W fun e W' => ∃ v, e = .returned v ∧ Rows.fnYardFindSpec.post enc Try.prog Try.f4 false true false false W args v W' := by
  have hW' := hW
  obtain ⟨p, q, hA0, hV, rfl, hfz, hnd⟩ := hW
  have hA : DataW.TrodAll enc Try.prog W 0 (fun _ => true) true Try.f4.params.toList args.toList ds p := hA0
  rw [Try.params4] at hA hval
  obtain ⟨v0, vs0, d0, ds0, p0, q0, hargs, rfl, rfl, h0, r0⟩ := trodAll_cons hA
  obtain ⟨rfl, rfl, rfl⟩ := trodAll_nil r0
  obtain rfl : args = #[v0] := by cases args; simp_all
  obtain ⟨rfl, rfl⟩ := trodVars_none hV
  have k0 := h0
  have lt0 : ∀ x ∈ p0, x.block < W.heap.size := by obtain ⟨m, hm⟩ := k0; exact DataW.trod_lt m _ _ _ hm
  obtain ⟨a0, len0, cap0, rfl⟩ := okWide_slice Try.underlying22 (hval 0 22 v0 rfl rfl)
  obtain ⟨z0, x0⟩ : ∃ zs, IsRow .u8 W a0 len0 cap0 zs := by
    obtain ⟨fuel, hf⟩ := h0
    rcases open_ints Try.underlying22 Try.underlying5 (by kernel_rfl) hf with ⟨hcs, _⟩ | ⟨x, l, c, zs, hcs, _, hl, hm, hz, _, hcell, hwz⟩
    · simp [Value.cells] at hcs
      obtain ⟨rfl, rfl, rfl⟩ := hcs
      exact ⟨[], .inl ⟨rfl, rfl, rfl, rfl⟩⟩
    · simp [Value.cells] at hcs
      obtain ⟨rfl, rfl, rfl⟩ := hcs
      exact ⟨zs, .inr ⟨_, rfl, hl, hm, by simpa using hz, hcell, hwz⟩⟩
  clear hA0
  refine (walk a0 len0 cap0 W (row8_of x0)).mono fun e W' ⟨he, bel⟩ => ?_
  subst he
  exact ⟨_, rfl, _, _, _, [], _, [], hW', trodAll_mk1 (shut_bool Try.underlying4 _), (trodAll_cons_mk (Below.trod laidOut (by kernel_rfl) (of_decide_eq_true (by kernel_rfl)) k0 bel lt0) trodAll_mk0), rfl, bel.frame _, fun h => by cases h⟩

set_option maxRecDepth 100000 in
theorem lifted (os : Os) (started : os.Started) (H : Type) (enc : TypeId × Value → H) :
    ReturnsInHanded {} Try.checked os 4 .any (Rows.fnYardFindSpec.pre6 enc Try.prog Try.f4 Rows.fnYardFindRow.domain false) (Rows.fnYardFindSpec.post enc Try.prog Try.f4 false true false false) := by
  refine returnsInHanded_of_change (C := Try.checked) own started (by kernel_rfl) Try.func4
    (ChangeSpec.witness6 (enc := enc) (C := Try.checked) false ⟨#[], #[.slice none 0 0], []⟩ 8 (by kernel_rfl) (by kernel_rfl) (by kernel_rfl) (by kernel_rfl)) ?_
  intro W base args ds gs before hval hW _ _
  exact contract H enc W base args ds gs before hval hW

theorem proved : Rows.FnYardFindSaid :=
  OpenClaim.holds_of_wide 4 Try.f4 rfl rfl rfl rfl rfl rfl rfl ⟨rfl, rfl, rfl, rfl, rfl⟩ rfl rfl rfl rfl rfl (by kernel_rfl) Try.func4 (by kernel_rfl)
    (of_decide_eq_true (by kernel_rfl)) (by unfold Func.isWrapper; first | (rw [if_pos (by decide +kernel)]; kernel_rfl) | (rw [if_neg (by decide +kernel)]; exact ⟨rfl, rfl⟩))
    (fun os started H enc _ => lifted os started H enc)
#print axioms proved
end Go.Proofs.Ytdmbahpifbidlaa.fnYardFind
