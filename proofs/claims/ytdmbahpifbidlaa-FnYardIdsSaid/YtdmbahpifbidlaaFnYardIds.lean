/-
  For every code of bytes the law on YardIds (the model's answer; the ids ascend, each is found, and there are as many as in all stacks) returns true and leaves its argument as it was. Conditions: none beyond the form's own reach.
-/
import Derived.Test.YtdmbahpifbidlaaRows
import Derived.Test.YtdmbahpifbidlaaLaidOut
import Derived.WalkKit
import Derived.ProofKit
import Derived.OpenShut
import Derived.ShutString
import Derived.ChangeOld
import Derived.Below
import Derived.Test.YtdmbahpifbidlaaRd
import Derived.Test.YtdmbahpifbidlaaCrI
import Derived.Test.YtdmbahpifbidlaaIe
import Derived.Test.YtdmbahpifbidlaaYkV
import Derived.Test.YtdmbahpifbidlaaYkA
import Derived.Test.YtdmbahpifbidlaaYv
import Derived.Test.YtdmbahpifbidlaaYsI
import Derived.Test.YtdmbahpifbidlaaYiF
namespace Go.Proofs.Ytdmbahpifbidlaa.fnYardIds
open Go.ChangeShapes Go.WideShapes Go.ChangeAt Go.RowKit
open Go.ChangeMaps (open_string shut_string)
set_option linter.unusedVariables false


/-- What the walk is told of a slice of integers that came in. -/
def IsRow (k : IntKind) (w : World) (a : Option Addr) (len cap : Nat) (zs : List Int) : Prop :=
  (a = none ∧ len = 0 ∧ cap = 0 ∧ zs = []) ∨
  ∃ x, a = some x ∧ len ≤ cap ∧ cap ≤ maxLen ∧ zs.length = cap ∧ (∀ i, i < zs.length → w.cell? (x.add i) = some (.int k (zs.getD i 0))) ∧ ∀ n ∈ zs, (Lit.int k n).wf = true

theorem ids_found {h : Int} {ss : List (List Int)} (hk : ydOk h ss = true) (k : Nat) (hl : k < (idsY h ss).length) : 0 ≤ findY h ss ((idsY h ss).getD k 0) := by
  refine findY_in hk ?_
  have : (idsY h ss).getD k 0 ∈ idsY h ss := by
    rw [List.getD_eq_getElem?_getD, List.getElem?_eq_getElem hl, Option.getD_some]
    exact List.getElem_mem hl
  rw [← sortI_idsY hk] at this ⊢
  exact (sortI_perm _).mem_iff.1 this
theorem same_yes (u v : Value) (l : List Int) (w : World) (hu : HoldsI w u l) (hv : HoldsI w v l) :
    Calls Try.prog 25 #[u, v] w fun e w' => e = .returned (.bool true) ∧ Below w.heap.size w w' := by
  have := sameInts_any u v l l w hu hv
  rwa [decide_eq_true (rfl : l = l)] at this

set_option maxRecDepth 10000 in
set_option maxHeartbeats 4000000 in
theorem walk (a0 : Option Addr) (len0 cap0 : Nat) (w : World) (w0 : IsRow8 w a0 len0 cap0) :
    Calls Try.prog 5 #[.slice a0 len0 cap0] w fun e w' => e = .returned (.bool true) ∧ Below w.heap.size w w' := by
  have hm := row8_len w0
  unfold maxLen at hm
  by_cases hl : len0 ≤ 1048576
  · go_enter Try.func5, Try.ntmps5
    go_wp2_with fail
    refine (drawYardIds_any a0 len0 cap0 w w0).mono ?_
    rintro e w1 ⟨h0, u, ss, hl7, hf, rfl, hh, hb⟩
    clear w0
    have HI := Lib.hid fun v w (g : HoldsY w v ss) => implYardIds_any h0 v ss w g
    have HS := Lib.hid fun v w (g : HoldsY w v ss) => specYardIds_any h0 v ss w g (by omega)
    have HV := Lib.hid fun v w (g : HoldsY w v ss) => specYardValid_any h0 v ss w g (by omega)
    have HF := Lib.hid fun x v w (g : HoldsY w v ss) => implYardFind_any h0 v ss x w g
    have HB := Lib.hid fun (hk : ydOk h0 ss = false) => (show idsY h0 ss = [] by unfold idsY; rw [hk]; rfl)
    have HA := Lib.hid fun (hk : ydOk h0 ss = true) => And.intro (idsY_asc hk) (And.intro (idsY_len_ok hk) (ids_found hk))
    generalize idsY h0 ss = L at HI HS HB HA
    obtain ⟨ua, uc, rfl⟩ : ∃ a c, u = .slice a ss.length c := by obtain ⟨a, c, e, _⟩ := hh; exact ⟨a, c, e⟩
    have b2 : Below w1.heap.size w1 (w1.alloc (.cells #[.int .i64 h0, .slice ua ss.length uc] 25)) := (Below.refl _ _).alloc (Nat.le_refl _) _
    have y2 := BoxY.new w1 h0 (.slice ua ss.length uc)
    have h2 := hh.keep b2
    have C2 := hb.trans (b2.mono hb.size)
    generalize hW2 : w1.alloc (.cells #[.int .i64 h0, .slice ua ss.length uc] 25) = W2 at b2 y2 h2 C2
    have HW2 := Lib.hid hW2
    clear hW2 b2 hb hh
    have ya := y2.c0
    have yb := y2.c1
    go_wp2_with fail
    rw [HW2.out]
    generalize w1.heap.size = Y at y2 ya yb
    clear HW2
    go_wp2_with fail
    refine (HI.out _ W2 h2).mono ?_
    rintro e w3 ⟨v3, rfl, f3, b3⟩
    obtain ⟨p3, k3, rfl⟩ := f3.holds.form
    have C3 := C2.trans (b3.mono C2.size)
    have y3 := y2.keep b3
    have h3 := h2.keep b3
    have l3 := f3.holds
    clear C2 y2 h2 b3 ya yb f3
    have ya := y3.c0
    have yb := y3.c1
    go_wp2_with fail
    refine (HS.out _ w3 h3).mono ?_
    rintro e w4 ⟨v4, rfl, g4, b4⟩
    obtain ⟨p4, k4, rfl⟩ := g4.holds.form
    have C4 := C3.trans (b4.mono C3.size)
    have y4 := y3.keep b4
    have h4 := h3.keep b4
    have l4 := l3.keep b4
    clear C3 y3 h3 b4 ya yb l3
    go_wp2_with fail
    refine (same_yes _ _ L w4 l4 g4.holds).mono ?_
    rintro e w5 ⟨rfl, b5⟩
    have C5 := C4.trans (b5.mono C4.size)
    have y5 := y4.keep b5
    have h5 := h4.keep b5
    have l5 := l4.keep b5
    clear C4 y4 h4 b5 l4 g4
    have ya := y5.c0
    have yb := y5.c1
    go_wp2_with fail
    refine (HV.out _ w5 h5).mono ?_
    rintro e w6 ⟨rfl, b6⟩
    have C6 := C5.trans (b6.mono C5.size)
    have y6 := y5.keep b6
    have h6 := h5.keep b6
    have l6 := l5.keep b6
    clear C5 y5 h5 b6 ya yb l5
    cases hk : ydOk h0 ss
    · obtain rfl := HB.out hk
      clear HA HB HI HS HV HF h6 y6 l6
      go_wp2_with fail
      refine (alive_yes _).mono ?_
      rintro e w7 ⟨rfl, rfl⟩
      go_wp2
      go_ret
      exact ⟨rfl, C6⟩
    · have HASC := Lib.hid (HA.out hk).1
      have HLEN := (HA.out hk).2.1
      have HFND := Lib.hid (HA.out hk).2.2
      have H6 := Lib.hid fun w' (hb : Below w6.heap.size w6 w') => h6.keep hb
      have Y6 := Lib.hid fun w' (hb : Below w6.heap.size w6 w') => y6.keep hb
      have L6 := Lib.hid fun w' (hb : Below w6.heap.size w6 w') => l6.keep hb
      have HC6 := Lib.hid C6
      obtain ⟨n, hn⟩ : ∃ n, n = ss.length := ⟨_, rfl⟩
      obtain ⟨N, hN⟩ : ∃ N, N = L.length := ⟨_, rfl⟩
      have HSE := Lib.hid (show sumY ss n = N by rw [hn, sumY_end, hN, HLEN])
      have HNX := Lib.hid fun m (hm : m < n) => (show sumY ss (m + 1) = sumY ss m + (rowAt ss m).length from sumY_next (by omega))
      have HLE := Lib.hid fun m (hm : m ≤ n) => (show sumY ss m ≤ 100 from Nat.le_trans (sumY_le (by omega)) hf)
      have hN100 : N ≤ 100 := by omega
      clear HA HB HI HS HV h6 y6 l6 C6 HLEN hf
      rw [← hn] at H6 Y6 hl7
      rw [← hN] at L6 HFND
      go_wp2_with fail
      rw [← hn, ← hN]
      clear hn hN hk
      go_loopw [5, 6] (fun s k wr => ∃ m : Nat, m ≤ n ∧ s = .int .i64 (sumY ss m : Nat) ∧ k = .int .i64 m ∧ Below w6.heap.size w6 wr) (fun _ k _ => n - (intOf k).toNat)
      case atStart => exact ⟨0, by omega, by rw [sumY_start]; rfl, rfl, Below.refl _ _⟩
      case round =>
        obtain ⟨m, hmn, rfl, rfl, hbr⟩ := hrel
        have yr := Y6.out wr hbr
        have ya := yr.c0
        have yb := yr.c1
        by_cases hlt : m < n
        · obtain ⟨b, off, xa, c, rfl, hbl, s0, hc1, hc2, hnil, hrow⟩ := (H6.out wr hbr).at_ hlt
          have ik : (m : Int) < (n : Int) := by omega
          have i0k : (0 : Int) ≤ (m : Int) := by omega
          have e1 := HNX.out m hlt
          have e2 := HLE.out (m + 1) hlt
          rw [e1] at e2
          have E1 := Lib.hid e1
          clear hrow yr e1
          generalize (rowAt ss m).length = rl at s0 hc1 e2 E1
          go_wp2_with fail
          go_roundw
          case rel => exact ⟨m + 1, by omega, by rw [E1.out]; go_num, by go_num, hbr⟩
          case measure => simp [intOf]; omega
        · obtain rfl : m = n := by omega
          rw [HSE.out]
          clear HNX HLE yr ya yb
          have H7 := Lib.hid fun w' (hb : Below wr.heap.size wr w') => H6.out w' (hbr.trans (hb.mono hbr.size))
          have Y7 := Lib.hid fun w' (hb : Below wr.heap.size wr w') => Y6.out w' (hbr.trans (hb.mono hbr.size))
          have L7 := Lib.hid fun w' (hb : Below wr.heap.size wr w') => L6.out w' (hbr.trans (hb.mono hbr.size))
          have HC7 := Lib.hid (HC6.out.trans (hbr.mono HC6.out.size))
          clear H6 Y6 L6 HC6 hbr HSE
          obtain ⟨wo, hwo⟩ : ∃ wo : World, wo = wr := ⟨_, rfl⟩
          rw [← hwo] at H7 Y7 L7 HC7 ⊢
          clear hwo
          have ya := (Y7.out wo (Below.refl _ _)).c0
          have yb := (Y7.out wo (Below.refl _ _)).c1
          go_wp2_with fail
          clear ya yb
          go_loopw [7] (fun k wr => ∃ m : Nat, m ≤ N ∧ k = .int .i64 m ∧ Below wo.heap.size wo wr) (fun k _ => N - (intOf k).toNat)
          case atStart => exact ⟨0, by omega, rfl, Below.refl _ _⟩
          case round =>
            obtain ⟨j, hjN, rfl, hbr⟩ := hrel
            by_cases hlt : j < N
            · have yr := Y7.out wr hbr
              have ya := yr.c0
              have yb := yr.c1
              have hd : Below wr.heap.size wr wr.drew := (Below.refl _ _).drew
              obtain ⟨b, off, rfl, hbl, s0⟩ := (L7.out wr hbr).at_ hlt
              have hx := HFND.out j hlt
              have HE := Lib.hid (HF.out (L.getD j 0) _ wr.drew (H7.out wr.drew (hbr.trans (hd.mono hbr.size))))
              generalize L.getD j 0 = x at s0 hx HE
              have hneg : decide (findY h0 ss x < 0) = false := decide_eq_false (by omega)
              generalize findY h0 ss x = r at hx hneg HE
              have ik : (j : Int) < (N : Int) := by omega
              have i0k : (0 : Int) ≤ (j : Int) := by omega
              have hbd := hbr.trans (hd.mono hbr.size)
              clear yr hd
              go_wp2_with fail
              (first | go_region_with (go_at_call 20; (with_reducible refine HE.out.mono ?_); rintro e w5 ⟨rfl, b5⟩) | fail)
              all_goals
                have hb5 := hbd.trans (Below.mono b5 hbd.size)
                clear b5 HE hbd ya yb s0
                go_wp2_with fail
                go_roundw
                case rel => exact ⟨j + 1, by omega, by go_num, hb5⟩
                case measure => simp [intOf]; omega
            · have HAS := Lib.hid (ascend_yes _ L wr (L7.out wr hbr) HASC.out)
              have hNN : ((N : Int) == (N : Int)) = true := by simp
              go_wp2_with fail
              refine HAS.out.mono ?_
              rintro e w8 ⟨rfl, b8⟩
              go_wp2_with fail
              go_ret
              exact ⟨rfl, (HC7.out.trans (hbr.mono HC7.out.size)).trans (b8.mono (HC7.out.trans (hbr.mono HC7.out.size)).size)⟩
  · go_enter Try.func5, Try.ntmps5
    go_wp2
    go_ret
    exact ⟨rfl, Below.refl _ _⟩

set_option maxRecDepth 100000 in
set_option maxHeartbeats 2000000 in
/-- What the walk gives, for every argument. -/
theorem contract (H : Type) (enc : TypeId × Value → H) (W : World) (base : Nat) (args : Array Value) (ds gs : List (DataW H)) (before : List MemPlace)
    (hval : ∀ (j : Nat) t v, Try.f5.params[j]? = some t → args[j]? = some v → Value.okWide Try.prog W .any base t v)
    (hW : DataW.Whole enc Try.prog Try.f5.params.toList Rows.fnYardIdsSpec.vars false W args.toList ds gs before) :
    Calls Try.prog 5 args W fun e W' => ∃ v, e = .returned v ∧ Rows.fnYardIdsSpec.post enc Try.prog Try.f5 false true false false W args v W' := by
  have hW' := hW
  obtain ⟨p, q, hA0, hV, rfl, hfz, hnd⟩ := hW
  have hA : DataW.TrodAll enc Try.prog W 0 (fun _ => true) true Try.f5.params.toList args.toList ds p := hA0
  rw [Try.params5] at hA hval
  obtain ⟨v0, vs0, d0, ds0, p0, q0, hargs, rfl, rfl, h0, r0⟩ := trodAll_cons hA
  obtain ⟨rfl, rfl, rfl⟩ := trodAll_nil r0
  obtain rfl : args = #[v0] := by cases args; simp_all
  obtain ⟨rfl, rfl⟩ := trodVars_none hV
  have k0 := h0
  have lt0 : ∀ x ∈ p0, x.block < W.heap.size := by obtain ⟨m, hm⟩ := k0; exact DataW.trod_lt m _ _ _ hm
  obtain ⟨a0, len0, cap0, rfl⟩ := okWide_slice Try.underlying22 (hval 0 22 v0 rfl rfl)
  obtain ⟨z0, x0⟩ : ∃ zs, IsRow .u8 W a0 len0 cap0 zs := by
    obtain ⟨fuel, hf⟩ := h0
    rcases open_ints Try.underlying22 Try.underlying5 (by kernel_rfl) hf with ⟨hcs, _⟩ | ⟨x, l, c, zs, hcs, _, hl, hm, hz, _, hcell, hwz⟩
    · simp [Value.cells] at hcs
      obtain ⟨rfl, rfl, rfl⟩ := hcs
      exact ⟨[], .inl ⟨rfl, rfl, rfl, rfl⟩⟩
    · simp [Value.cells] at hcs
      obtain ⟨rfl, rfl, rfl⟩ := hcs
      exact ⟨zs, .inr ⟨_, rfl, hl, hm, by simpa using hz, hcell, hwz⟩⟩
  clear hA0
  refine (walk a0 len0 cap0 W (row8_of x0)).mono fun e W' ⟨he, bel⟩ => ?_
  subst he
  exact ⟨_, rfl, _, _, _, [], _, [], hW', trodAll_mk1 (shut_bool Try.underlying4 _), (trodAll_cons_mk (Below.trod laidOut (by kernel_rfl) (of_decide_eq_true (by kernel_rfl)) k0 bel lt0) trodAll_mk0), rfl, bel.frame _, fun h => by cases h⟩

set_option maxRecDepth 100000 in
theorem lifted (os : Os) (started : os.Started) (H : Type) (enc : TypeId × Value → H) :
    ReturnsInHanded {} Try.checked os 5 .any (Rows.fnYardIdsSpec.pre6 enc Try.prog Try.f5 Rows.fnYardIdsRow.domain false) (Rows.fnYardIdsSpec.post enc Try.prog Try.f5 false true false false) := by
  refine returnsInHanded_of_change (C := Try.checked) own started (by kernel_rfl) Try.func5
    (ChangeSpec.witness6 (enc := enc) (C := Try.checked) false ⟨#[], #[.slice none 0 0], []⟩ 8 (by kernel_rfl) (by kernel_rfl) (by kernel_rfl) (by kernel_rfl)) ?_
  intro W base args ds gs before hval hW _ _
  exact contract H enc W base args ds gs before hval hW

theorem proved : Rows.FnYardIdsSaid :=
  OpenClaim.holds_of_wide 5 Try.f5 rfl rfl rfl rfl rfl rfl rfl ⟨rfl, rfl, rfl, rfl, rfl⟩ rfl rfl rfl rfl rfl (by kernel_rfl) Try.func5 (by kernel_rfl)
    (of_decide_eq_true (by kernel_rfl)) (by unfold Func.isWrapper; first | (rw [if_pos (by decide +kernel)]; kernel_rfl) | (rw [if_neg (by decide +kernel)]; exact ⟨rfl, rfl⟩))
    (fun os started H enc _ => lifted os started H enc)
#print axioms proved
end Go.Proofs.Ytdmbahpifbidlaa.fnYardIds
