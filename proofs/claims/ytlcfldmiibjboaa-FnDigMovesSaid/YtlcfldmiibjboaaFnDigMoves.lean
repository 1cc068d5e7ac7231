/-
  For every code of bytes the law on DigMoves (the model's answer; all its moves can be done, then the box is the highest one of its stack; and as many moves as boxes were above it) returns true and leaves its argument as it was. Conditions: none beyond the form's own reach.
-/
import Derived.Test.YtlcfldmiibjboaaRows
import Derived.Test.YtlcfldmiibjboaaGBase
import Derived.WalkKit
import Derived.ProofKit
import Derived.OpenShut
import Derived.ShutString
import Derived.ChangeOld
import Derived.Below
import Derived.Test.YtlcfldmiibjboaaGCr
import Derived.Test.YtlcfldmiibjboaaGYv
import Derived.Test.YtlcfldmiibjboaaDgW
import Derived.Test.YtlcfldmiibjboaaDgD
import Derived.Test.YtlcfldmiibjboaaDgE
import Derived.Test.YtlcfldmiibjboaaDgS
import Derived.Test.YtlcfldmiibjboaaYiR
import Derived.Test.YtlcfldmiibjboaaYiT
import Derived.Test.YtlcfldmiibjboaaYiF
namespace Go.Proofs.Ytlcfldmiibjboaa.fnDigMoves
open Go.ChangeShapes Go.WideShapes Go.ChangeAt Go.RowKit
open Go.ChangeMaps (open_string shut_string)
set_option linter.unusedVariables false


/-- What the walk is told of a slice of integers that came in. -/
def IsRow (k : IntKind) (w : World) (a : Option Addr) (len cap : Nat) (zs : List Int) : Prop :=
  (a = none ∧ len = 0 ∧ cap = 0 ∧ zs = []) ∨
  ∃ x, a = some x ∧ len ≤ cap ∧ cap ≤ maxLen ∧ zs.length = cap ∧ (∀ i, i < zs.length → w.cell? (x.add i) = some (.int k (zs.getD i 0))) ∧ ∀ n ∈ zs, (Lit.int k n).wf = true

set_option maxRecDepth 10000 in
set_option maxHeartbeats 8000000 in
theorem walk (a0 : Option Addr) (len0 cap0 : Nat) (w : World) (w0 : IsRow8 w a0 len0 cap0) :
    Calls Try.prog 12 #[.slice a0 len0 cap0] w fun e w' => e = .returned (.bool true) ∧ Below w.heap.size w w' := by
  have hm := row8_len w0
  unfold maxLen at hm
  by_cases hl : ¬ len0 ≤ 1048576
  · go_enter Try.func12, Try.ntmps12
    go_wp2
    go_ret
    exact ⟨rfl, Below.refl _ _⟩
  · have hl := Nat.not_lt.1 (fun h => hl (Nat.not_le.2 h))
    go_enter Try.func12, Try.ntmps12
    go_wp2_with fail
    refine (drawDigMoves_any a0 len0 cap0 w w0).mono ?_
    rintro e w1 ⟨h0, u, ss, id, hl7, hf, rfl, hh, hb⟩
    clear w0
    obtain ⟨ua, uc, rfl⟩ : ∃ a c, u = .slice a ss.length c := by obtain ⟨a, c, e, _⟩ := hh; exact ⟨a, c, e⟩
    have HI := Lib.hid fun u w (g : HoldsY w u ss) => implDigMoves_any h0 u ss id w g
    have HS := Lib.hid fun u w (g : HoldsY w u ss) => specDigMoves_any h0 u ss id w g (by omega)
    have HFI := Lib.hid fun u w (g : HoldsY w u ss) => implYardFind_any h0 u ss id w g
    have HD := Lib.hid (digM_cases h0 ss id)
    unfold DigGives at HI HS
    generalize hda : digM h0 ss id = da at HI HS HD
    obtain ⟨l, ok⟩ := da
    have HI' : Hid (∀ u w, HoldsY w u ss → Calls Try.prog 47 #[.agg #[.int .i64 h0, u], .int .i64 id] w fun e w' => ∃ v, e = .returned (.tuple #[v, .bool ok]) ∧ FreeM w.heap.size w'.heap.size w' v l ∧ Below w.heap.size w w') := HI
    have HS' : Hid (∀ u w, HoldsY w u ss → Calls Try.prog 50 #[.agg #[.int .i64 h0, u], .int .i64 id] w fun e w' => ∃ v, e = .returned (.tuple #[v, .bool ok]) ∧ FreeM w.heap.size w'.heap.size w' v l ∧ Below w.heap.size w w') := HS
    have hr2 : (ok != ok) = false := by cases ok <;> rfl
    clear HI HS hda
    have b2 : Below w1.heap.size w1 (w1.alloc (.cells #[.int .i64 h0, .slice ua ss.length uc] 25)) := (Below.refl _ _).alloc (Nat.le_refl _) _
    have y2 := BoxY.new w1 h0 (.slice ua ss.length uc)
    have h2 := hh.keep b2
    have C2 := hb.trans (b2.mono hb.size)
    generalize hW2 : w1.alloc (.cells #[.int .i64 h0, .slice ua ss.length uc] 25) = W2 at b2 y2 h2 C2
    have HW2 := Lib.hid hW2
    clear hW2 b2 hb hh
    have ya := y2.c0
    have yb := y2.c1
    go_wp2_with fail
    rw [HW2.out]
    generalize w1.heap.size = Y at y2 ya yb
    clear HW2
    go_wp2_with fail
    refine (HI'.out _ W2 h2).mono ?_
    rintro e w3 ⟨v3, rfl, n3, b3⟩
    obtain ⟨p3, k3, rfl⟩ := n3.form
    have C3 := C2.trans (b3.mono C2.size)
    have y3 := y2.keep b3
    have h3 := h2.keep b3
    clear C2 y2 h2 b3 ya yb
    have ya := y3.c0
    have yb := y3.c1
    go_wp2_with fail
    refine (HS'.out _ w3 h3).mono ?_
    rintro e w4 ⟨v4, rfl, n4, b4⟩
    obtain ⟨p4, k4, rfl⟩ := n4.form
    have C4 := C3.trans (b4.mono C3.size)
    have y4 := y3.keep b4
    have h4 := h3.keep b4
    have m4 := n3.holds.keep b4
    clear C3 y3 h3 b4 n3 ya yb HI' HS'
    go_wp2_with fail
    refine (sameMoves_same _ _ l w4 m4 n4.holds).mono ?_
    rintro e w5 ⟨rfl, b5⟩
    have C5 := C4.trans (b5.mono C4.size)
    have y5 := y4.keep b5
    have h5 := h4.keep b5
    have m5 := m4.keep b5
    clear C4 y4 h4 b5 m4 n4
    have ya := y5.c0
    have yb := y5.c1
    rcases HD.out with e | ⟨hk, hm0, f, lo, up, l', tt, q1, q2, q3, q4, e, q5, q6, q7, q8, q9, q10, q11, q12, q13, q14, q15, q16⟩
    · simp only [Prod.mk.injEq] at e
      obtain ⟨rfl, rfl⟩ := e
      clear HD HFI h5 y5 m5 hr2
      go_wp2_with fail
      refine (alive_yes _).mono ?_
      rintro e w6 ⟨rfl, rfl⟩
      go_wp2
      go_ret
      exact ⟨rfl, C5⟩
    · simp only [Prod.mk.injEq] at e
      obtain ⟨rfl, rfl⟩ := e
      rw [q2] at HFI
      have h6' := h5
      obtain ⟨b, off, x, cx, rfl, hbl, s0, hcc, hcc2, -, hrow⟩ := h5.at_ q1
      have HROW := Lib.hid hrow
      have HS0 := Lib.hid s0
      have HQ := Lib.hid (And.intro q4 (And.intro q9 (And.intro q14 (And.intro q15 (And.intro q16 (And.intro q5 (And.intro q6 q1)))))))
      have HYR := Lib.hid fun u v w (g : HoldsY w u ss) (gm : HoldsM w v l) => implYardRun_any h0 u v ss l w g gm
      unfold RunYGivesF at HYR
      rw [q9] at HYR
      have HYT := Lib.hid fun u w (g : HoldsY w u tt) => implYardTake_any h0 u tt f w g
      unfold TakeYGivesF at HYT
      rw [q15] at HYT
      clear q3 q4 q5 q7 q8 q9 q10 q11 q12 q13 q14 q15 hk hm0 HD hr2 s0 hrow h6'
      go_wp2_with fail
      refine (HFI.out _ w5 h5).mono ?_
      rintro e w6 ⟨rfl, b6⟩
      have C6 := C5.trans (b6.mono C5.size)
      have y6 := y5.keep b6
      have h6 := h5.keep b6
      have m6 := m5.keep b6
      have D6 := Lib.hid b6
      have hs6 := b6.size
      clear C5 y5 h5 m5 b6 ya yb HFI
      have ya := y6.c0
      have yb := y6.c1
      go_wp2_with fail
      refine (HYR.out _ _ w6 h6 m6).mono ?_
      rintro e w7 ⟨v7, rfl, n7, b7⟩
      have n7' : FreeY w6.heap.size w7.heap.size w7 v7 tt.length (rowAt tt) := n7
      obtain ⟨p7, k7, rfl⟩ := n7'.form
      have b8 : Below w7.heap.size w7 (w7.alloc (.cells #[.int .i64 h0, .slice p7 tt.length k7] 25)) := (Below.refl _ _).alloc (Nat.le_refl _) _
      have x8 := BoxY.new w7 h0 (.slice p7 tt.length k7)
      have b78 := b7.trans (b8.mono b7.size)
      have C8 := C6.trans (b78.mono C6.size)
      have y8 := y6.keep b78
      have m8 := m6.keep b78
      have g8 := n7'.holdsY.keep b8
      have D8 := Lib.hid (D6.out.trans (b78.mono D6.out.size))
      have hx8 := x8.lt
      clear n7 n7' b7 b8 b78 C6 y6 h6 m6 D6 ya yb HYR
      generalize hW8 : w7.alloc (.cells #[.int .i64 h0, .slice p7 tt.length k7] 25) = W8 at x8 C8 y8 m8 g8 D8 hx8
      have HW8 := Lib.hid hW8
      clear hW8
      have xa := x8.c0
      have xb := x8.c1
      have ya := y8.c0
      have yb := y8.c1
      go_wp2_with fail
      rw [HW8.out]
      generalize w7.heap.size = X at x8 xa xb hx8 ⊢
      clear HW8
      go_wp2_with fail
      refine (HYT.out _ W8 g8).mono ?_
      rintro e w9 ⟨v9, rfl, n9, b9⟩
      obtain ⟨zz, hzz⟩ : ∃ zz, zz = tt.set f lo := ⟨_, rfl⟩
      have n9' : FreeY W8.heap.size w9.heap.size w9 v9 zz.length (rowAt zz) := by rw [hzz]; exact n9
      rw [← hzz] at HQ q16
      clear n9 hzz
      obtain ⟨p9, k9, rfl⟩ := n9'.form
      have b10 : Below w9.heap.size w9 (w9.alloc (.cells #[.int .i64 h0, .slice p9 zz.length k9] 25)) := (Below.refl _ _).alloc (Nat.le_refl _) _
      have z10 := BoxY.new w9 h0 (.slice p9 zz.length k9)
      have b810 := b9.trans (b10.mono b9.size)
      have HC := Lib.hid (C8.trans (b810.mono C8.size))
      have y10 := y8.keep b810
      have g10 := n9'.holdsY.keep b10
      have D10 := Lib.hid (D8.out.trans (b810.mono D8.out.size))
      have hz10 := z10.lt
      clear n9' b9 b10 b810 C8 y8 m8 g8 x8 D8 xa xb ya yb HYT hx8 hs6
      generalize hW10 : w9.alloc (.cells #[.int .i64 h0, .slice p9 zz.length k9] 25) = w8 at z10 HC y10 g10 D10 hz10
      have HW10 := Lib.hid hW10
      clear hW10
      go_upto_region 13 with fail
      rw [HW10.out]
      generalize w9.heap.size = Z at z10 hz10 ⊢
      clear HW10
      obtain ⟨q4, q9, q14, q15, q16', q5, q6, q1'⟩ := HQ.out
      have hq5 := q5
      have HSA := Lib.hid fun (w' : World) (hs : Since w8 w') => implStackAbove_any (.slice x (rowAt ss f).length cx) (rowAt ss f) h0 id w' (HROW.out.keep (D10.out.trans (Below.mono hs D10.out.size)))
      have HVZ := Lib.hid fun (w' : World) (hs : Since w8 w') => implYardValid_any h0 (.slice p9 zz.length k9) zz w' (g10.keep hs)
      rw [q4, ← hq5] at HSA
      rw [q16'] at HVZ
      have s0 : w8.cell? ⟨b, off + f, none⟩ = some (.slice x (rowAt ss f).length cx) := (D10.out.cell (p := ⟨b, off + f, none⟩) hbl).trans HS0.out
      have hbl8 : b < w8.heap.size := Nat.lt_of_lt_of_le hbl D10.out.size
      generalize (rowAt ss f).length = lo' at HSA s0 hcc
      have CELL := Lib.hid fun (w' : World) (hs : Since w8 w') => (show w'.cell? ⟨Y, 0, none⟩ = some (.int .i64 h0) ∧ w'.cell? ⟨Y, 1, none⟩ = some (.slice (some ⟨b, off, none⟩) ss.length uc) ∧ w'.cell? ⟨b, off + f, none⟩ = some (.slice x lo' cx) ∧ w'.cell? ⟨Z, 0, none⟩ = some (.int .i64 h0) ∧ w'.cell? ⟨Z, 1, none⟩ = some (.slice p9 zz.length k9) ∧ Since w8 w' from
        ⟨(y10.keep hs).c0, (y10.keep hs).c1, (Below.cell (p := ⟨b, off + f, none⟩) hs hbl8).trans s0, (z10.keep hs).c0, (z10.keep hs).c1, hs⟩)
      have hstart := CELL.out _ (show Since w8 w8.drew from (Below.refl _ _).drew)
      have i0f : (0 : Int) ≤ (f : Int) := by omega
      have ifn : (f : Int) < (ss.length : Int) := by omega
      have t1 : decide ((0 : Int) ≤ (f : Int)) = true := decide_eq_true i0f
      have t2 : decide ((f : Int) < (ss.length : Int)) = true := decide_eq_true ifn
      have t3 : ((l.length : Int) == (l.length : Int)) = true := by simp
      have t4 : (id == id) = true := by simp
      clear q4 q9 q14 q15 q16' q16 q5 q6 q1' q1 hq5 s0 y10 z10 g10 HQ HROW HS0 D10
      go_region_held3 (fun w' => w'.cell? ⟨Y, 0, none⟩ = some (.int .i64 h0) ∧ w'.cell? ⟨Y, 1, none⟩ = some (.slice (some ⟨b, off, none⟩) ss.length uc) ∧ w'.cell? ⟨b, off + f, none⟩ = some (.slice x lo' cx) ∧ w'.cell? ⟨Z, 0, none⟩ = some (.int .i64 h0) ∧ w'.cell? ⟨Z, 1, none⟩ = some (.slice p9 zz.length k9) ∧ Since w8 w')
        (first | exact hstart | exact CELL.out _ (Since.call (by exact (‹_ ∧ _› : _ ∧ _ ∧ _ ∧ _ ∧ _ ∧ Since w8 _).2.2.2.2.2) ‹_›))
        (first
          | (go_at_call 52; ((with_reducible refine (HSA.out _ (by exact (‹_ ∧ _› : _ ∧ _ ∧ _ ∧ _ ∧ _ ∧ Since w8 _).2.2.2.2.2)).mono ?_); rintro e w11 ⟨rfl, b11⟩))
          | (go_at_call 21; ((with_reducible refine (HVZ.out _ (by exact (‹_ ∧ _› : _ ∧ _ ∧ _ ∧ _ ∧ _ ∧ Since w8 _).2.2.2.2.2)).mono ?_); rintro e w12 ⟨rfl, b12⟩))
          | fail)
      rename_i hheld
      have hx := hheld.2.2.2.2.2
      have CF := HC.out.trans (Below.mono hx HC.out.size)
      clear hheld hx CELL hstart HSA HVZ HC
      go_wp2_with fail
      go_ret
      exact ⟨rfl, CF⟩

set_option maxRecDepth 100000 in
set_option maxHeartbeats 2000000 in
/-- What the walk gives, for every argument. -/
theorem contract (H : Type) (enc : TypeId × Value → H) (W : World) (base : Nat) (args : Array Value) (ds gs : List (DataW H)) (before : List MemPlace)
    (hval : ∀ (j : Nat) t v, Try.f12.params[j]? = some t → args[j]? = some v → Value.okWide Try.prog W .any base t v)
    (hW : DataW.Whole enc Try.prog Try.f12.params.toList Rows.fnDigMovesSpec.vars false W args.toList ds gs before) :
    Calls Try.prog 12 args W fun e W' => ∃ v, e = .returned v ∧ Rows.fnDigMovesSpec.post enc Try.prog Try.f12 false true false false W args v W' := by
  have hW' := hW
  obtain ⟨p, q, hA0, hV, rfl, hfz, hnd⟩ := hW
  have hA : DataW.TrodAll enc Try.prog W 0 (fun _ => true) true Try.f12.params.toList args.toList ds p := hA0
  rw [Try.params12] at hA hval
  obtain ⟨v0, vs0, d0, ds0, p0, q0, hargs, rfl, rfl, h0, r0⟩ := trodAll_cons hA
  obtain ⟨rfl, rfl, rfl⟩ := trodAll_nil r0
  obtain rfl : args = #[v0] := by cases args; simp_all
  obtain ⟨rfl, rfl⟩ := trodVars_none hV
  have k0 := h0
  have lt0 : ∀ x ∈ p0, x.block < W.heap.size := by obtain ⟨m, hm⟩ := k0; exact DataW.trod_lt m _ _ _ hm
  obtain ⟨a0, len0, cap0, rfl⟩ := okWide_slice Try.underlying22 (hval 0 22 v0 rfl rfl)
  obtain ⟨z0, x0⟩ : ∃ zs, IsRow .u8 W a0 len0 cap0 zs := by
    obtain ⟨fuel, hf⟩ := h0
    rcases open_ints Try.underlying22 Try.underlying5 (by kernel_rfl) hf with ⟨hcs, _⟩ | ⟨x, l, c, zs, hcs, _, hl, hm, hz, _, hcell, hwz⟩
    · simp [Value.cells] at hcs
      obtain ⟨rfl, rfl, rfl⟩ := hcs
      exact ⟨[], .inl ⟨rfl, rfl, rfl, rfl⟩⟩
    · simp [Value.cells] at hcs
      obtain ⟨rfl, rfl, rfl⟩ := hcs
      exact ⟨zs, .inr ⟨_, rfl, hl, hm, by simpa using hz, hcell, hwz⟩⟩
  clear hA0
  refine (walk a0 len0 cap0 W (row8_of x0)).mono fun e W' ⟨he, bel⟩ => ?_
  subst he
  exact ⟨_, rfl, _, _, _, [], _, [], hW', trodAll_mk1 (shut_bool Try.underlying4 _), (trodAll_cons_mk (Below.trod laidOut (by kernel_rfl) (of_decide_eq_true (by kernel_rfl)) k0 bel lt0) trodAll_mk0), rfl, bel.frame _, fun h => by cases h⟩

set_option maxRecDepth 100000 in
theorem lifted (os : Os) (started : os.Started) (H : Type) (enc : TypeId × Value → H) :
    ReturnsInHanded {} Try.checked os 12 .any (Rows.fnDigMovesSpec.pre6 enc Try.prog Try.f12 Rows.fnDigMovesRow.domain false) (Rows.fnDigMovesSpec.post enc Try.prog Try.f12 false true false false) := by
  refine returnsInHanded_of_change (C := Try.checked) own started (by kernel_rfl) Try.func12
    (ChangeSpec.witness6 (enc := enc) (C := Try.checked) false ⟨#[], #[.slice none 0 0], []⟩ 8 (by kernel_rfl) (by kernel_rfl) (by kernel_rfl) (by kernel_rfl)) ?_
  intro W base args ds gs before hval hW _ _
  exact contract H enc W base args ds gs before hval hW

theorem proved : Rows.FnDigMovesSaid :=
  OpenClaim.holds_of_wide 12 Try.f12 rfl rfl rfl rfl rfl rfl rfl ⟨rfl, rfl, rfl, rfl, rfl⟩ rfl rfl rfl rfl rfl (by kernel_rfl) Try.func12 (by kernel_rfl)
    (of_decide_eq_true (by kernel_rfl)) (by unfold Func.isWrapper; first | (rw [if_pos (by decide +kernel)]; kernel_rfl) | (rw [if_neg (by decide +kernel)]; exact ⟨rfl, rfl⟩))
    (fun os started H enc _ => lifted os started H enc)
#print axioms proved
end Go.Proofs.Ytlcfldmiibjboaa.fnDigMoves
