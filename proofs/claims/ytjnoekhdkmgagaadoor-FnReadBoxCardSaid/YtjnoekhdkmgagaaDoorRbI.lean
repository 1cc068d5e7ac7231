/-
  The contract of the program's ReadBox.
-/
import Derived.Test.YtjnoekhdkmgagaaDoorRcMath
import Derived.Test.YtjnoekhdkmgagaaDoorCuI
import Derived.Test.YtjnoekhdkmgagaaDoorRdI
import Derived.Test.YtjnoekhdkmgagaaDoorGBl
import Derived.Test.YtjnoekhdkmgagaaDoorFive
namespace Go.Proofs.YtjnoekhdkmgagaaDoor
open Go.RowKit
set_option linter.unusedVariables false

/-- What ReadBox gives. -/
def RbGives (s : ByteArray) (w : World) (e : Ending) (w' : World) : Prop :=
  ∃ (b : Bx) (ok : Bool), e = .returned (.tuple #[.agg #[.int .i64 b.i, .int .i64 b.g, .int .i64 b.c, .int .i64 b.p, .bool b.d], .bool ok]) ∧ RbIs s b ok ∧ Below w.heap.size w w'

set_option maxHeartbeats 1000000 in
theorem implReadBox_any (s : ByteArray) (w : World) (hm : s.size ≤ maxLen) :
    Calls Tryd.prog 11 #[.string s] w (RbGives s w) := by
  have HC := Lib.hid fun s c w hs => strings_Cut_one s c w hs
  have HT := Lib.hid fun s c w hs => strings_CutSuffix_one s c w hs
  have HR := Lib.hid fun s w hs => implReadNumber_any s w hs
  have HM := Lib.hid hm
  go_enter Tryd.func11, Tryd.ntmps11
  go_wp2_with fail
  refine (HC.out s 58 _ HM.out).mono ?_
  rintro e w1 ⟨a1, t1, f1, rfl, h1, b1⟩
  have H1 := Lib.hid h1
  clear h1
  go_wp2_with fail
  refine (HC.out t1 47 _ (Nat.le_trans (cut_sizes H1.out).2 HM.out)).mono ?_
  rintro e w2 ⟨a2, t2, f2, rfl, h2, b2⟩
  have H2 := Lib.hid h2
  clear h2
  go_wp2_with fail
  have z2 : t2.size ≤ s.size := Nat.le_trans (cut_sizes H2.out).2 (cut_sizes H1.out).2
  refine (HC.out t2 47 _ (Nat.le_trans z2 HM.out)).mono ?_
  rintro e w3 ⟨a3, t3, f3, rfl, h3, b3⟩
  have H3 := Lib.hid h3
  clear h3
  go_wp2_with fail
  have z3 : t3.size ≤ s.size := Nat.le_trans (cut_sizes H3.out).2 z2
  refine (HT.out t3 99 _ (Nat.le_trans z3 HM.out)).mono ?_
  rintro e w4 ⟨a4, cold, rfl, h4, rfl⟩
  have H4 := Lib.hid h4
  clear h4
  go_wp2_with fail
  refine (HR.out a1 _ (Nat.le_trans (cut_sizes H1.out).1 HM.out)).mono ?_
  rintro e w5 ⟨i, rfl, r1, b5⟩
  have R1 := Lib.hid r1
  clear r1
  go_wp2_with fail
  refine (HR.out a2 _ (Nat.le_trans (Nat.le_trans (cut_sizes H2.out).1 (cut_sizes H1.out).2) HM.out)).mono ?_
  rintro e w6 ⟨g, rfl, r2, b6⟩
  have R2 := Lib.hid r2
  clear r2
  go_wp2_with fail
  refine (HR.out a3 _ (Nat.le_trans (Nat.le_trans (cut_sizes H3.out).1 z2) HM.out)).mono ?_
  rintro e w7 ⟨c, rfl, r3, b7⟩
  have R3 := Lib.hid r3
  clear r3
  go_wp2_with fail
  refine (HR.out a4 _ (Nat.le_trans (Nat.le_trans (tail_sizes H4.out) z3) HM.out)).mono ?_
  rintro e w8 ⟨p, rfl, r4, b8⟩
  have HP := Lib.hid (parts_read H1.out H2.out H3.out H4.out R1.out R2.out R3.out r4)
  clear r4 H1 H2 H3 H4 R1 R2 R3 HC HT HR HM z2 z3 hm
  have hR : (w.alloc (.cells #[.int .i64 0, .int .i64 0, .int .i64 0, .int .i64 0, .bool false] 24)).heap.size = w.heap.size + 1 := by simp
  have hB0 := (Below.refl w.heap.size w).alloc (Nat.le_refl _) (.cells #[.int .i64 0, .int .i64 0, .int .i64 0, .int .i64 0, .bool false] 24)
  have eR : (w.alloc (.cells #[.int .i64 0, .int .i64 0, .int .i64 0, .int .i64 0, .bool false] 24)).heap[w.heap.size]? = some (.cells #[.int .i64 0, .int .i64 0, .int .i64 0, .int .i64 0, .bool false] 24 (0, 0)) := by
    show (w.heap.push _)[w.heap.size]? = _
    simp
  generalize w.alloc (.cells #[.int .i64 0, .int .i64 0, .int .i64 0, .int .i64 0, .bool false] 24) = w0 at b1 hR hB0 eR
  have hB : Below w0.heap.size w0 w8 := by
    have q2 := b2.mono b1.size
    have q12 := b1.trans q2
    have q3 := q12.trans (b3.mono q12.size)
    have q5 := q3.trans (b5.mono q3.size)
    have q6 := q5.trans (b6.mono q5.size)
    have q7 := q6.trans (b7.mono q6.size)
    exact q7.trans (b8.mono q7.size)
  clear b1 b2 b3 b5 b6 b7 b8
  have e8 : w8.heap[w.heap.size]? = _ := (hB.block w.heap.size (by omega)).trans eR
  have hS : w.heap.size < w8.heap.size := by have := hB.size; omega
  have hBB : Below w.heap.size w w8 := hB0.trans (hB.mono (by omega))
  clear hB hB0 eR hR
  have HV := Lib.hid fun w => implBoxValid_any i g c p cold w
  cases hok : bxOk i g c p
  · rw [hok] at HV HP
    have hr := Lib.hid (HP.out.2 rfl)
    clear HP hok
    go_wp2_with fail
    refine (HV.out _).mono ?_
    rintro e w9 ⟨rfl, b9⟩
    have hx := BoxAt.new b9
    have hBx := hBB.trans (hx.2.2.mono hBB.size)
    have e9 : w9.heap[w.heap.size]? = _ := (hx.2.2.block _ hS).trans e8
    have hS9 : w.heap.size < w9.heap.size := Nat.lt_of_lt_of_le hS hx.2.2.size
    clear b9 hx e8 hS hBB
    obtain ⟨⟨c0, c1, c2, c3, c4⟩, hf⟩ := fiveOpen e9
    have f0 := hf 0
    have f1 := hf 1
    have f2 := hf 2
    have f3 := hf 3
    have f4 := hf 4
    clear hf
    generalize hRw : w.heap.size = R at e9 hS9 c0 c1 c2 c3 c4 f0 f1 f2 f3 f4 hBx ⊢
    have HRW := Lib.hid hRw
    clear hRw
    go_wp2_with fail
    obtain ⟨z, ze⟩ := fiveEnds (HRW.out ▸ hBx) e9 (by rw [HRW.out]; exact Nat.le_refl _) rfl (.int .i64 0) (.int .i64 0) (.int .i64 0) (.int .i64 0) (.bool false)
    obtain ⟨⟨z0, z1, z2, z3, z4⟩, -⟩ := fiveOpen ze
    exact bodyPost_ret (v := .tuple #[.agg #[.int .i64 0, .int .i64 0, .int .i64 0, .int .i64 0, .bool false], .bool false]) (by simp [results, Tryd.results11, go_sem, z0, z1, z2, z3, z4]) rfl ⟨Bx.zero, false, rfl, hr.out, z⟩
  · rw [hok] at HV HP
    have hr := Lib.hid (HP.out.1 rfl)
    clear HP hok
    go_wp2_with fail
    refine (HV.out _).mono ?_
    rintro e w9 ⟨rfl, b9⟩
    have hx := BoxAt.new b9
    have hBx := hBB.trans (hx.2.2.mono hBB.size)
    have e9 : w9.heap[w.heap.size]? = _ := (hx.2.2.block _ hS).trans e8
    have hS9 : w.heap.size < w9.heap.size := Nat.lt_of_lt_of_le hS hx.2.2.size
    obtain ⟨k0, k1, k2, k3, k4⟩ := hx.cells
    clear b9 hx e8 hBB
    obtain ⟨⟨c0, c1, c2, c3, c4⟩, hf⟩ := fiveOpen e9
    have f0 := hf 0
    have f1 := hf 1
    have f2 := hf 2
    have f3 := hf 3
    have f4 := hf 4
    clear hf
    generalize hRw : w.heap.size = R at e9 hS9 c0 c1 c2 c3 c4 f0 f1 f2 f3 f4 hBx hS ⊢
    have HRW := Lib.hid hRw
    clear hRw
    generalize w8.heap.size = B at k0 k1 k2 k3 k4 hS ⊢
    have hne : R ≠ B := Nat.ne_of_lt hS
    have hne2 : ¬ B = R := fun e => hne e.symm
    go_wp2_with fail
    obtain ⟨z, ze⟩ := fiveEnds (HRW.out ▸ hBx) e9 (by rw [HRW.out]; exact Nat.le_refl _) rfl (.int .i64 i) (.int .i64 g) (.int .i64 c) (.int .i64 p) (.bool cold)
    obtain ⟨⟨z0, z1, z2, z3, z4⟩, -⟩ := fiveOpen ze
    exact bodyPost_ret (v := .tuple #[.agg #[.int .i64 i, .int .i64 g, .int .i64 c, .int .i64 p, .bool cold], .bool true]) (by simp [results, Tryd.results11, go_sem, z0, z1, z2, z3, z4]) rfl ⟨⟨i, g, c, p, cold⟩, true, rfl, hr.out, z⟩
end Go.Proofs.YtjnoekhdkmgagaaDoor
