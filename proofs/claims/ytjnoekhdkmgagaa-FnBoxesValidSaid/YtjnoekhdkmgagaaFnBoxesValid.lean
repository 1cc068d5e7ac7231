/-
  For every code of bytes the law on BoxesValid (the model's answer; without the first one valid boxes are valid, with the first one once more they are not) returns true and leaves its argument as it was. Conditions: none beyond the form's own reach.
-/
import Derived.Test.YtjnoekhdkmgagaaRows
import Derived.Test.YtjnoekhdkmgagaaGBase
import Derived.WalkKit
import Derived.ProofKit
import Derived.OpenShut
import Derived.ShutString
import Derived.ChangeOld
import Derived.Below
import Derived.Test.YtjnoekhdkmgagaaGCr
import Derived.Test.YtjnoekhdkmgagaaDrBs
import Derived.Test.YtjnoekhdkmgagaaGBl
import Derived.Test.YtjnoekhdkmgagaaGAp
namespace Go.Proofs.Ytjnoekhdkmgagaa.fnBoxesValid
open Go.ChangeShapes Go.WideShapes Go.ChangeAt Go.RowKit
open Go.ChangeMaps (open_string shut_string)
set_option linter.unusedVariables false


/-- What the walk is told of a slice of integers that came in. -/
def IsRow (k : IntKind) (w : World) (a : Option Addr) (len cap : Nat) (zs : List Int) : Prop :=
  (a = none ∧ len = 0 ∧ cap = 0 ∧ zs = []) ∨
  ∃ x, a = some x ∧ len ≤ cap ∧ cap ≤ maxLen ∧ zs.length = cap ∧ (∀ i, i < zs.length → w.cell? (x.add i) = some (.int k (zs.getD i 0))) ∧ ∀ n ∈ zs, (Lit.int k n).wf = true

set_option maxHeartbeats 2000000 in
theorem walk (a0 : Option Addr) (len0 cap0 : Nat) (w : World) (w0 : IsRow8 w a0 len0 cap0) :
    Calls Try.prog 4 #[.slice a0 len0 cap0] w fun e w' => e = .returned (.bool true) ∧ Below w.heap.size w w' := by
  obtain ⟨i0, hi, hz0, hz1, hz2⟩ := info_parts infoBx
  have HI := Lib.hid hi
  have HZ0 := Lib.hid hz0
  have HZ1 := Lib.hid hz1
  have HZ2 := Lib.hid hz2
  clear hi hz0 hz1 hz2
  have hm := row8_len w0
  unfold maxLen at hm
  by_cases hl : len0 ≤ 1048576
  · go_enter Try.func4, Try.ntmps4
    go_wp2_with fail
    refine (drawBoxesValid_any a0 len0 cap0 w w0).mono ?_
    rintro e w1 ⟨l, v, rfl, hh, hl40, hb⟩
    clear w0
    have HH := Lib.hid hh
    have HV := Lib.hid fun v l w (h : HoldsBx w v l) => implBoxesValid_any v l w h
    have HS := Lib.hid fun w (h : HoldsBx w v l) => specBoxesValid_any v l w h
    obtain ⟨a, cap, rfl, q1, q2, q3⟩ := hh
    unfold maxLen at q2
    go_wp2_with fail
    refine (HV.out _ l _ HH.out).mono ?_
    rintro e w2 ⟨rfl, b2⟩
    go_wp2_with fail
    refine (HS.out _ (HH.out.keep b2)).mono ?_
    rintro e w3 ⟨rfl, b3⟩
    have hb3 : Below w.heap.size w w3 := (hb.trans (b2.mono hb.size)).trans (b3.mono (Nat.le_trans hb.size b2.size))
    have HN := Lib.hid fun w => HV.out (.slice none 0 0) [] w ⟨none, 0, rfl, Nat.le_refl _, by simp [maxLen], .inl rfl⟩
    rw [bxsOk_nil] at HN
    generalize hok : bxsOk l = ok
    have hbb : (ok != ok) = false := by cases ok <;> rfl
    cases ok
    · go_wp2_with fail
      refine (HN.out _).mono ?_
      rintro e w4 ⟨rfl, b4⟩
      go_wp2_with fail
      refine (alive_yes _).mono ?_
      rintro e w5 ⟨rfl, rfl⟩
      go_wp2
      go_ret
      exact ⟨rfl, hb3.trans (b4.mono hb3.size)⟩
    · by_cases hz : l.length = 0
      · have hz' : ((l.length : Int) == 0) = true := by rw [beq_iff_eq]; omega
        clear hz
        go_wp2_with fail
        refine (HN.out _).mono ?_
        rintro e w4 ⟨rfl, b4⟩
        go_wp2_with fail
        refine (alive_yes _).mono ?_
        rintro e w5 ⟨rfl, rfl⟩
        go_wp2
        go_ret
        exact ⟨rfl, hb3.trans (b4.mono hb3.size)⟩
      · have hz' : ((l.length : Int) == 0) = false := by rw [beq_eq_false_iff_ne]; omega
        rcases q3 with q3 | ⟨b, off, rfl, q4, q5⟩
        · omega
        have HH3 := Lib.hid ((HH.out.keep b2).keep b3)
        have hlt3 : b < w3.heap.size := by have := b2.size; have := b3.size; omega
        have hs : ∀ j, j < 5 → w3.cell? ⟨b, off + j, none⟩ = l[0].cells[j]? := fun j hj => by
          have e := q5 0 (by omega) j hj
          rw [Nat.zero_mul, Nat.zero_add] at e
          rw [b3.cell (p := ⟨b, off + j, none⟩) (by have := b2.size; show b < _; omega), b2.cell (p := ⟨b, off + j, none⟩) q4]
          exact e
        have hfive : w3.cell? ⟨b, off, none⟩ = some (.int .i64 l[0].i) ∧ w3.cell? ⟨b, off + 1, none⟩ = some (.int .i64 l[0].g) ∧ w3.cell? ⟨b, off + 2, none⟩ = some (.int .i64 l[0].c) ∧ w3.cell? ⟨b, off + 3, none⟩ = some (.int .i64 l[0].p) ∧ w3.cell? ⟨b, off + 4, none⟩ = some (.bool l[0].d) :=
          ⟨hs 0 (by omega), hs 1 (by omega), hs 2 (by omega), hs 3 (by omega), hs 4 (by omega)⟩
        have H2 := Lib.hid fun v w (h : HoldsBx w v (l ++ [l[0]])) => HV.out v (l ++ [l[0]]) w h
        rw [bxsOk_twice (by omega)] at H2
        have hd1 := Lib.hid (HH3.out.drop1 hz)
        have H1 := Lib.hid fun w' (hb' : Since w3 w') => HV.out _ _ w' (hd1.out.keep hb')
        rw [bxsOk_drop hok] at H1
        have i1 : (1 : Int) ≤ (l.length : Int) := by omega
        have i2 : (l.length : Int) ≤ (cap : Int) := by omega
        have i3 : 0 < l.length := by omega
        have HB := Lib.hid hb3
        generalize l[0] = x at hfive H2
        clear hs q5 HV HS hd1 hok hz b2 b3 hb hb3 HN
        by_cases hc : cap = 1
        · subst hc
          rw [if_pos rfl] at H1
          simp only [Nat.sub_self] at H1
          rw [show l.length - 1 = 0 by omega] at H1
          go_wp2_with fail
          have FIVE := Lib.hid hfive
          have LT3 := Lib.hid hlt3
          have hbase : Since w3 w3.drew := (Below.refl _ _).drew
          have hstart := five_since hlt3 hfive hbase
          clear hfive hbase
          ((go_region_held3 (fun w' => w'.cell? ⟨b, off, none⟩ = some (.int .i64 x.i) ∧ w'.cell? ⟨b, off + 1, none⟩ = some (.int .i64 x.g) ∧ w'.cell? ⟨b, off + 2, none⟩ = some (.int .i64 x.c) ∧ w'.cell? ⟨b, off + 3, none⟩ = some (.int .i64 x.p) ∧ w'.cell? ⟨b, off + 4, none⟩ = some (.bool x.d) ∧ Since w3 w')
            (first | exact hstart | (refine five_since LT3.out FIVE.out (Since.on (by exact (‹_ ∧ _› : _ ∧ _ ∧ _ ∧ _ ∧ _ ∧ Since w3 _).2.2.2.2.2) ‹Below w3.heap.size _ _›)) | (refine five_since LT3.out FIVE.out (Since.call (by exact (‹_ ∧ _› : _ ∧ _ ∧ _ ∧ _ ∧ _ ∧ Since w3 _).2.2.2.2.2) ‹_›)) | (refine five_since LT3.out FIVE.out (Since.alloc (by exact (‹_ ∧ _› : _ ∧ _ ∧ _ ∧ _ ∧ _ ∧ Since w3 _).2.2.2.2.2) _)))
            (first | (refine step_append_w (by rfl) _ _ 29 (by rfl) w3.heap.size 24 i0 (.agg #[.int .i64 0, .int .i64 0, .int .i64 0, .int .i64 0, .bool false]) 5 40 Try.underlying29 HI.out HZ0.out HZ1.out HZ2.out rfl (by decide) _ 0 [] (by rfl) (by first | exact own_zero (by have := b4.size; simp at this; omega) (heap_alloc_new _ _) | exact own_zero (by have := b4.size; simp at this; omega) (two_lo _ _ _) | exact own_zero (g := w4.heap.size + 1) (by have := b4.size; simp at this; omega) (two_hi _ _ _)) ⟨b, off, none⟩ l.length 1 (rowB l) (by rfl) (rowB_len l) (fun j u hu => HoldsBx.row (HH3.out.keep (by exact (‹_ ∧ _› : _ ∧ _ ∧ _ ∧ _ ∧ _ ∧ Since w3 _).2.2.2.2.2)) j u hu) (rowB_one l) i3 (by unfold maxLen; omega) (by omega) (Since.size0 (by exact (‹_ ∧ _› : _ ∧ _ ∧ _ ∧ _ ∧ _ ∧ Since w3 _).2.2.2.2.2)) ?_; intro g1 c1 w5 hown5 hb5 hg5 hk5; have hown0 := Lib.hid hown5; simp only [Nat.zero_add, List.nil_append] at hown5; have HK5 := Lib.hid hk5; clear hk5) | (refine step_append_w (by rfl) _ _ 29 (by rfl) w3.heap.size 24 i0 (.agg #[.int .i64 0, .int .i64 0, .int .i64 0, .int .i64 0, .bool false]) 5 40 Try.underlying29 HI.out HZ0.out HZ1.out HZ2.out rfl (by decide) _ l.length (rowB l) (by rfl) (hown5.alloc _) ⟨w5.heap.size, 0, none⟩ 1 1 [.int .i64 x.i, .int .i64 x.g, .int .i64 x.c, .int .i64 x.p, .bool x.d] (by rfl) rfl (fun j u hu => cells_new j u hu) (by simp [Value.oneCell']) (by decide) (by unfold maxLen; omega) (by omega) (Since.size0 (by exact (‹_ ∧ _› : _ ∧ _ ∧ _ ∧ _ ∧ _ ∧ Since w3 _).2.2.2.2.2)) ?_; intro g2 c2 w6 hown6 hb6 hg6 hk6; clear hk6) | (refine step_append_w (by rfl) _ _ 29 (by rfl) w3.heap.size 24 i0 (.agg #[.int .i64 0, .int .i64 0, .int .i64 0, .int .i64 0, .bool false]) 5 40 Try.underlying29 HI.out HZ0.out HZ1.out HZ2.out rfl (by decide) _ (0 + l.length) ([] ++ rowB l) (by rfl) hown0.out ⟨w4.heap.size + 1, 0, none⟩ 1 1 [.int .i64 x.i, .int .i64 x.g, .int .i64 x.c, .int .i64 x.p, .bool x.d] (by rfl) rfl (fun j u hu => kept_hi (by have := b4.size; simp at this; omega) HK5.out j u hu) (by simp [Value.oneCell']) (by decide) (by unfold maxLen; omega) (by omega) (Since.size0 (by exact (‹_ ∧ _› : _ ∧ _ ∧ _ ∧ _ ∧ _ ∧ Since w3 _).2.2.2.2.2)) ?_; intro g2 c2 w6 hown6 hb6 hg6 hk6; simp only [Nat.zero_add, List.nil_append] at hown6; clear hk6) | (refine step_append_w (by rfl) _ _ 29 (by rfl) w3.heap.size 24 i0 (.agg #[.int .i64 0, .int .i64 0, .int .i64 0, .int .i64 0, .bool false]) 5 40 Try.underlying29 HI.out HZ0.out HZ1.out HZ2.out rfl (by decide) _ (0 + l.length) ([] ++ rowB l) (by rfl) hown0.out ⟨w4.heap.size, 0, none⟩ 1 1 [.int .i64 x.i, .int .i64 x.g, .int .i64 x.c, .int .i64 x.p, .bool x.d] (by rfl) rfl (fun j u hu => kept_lo (by have := b4.size; simp at this; omega) HK5.out j u hu) (by simp [Value.oneCell']) (by decide) (by unfold maxLen; omega) (by omega) (Since.size0 (by exact (‹_ ∧ _› : _ ∧ _ ∧ _ ∧ _ ∧ _ ∧ Since w3 _).2.2.2.2.2)) ?_; intro g2 c2 w6 hown6 hb6 hg6 hk6; simp only [Nat.zero_add, List.nil_append] at hown6; clear hk6) | (go_at_call 17; ((with_reducible refine (H2.out _ _ (final_holds hown6)).mono ?_); rintro e w7 ⟨rfl, b7⟩)) | (go_at_call 17; ((with_reducible refine (H1.out _ (by exact (‹_ ∧ _› : _ ∧ _ ∧ _ ∧ _ ∧ _ ∧ Since w3 _).2.2.2.2.2)).mono ?_); rintro e w4 ⟨rfl, b4⟩)))))
          all_goals
            rename_i hheld
            have hx := hheld.2.2.2.2.2
            clear hheld
            go_wp2_with fail
            go_ret
            exact ⟨rfl, HB.out.trans (Below.mono hx HB.out.size)⟩
        · have hcc : ¬ cap = 1 := hc
          rw [if_neg hc] at H1
          clear hc
          go_wp2_with fail
          have FIVE := Lib.hid hfive
          have LT3 := Lib.hid hlt3
          have hbase : Since w3 w3.drew := (Below.refl _ _).drew
          have hstart := five_since hlt3 hfive hbase
          clear hfive hbase
          ((go_region_held3 (fun w' => w'.cell? ⟨b, off, none⟩ = some (.int .i64 x.i) ∧ w'.cell? ⟨b, off + 1, none⟩ = some (.int .i64 x.g) ∧ w'.cell? ⟨b, off + 2, none⟩ = some (.int .i64 x.c) ∧ w'.cell? ⟨b, off + 3, none⟩ = some (.int .i64 x.p) ∧ w'.cell? ⟨b, off + 4, none⟩ = some (.bool x.d) ∧ Since w3 w')
            (first | exact hstart | (refine five_since LT3.out FIVE.out (Since.on (by exact (‹_ ∧ _› : _ ∧ _ ∧ _ ∧ _ ∧ _ ∧ Since w3 _).2.2.2.2.2) ‹Below w3.heap.size _ _›)) | (refine five_since LT3.out FIVE.out (Since.call (by exact (‹_ ∧ _› : _ ∧ _ ∧ _ ∧ _ ∧ _ ∧ Since w3 _).2.2.2.2.2) ‹_›)) | (refine five_since LT3.out FIVE.out (Since.alloc (by exact (‹_ ∧ _› : _ ∧ _ ∧ _ ∧ _ ∧ _ ∧ Since w3 _).2.2.2.2.2) _)))
            (first | (refine step_append_w (by rfl) _ _ 29 (by rfl) w3.heap.size 24 i0 (.agg #[.int .i64 0, .int .i64 0, .int .i64 0, .int .i64 0, .bool false]) 5 40 Try.underlying29 HI.out HZ0.out HZ1.out HZ2.out rfl (by decide) _ 0 [] (by rfl) (by first | exact own_zero (by have := b4.size; simp at this; omega) (heap_alloc_new _ _) | exact own_zero (by have := b4.size; simp at this; omega) (two_lo _ _ _) | exact own_zero (g := w4.heap.size + 1) (by have := b4.size; simp at this; omega) (two_hi _ _ _)) ⟨b, off, none⟩ l.length cap (rowB l) (by rfl) (rowB_len l) (fun j u hu => HoldsBx.row (HH3.out.keep (by exact (‹_ ∧ _› : _ ∧ _ ∧ _ ∧ _ ∧ _ ∧ Since w3 _).2.2.2.2.2)) j u hu) (rowB_one l) i3 (by unfold maxLen; omega) (by omega) (Since.size0 (by exact (‹_ ∧ _› : _ ∧ _ ∧ _ ∧ _ ∧ _ ∧ Since w3 _).2.2.2.2.2)) ?_; intro g1 c1 w5 hown5 hb5 hg5 hk5; have hown0 := Lib.hid hown5; simp only [Nat.zero_add, List.nil_append] at hown5; have HK5 := Lib.hid hk5; clear hk5) | (refine step_append_w (by rfl) _ _ 29 (by rfl) w3.heap.size 24 i0 (.agg #[.int .i64 0, .int .i64 0, .int .i64 0, .int .i64 0, .bool false]) 5 40 Try.underlying29 HI.out HZ0.out HZ1.out HZ2.out rfl (by decide) _ l.length (rowB l) (by rfl) (hown5.alloc _) ⟨w5.heap.size, 0, none⟩ 1 1 [.int .i64 x.i, .int .i64 x.g, .int .i64 x.c, .int .i64 x.p, .bool x.d] (by rfl) rfl (fun j u hu => cells_new j u hu) (by simp [Value.oneCell']) (by decide) (by unfold maxLen; omega) (by omega) (Since.size0 (by exact (‹_ ∧ _› : _ ∧ _ ∧ _ ∧ _ ∧ _ ∧ Since w3 _).2.2.2.2.2)) ?_; intro g2 c2 w6 hown6 hb6 hg6 hk6; clear hk6) | (refine step_append_w (by rfl) _ _ 29 (by rfl) w3.heap.size 24 i0 (.agg #[.int .i64 0, .int .i64 0, .int .i64 0, .int .i64 0, .bool false]) 5 40 Try.underlying29 HI.out HZ0.out HZ1.out HZ2.out rfl (by decide) _ (0 + l.length) ([] ++ rowB l) (by rfl) hown0.out ⟨w4.heap.size + 1, 0, none⟩ 1 1 [.int .i64 x.i, .int .i64 x.g, .int .i64 x.c, .int .i64 x.p, .bool x.d] (by rfl) rfl (fun j u hu => kept_hi (by have := b4.size; simp at this; omega) HK5.out j u hu) (by simp [Value.oneCell']) (by decide) (by unfold maxLen; omega) (by omega) (Since.size0 (by exact (‹_ ∧ _› : _ ∧ _ ∧ _ ∧ _ ∧ _ ∧ Since w3 _).2.2.2.2.2)) ?_; intro g2 c2 w6 hown6 hb6 hg6 hk6; simp only [Nat.zero_add, List.nil_append] at hown6; clear hk6) | (refine step_append_w (by rfl) _ _ 29 (by rfl) w3.heap.size 24 i0 (.agg #[.int .i64 0, .int .i64 0, .int .i64 0, .int .i64 0, .bool false]) 5 40 Try.underlying29 HI.out HZ0.out HZ1.out HZ2.out rfl (by decide) _ (0 + l.length) ([] ++ rowB l) (by rfl) hown0.out ⟨w4.heap.size, 0, none⟩ 1 1 [.int .i64 x.i, .int .i64 x.g, .int .i64 x.c, .int .i64 x.p, .bool x.d] (by rfl) rfl (fun j u hu => kept_lo (by have := b4.size; simp at this; omega) HK5.out j u hu) (by simp [Value.oneCell']) (by decide) (by unfold maxLen; omega) (by omega) (Since.size0 (by exact (‹_ ∧ _› : _ ∧ _ ∧ _ ∧ _ ∧ _ ∧ Since w3 _).2.2.2.2.2)) ?_; intro g2 c2 w6 hown6 hb6 hg6 hk6; simp only [Nat.zero_add, List.nil_append] at hown6; clear hk6) | (go_at_call 17; ((with_reducible refine (H2.out _ _ (final_holds hown6)).mono ?_); rintro e w7 ⟨rfl, b7⟩)) | (go_at_call 17; ((with_reducible refine (H1.out _ (by exact (‹_ ∧ _› : _ ∧ _ ∧ _ ∧ _ ∧ _ ∧ Since w3 _).2.2.2.2.2)).mono ?_); rintro e w4 ⟨rfl, b4⟩)))))
          all_goals
            rename_i hheld
            have hx := hheld.2.2.2.2.2
            clear hheld
            go_wp2_with fail
            go_ret
            exact ⟨rfl, HB.out.trans (Below.mono hx HB.out.size)⟩
  · go_enter Try.func4, Try.ntmps4
    go_wp2
    go_ret
    exact ⟨rfl, Below.refl _ _⟩

set_option maxRecDepth 100000 in
set_option maxHeartbeats 2000000 in
/-- What the walk gives, for every argument. -/
theorem contract (H : Type) (enc : TypeId × Value → H) (W : World) (base : Nat) (args : Array Value) (ds gs : List (DataW H)) (before : List MemPlace)
    (hval : ∀ (j : Nat) t v, Try.f4.params[j]? = some t → args[j]? = some v → Value.okWide Try.prog W .any base t v)
    (hW : DataW.Whole enc Try.prog Try.f4.params.toList Rows.fnBoxesValidSpec.vars false W args.toList ds gs before) :
    Calls Try.prog 4 args W fun e W' => ∃ v, e = .returned v ∧ Rows.fnBoxesValidSpec.post enc Try.prog Try.f4 false true false false W args v W' := by
  have hW' := hW
  obtain ⟨p, q, hA0, hV, rfl, hfz, hnd⟩ := hW
  have hA : DataW.TrodAll enc Try.prog W 0 (fun _ => true) true Try.f4.params.toList args.toList ds p := hA0
  rw [Try.params4] at hA hval
  obtain ⟨v0, vs0, d0, ds0, p0, q0, hargs, rfl, rfl, h0, r0⟩ := trodAll_cons hA
  obtain ⟨rfl, rfl, rfl⟩ := trodAll_nil r0
  obtain rfl : args = #[v0] := by cases args; simp_all
  obtain ⟨rfl, rfl⟩ := trodVars_none hV
  have k0 := h0
  have lt0 : ∀ x ∈ p0, x.block < W.heap.size := by obtain ⟨m, hm⟩ := k0; exact DataW.trod_lt m _ _ _ hm
  obtain ⟨a0, len0, cap0, rfl⟩ := okWide_slice Try.underlying22 (hval 0 22 v0 rfl rfl)
  obtain ⟨z0, x0⟩ : ∃ zs, IsRow .u8 W a0 len0 cap0 zs := by
    obtain ⟨fuel, hf⟩ := h0
    rcases open_ints Try.underlying22 Try.underlying5 (by kernel_rfl) hf with ⟨hcs, _⟩ | ⟨x, l, c, zs, hcs, _, hl, hm, hz, _, hcell, hwz⟩
    · simp [Value.cells] at hcs
      obtain ⟨rfl, rfl, rfl⟩ := hcs
      exact ⟨[], .inl ⟨rfl, rfl, rfl, rfl⟩⟩
    · simp [Value.cells] at hcs
      obtain ⟨rfl, rfl, rfl⟩ := hcs
      exact ⟨zs, .inr ⟨_, rfl, hl, hm, by simpa using hz, hcell, hwz⟩⟩
  clear hA0
  refine (walk a0 len0 cap0 W (row8_of x0)).mono fun e W' ⟨he, bel⟩ => ?_
  subst he
  exact ⟨_, rfl, _, _, _, [], _, [], hW', trodAll_mk1 (shut_bool Try.underlying4 _), (trodAll_cons_mk (Below.trod laidOut (by kernel_rfl) (of_decide_eq_true (by kernel_rfl)) k0 bel lt0) trodAll_mk0), rfl, bel.frame _, fun h => by cases h⟩

set_option maxRecDepth 100000 in
theorem lifted (os : Os) (started : os.Started) (H : Type) (enc : TypeId × Value → H) :
    ReturnsInHanded {} Try.checked os 4 .any (Rows.fnBoxesValidSpec.pre6 enc Try.prog Try.f4 Rows.fnBoxesValidRow.domain false) (Rows.fnBoxesValidSpec.post enc Try.prog Try.f4 false true false false) := by
  refine returnsInHanded_of_change (C := Try.checked) own started (by kernel_rfl) Try.func4
    (ChangeSpec.witness6 (enc := enc) (C := Try.checked) false ⟨#[], #[.slice none 0 0], []⟩ 8 (by kernel_rfl) (by kernel_rfl) (by kernel_rfl) (by kernel_rfl)) ?_
  intro W base args ds gs before hval hW _ _
  exact contract H enc W base args ds gs before hval hW

theorem proved : Rows.FnBoxesValidSaid :=
  OpenClaim.holds_of_wide 4 Try.f4 rfl rfl rfl rfl rfl rfl rfl ⟨rfl, rfl, rfl, rfl, rfl⟩ rfl rfl rfl rfl rfl (by kernel_rfl) Try.func4 (by kernel_rfl)
    (of_decide_eq_true (by kernel_rfl)) (by unfold Func.isWrapper; first | (rw [if_pos (by decide +kernel)]; kernel_rfl) | (rw [if_neg (by decide +kernel)]; exact ⟨rfl, rfl⟩))
    (fun os started H enc _ => lifted os started H enc)
#print axioms proved
end Go.Proofs.Ytjnoekhdkmgagaa.fnBoxesValid
