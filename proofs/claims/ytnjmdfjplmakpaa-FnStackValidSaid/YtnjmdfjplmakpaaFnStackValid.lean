/-
  For every code of bytes the law on StackValid (the model's answer; without its highest box a valid stack is valid, with its highest box twice it is not) returns true and leaves its argument as it was. Conditions: none beyond the form's own reach.
-/
import Derived.Test.YtnjmdfjplmakpaaRows
import Derived.Test.YtnjmdfjplmakpaaLaidOut
import Derived.WalkKit
import Derived.ProofKit
import Derived.OpenShut
import Derived.ShutString
import Derived.ChangeOld
import Derived.Below
import Derived.Test.YtnjmdfjplmakpaaRd
import Derived.Test.YtnjmdfjplmakpaaCrI
import Derived.Test.YtnjmdfjplmakpaaDrSt
import Derived.Test.YtnjmdfjplmakpaaPsI
import Derived.Test.YtnjmdfjplmakpaaMkI
import Derived.Test.YtnjmdfjplmakpaaSkMath
import Derived.IntWalk
namespace Go.Proofs.Ytnjmdfjplmakpaa.fnStackValid
open Go.ChangeShapes Go.WideShapes Go.ChangeAt Go.RowKit
open Go.ChangeMaps (open_string shut_string)
set_option linter.unusedVariables false


/-- What the walk is told of a slice of integers that came in. -/
def IsRow (k : IntKind) (w : World) (a : Option Addr) (len cap : Nat) (zs : List Int) : Prop :=
  (a = none ∧ len = 0 ∧ cap = 0 ∧ zs = []) ∨
  ∃ x, a = some x ∧ len ≤ cap ∧ cap ≤ maxLen ∧ zs.length = cap ∧ (∀ i, i < zs.length → w.cell? (x.add i) = some (.int k (zs.getD i 0))) ∧ ∀ n ∈ zs, (Lit.int k n).wf = true

theorem final_holdsI {w : World} {base m : Nat} {e : TypeId} {v : Value} {l : List Int} {y : Int} (hn : l.length = m) (h : w.ownsRow base e 1 v (m + 1) (rowI l ++ [.int .i64 y])) : HoldsI w v (l ++ [y]) := by
  rw [← hn] at h
  exact (NewI.of_own (own_put h)).holds

theorem HoldsI.rowN {w : World} {g m cap : Nat} {l : List Int} (hn : l.length = m) (h : HoldsI w (.slice (some ⟨g, 0, none⟩) m cap) l) (j : Nat) (u : Value) (hu : (rowI l)[j]? = some u) : w.cell? ((⟨g, 0, none⟩ : Addr).add j) = some u := by
  rw [← hn] at h
  exact HoldsI.rowA h j u hu

set_option maxHeartbeats 4000000 in
theorem walk (a0 : Option Addr) (len0 cap0 : Nat) (w : World) (w0 : IsRow8 w a0 len0 cap0) :
    Calls Try.prog 3 #[.slice a0 len0 cap0] w fun e w' => e = .returned (.bool true) ∧ Below w.heap.size w w' := by
  obtain ⟨i0, hi, hz0, hz1, hz2⟩ := info_parts infoInt
  have HI := Lib.hid hi
  have HZ0 := Lib.hid hz0
  have HZ1 := Lib.hid hz1
  have HZ2 := Lib.hid hz2
  clear hi hz0 hz1 hz2
  have hm := row8_len w0
  unfold maxLen at hm
  by_cases hl : len0 ≤ 1048576
  · go_enter Try.func3, Try.ntmps3
    go_wp2_with fail
    refine (drawStackValid_any a0 len0 cap0 w w0).mono ?_
    rintro e w1 ⟨l, g, cp, x, hl11, x0, x6, rfl, hh, hb⟩
    clear w0 x0 x6
    have HH := Lib.hid hh
    have HV := Lib.hid fun v l w (h : HoldsI w v l) => implStackValid_any v l x w h
    have HS := Lib.hid fun w (h : HoldsI w (.slice (some ⟨g, 0, none⟩) l.length cp) l) => specStackValid_any _ l x w h
    have HN := Lib.hid fun w => implStackValid_any (.slice none 0 0) [] 0 w ⟨none, 0, rfl, Nat.le_refl _, by simp [maxLen], .inl rfl⟩
    rw [stOk_zero] at HN
    clear hh
    go_wp2_with fail
    refine (HV.out _ l _ HH.out).mono ?_
    rintro e w2 ⟨rfl, b2⟩
    go_wp2_with fail
    refine (HS.out _ (HH.out.keep b2)).mono ?_
    rintro e w3 ⟨rfl, b3⟩
    have hb3 : Below w.heap.size w w3 := (hb.trans (b2.mono hb.size)).trans (b3.mono (Nat.le_trans hb.size b2.size))
    have hh3 := (HH.out.keep b2).keep b3
    clear HH b2 b3 hb HS
    generalize hok : stOk l x = ok
    have hbb : (ok != ok) = false := by cases ok <;> rfl
    cases ok
    · go_wp2_with fail
      refine (HN.out _).mono ?_
      rintro e w4 ⟨rfl, b4⟩
      go_wp2_with fail
      refine (alive_yes _).mono ?_
      rintro e w5 ⟨rfl, rfl⟩
      go_wp2
      go_ret
      exact ⟨rfl, hb3.trans (b4.mono hb3.size)⟩
    · by_cases hz : l.length = 0
      · have hz' : ((l.length : Int) == 0) = true := by rw [beq_iff_eq]; omega
        clear hz hh3
        go_wp2_with fail
        refine (HN.out _).mono ?_
        rintro e w4 ⟨rfl, b4⟩
        go_wp2_with fail
        refine (alive_yes _).mono ?_
        rintro e w5 ⟨rfl, rfl⟩
        go_wp2
        go_ret
        exact ⟨rfl, hb3.trans (b4.mono hb3.size)⟩
      · obtain ⟨m, hn⟩ : ∃ m, l.length = m := ⟨_, rfl⟩
        have hm0 : 0 < m := by omega
        have hlt3 : g < w3.heap.size := by
          obtain ⟨a, c, he, _, _, h4⟩ := hh3
          rcases h4 with h4 | ⟨b, off, h5, h6, _⟩
          · omega
          · simp only [Value.slice.injEq, true_and] at he
            obtain ⟨rfl, -⟩ := he
            simp only [Option.some.injEq, Addr.mk.injEq] at h5
            obtain ⟨rfl, -⟩ := h5
            exact h6
        have hat : m ≤ cp ∧ cp ≤ 9223372036854775807 ∧ w3.cell? ⟨g, m - 1, none⟩ = some (.int .i64 (l[m - 1]'(by omega))) := by
          obtain ⟨a, c, he, h2, h3, h4⟩ := hh3
          simp only [Value.slice.injEq, true_and] at he
          obtain ⟨rfl, rfl⟩ := he
          refine ⟨by omega, by unfold maxLen at h3; omega, ?_⟩
          rcases h4 with h4 | ⟨b, off, h5, h6, h7⟩
          · omega
          · simp only [Option.some.injEq, Addr.mk.injEq, and_true] at h5
            obtain ⟨rfl, rfl⟩ := h5
            have := h7 (m - 1) (by omega)
            rwa [Nat.zero_add] at this
        have H2 := Lib.hid fun v w (h : HoldsI w v (l ++ [l[m - 1]'(by omega)])) => HV.out v (l ++ [l[m - 1]'(by omega)]) w h
        rw [stOk_twice (List.getElem_mem (show m - 1 < l.length by omega))] at H2
        have HH3 := Lib.hid hh3
        have ht := Lib.hid (HoldsI.take (m - 1) (by omega) hh3)
        have H1 := Lib.hid fun w' (hb' : Since w3 w') => HV.out _ _ w' (ht.out.keep hb')
        rw [stOk_take (m - 1) hok] at H1
        have HNL := Lib.hid hn
        have hl12 : m ≤ 11 := by omega
        rw [hn] at HH3 ⊢
        generalize l[m - 1]'_ = y at hat H2
        obtain ⟨hcap, hcap2, s3⟩ := hat
        have i1 : (1 : Int) ≤ (m : Int) := by omega
        have i2 : (0 : Int) ≤ (m : Int) - 1 := by omega
        have i3 : (m : Int) - 1 < (m : Int) := by omega
        have i4 : (m : Int) - 1 ≤ (cp : Int) := by omega
        have i5 : ((m : Int) - 1).toNat = m - 1 := by omega
        have jw : IntKind.i64.wrap ((m : Int) - 1) = (m : Int) - 1 := IntWalk.i64_in _ (by omega)
        have i6 : ((m : Int) == 0) = false := by rw [beq_eq_false_iff_ne]; omega
        have HB := Lib.hid hb3
        clear HV ht hok hz hb3 HN hh3 hn hl11
        go_wp2_with fail
        have CELL := Lib.hid fun (w' : World) (hs : Since w3 w') => (show w'.cell? ⟨g, m - 1, none⟩ = some (.int .i64 y) ∧ Since w3 w' from ⟨(Below.cell (p := ⟨g, m - 1, none⟩) hs hlt3).trans s3, hs⟩)
        have hstart := CELL.out _ (show Since w3 w3.drew from (Below.refl _ _).drew)
        have RL := Lib.hid (show (rowI l).length = m * 1 by rw [rowI_len, HNL.out, Nat.mul_one])
        clear s3
        ((go_region_held3 (fun w' => w'.cell? ⟨g, m - 1, none⟩ = some (.int .i64 y) ∧ Since w3 w')
          (first | exact hstart | exact CELL.out _ (Since.on (by exact (‹_ ∧ Since w3 _› : _ ∧ Since w3 _).2) ‹Below w3.heap.size _ _›) | exact CELL.out _ (Since.call (by exact (‹_ ∧ Since w3 _› : _ ∧ Since w3 _).2) ‹_›) | exact CELL.out _ (Since.alloc (by exact (‹_ ∧ Since w3 _› : _ ∧ Since w3 _).2) _))
          (first
            | (refine step_append_w (by rfl) _ _ 23 (by rfl) w3.heap.size 3 i0 (.int .i64 0) 1 8 Try.underlying23 HI.out HZ0.out HZ1.out HZ2.out rfl (by decide) _ 0 [] (by rfl) (by first | exact own_zero (by have := b4.size; simp at this; omega) (heap_alloc_new _ _) | exact own_zero (by have := b4.size; simp at this; omega) (two_lo _ _ _) | exact own_zero (g := w4.heap.size + 1) (by have := b4.size; simp at this; omega) (two_hi _ _ _)) ⟨g, 0, none⟩ m cp (rowI l) (by rfl) RL.out (fun j u hu => HoldsI.rowN HNL.out (HH3.out.keep (by exact (‹_ ∧ Since w3 _› : _ ∧ Since w3 _).2)) j u hu) (rowI_one l) hm0 (by unfold maxLen; omega) (by omega) (Since.size0 (by exact (‹_ ∧ Since w3 _› : _ ∧ Since w3 _).2)) ?_; intro g1 c1 w5 hown5 hb5 hg5 hk5; have hown0 := Lib.hid hown5; simp only [Nat.zero_add, List.nil_append] at hown5; have HK5 := Lib.hid hk5; clear hk5)
            | (refine step_append_w (by rfl) _ _ 23 (by rfl) w3.heap.size 3 i0 (.int .i64 0) 1 8 Try.underlying23 HI.out HZ0.out HZ1.out HZ2.out rfl (by decide) _ m (rowI l) (by rfl) (hown5.alloc _) ⟨w5.heap.size, 0, none⟩ 1 1 [.int .i64 y] (by rfl) rfl (fun j u hu => cells_new j u hu) (by simp [Value.oneCell']) (by decide) (by unfold maxLen; omega) (by omega) (Since.size0 (by exact (‹_ ∧ Since w3 _› : _ ∧ Since w3 _).2)) ?_; intro g2 c2 w6 hown6 hb6 hg6 hk6; clear hk6)
            | (refine step_append_w (by rfl) _ _ 23 (by rfl) w3.heap.size 3 i0 (.int .i64 0) 1 8 Try.underlying23 HI.out HZ0.out HZ1.out HZ2.out rfl (by decide) _ (0 + m) ([] ++ rowI l) (by rfl) hown0.out ⟨w4.heap.size + 1, 0, none⟩ 1 1 [.int .i64 y] (by rfl) rfl (fun j u hu => kept_hi (by have := b4.size; simp at this; omega) HK5.out j u hu) (by simp [Value.oneCell']) (by decide) (by unfold maxLen; omega) (by omega) (Since.size0 (by exact (‹_ ∧ Since w3 _› : _ ∧ Since w3 _).2)) ?_; intro g2 c2 w6 hown6 hb6 hg6 hk6; simp only [Nat.zero_add, List.nil_append] at hown6; clear hk6)
            | (refine step_append_w (by rfl) _ _ 23 (by rfl) w3.heap.size 3 i0 (.int .i64 0) 1 8 Try.underlying23 HI.out HZ0.out HZ1.out HZ2.out rfl (by decide) _ (0 + m) ([] ++ rowI l) (by rfl) hown0.out ⟨w4.heap.size, 0, none⟩ 1 1 [.int .i64 y] (by rfl) rfl (fun j u hu => kept_lo (by have := b4.size; simp at this; omega) HK5.out j u hu) (by simp [Value.oneCell']) (by decide) (by unfold maxLen; omega) (by omega) (Since.size0 (by exact (‹_ ∧ Since w3 _› : _ ∧ Since w3 _).2)) ?_; intro g2 c2 w6 hown6 hb6 hg6 hk6; simp only [Nat.zero_add, List.nil_append] at hown6; clear hk6)
            | (go_at_call 12; ((with_reducible refine (H2.out _ _ (final_holdsI HNL.out hown6)).mono ?_); rintro e w7 ⟨rfl, b7⟩))
            | (go_at_call 12; ((with_reducible refine (H1.out _ (by exact (‹_ ∧ Since w3 _› : _ ∧ Since w3 _).2)).mono ?_); rintro e w4 ⟨rfl, b4⟩)))))
        all_goals
          rename_i hheld
          have hx := hheld.2
          clear hheld
          go_wp2_with fail
          go_ret
          exact ⟨rfl, HB.out.trans (Below.mono hx HB.out.size)⟩
  · go_enter Try.func3, Try.ntmps3
    go_wp2
    go_ret
    exact ⟨rfl, Below.refl _ _⟩

/-- What the walk gives, for every argument. -/
theorem contract (H : Type) (enc : TypeId × Value → H) (W : World) (base : Nat) (args : Array Value) (ds gs : List (DataW H)) (before : List MemPlace)
    (hval : ∀ (j : Nat) t v, Try.f3.params[j]? = some t → args[j]? = some v → Value.okWide Try.prog W .any base t v)
    (hW : DataW.Whole enc Try.prog Try.f3.params.toList Rows.fnStackValidSpec.vars false W args.toList ds gs before) :
    Calls Try.prog 3 args W fun e W' => ∃ v, e = .returned v ∧ Rows.fnStackValidSpec.post enc Try.prog Try.f3 false true false false W args v W' := by
  have hW' := hW
  obtain ⟨p, q, hA0, hV, rfl, hfz, hnd⟩ := hW
  have hA : DataW.TrodAll enc Try.prog W 0 (fun _ => true) true Try.f3.params.toList args.toList ds p := hA0
  rw [Try.params3] at hA hval
  obtain ⟨v0, vs0, d0, ds0, p0, q0, hargs, rfl, rfl, h0, r0⟩ := trodAll_cons hA
  obtain ⟨rfl, rfl, rfl⟩ := trodAll_nil r0
  obtain rfl : args = #[v0] := by cases args; simp_all
  obtain ⟨rfl, rfl⟩ := trodVars_none hV
  have k0 := h0
  have lt0 : ∀ x ∈ p0, x.block < W.heap.size := by obtain ⟨m, hm⟩ := k0; exact DataW.trod_lt m _ _ _ hm
  obtain ⟨a0, len0, cap0, rfl⟩ := okWide_slice Try.underlying22 (hval 0 22 v0 rfl rfl)
  obtain ⟨z0, x0⟩ : ∃ zs, IsRow .u8 W a0 len0 cap0 zs := by
    obtain ⟨fuel, hf⟩ := h0
    rcases open_ints Try.underlying22 Try.underlying5 (by kernel_rfl) hf with ⟨hcs, _⟩ | ⟨x, l, c, zs, hcs, _, hl, hm, hz, _, hcell, hwz⟩
    · simp [Value.cells] at hcs
      obtain ⟨rfl, rfl, rfl⟩ := hcs
      exact ⟨[], .inl ⟨rfl, rfl, rfl, rfl⟩⟩
    · simp [Value.cells] at hcs
      obtain ⟨rfl, rfl, rfl⟩ := hcs
      exact ⟨zs, .inr ⟨_, rfl, hl, hm, by simpa using hz, hcell, hwz⟩⟩
  clear hA0
  refine (walk a0 len0 cap0 W (row8_of x0)).mono fun e W' ⟨he, bel⟩ => ?_
  subst he
  exact ⟨_, rfl, _, _, _, [], _, [], hW', trodAll_mk1 (shut_bool Try.underlying4 _), (trodAll_cons_mk (Below.trod laidOut (by kernel_rfl) (of_decide_eq_true (by kernel_rfl)) k0 bel lt0) trodAll_mk0), rfl, bel.frame _, fun h => by cases h⟩

set_option maxRecDepth 100000 in
theorem lifted (os : Os) (started : os.Started) (H : Type) (enc : TypeId × Value → H) :
    ReturnsInHanded {} Try.checked os 3 .any (Rows.fnStackValidSpec.pre6 enc Try.prog Try.f3 Rows.fnStackValidRow.domain false) (Rows.fnStackValidSpec.post enc Try.prog Try.f3 false true false false) := by
  refine returnsInHanded_of_change (C := Try.checked) own started (by kernel_rfl) Try.func3
    (ChangeSpec.witness6 (enc := enc) (C := Try.checked) false ⟨#[], #[.slice none 0 0], []⟩ 8 (by kernel_rfl) (by kernel_rfl) (by kernel_rfl) (by kernel_rfl)) ?_
  intro W base args ds gs before hval hW _ _
  exact contract H enc W base args ds gs before hval hW

theorem proved : Rows.FnStackValidSaid :=
  OpenClaim.holds_of_wide 3 Try.f3 rfl rfl rfl rfl rfl rfl rfl ⟨rfl, rfl, rfl, rfl, rfl⟩ rfl rfl rfl rfl rfl (by kernel_rfl) Try.func3 (by kernel_rfl)
    (of_decide_eq_true (by kernel_rfl)) (by unfold Func.isWrapper; first | (rw [if_pos (by decide +kernel)]; kernel_rfl) | (rw [if_neg (by decide +kernel)]; exact ⟨rfl, rfl⟩))
    (fun os started H enc _ => lifted os started H enc)
#print axioms proved
end Go.Proofs.Ytnjmdfjplmakpaa.fnStackValid
