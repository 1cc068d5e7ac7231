/-
  For every code of bytes the law on SortRows (the model's answer; no box lies on a lighter one, every row weighs what it did, the heel and the trim are the same, and sorted again it does not change) returns true and leaves its argument as it was. Conditions: none beyond the form's own reach.
-/
import Derived.Test.YtmgnbkiphdlooabRows
import Derived.Test.YtmgnbkiphdlooabGBase
import Derived.WalkKit
import Derived.ProofKit
import Derived.OpenShut
import Derived.ShutString
import Derived.ChangeOld
import Derived.Below
import Derived.Test.YtmgnbkiphdlooabGCr
import Derived.Test.YtmgnbkiphdlooabWtW
import Derived.Test.YtmgnbkiphdlooabRwMath2
import Derived.Test.YtmgnbkiphdlooabRwS
import Derived.Test.YtmgnbkiphdlooabRwI
import Derived.Test.YtmgnbkiphdlooabGPn
import Derived.Test.YtmgnbkiphdlooabGPl
import Derived.Test.YtmgnbkiphdlooabGPs
import Derived.Test.YtmgnbkiphdlooabSkMath
import Derived.Test.YtmgnbkiphdlooabPlI
import Derived.Test.YtmgnbkiphdlooabWtI
import Derived.Test.YtmgnbkiphdlooabRwT
namespace Go.Proofs.Ytmgnbkiphdlooab.fnSortRows
open Go.ChangeShapes Go.WideShapes Go.ChangeAt Go.RowKit
open Go.ChangeMaps (open_string shut_string)
set_option linter.unusedVariables false


/-- What the walk is told of a slice of integers that came in. -/
def IsRow (k : IntKind) (w : World) (a : Option Addr) (len cap : Nat) (zs : List Int) : Prop :=
  (a = none ∧ len = 0 ∧ cap = 0 ∧ zs = []) ∨
  ∃ x, a = some x ∧ len ≤ cap ∧ cap ≤ maxLen ∧ zs.length = cap ∧ (∀ i, i < zs.length → w.cell? (x.add i) = some (.int k (zs.getD i 0))) ∧ ∀ n ∈ zs, (Lit.int k n).wf = true

theorem FreeE.form0 {K : Nat} {w : World} {v : Value} (h : FreeE K w v []) : ∃ a c, v = .slice a 0 c := h.holds.form
set_option maxRecDepth 10000 in
set_option maxHeartbeats 4000000 in
theorem walk (a0 : Option Addr) (len0 cap0 : Nat) (w : World) (w0 : IsRow8 w a0 len0 cap0) :
    Calls Try.prog 6 #[.slice a0 len0 cap0] w fun e w' => e = .returned (.bool true) ∧ Below w.heap.size w w' := by
  have hm := row8_len w0
  unfold maxLen at hm
  by_cases hl : ¬ len0 ≤ 1048576
  · go_enter Try.func6, Try.ntmps6
    go_wp2
    go_ret
    exact ⟨rfl, Below.refl _ _⟩
  · have hl := Nat.not_lt.1 (fun h => hl (Nat.not_le.2 h))
    go_enter Try.func6, Try.ntmps6
    go_wp2_with fail
    refine (drawSortRows_any a0 len0 cap0 w w0).mono ?_
    rintro e w1 ⟨h, l, p, u, v, hl40, hp40, he, NB, OW, hb⟩
    have he' : e = .returned (.tuple #[.agg #[.int .i64 h.b, .int .i64 h.r, .int .i64 h.t], u, v]) := he
    subst he'
    clear he w0
    have hu := NB.holds
    have hv := OW.holds
    clear NB OW
    obtain ⟨ua, uc, rfl⟩ : ∃ a c, u = .slice a l.length c := by obtain ⟨a, c, e, _⟩ := hu; exact ⟨a, c, e⟩
    obtain ⟨va, vc, rfl⟩ := hv.form
    have b2 : Below w1.heap.size w1 (w1.alloc (.cells #[.int .i64 h.b, .int .i64 h.r, .int .i64 h.t] 24)) := (Below.refl _ _).alloc (Nat.le_refl _) _
    have y2 := BoxH.new w1 h
    have C2 := hb.trans (b2.mono hb.size)
    have hu := hu.keep b2
    have hv := hv.keep b2
    generalize hW2 : w1.alloc (.cells #[.int .i64 h.b, .int .i64 h.r, .int .i64 h.t] 24) = W2 at b2 y2 C2 hu hv
    have HW2 := Lib.hid hW2
    clear hW2 b2 hb
    have BK := Lib.hid fun (w' : World) (hs : Below W2.heap.size W2 w') => hu.keep hs
    have PK := Lib.hid fun (w' : World) (hs : Below W2.heap.size W2 w') => hv.keep hs
    have CK := Lib.hid fun (w' : World) (hs : Below W2.heap.size W2 w') => C2.trans (hs.mono C2.size)
    have e2 : Below W2.heap.size W2 W2 := Below.refl _ _
    have k0 := y2.c0
    have k1 := y2.c1
    have k2 := y2.c2
    clear hu hv C2
    have HI := Lib.hid fun (w' : World) (hb : HoldsBx w' (.slice ua l.length uc) l) (hp : HoldsI w' (.slice va p.length vc) p) => implSortRows_any h _ _ l p w' hb hp
    have HS := Lib.hid fun (w' : World) (hb : HoldsBx w' (.slice ua l.length uc) l) (hp : HoldsI w' (.slice va p.length vc) p) => specSortRows_any h _ _ l p w' hb hp
    cases hok : plOk h (bxsOk l) (bxIds l) p
    · have e0 : sortO h l p = [] := sortO_bad hok
      rw [e0] at HI HS
      clear hok e0
      go_wp2_with fail
      rw [HW2.out]
      generalize w1.heap.size = Y at y2 k0 k1 k2
      have YK := Lib.hid fun (w' : World) (hs : Below W2.heap.size W2 w') => y2.keep hs
      clear HW2 y2
      go_wp2_with fail
      refine (HI.out W2 (BK.out _ e2) (PK.out _ e2)).mono ?_
      rintro e W3 ⟨vi, rfl, g, d⟩
      have e3 := e2.trans (d.mono e2.size)
      clear k0 k1 k2
      have k0 := (YK.out _ e3).c0
      have k1 := (YK.out _ e3).c1
      have k2 := (YK.out _ e3).c2
      clear d e2
      have gi := g.holds
      obtain ⟨ia, ic, rfl⟩ := gi.form
      clear g
      go_wp2_with fail
      refine (HS.out W3 (BK.out _ e3) (PK.out _ e3)).mono ?_
      rintro e W4 ⟨vs, rfl, gs, d⟩
      have e4 := e3.trans (d.mono e3.size)
      have gi := gi.keep d
      clear k0 k1 k2
      have k0 := (YK.out _ e4).c0
      have k1 := (YK.out _ e4).c1
      have k2 := (YK.out _ e4).c2
      clear d e3
      have gs := gs.holds
      go_wp2_with fail
      refine (sameInts_yes _ vs [] W4 gi gs).mono ?_
      rintro e W5 ⟨rfl, d⟩
      have e5 := e4.trans (d.mono e4.size)
      have gi := gi.keep d
      clear k0 k1 k2
      have k0 := (YK.out _ e5).c0
      have k1 := (YK.out _ e5).c1
      have k2 := (YK.out _ e5).c2
      clear d e4
      clear gs
      go_wp2_with fail
      refine (alive_yes _).mono ?_
      rintro e w' ⟨rfl, rfl⟩
      go_wp2_with fail
      go_ret
      exact ⟨rfl, CK.out _ e5⟩
    · obtain ⟨z1, z2, z3, z4, z5, z6, z7⟩ := sortO_law hok
      have HHP := Lib.hid fun (w' : World) (hb : HoldsBx w' (.slice ua l.length uc) l) (hp : HoldsI w' (.slice va p.length vc) p) => implHeelOf_any h _ _ l p w' hb hp
      have HTP := Lib.hid fun (w' : World) (hb : HoldsBx w' (.slice ua l.length uc) l) (hp : HoldsI w' (.slice va p.length vc) p) => implTrimOf_any h _ _ l p w' hb hp
      have HRP := Lib.hid fun (w' : World) (hb : HoldsBx w' (.slice ua l.length uc) l) (hp : HoldsI w' (.slice va p.length vc) p) => implRowWeights_any h _ _ l p w' hb hp
      have o1 := heelW_ok h l p
      have o2 := trimW_ok h l p
      rw [hok] at o1 o2
      have HHX := Lib.hid fun (v' : Value) (w' : World) (hb : HoldsBx w' (.slice ua l.length uc) l) (hp : HoldsI w' v' (sortO h l p)) => (show Calls Try.prog 30 #[.agg #[.int .i64 h.b, .int .i64 h.r, .int .i64 h.t], .slice ua l.length uc, v'] w' fun e w2 => e = .returned (.tuple #[.int .i64 (heelW h l p).1, .bool true]) ∧ Below w'.heap.size w' w2 from by
        have := implHeelOf_any h _ v' l (sortO h l p) w' hb hp
        rw [z3, o1] at this
        exact this)
      have HTX := Lib.hid fun (v' : Value) (w' : World) (hb : HoldsBx w' (.slice ua l.length uc) l) (hp : HoldsI w' v' (sortO h l p)) => (show Calls Try.prog 31 #[.agg #[.int .i64 h.b, .int .i64 h.r, .int .i64 h.t], .slice ua l.length uc, v'] w' fun e w2 => e = .returned (.tuple #[.int .i64 (trimW h l p).1, .bool true]) ∧ Below w'.heap.size w' w2 from by
        have := implTrimOf_any h _ v' l (sortO h l p) w' hb hp
        rw [z4, o2] at this
        exact this)
      have HVX := Lib.hid fun (v' : Value) (w' : World) (hb : HoldsBx w' (.slice ua l.length uc) l) (hp : HoldsI w' v' (sortO h l p)) => (show Calls Try.prog 32 #[.agg #[.int .i64 h.b, .int .i64 h.r, .int .i64 h.t], .slice ua l.length uc, v'] w' fun e w2 => e = .returned (.bool true) ∧ Below w'.heap.size w' w2 from by
        have := implPlanValid_any h _ v' l (sortO h l p) w' hb hp
        rw [z2] at this
        exact this)
      have HLX := Lib.hid fun (v' : Value) (w' : World) (hb : HoldsBx w' (.slice ua l.length uc) l) (hp : HoldsI w' v' (sortO h l p)) => (show Calls Try.prog 22 #[.agg #[.int .i64 h.b, .int .i64 h.r, .int .i64 h.t], .slice ua l.length uc, v'] w' fun e w2 => ∃ v', e = .returned v' ∧ FreeE w'.heap.size w2 v' [] ∧ Below w'.heap.size w' w2 from by
        have := implOnLighter_any h _ v' l (sortO h l p) w' hb hp
        rw [z6] at this
        exact this)
      have HSX := Lib.hid fun (v' : Value) (w' : World) (hb : HoldsBx w' (.slice ua l.length uc) l) (hp : HoldsI w' v' (sortO h l p)) => (show Calls Try.prog 28 #[.agg #[.int .i64 h.b, .int .i64 h.r, .int .i64 h.t], .slice ua l.length uc, v'] w' fun e w2 => ∃ v', e = .returned v' ∧ FreeE w'.heap.size w2 v' (sortO h l p) ∧ Below w'.heap.size w' w2 from by
        have := implSortRows_any h _ v' l (sortO h l p) w' hb hp
        rw [z7] at this
        exact this)
      have HRX := Lib.hid fun (v' : Value) (w' : World) (hb : HoldsBx w' (.slice ua l.length uc) l) (hp : HoldsI w' v' (sortO h l p)) => (show Calls Try.prog 12 #[.agg #[.int .i64 h.b, .int .i64 h.r, .int .i64 h.t], .slice ua l.length uc, v'] w' fun e w2 => ∃ v', e = .returned v' ∧ FreeE w'.heap.size w2 v' (rowO h l p) ∧ Below w'.heap.size w' w2 from by
        have := implRowWeights_any h _ v' l (sortO h l p) w' hb hp
        rw [z5] at this
        exact this)
      rw [o1] at HHP
      rw [o2] at HTP
      have hpl := pl_len hok
      have hX0 : 0 < (sortO h l p).length := by omega
      have hX40 : (sortO h l p).length ≤ 40 := by omega
      generalize sortO h l p = X at HI HS HHX HTX HVX HLX HSX HRX hX0 hX40
      generalize rowO h l p = RW at HRX HRP
      generalize (heelW h l p).1 = he at HHP HHX
      generalize (trimW h l p).1 = tr at HTP HTX
      have hee : (he == he) = true := by simp
      have htr : (tr == tr) = true := by simp
      have hx0 : ((X.length : Int) == 0) = false := beq_eq_false_iff_ne.2 (by omega)
      clear hok z1 z2 z3 z4 z5 z6 z7 o1 o2 hpl
      go_wp2_with fail
      rw [HW2.out]
      generalize w1.heap.size = Y at y2 k0 k1 k2
      have YK := Lib.hid fun (w' : World) (hs : Below W2.heap.size W2 w') => y2.keep hs
      clear HW2 y2
      go_wp2_with fail
      refine (HI.out W2 (BK.out _ e2) (PK.out _ e2)).mono ?_
      rintro e W3 ⟨vi, rfl, g, d⟩
      have e3 := e2.trans (d.mono e2.size)
      clear k0 k1 k2
      have k0 := (YK.out _ e3).c0
      have k1 := (YK.out _ e3).c1
      have k2 := (YK.out _ e3).c2
      clear d e2
      have gi := g.holds
      obtain ⟨ia, ic, rfl⟩ := gi.form
      clear g
      go_wp2_with fail
      refine (HS.out W3 (BK.out _ e3) (PK.out _ e3)).mono ?_
      rintro e W4 ⟨vs, rfl, gs, d⟩
      have e4 := e3.trans (d.mono e3.size)
      have gi := gi.keep d
      clear k0 k1 k2
      have k0 := (YK.out _ e4).c0
      have k1 := (YK.out _ e4).c1
      have k2 := (YK.out _ e4).c2
      clear d e3
      have gs := gs.holds
      go_wp2_with fail
      refine (sameInts_yes _ vs X W4 gi gs).mono ?_
      rintro e W5 ⟨rfl, d⟩
      have e5 := e4.trans (d.mono e4.size)
      have gi := gi.keep d
      clear k0 k1 k2
      have k0 := (YK.out _ e5).c0
      have k1 := (YK.out _ e5).c1
      have k2 := (YK.out _ e5).c2
      clear d e4
      clear gs
      go_wp2_with fail
      refine (HHP.out W5 (BK.out _ e5) (PK.out _ e5)).mono ?_
      rintro e W6 ⟨rfl, d⟩
      have e6 := e5.trans (d.mono e5.size)
      have gi := gi.keep d
      clear k0 k1 k2
      have k0 := (YK.out _ e6).c0
      have k1 := (YK.out _ e6).c1
      have k2 := (YK.out _ e6).c2
      clear d e5
      go_wp2_with fail
      refine (HHX.out _ W6 (BK.out _ e6) gi).mono ?_
      rintro e W7 ⟨rfl, d⟩
      have e7 := e6.trans (d.mono e6.size)
      have gi := gi.keep d
      clear k0 k1 k2
      have k0 := (YK.out _ e7).c0
      have k1 := (YK.out _ e7).c1
      have k2 := (YK.out _ e7).c2
      clear d e6
      go_wp2_with fail
      refine (HTP.out W7 (BK.out _ e7) (PK.out _ e7)).mono ?_
      rintro e W8 ⟨rfl, d⟩
      have e8 := e7.trans (d.mono e7.size)
      have gi := gi.keep d
      clear k0 k1 k2
      have k0 := (YK.out _ e8).c0
      have k1 := (YK.out _ e8).c1
      have k2 := (YK.out _ e8).c2
      clear d e7
      go_wp2_with fail
      refine (HTX.out _ W8 (BK.out _ e8) gi).mono ?_
      rintro e W9 ⟨rfl, d⟩
      have e9 := e8.trans (d.mono e8.size)
      have gi := gi.keep d
      clear k0 k1 k2
      have k0 := (YK.out _ e9).c0
      have k1 := (YK.out _ e9).c1
      have k2 := (YK.out _ e9).c2
      clear d e8
      have EK := Lib.hid e9
      have XK := Lib.hid fun (w' : World) (hs : Since W9 w') => gi.keep hs
      have HVk := Lib.hid fun (w' : World) (hs : Since W9 w') => HVX.out _ w' (BK.out _ (EK.out.trans (Below.mono hs EK.out.size))) (XK.out _ hs)
      have HLk := Lib.hid fun (w' : World) (hs : Since W9 w') => HLX.out _ w' (BK.out _ (EK.out.trans (Below.mono hs EK.out.size))) (XK.out _ hs)
      have HSk := Lib.hid fun (w' : World) (hs : Since W9 w') => HSX.out _ w' (BK.out _ (EK.out.trans (Below.mono hs EK.out.size))) (XK.out _ hs)
      have HRXk := Lib.hid fun (w' : World) (hs : Since W9 w') => HRX.out _ w' (BK.out _ (EK.out.trans (Below.mono hs EK.out.size))) (XK.out _ hs)
      have HRPk := Lib.hid fun (w' : World) (hs : Since W9 w') => HRP.out w' (BK.out _ (EK.out.trans (Below.mono hs EK.out.size))) (PK.out _ (EK.out.trans (Below.mono hs EK.out.size)))
      have y := YK.out W9 e9
      have HK := Lib.hid fun (w' : World) (hs : Since W9 w') => (show w'.cell? ⟨Y, 0, none⟩ = some (.int .i64 h.b) ∧ w'.cell? ⟨Y, 1, none⟩ = some (.int .i64 h.r) ∧ w'.cell? ⟨Y, 2, none⟩ = some (.int .i64 h.t) ∧ Since W9 w' from ⟨(y.keep hs).c0, (y.keep hs).c1, (y.keep hs).c2, hs⟩)
      have hstart := HK.out _ (show Since W9 W9.drew from (Below.refl _ _).drew)
      have CE := Lib.hid fun (w' : World) (hs : Since W9 w') => CK.out _ (EK.out.trans (Below.mono hs EK.out.size))
      clear y k0 k1 k2 gi e9 HI HS HHP HHX HTP HTX HVX HLX HSX HRX HRP
      go_wp2_with fail
      go_region_held3 (fun w' => w'.cell? ⟨Y, 0, none⟩ = some (.int .i64 h.b) ∧ w'.cell? ⟨Y, 1, none⟩ = some (.int .i64 h.r) ∧ w'.cell? ⟨Y, 2, none⟩ = some (.int .i64 h.t) ∧ Since W9 w')
        (first | exact hstart | exact HK.out _ s5 | exact HK.out _ (by exact (‹_ ∧ _› : _ ∧ _ ∧ _ ∧ Since W9 _).2.2.2) | fail)
        (first
          | (go_at_call 32; ((with_reducible refine (HVk.out _ (by exact (‹_ ∧ _› : _ ∧ _ ∧ _ ∧ Since W9 _).2.2.2)).mono ?_); rintro e w5 ⟨rfl, d5⟩; have s5 : Since W9 w5 := Since.call (by exact (‹_ ∧ _› : _ ∧ _ ∧ _ ∧ Since W9 _).2.2.2) d5; clear d5))
          | (go_at_call 22; ((with_reducible refine (HLk.out _ (by exact (‹_ ∧ _› : _ ∧ _ ∧ _ ∧ Since W9 _).2.2.2)).mono ?_); rintro e w5 ⟨v5, rfl, g5, d5⟩; obtain ⟨a5, c5, rfl⟩ := FreeE.form0 g5; have s5 : Since W9 w5 := Since.call (by exact (‹_ ∧ _› : _ ∧ _ ∧ _ ∧ Since W9 _).2.2.2) d5; clear g5 d5))
          | (go_at_call 28; ((with_reducible refine (HSk.out _ (by exact (‹_ ∧ _› : _ ∧ _ ∧ _ ∧ Since W9 _).2.2.2)).mono ?_); rintro e w5 ⟨v6, rfl, g6, d5⟩; have q6 := Lib.hid (FreeE.holds g6); have s5 : Since W9 w5 := Since.call (by exact (‹_ ∧ _› : _ ∧ _ ∧ _ ∧ Since W9 _).2.2.2) d5; clear g6 d5))
          | (go_at_call 13; ((with_reducible refine (sameInts_yes _ _ X _ q6.out (XK.out _ (by exact (‹_ ∧ _› : _ ∧ _ ∧ _ ∧ Since W9 _).2.2.2))).mono ?_); rintro e w5 ⟨rfl, d5⟩; have s5 : Since W9 w5 := Since.call (by exact (‹_ ∧ _› : _ ∧ _ ∧ _ ∧ Since W9 _).2.2.2) d5; clear d5))
          | (go_at_call 12; ((with_reducible refine (HRXk.out _ (by exact (‹_ ∧ _› : _ ∧ _ ∧ _ ∧ Since W9 _).2.2.2)).mono ?_); rintro e w5 ⟨v7, rfl, g7, d5⟩; have q7 := Lib.hid (FreeE.holds g7); have s5 : Since W9 w5 := Since.call (by exact (‹_ ∧ _› : _ ∧ _ ∧ _ ∧ Since W9 _).2.2.2) d5; clear g7 d5))
          | (go_at_call 12; ((with_reducible refine (HRPk.out _ (by exact (‹_ ∧ _› : _ ∧ _ ∧ _ ∧ Since W9 _).2.2.2)).mono ?_); rintro e w5 ⟨v8, rfl, g8, d5⟩; have q8 := Lib.hid (FreeE.holds g8); have q9 := Lib.hid (HoldsI.keep q7.out d5); have s5 : Since W9 w5 := Since.call (by exact (‹_ ∧ _› : _ ∧ _ ∧ _ ∧ Since W9 _).2.2.2) d5; clear g8 d5))
          | (go_at_call 13; ((with_reducible refine (sameInts_yes _ _ RW _ q9.out q8.out).mono ?_); rintro e w5 ⟨rfl, d5⟩; have s5 : Since W9 w5 := Since.call (by exact (‹_ ∧ _› : _ ∧ _ ∧ _ ∧ Since W9 _).2.2.2) d5; clear d5))
          | fail)
      rename_i hheld
      have C9 := CE.out _ hheld.2.2.2
      clear hheld hstart
      go_wp2_with fail
      go_ret
      exact ⟨rfl, C9⟩

set_option maxRecDepth 100000 in
set_option maxHeartbeats 2000000 in
/-- What the walk gives, for every argument. -/
theorem contract (H : Type) (enc : TypeId × Value → H) (W : World) (base : Nat) (args : Array Value) (ds gs : List (DataW H)) (before : List MemPlace)
    (hval : ∀ (j : Nat) t v, Try.f6.params[j]? = some t → args[j]? = some v → Value.okWide Try.prog W .any base t v)
    (hW : DataW.Whole enc Try.prog Try.f6.params.toList Rows.fnSortRowsSpec.vars false W args.toList ds gs before) :
    Calls Try.prog 6 args W fun e W' => ∃ v, e = .returned v ∧ Rows.fnSortRowsSpec.post enc Try.prog Try.f6 false true false false W args v W' := by
  have hW' := hW
  obtain ⟨p, q, hA0, hV, rfl, hfz, hnd⟩ := hW
  have hA : DataW.TrodAll enc Try.prog W 0 (fun _ => true) true Try.f6.params.toList args.toList ds p := hA0
  rw [Try.params6] at hA hval
  obtain ⟨v0, vs0, d0, ds0, p0, q0, hargs, rfl, rfl, h0, r0⟩ := trodAll_cons hA
  obtain ⟨rfl, rfl, rfl⟩ := trodAll_nil r0
  obtain rfl : args = #[v0] := by cases args; simp_all
  obtain ⟨rfl, rfl⟩ := trodVars_none hV
  have k0 := h0
  have lt0 : ∀ x ∈ p0, x.block < W.heap.size := by obtain ⟨m, hm⟩ := k0; exact DataW.trod_lt m _ _ _ hm
  obtain ⟨a0, len0, cap0, rfl⟩ := okWide_slice Try.underlying22 (hval 0 22 v0 rfl rfl)
  obtain ⟨z0, x0⟩ : ∃ zs, IsRow .u8 W a0 len0 cap0 zs := by
    obtain ⟨fuel, hf⟩ := h0
    rcases open_ints Try.underlying22 Try.underlying5 (by kernel_rfl) hf with ⟨hcs, _⟩ | ⟨x, l, c, zs, hcs, _, hl, hm, hz, _, hcell, hwz⟩
    · simp [Value.cells] at hcs
      obtain ⟨rfl, rfl, rfl⟩ := hcs
      exact ⟨[], .inl ⟨rfl, rfl, rfl, rfl⟩⟩
    · simp [Value.cells] at hcs
      obtain ⟨rfl, rfl, rfl⟩ := hcs
      exact ⟨zs, .inr ⟨_, rfl, hl, hm, by simpa using hz, hcell, hwz⟩⟩
  clear hA0
  refine (walk a0 len0 cap0 W (row8_of x0)).mono fun e W' ⟨he, bel⟩ => ?_
  subst he
  exact ⟨_, rfl, _, _, _, [], _, [], hW', trodAll_mk1 (shut_bool Try.underlying4 _), (trodAll_cons_mk (Below.trod laidOut (by kernel_rfl) (of_decide_eq_true (by kernel_rfl)) k0 bel lt0) trodAll_mk0), rfl, bel.frame _, fun h => by cases h⟩

set_option maxRecDepth 100000 in
theorem lifted (os : Os) (started : os.Started) (H : Type) (enc : TypeId × Value → H) :
    ReturnsInHanded {} Try.checked os 6 .any (Rows.fnSortRowsSpec.pre6 enc Try.prog Try.f6 Rows.fnSortRowsRow.domain false) (Rows.fnSortRowsSpec.post enc Try.prog Try.f6 false true false false) := by
  refine returnsInHanded_of_change (C := Try.checked) own started (by kernel_rfl) Try.func6
    (ChangeSpec.witness6 (enc := enc) (C := Try.checked) false ⟨#[], #[.slice none 0 0], []⟩ 8 (by kernel_rfl) (by kernel_rfl) (by kernel_rfl) (by kernel_rfl)) ?_
  intro W base args ds gs before hval hW _ _
  exact contract H enc W base args ds gs before hval hW

theorem proved : Rows.FnSortRowsSaid :=
  OpenClaim.holds_of_wide 6 Try.f6 rfl rfl rfl rfl rfl rfl rfl ⟨rfl, rfl, rfl, rfl, rfl⟩ rfl rfl rfl rfl rfl (by kernel_rfl) Try.func6 (by kernel_rfl)
    (of_decide_eq_true (by kernel_rfl)) (by unfold Func.isWrapper; first | (rw [if_pos (by decide +kernel)]; kernel_rfl) | (rw [if_neg (by decide +kernel)]; exact ⟨rfl, rfl⟩))
    (fun os started H enc _ => lifted os started H enc)
#print axioms proved
end Go.Proofs.Ytmgnbkiphdlooab.fnSortRows
