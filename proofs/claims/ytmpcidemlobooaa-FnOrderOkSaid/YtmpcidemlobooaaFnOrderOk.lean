/-
  For every code of bytes the law on OrderOk (the model's answer; without its last box an order is one; with its first box once more it is none) returns true and leaves its argument as it was. Conditions: none beyond the form's own reach.
-/
import Derived.Test.YtmpcidemlobooaaRows
import Derived.Test.YtmpcidemlobooaaGBase
import Derived.WalkKit
import Derived.ProofKit
import Derived.OpenShut
import Derived.ShutString
import Derived.ChangeOld
import Derived.Below
import Derived.Test.YtmpcidemlobooaaGCr
import Derived.Test.YtmpcidemlobooaaGYv
import Derived.Test.YtmpcidemlobooaaDgW
import Derived.Test.YtmpcidemlobooaaDgO
import Derived.Test.YtmpcidemlobooaaYiS
namespace Go.Proofs.Ytmpcidemlobooaa.fnOrderOk
open Go.ChangeShapes Go.WideShapes Go.ChangeAt Go.RowKit
open Go.ChangeMaps (open_string shut_string)
set_option linter.unusedVariables false


/-- What the walk is told of a slice of integers that came in. -/
def IsRow (k : IntKind) (w : World) (a : Option Addr) (len cap : Nat) (zs : List Int) : Prop :=
  (a = none ∧ len = 0 ∧ cap = 0 ∧ zs = []) ∨
  ∃ x, a = some x ∧ len ≤ cap ∧ cap ≤ maxLen ∧ zs.length = cap ∧ (∀ i, i < zs.length → w.cell? (x.add i) = some (.int k (zs.getD i 0))) ∧ ∀ n ∈ zs, (Lit.int k n).wf = true

theorem add_at (b off j : Nat) : (⟨b, off, none⟩ : Addr).add j = ⟨b, off + j, none⟩ := by
  unfold Addr.add
  split
  · next h => subst h; rfl
  · simp
theorem alloc_get (w : World) (o : Obj) (k : Nat) : (w.alloc o).heap[k]? = if k = w.heap.size then some o else w.heap[k]? := by
  show (w.heap.push o)[k]? = _
  rw [Array.getElem?_push]
theorem drew_get (w : World) (k : Nat) : w.drew.heap[k]? = w.heap[k]? := rfl
theorem alloc_sz (w : World) (o : Obj) : (w.alloc o).heap.size = w.heap.size + 1 := by simp
theorem cutT {a b : Prop} (h : a) (k : a → b) : b := k h
theorem ne_s2 (n : Nat) : (n = n + 1 + 1) = False := eq_false (by omega)
theorem ne_s3 (n : Nat) : (n = n + 1 + 1 + 1) = False := eq_false (by omega)
theorem ne_s4 (n : Nat) : (n = n + 1 + 1 + 1 + 1) = False := eq_false (by omega)
theorem drew_sz (w : World) : w.drew.heap.size = w.heap.size := rfl
/-- The append's law in a drawn region: whatever number is appended, and what stays. -/
theorem step_append_g {P : Program} {w : World} {ops : Array Oper} {o : Oper} {a : Act} {K : Act → World → Prop} {Q : Exit → Act → World → Prop} {E : Prop} (hw : Region.wanted o (yielded ops a.tmps) = true) (s x : Operand) (t : TypeId)
    (ho : o.op = .call { callee := .builtin .append, args := #[s, x], argTypes := #[t, t] })
    (base : Nat) (e : TypeId) (i : TypeInfo) (z : Value) (size bytes : Nat) (ht : P.underlying t = some (.slice e)) (hi : P.info? e = some i) (hz : i.zero = some z)
    (hsize : i.size = size) (hby : i.bytes = bytes) (hzs : z.cells.size = size) (hsz : 0 < size)
    (v : Value) (n : Nat) (xs : List Value) (hs : a.eval s = v) (hown : w.ownsRow base e size v n xs)
    (ad : Addr) (m c : Nat) (news : List Value) (hx : a.eval x = .slice (some ad) m c) (hl : news.length = m * size) (hnews : ∀ j u, news[j]? = some u → w.cell? (ad.add j) = some u) (h1 : ∀ u ∈ news, u.oneCell' = true)
    (h63 : n + m ≤ maxLen) (hbytes : (n + m) * bytes ≤ 140737488355328) (hbase : base ≤ w.heap.size)
    (h : ∀ v' w', w'.ownsRow base e size v' (n + m) (xs ++ news) → Below base w w' → (∀ k, k < w.heap.size → v.ownBlock ≠ some k → w'.heap[k]? = w.heap[k]?) → K (a.put o.dst v') w') :
    if Region.wanted o (yielded ops a.tmps) = true then Oper.wp P o a w K Q else E := by
  rw [if_pos hw]
  exact wp_append_own w s x t ho base e i z size bytes ht hi hz hsize hby hzs hsz v n xs hs hown ad m c news hx hl hnews h1 h63 hbytes hbase
    (fun v' w' q1 q2 q3 => h v' w' q1 ((Below.refl _ _).grown q2 hbase (fun k hk => (own_lt hown k hk).1)) (fun k hl hne => q2.block k hl (fun e => hne e.symm)))
theorem one_news {w : World} {N : Nat} {x : Value} (h : w.cell? ⟨N, 0, none⟩ = some x) : ∀ j u, [x][j]? = some u → w.cell? ((⟨N, 0, none⟩ : Addr).add j) = some u := by
  intro j u hu
  cases j with
  | zero => simp at hu; subst hu; exact h
  | succ j => simp at hu
theorem one_kept {w w7 : World} {N : Nat} {x v : Value} (hk : ∀ k, k < w.heap.size → v.ownBlock ≠ some k → w7.heap[k]? = w.heap[k]?) (hlt : N < w.heap.size) (hne : v.ownBlock ≠ some N) (hc : w.cell? ⟨N, 0, none⟩ = some x) : w7.cell? ⟨N, 0, none⟩ = some x :=
  (World.cell?_of_block (w := w) (hk N hlt hne)).trans hc
theorem more_row {w : World} {K : Nat} {v : Value} {os : List Int} {y : Int} (h : w.ownsRow K 3 1 v (os.length + 1) (rowI os ++ [.int .i64 y])) (hy : os.getD 0 0 = y) : HoldsI w v (os ++ [os.getD 0 0]) := by
  rw [hy]
  exact (NewI.of_own (by rw [List.length_append, show os.length + [y].length = os.length + 1 by simp, rowI_app]; exact h)).holds

set_option maxRecDepth 10000 in
set_option maxHeartbeats 8000000 in
theorem walk (a0 : Option Addr) (len0 cap0 : Nat) (w : World) (w0 : IsRow8 w a0 len0 cap0) :
    Calls Try.prog 3 #[.slice a0 len0 cap0] w fun e w' => e = .returned (.bool true) ∧ Below w.heap.size w w' := by
  have hm := row8_len w0
  unfold maxLen at hm
  by_cases hl : ¬ len0 ≤ 1048576
  · go_enter Try.func3, Try.ntmps3
    go_wp2
    go_ret
    exact ⟨rfl, Below.refl _ _⟩
  · have hl := Nat.not_lt.1 (fun h => hl (Nat.not_le.2 h))
    go_enter Try.func3, Try.ntmps3
    go_wp2_with fail
    refine (drawOrderOk_any a0 len0 cap0 w w0).mono ?_
    rintro e w1 ⟨h0, u, ss, ov, os, hl7, hf, ho26, rfl, nY, nO, hb⟩
    clear w0
    obtain ⟨i0, hi, hz0, hz1, hz2⟩ := info_parts infoInt
    have MI := Lib.hid hi
    have MZ0 := Lib.hid hz0
    have MZ1 := Lib.hid hz1
    have MZ2 := Lib.hid hz2
    clear hi hz0 hz1 hz2
    obtain ⟨ua, uc, rfl⟩ := nY.form
    obtain ⟨oa, oc, rfl⟩ := nO.holds.form
    have hh := nY.holds
    have HI := Lib.hid fun u v w (g : HoldsY w u ss) (gi : HoldsI w v os) => implOrderOk_any h0 u v ss os w g gi
    have HS := Lib.hid fun u v w (g : HoldsY w u ss) (gi : HoldsI w v os) => specOrderOk_any h0 u v ss os w g gi (by omega)
    have HV := Lib.hid fun u w (g : HoldsY w u ss) => implYardValid_any h0 u ss w g
    have HP := Lib.hid fun u v w (g : HoldsY w u ss) (gi : HoldsI w v (os.take (os.length - 1))) => implOrderOk_any h0 u v ss (os.take (os.length - 1)) w g gi
    have HT := Lib.hid fun u v w (g : HoldsY w u ss) (gi : HoldsI w v (os ++ [os.getD 0 0])) => implOrderOk_any h0 u v ss (os ++ [os.getD 0 0]) w g gi
    have NIL := Lib.hid fun (hz : os.length = 0) => (show ordOk h0 ss os = ydOk h0 ss by rw [List.length_eq_zero_iff.1 hz]; exact ordOk_end (fun k hk => absurd hk (Nat.not_lt_zero k)))
    have YES := Lib.hid fun (ho : ordOk h0 ss os = true) => ordOk_take (os.length - 1) ho
    have TWI := Lib.hid fun (hp : 0 < os.length) => (show ordOk h0 ss (os ++ [os.getD 0 0]) = false from ordOk_twice (by rw [List.getD_eq_getElem?_getD, List.getElem?_eq_getElem hp]; exact List.getElem_mem hp))
    have hrr : (ordOk h0 ss os != ordOk h0 ss os) = false := by simp
    have b2 : Below w1.heap.size w1 (w1.alloc (.cells #[.int .i64 h0, .slice ua ss.length uc] 25)) := (Below.refl _ _).alloc (Nat.le_refl _) _
    have y2 := BoxY.new w1 h0 (.slice ua ss.length uc)
    have h2 := hh.keep b2
    have o2 := nO.holds.keep b2
    have C2 := hb.trans (b2.mono hb.size)
    generalize hW2 : w1.alloc (.cells #[.int .i64 h0, .slice ua ss.length uc] 25) = W2 at b2 y2 h2 o2 C2
    have HW2 := Lib.hid hW2
    clear hW2 b2 hb hh nY nO
    have ya := y2.c0
    have yb := y2.c1
    go_wp2_with fail
    rw [HW2.out]
    generalize w1.heap.size = Y at y2 ya yb
    clear HW2
    go_wp2_with fail
    refine (HI.out _ _ W2 h2 o2).mono ?_
    rintro e w3 ⟨rfl, b3⟩
    have C3 := C2.trans (b3.mono C2.size)
    have y3 := y2.keep b3
    have h3 := h2.keep b3
    have o3 := o2.keep b3
    clear C2 y2 h2 o2 b3 ya yb
    have ya := y3.c0
    have yb := y3.c1
    go_wp2_with fail
    refine (HS.out _ _ w3 h3 o3).mono ?_
    rintro e w4 ⟨rfl, b4⟩
    have C4 := C3.trans (b4.mono C3.size)
    have y4 := y3.keep b4
    have h4 := h3.keep b4
    have o4 := o3.keep b4
    clear C3 y3 h3 o3 b4 ya yb HI HS
    have ya := y4.c0
    have yb := y4.c1
    rcases Nat.eq_zero_or_pos os.length with hz | hp
    · have hq := NIL.out hz
      rw [← hq] at HV
      have hzi : (os.length : Int) = 0 := by omega
      have e0 : ((os.length : Int) == 0) = true := by rw [hzi]; rfl
      clear NIL YES TWI HP HT hq o4 hz
      generalize ordOk h0 ss os = r at HV hrr ⊢
      have hr1 : (r == r) = true := by simp
      cases r
      · go_wp2_with fail
        refine (HV.out _ w4 h4).mono ?_
        rintro e w5 ⟨rfl, b5⟩
        go_wp2_with fail
        go_ret
        exact ⟨rfl, C4.trans (b5.mono C4.size)⟩
      · go_wp2_with fail
        refine (HV.out _ w4 h4).mono ?_
        rintro e w5 ⟨rfl, b5⟩
        go_wp2_with fail
        go_ret
        exact ⟨rfl, C4.trans (b5.mono C4.size)⟩
    · have e0 : ((os.length : Int) == 0) = false := by
        have : (os.length : Int) ≠ 0 := by omega
        simpa using this
      have hpi : (0 : Int) < (os.length : Int) := by omega
      cases hk : ordOk h0 ss os
      · clear NIL YES TWI HP HT o4
        generalize ydOk h0 ss = r at HV
        cases r
        · go_wp2_with fail
          refine (HV.out _ w4 h4).mono ?_
          rintro e w5 ⟨rfl, b5⟩
          go_wp2_with fail
          go_ret
          exact ⟨rfl, C4.trans (b5.mono C4.size)⟩
        · go_wp2_with fail
          refine (HV.out _ w4 h4).mono ?_
          rintro e w5 ⟨rfl, b5⟩
          go_wp2_with fail
          go_ret
          exact ⟨rfl, C4.trans (b5.mono C4.size)⟩
      · have ht := YES.out hk
        have h2' := TWI.out hp
        rw [ht] at HP
        rw [h2'] at HT
        obtain ⟨b, off, rfl, hbl, s0⟩ := o4.at_ hp
        rw [Nat.add_zero] at s0
        have hcap : os.length ≤ oc ∧ oc ≤ 9223372036854775807 := by
          obtain ⟨a', c', e, q1, q2, _⟩ := o4
          simp only [Value.slice.injEq] at e
          obtain ⟨-, -, rfl⟩ := e
          unfold maxLen at q2
          omega
        have NEWS := Lib.hid fun (w' : World) (hs : Since w4 w') => HoldsI.rowA (o4.keep hs)
        have PRE := Lib.hid fun (w' : World) (hs : Since w4 w') => HP.out (.slice ua ss.length uc) (.slice (some ⟨b, off, none⟩) (os.length - 1) oc) w' (h4.keep hs) (HoldsI.take (os.length - 1) (by omega) (o4.keep hs))
        have TWO := Lib.hid fun (v : Value) (w' : World) (hs : Since w4 w') (g : HoldsI w' v (os ++ [os.getD 0 0])) => HT.out (.slice ua ss.length uc) v w' (h4.keep hs) g
        obtain ⟨y, hy⟩ : ∃ y, y = os.getD 0 0 := ⟨_, rfl⟩
        have HY := Lib.hid hy.symm
        rw [← hy] at s0
        have CELL := Lib.hid fun (w' : World) (hs : Since w4 w') => (show w'.cell? ⟨Y, 0, none⟩ = some (.int .i64 h0) ∧ w'.cell? ⟨Y, 1, none⟩ = some (.slice ua ss.length uc) ∧ w'.cell? ⟨b, off, none⟩ = some (.int .i64 y) ∧ Since w4 w' from ⟨(y4.keep hs).c0, (y4.keep hs).c1, (Below.cell hs (p := ⟨b, off, none⟩) hbl).trans s0, hs⟩)
        have hstart := CELL.out _ (show Since w4 w4.drew from (Below.refl _ _).drew)
        have z1 : IntKind.i64.wrap ((os.length : Int) - 1) = ((os.length - 1 : Nat) : Int) := by rw [IntKind.wrap_i64]; omega
        have i0k : (0 : Int) ≤ ((os.length - 1 : Nat) : Int) := by omega
        have ikc : ((os.length - 1 : Nat) : Int) ≤ (oc : Int) := by omega
        have HC4 := Lib.hid C4
        clear NIL YES TWI HP HT HV ht h2' o4 hbl hy C4 y4 h4 hrr hk
        go_wp2_with fail
        go_region_held3 (fun w' => w'.cell? ⟨Y, 0, none⟩ = some (.int .i64 h0) ∧ w'.cell? ⟨Y, 1, none⟩ = some (.slice ua ss.length uc) ∧ w'.cell? ⟨b, off, none⟩ = some (.int .i64 y) ∧ Since w4 w')
          (first | assumption | exact hstart | exact CELL.out _ (Since.alloc (by exact (‹_ ∧ _› : _ ∧ _ ∧ _ ∧ Since w4 _).2.2.2) _) | exact CELL.out _ (Since.alloc (Since.drew (by exact (‹_ ∧ _› : _ ∧ _ ∧ _ ∧ Since w4 _).2.2.2)) _) | exact CELL.out _ (Since.on (by exact (‹_ ∧ _› : _ ∧ _ ∧ _ ∧ Since w4 _).2.2.2) ‹Below w4.heap.size _ _›) | exact CELL.out _ (Since.call (by exact (‹_ ∧ _› : _ ∧ _ ∧ _ ∧ Since w4 _).2.2.2) ‹_›) | exact CELL.out _ S7.out | exact CELL.out _ S8.out | exact CELL.out _ (Since.alloc S7.out _) | fail)
          (first
            | (go_at_call 12; ((with_reducible refine (PRE.out _ (by exact (‹_ ∧ _› : _ ∧ _ ∧ _ ∧ Since w4 _).2.2.2)).mono ?_); rintro e w6 ⟨rfl, b6⟩; have S6 := Lib.hid (show Since w4 w6 from Since.call (by exact (‹_ ∧ _› : _ ∧ _ ∧ _ ∧ Since w4 _).2.2.2) b6); have L6 := Since.size0 S6.out))
            | (go_at_call 12; ((with_reducible refine (TWO.out _ _ (by exact (‹_ ∧ _› : _ ∧ _ ∧ _ ∧ Since w4 _).2.2.2) HO8.out).mono ?_); rintro e w9 ⟨rfl, b9⟩))
            | (go_at_call 15; ((with_reducible refine (alive_yes _).mono ?_); rintro e w10 ⟨rfl, rfl⟩))
            | (refine step_append_g (by rfl) _ _ 26 (by rfl) w4.heap.size 3 i0 (.int .i64 0) 1 8 Try.underlying26 MI.out MZ0.out MZ1.out MZ2.out rfl (by decide) _ 0 [] (by rfl) (own_zero (by (try simp only [alloc_sz, drew_sz]); omega) (by simp only [alloc_get, drew_get, alloc_sz, drew_sz] <;> simp [ne_s2, ne_s3, ne_s4])) ⟨b, off, none⟩ os.length oc (rowI os) (by rfl) (by rw [rowI_len, Nat.mul_one]) (NEWS.out _ (by exact (‹_ ∧ _› : _ ∧ _ ∧ _ ∧ Since w4 _).2.2.2)) (rowI_one _) (by unfold maxLen; omega) (by omega) (by (try simp only [alloc_sz, drew_sz]); omega) ?_; intro v7 w7 ho7 hb7 hk7; rw [Nat.zero_add, List.nil_append] at ho7; obtain ⟨g7, c7, rfl, -, -⟩ := own_form ho7 (by omega); have HO7 := Lib.hid ho7; have HK7 := Lib.hid hk7; have S7 := Lib.hid (show Since w4 w7 from Since.on (by exact (‹_ ∧ _› : _ ∧ _ ∧ _ ∧ Since w4 _).2.2.2) hb7); have L7 := Since.size0 S7.out; clear ho7 hk7)
            | (refine step_append_g (by rfl) _ _ 26 (by rfl) w4.heap.size 3 i0 (.int .i64 0) 1 8 Try.underlying26 MI.out MZ0.out MZ1.out MZ2.out rfl (by decide) _ os.length (rowI os) (by rfl) (HO7.out.alloc _) _ 1 1 [.int .i64 y] (by rfl) rfl (fun j u hu => cells_new j u hu) (by simp [Value.oneCell']) (by unfold maxLen; omega) (by omega) (by (try simp only [alloc_sz, drew_sz]); omega) ?_; intro v8 w8 ho8 hb8 hk8; obtain ⟨g8, c8, rfl, -, -⟩ := own_form ho8 (by omega); have HO8 := Lib.hid (more_row ho8 HY.out); have S8 := Lib.hid (show Since w4 w8 from Since.on (by exact (‹_ ∧ _› : _ ∧ _ ∧ _ ∧ Since w4 _).2.2.2) hb8); clear ho8 hk8)
            | (refine step_append_g (by rfl) _ _ 26 (by rfl) w4.heap.size 3 i0 (.int .i64 0) 1 8 Try.underlying26 MI.out MZ0.out MZ1.out MZ2.out rfl (by decide) _ os.length (rowI os) (by rfl) HO7.out _ 1 1 [.int .i64 y] (by rfl) rfl (one_news (one_kept HK7.out (by (try simp only [alloc_sz, drew_sz]); omega) (by simp [Value.ownBlock]) (by (try simp only [World.cell?, alloc_get, drew_get, alloc_sz, drew_sz]); (try simp [ne_s2, ne_s3, ne_s4]); (try rfl)))) (by simp [Value.oneCell']) (by unfold maxLen; omega) (by omega) (by (try simp only [alloc_sz, drew_sz]); omega) ?_; intro v8 w8 ho8 hb8 hk8; obtain ⟨g8, c8, rfl, -, -⟩ := own_form ho8 (by omega); have HO8 := Lib.hid (more_row ho8 HY.out); have S8 := Lib.hid (show Since w4 w8 from Since.on (by exact (‹_ ∧ _› : _ ∧ _ ∧ _ ∧ Since w4 _).2.2.2) hb8); clear ho8 hk8)
            | fail)
        all_goals
          rename_i hheld
          have hx := hheld.2.2.2
          go_wp2_with fail
          go_ret
          exact ⟨rfl, HC4.out.trans (Below.mono hx HC4.out.size)⟩

set_option maxRecDepth 100000 in
set_option maxHeartbeats 2000000 in
/-- What the walk gives, for every argument. -/
theorem contract (H : Type) (enc : TypeId × Value → H) (W : World) (base : Nat) (args : Array Value) (ds gs : List (DataW H)) (before : List MemPlace)
    (hval : ∀ (j : Nat) t v, Try.f3.params[j]? = some t → args[j]? = some v → Value.okWide Try.prog W .any base t v)
    (hW : DataW.Whole enc Try.prog Try.f3.params.toList Rows.fnOrderOkSpec.vars false W args.toList ds gs before) :
    Calls Try.prog 3 args W fun e W' => ∃ v, e = .returned v ∧ Rows.fnOrderOkSpec.post enc Try.prog Try.f3 false true false false W args v W' := by
  have hW' := hW
  obtain ⟨p, q, hA0, hV, rfl, hfz, hnd⟩ := hW
  have hA : DataW.TrodAll enc Try.prog W 0 (fun _ => true) true Try.f3.params.toList args.toList ds p := hA0
  rw [Try.params3] at hA hval
  obtain ⟨v0, vs0, d0, ds0, p0, q0, hargs, rfl, rfl, h0, r0⟩ := trodAll_cons hA
  obtain ⟨rfl, rfl, rfl⟩ := trodAll_nil r0
  obtain rfl : args = #[v0] := by cases args; simp_all
  obtain ⟨rfl, rfl⟩ := trodVars_none hV
  have k0 := h0
  have lt0 : ∀ x ∈ p0, x.block < W.heap.size := by obtain ⟨m, hm⟩ := k0; exact DataW.trod_lt m _ _ _ hm
  obtain ⟨a0, len0, cap0, rfl⟩ := okWide_slice Try.underlying22 (hval 0 22 v0 rfl rfl)
  obtain ⟨z0, x0⟩ : ∃ zs, IsRow .u8 W a0 len0 cap0 zs := by
    obtain ⟨fuel, hf⟩ := h0
    rcases open_ints Try.underlying22 Try.underlying5 (by kernel_rfl) hf with ⟨hcs, _⟩ | ⟨x, l, c, zs, hcs, _, hl, hm, hz, _, hcell, hwz⟩
    · simp [Value.cells] at hcs
      obtain ⟨rfl, rfl, rfl⟩ := hcs
      exact ⟨[], .inl ⟨rfl, rfl, rfl, rfl⟩⟩
    · simp [Value.cells] at hcs
      obtain ⟨rfl, rfl, rfl⟩ := hcs
      exact ⟨zs, .inr ⟨_, rfl, hl, hm, by simpa using hz, hcell, hwz⟩⟩
  clear hA0
  refine (walk a0 len0 cap0 W (row8_of x0)).mono fun e W' ⟨he, bel⟩ => ?_
  subst he
  exact ⟨_, rfl, _, _, _, [], _, [], hW', trodAll_mk1 (shut_bool Try.underlying4 _), (trodAll_cons_mk (Below.trod laidOut (by kernel_rfl) (of_decide_eq_true (by kernel_rfl)) k0 bel lt0) trodAll_mk0), rfl, bel.frame _, fun h => by cases h⟩

set_option maxRecDepth 100000 in
theorem lifted (os : Os) (started : os.Started) (H : Type) (enc : TypeId × Value → H) :
    ReturnsInHanded {} Try.checked os 3 .any (Rows.fnOrderOkSpec.pre6 enc Try.prog Try.f3 Rows.fnOrderOkRow.domain false) (Rows.fnOrderOkSpec.post enc Try.prog Try.f3 false true false false) := by
  refine returnsInHanded_of_change (C := Try.checked) own started (by kernel_rfl) Try.func3
    (ChangeSpec.witness6 (enc := enc) (C := Try.checked) false ⟨#[], #[.slice none 0 0], []⟩ 8 (by kernel_rfl) (by kernel_rfl) (by kernel_rfl) (by kernel_rfl)) ?_
  intro W base args ds gs before hval hW _ _
  exact contract H enc W base args ds gs before hval hW

theorem proved : Rows.FnOrderOkSaid :=
  OpenClaim.holds_of_wide 3 Try.f3 rfl rfl rfl rfl rfl rfl rfl ⟨rfl, rfl, rfl, rfl, rfl⟩ rfl rfl rfl rfl rfl (by kernel_rfl) Try.func3 (by kernel_rfl)
    (of_decide_eq_true (by kernel_rfl)) (by unfold Func.isWrapper; first | (rw [if_pos (by decide +kernel)]; kernel_rfl) | (rw [if_neg (by decide +kernel)]; exact ⟨rfl, rfl⟩))
    (fun os started H enc _ => lifted os started H enc)
#print axioms proved
end Go.Proofs.Ytmpcidemlobooaa.fnOrderOk
