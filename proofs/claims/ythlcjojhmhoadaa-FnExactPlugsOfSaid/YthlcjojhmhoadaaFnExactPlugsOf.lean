/-
  For all lists the law on PlugsOf's exact answer returns true and leaves its arguments as they were: the program's PlugsOf and the model's give the same, the program's writes nothing of its arguments, and what it gives is shared with nothing. Conditions: none beyond the form's own reach.
-/
import Derived.Test.YthlcjojhmhoadaaRows
import Derived.Test.YthlcjojhmhoadaaGBase
import Derived.WalkKit
import Derived.ProofKit
import Derived.OpenShut
import Derived.ShutString
import Derived.ChangeOld
import Derived.Below
import Derived.Test.YthlcjojhmhoadaaYbOpen
import Derived.Test.YthlcjojhmhoadaaYlA
import Derived.Test.YthlcjojhmhoadaaGYh
import Derived.Test.YthlcjojhmhoadaaGYl
import Derived.Test.YthlcjojhmhoadaaPgC
import Derived.Test.YthlcjojhmhoadaaPgT
import Derived.Test.YthlcjojhmhoadaaPgS
import Derived.Test.YthlcjojhmhoadaaPgI
import Derived.Test.YthlcjojhmhoadaaPgU
namespace Go.Proofs.Ythlcjojhmhoadaa.fnExactPlugsOf
open Go.ChangeShapes Go.WideShapes Go.ChangeAt Go.RowKit
open Go.ChangeMaps (open_string shut_string)
set_option linter.unusedVariables false


/-- What the walk is told of a slice of integers that came in. -/
def IsRow (k : IntKind) (w : World) (a : Option Addr) (len cap : Nat) (zs : List Int) : Prop :=
  (a = none ∧ len = 0 ∧ cap = 0 ∧ zs = []) ∨
  ∃ x, a = some x ∧ len ≤ cap ∧ cap ≤ maxLen ∧ zs.length = cap ∧ (∀ i, i < zs.length → w.cell? (x.add i) = some (.int k (zs.getD i 0))) ∧ ∀ n ∈ zs, (Lit.int k n).wf = true

set_option maxRecDepth 10000 in
set_option maxHeartbeats 4000000 in
theorem walk (u0 : Value) (ss : List (List Int)) (a1 : Option Addr) (len1 cap1 : Nat) (z1 : List Int) (w : World) (w0 : HoldsY w u0 ss) (w1 : IsRowI w a1 len1 cap1 z1) :
    Calls Try.prog 12 #[u0, .slice a1 len1 cap1] w fun e w' => e = .returned (.bool true) ∧ Below w.heap.size w w' := by
  obtain ⟨gg, gl⟩ := HoldsI.of_came w1
  generalize z1.take len1 = l at gg gl
  have gm : len1 ≤ maxLen := by obtain ⟨_, cap, h1, h2, h3, _⟩ := gg; omega
  unfold maxLen at gm
  subst gl
  have GI := Lib.hid gg
  have SZ := Lib.hid (szIntSS_any u0 ss 1048576 w w0 (by omega) (by omega))
  have GG := Lib.hid w0
  have hsz : szY 1048576 ss < 0 ∨ 0 ≤ szY 1048576 ss ∧ ss.length + ss.flatten.length ≤ 1048576 := by unfold szY; split <;> omega
  obtain ⟨a0, c0, rfl⟩ : ∃ a c, u0 = .slice a ss.length c := by obtain ⟨a, c, e, _⟩ := w0; exact ⟨a, c, e⟩
  clear w0 gg w1
  generalize szY 1048576 ss = z at SZ hsz
  by_cases glen : 1048576 < l.length
  · have glen2 : (1048576 : Int) < (l.length : Int) := by omega
    go_enter Try.func12, Try.ntmps12
    go_wp2_with fail
    go_ret
    exact ⟨rfl, Below.refl _ _⟩
  have glen2 : ¬ (1048576 : Int) < (l.length : Int) := by omega
  rcases hsz with hz | ⟨hz, gn⟩
  · go_enter Try.func12, Try.ntmps12
    go_wp2_with fail
    refine SZ.out.mono ?_
    rintro e w' ⟨rfl, rfl⟩
    go_wp2_with fail
    go_ret
    exact ⟨rfl, Below.refl _ _⟩
  · have GT := Lib.hid fun w1 (b1 : Below w.heap.size w w1) => toIntSS_free (.slice a0 ss.length c0) ss w1 (GG.out.keep b1) gn
    have GL := Lib.hid fun w1 (b1 : Below w.heap.size w w1) => toIntS_free (.slice a1 l.length cap1) l w1 (GI.out.keep b1) (by omega)
    have HS := Lib.hid fun v vp w1 (g : HoldsY w1 v ss) (gi : HoldsI w1 vp l) => specPlugsOf_any v vp ss l w1 g gi
    have HI := Lib.hid fun v vp w1 (g : HoldsY w1 v ss) (gi : HoldsI w1 vp l) => implPlugsOf_any v vp ss l w1 g gi (by omega)
    have hlen : (plugO ss l).length ≤ 1048576 := by have : (plugO ss l).length ≤ 6 := by { unfold plugO; split; { exact plugK_len ss l 6 }; { exact Nat.zero_le _ } }; omega
    generalize plugO ss l = r at HS HI hlen
    have MY := Lib.hid fun v K B w (hf : FreeY K B w v ss.length (rowAt ss)) => markIntSS_free v K B 1 ss w hf (by omega) (by omega)
    have ME := Lib.hid fun v K w (h : FreeE K w v r) => markIntS_e v K r w h (by omega)
    have HE := Lib.hid fun v w (h : HoldsI w v (marksI 1 r.length)) => heldIntS_1 v r.length w h (by omega)
    have q0 : (0 : Int) ≤ ((1 + ss.flatten.length : Nat) : Int) := by omega
    have q1 : (0 : Int) ≤ ((1 + r.length : Nat) : Int) := by omega
    have MP := Lib.hid fun v g (w : World) (h : FreeAt g w v l) => markIntS_from v (1 + ss.flatten.length) l.length g l w rfl h (by omega) (by omega)
    have q2 : (0 : Int) ≤ ((1 + ss.flatten.length + l.length : Nat) : Int) := by omega
    clear hlen gn
    generalize hQ : ((1 + ss.flatten.length : Nat) : Int) = Q at MY q0
    generalize ((1 + r.length : Nat) : Int) = Y at ME HE q1
    have hY : (Y != Y) = false := by simp
    rw [hQ] at MP
    generalize ((1 + ss.flatten.length + l.length : Nat) : Int) = Q2 at MP q2
    clear hQ
    go_enter Try.func12, Try.ntmps12
    go_wp2_with fail
    refine SZ.out.mono ?_
    rintro e w' ⟨rfl, rfl⟩
    have C0 := Below.refl w.heap.size w
    go_wp2_with fail
    refine (GT.out w C0).mono ?_
    rintro e X1 ⟨v1, rfl, g1, d1⟩
    obtain ⟨p1, q1_, rfl⟩ := g1.form
    have C1 := C0.trans (d1.mono C0.size)
    have k1 := g1.holdsY
    clear g1 d1 C0
    go_wp2_with fail
    refine (GL.out X1 C1).mono ?_
    rintro e X1b ⟨y1, rfl, i1, d1⟩
    obtain ⟨s1, t1, rfl⟩ := i1.holds.form
    have C1b := C1.trans (d1.mono C1.size)
    have k1 := k1.keep d1
    have j1 := i1.holds
    clear i1 d1 C1
    go_wp2_with fail
    refine (HS.out _ _ X1b k1 j1).mono ?_
    rintro e X2 ⟨v2, rfl, g2, d2⟩
    have C2 := C1b.trans (d2.mono C1b.size)
    have hCK := C2.size
    have h2 : HoldsI X2 v2 r := g2.holds
    have H2 := Lib.hid fun w' (hb : Below X2.heap.size X2 w') => h2.keep hb
    obtain ⟨p2, q2_, rfl⟩ := h2.form
    clear g2 h2 d2 k1 j1 C1b
    go_wp2_with fail
    refine (GT.out X2 C2).mono ?_
    rintro e X3 ⟨v3, rfl, g3, d3⟩
    obtain ⟨p3, q3, rfl⟩ := g3.form
    have C3 := C2.trans (d3.mono C2.size)
    have D3 := d3
    have hKB := d3.size
    clear d3
    go_wp2_with fail
    refine (GL.out X3 C3).mono ?_
    rintro e X4 ⟨y3, rfl, i3, d4⟩
    obtain ⟨gg, hg, f3⟩ := i3.at_
    obtain ⟨s3, t3, rfl⟩ := f3.free.holds.form
    have C4 := C3.trans (d4.mono C3.size)
    have D4 := D3.trans (d4.mono D3.size)
    have g4 := g3.keep d4
    have hBN := d4.size
    have hgN := f3.lt
    clear d4 i3 C3 D3 g3
    go_wp2_with fail
    refine (HI.out _ _ X4 g4.holdsY f3.free.holds).mono ?_
    rintro e X5 ⟨v5, rfl, f5, d5⟩
    obtain ⟨p5, q5, rfl⟩ := f5.holds.form
    have C5 := C4.trans (d5.mono C4.size)
    have D5 := D4.trans (d5.mono D4.size)
    have g5 := g4.keep d5
    have j5 := f3.keep d5
    clear d5 C4 D4 g4 f3
    have hKN := Nat.le_trans hKB hBN
    have hCN := Nat.le_trans hCK hKN
    have hCg := Nat.le_trans hCK (Nat.le_trans hKB hg)
    have hKg := Nat.le_trans hKB hg
    go_wp2_with fail
    refine (eqIntS_same _ _ r X5 f5.holds (H2.out X5 D5)).mono ?_
    rintro e X6 ⟨rfl, d6⟩
    have C6 := C5.trans (d6.mono C5.size)
    have D6 := D5.trans (d6.mono D5.size)
    have g6 := g5.keep d6
    have f6 := f5.keep d6
    have j6 := j5.keep d6
    clear d6 C5 D5 g5 f5 j5 
    go_wp2_with fail
    refine (GT.out X6 C6).mono ?_
    rintro e X7 ⟨v7, rfl, u7, d7⟩
    have C7 := C6.trans (d7.mono C6.size)
    have D7 := D6.trans (d7.mono D6.size)
    have g7 := g6.keep d7
    have f7 := f6.keep d7
    have j7 := j6.keep d7
    have k7 := u7.holdsY
    obtain ⟨p7, q7, rfl⟩ := u7.form
    clear u7 d7 C6 D6 g6 f6 j6
    go_wp2_with fail
    refine (eqIntSS_same _ _ ss X7 g7.holdsY k7).mono ?_
    rintro e X8 ⟨rfl, d8⟩
    have C8 := C7.trans (d8.mono C7.size)
    have D8 := D7.trans (d8.mono D7.size)
    have g8 := g7.keep d8
    have f8 := f7.keep d8
    have j8 := j7.keep d8
    clear d8 C7 D7 g7 f7 j7 k7
    go_wp2_with fail
    refine (GL.out X8 C8).mono ?_
    rintro e X9 ⟨y7, rfl, u8, d9⟩
    have C9 := C8.trans (d9.mono C8.size)
    have D9 := D8.trans (d9.mono D8.size)
    have g9 := g8.keep d9
    have f9 := f8.keep d9
    have j9 := j8.keep d9
    have k8 := u8.holds
    obtain ⟨s7, t7, rfl⟩ := k8.form
    clear u8 d9 C8 D8 g8 f8 j8
    go_wp2_with fail
    refine (eqIntS_same _ _ l X9 j9.free.holds k8).mono ?_
    rintro e X10 ⟨rfl, d10⟩
    have C10 := C9.trans (d10.mono C9.size)
    have D10 := D9.trans (d10.mono D9.size)
    have g10 := g9.keep d10
    have f10 := f9.keep d10
    have j10 := j9.keep d10
    clear d10 C9 D9 g9 f9 j9 k8
    go_wp2_with fail
    refine (MY.out _ _ _ X10 g10).mono ?_
    rintro e X11 ⟨rfl, -, m⟩
    have b := m.below D10.size
    have C11 := C10.trans (b.mono hCK)
    have D11 := D10.trans b
    have f11 := f10.mid m hBN
    have j11 := j10.mid m hg
    clear b m C10 D10 g10 f10 j10
    go_wp2_with fail
    refine (MP.out _ _ X11 j11).mono ?_
    rintro e X12 ⟨rfl, -, m⟩
    have C12 := C11.trans (m.below hCg C11.size)
    have D12 := D11.trans (m.below hKg D11.size)
    have f12 := f11.most m hgN
    clear m C11 D11 f11 j11
    go_wp2_with fail
    refine (eqIntS_same _ _ r X12 f12.holds (H2.out X12 D12)).mono ?_
    rintro e X13 ⟨rfl, d13⟩
    have C13 := C12.trans (d13.mono C12.size)
    have D13 := D12.trans (d13.mono D12.size)
    have f13 := f12.keep d13
    clear d13 C12 D12 f12 
    go_wp2_with fail
    refine (ME.out _ _ X13 f13).mono ?_
    rintro e X14 ⟨rfl, m14, b⟩
    have C14 := C13.trans (b.mono hCN)
    have D14 := D13.trans (b.mono hKN)
    clear b C13 D13 f13
    go_wp2_with fail
    refine (HE.out _ X14 m14).mono ?_
    rintro e Xq ⟨rfl, rfl⟩
    go_wp2_with fail
    refine (GT.out X14 C14).mono ?_
    rintro e X15 ⟨v12, rfl, u12, d15⟩
    have C15 := C14.trans (d15.mono C14.size)
    have D15 := D14.trans (d15.mono D14.size)
    have m15 := m14.keep d15
    clear d15 C14 D14 m14 
    obtain ⟨p12, q12, rfl⟩ := u12.form
    have k12 := u12.holdsY
    clear u12
    go_wp2_with fail
    refine (GL.out X15 C15).mono ?_
    rintro e X16 ⟨y12, rfl, u13, d16⟩
    have C16 := C15.trans (d16.mono C15.size)
    have D16 := D15.trans (d16.mono D15.size)
    have m16 := m15.keep d16
    have k13 := u13.holds
    have k12 := k12.keep d16
    obtain ⟨s12, t12, rfl⟩ := k13.form
    clear u13 d16 C15 D15 m15
    go_wp2_with fail
    refine (HI.out _ _ X16 k12 k13).mono ?_
    rintro e X17 ⟨v13, rfl, f13, d17⟩
    have C17 := C16.trans (d17.mono C16.size)
    have D17 := D16.trans (d17.mono D16.size)
    have m17 := m16.keep d17
    clear d17 C16 D16 m16 k12 k13
    obtain ⟨p13, q13, rfl⟩ := f13.holds.form
    go_wp2_with fail
    refine (eqIntS_same _ _ r X17 f13.holds (H2.out X17 D17)).mono ?_
    rintro e X18 ⟨rfl, d18⟩
    have C18 := C17.trans (d18.mono C17.size)
    have D18 := D17.trans (d18.mono D17.size)
    have m18 := m17.keep d18
    clear d18 C17 D17 m17 f13
    go_wp2_with fail
    refine (HE.out _ X18 m18).mono ?_
    rintro e Xr ⟨rfl, rfl⟩
    go_wp2_with fail
    go_ret
    exact ⟨rfl, C18⟩

set_option maxRecDepth 100000 in
set_option maxHeartbeats 2000000 in
/-- What the walk gives, for every argument. -/
theorem contract (H : Type) (enc : TypeId × Value → H) (W : World) (base : Nat) (args : Array Value) (ds gs : List (DataW H)) (before : List MemPlace)
    (hval : ∀ (j : Nat) t v, Try.f12.params[j]? = some t → args[j]? = some v → Value.okWide Try.prog W .any base t v)
    (hW : DataW.Whole enc Try.prog Try.f12.params.toList Rows.fnExactPlugsOfSpec.vars false W args.toList ds gs before) :
    Calls Try.prog 12 args W fun e W' => ∃ v, e = .returned v ∧ Rows.fnExactPlugsOfSpec.post enc Try.prog Try.f12 false true false false W args v W' := by
  have hW' := hW
  obtain ⟨p, q, hA0, hV, rfl, hfz, hnd⟩ := hW
  have hA : DataW.TrodAll enc Try.prog W 0 (fun _ => true) true Try.f12.params.toList args.toList ds p := hA0
  rw [Try.params12] at hA hval
  obtain ⟨v0, vs0, d0, ds0, p0, q0, hargs, rfl, rfl, h0, r0⟩ := trodAll_cons hA
  obtain ⟨v1, vs1, d1, ds1, p1, q1, rfl, rfl, rfl, h1, r1⟩ := trodAll_cons r0
  obtain ⟨rfl, rfl, rfl⟩ := trodAll_nil r1
  obtain rfl : args = #[v0, v1] := by cases args; simp_all
  obtain ⟨rfl, rfl⟩ := trodVars_none hV
  have k0 := h0
  have lt0 : ∀ x ∈ p0, x.block < W.heap.size := by obtain ⟨m, hm⟩ := k0; exact DataW.trod_lt m _ _ _ hm
  obtain ⟨a0, len0, cap0, rfl⟩ := okWide_slice Try.underlying23 (hval 0 23 v0 rfl rfl)
  obtain ⟨y0, w0⟩ : ∃ ss, HoldsY W (.slice a0 len0 cap0) ss := by
    obtain ⟨fuel, hf⟩ := h0
    obtain ⟨v9, ss9, e9, hh9⟩ := yard_rows rfl hf
    simp [Value.cells] at e9
    subst e9
    exact ⟨ss9, hh9⟩
  have k1 := h1
  have lt1 : ∀ x ∈ p1, x.block < W.heap.size := by obtain ⟨m, hm⟩ := k1; exact DataW.trod_lt m _ _ _ hm
  obtain ⟨a1, len1, cap1, rfl⟩ := okWide_slice Try.underlying27 (hval 1 27 v1 rfl rfl)
  obtain ⟨z1, x1⟩ : ∃ zs, IsRow .i64 W a1 len1 cap1 zs := by
    obtain ⟨fuel, hf⟩ := h1
    rcases open_ints Try.underlying27 Try.underlying3 (by kernel_rfl) hf with ⟨hcs, _⟩ | ⟨x, l, c, zs, hcs, _, hl, hm, hz, _, hcell, hwz⟩
    · simp [Value.cells] at hcs
      obtain ⟨rfl, rfl, rfl⟩ := hcs
      exact ⟨[], .inl ⟨rfl, rfl, rfl, rfl⟩⟩
    · simp [Value.cells] at hcs
      obtain ⟨rfl, rfl, rfl⟩ := hcs
      exact ⟨zs, .inr ⟨_, rfl, hl, hm, by simpa using hz, hcell, hwz⟩⟩
  clear hA0
  refine (walk (.slice a0 len0 cap0) y0 a1 len1 cap1 z1 W w0 x1).mono fun e W' ⟨he, bel⟩ => ?_
  subst he
  exact ⟨_, rfl, _, _, _, [], _, [], hW', trodAll_mk1 (shut_bool Try.underlying4 _), (trodAll_cons_mk (Below.trod laidOut (by kernel_rfl) (of_decide_eq_true (by kernel_rfl)) k0 bel lt0) (trodAll_cons_mk (Below.trod laidOut (by kernel_rfl) (of_decide_eq_true (by kernel_rfl)) k1 bel lt1) trodAll_mk0)), rfl, bel.frame _, fun h => by cases h⟩

set_option maxRecDepth 100000 in
theorem lifted (os : Os) (started : os.Started) (H : Type) (enc : TypeId × Value → H) :
    ReturnsInHanded {} Try.checked os 12 .any (Rows.fnExactPlugsOfSpec.pre6 enc Try.prog Try.f12 Rows.fnExactPlugsOfRow.domain false) (Rows.fnExactPlugsOfSpec.post enc Try.prog Try.f12 false true false false) := by
  refine returnsInHanded_of_change (C := Try.checked) own started (by kernel_rfl) Try.func12
    (ChangeSpec.witness6 (enc := enc) (C := Try.checked) false ⟨#[], #[.slice none 0 0, .slice none 0 0], []⟩ 8 (by kernel_rfl) (by kernel_rfl) (by kernel_rfl) (by kernel_rfl)) ?_
  intro W base args ds gs before hval hW _ _
  exact contract H enc W base args ds gs before hval hW

theorem proved : Rows.FnExactPlugsOfSaid :=
  OpenClaim.holds_of_wide 12 Try.f12 rfl rfl rfl rfl rfl rfl rfl ⟨rfl, rfl, rfl, rfl, rfl⟩ rfl rfl rfl rfl rfl (by kernel_rfl) Try.func12 (by kernel_rfl)
    (of_decide_eq_true (by kernel_rfl)) (by unfold Func.isWrapper; first | (rw [if_pos (by decide +kernel)]; kernel_rfl) | (rw [if_neg (by decide +kernel)]; exact ⟨rfl, rfl⟩))
    (fun os started H enc _ => lifted os started H enc)
#print axioms proved
end Go.Proofs.Ythlcjojhmhoadaa.fnExactPlugsOf
