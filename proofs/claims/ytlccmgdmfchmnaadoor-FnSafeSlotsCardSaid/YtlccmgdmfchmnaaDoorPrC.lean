/-
  Pairs compared as structs; the laws' samePairs.
-/
import Derived.Test.YtlccmgdmfchmnaaDoorPrF
import Derived.Laws.StructEq
import Derived.Deep.RegionHeld3
namespace Go.Proofs.YtlccmgdmfchmnaaDoor
open Go.RowKit
set_option linter.unusedVariables false

theorem pair_fields : (Program.fieldsOf Tryd.prog 43).toList.map (fun f => (f.name, f.type, f.offset)) = [("A", 3, 0), ("B", 3, 1)] := by kernel_rfl
theorem run_eqIn_pair (W : World) (d : Nat) (a b a' b' : Int) : Sem.run Tryd.prog (Op.equalIn (d + 1 + 1) 43 (.agg #[.int .i64 a, .int .i64 b]) (.agg #[.int .i64 a', .int .i64 b'])) W = .ok (a == a' && b == b') W := by
  have hf := pair_fields
  rw [run_equalIn_agg W (d + 1) _ _ _ (by kernel_rfl) (by kernel_rfl)]
  generalize (Program.fieldsOf Tryd.prog 43).toList = fs at hf
  obtain ⟨f, g, rfl⟩ : ∃ f g, fs = [f, g] := by
    have hl : fs.length = 2 := by have := congrArg List.length hf; simpa using this
    rcases fs with _ | ⟨f, _ | ⟨g, _ | ⟨x, t⟩⟩⟩
    · simp at hl
    · simp at hl
    · exact ⟨f, g, rfl⟩
    · simp at hl
  simp only [List.map_cons, List.map_nil, List.cons.injEq, Prod.mk.injEq, and_true] at hf
  obtain ⟨⟨f1, f2, f3⟩, g1, g2, g3⟩ := hf
  simp only [Op.eqFields, f1, f2, f3, g1, g2, g3]
  have ha : ∀ W, Sem.run Tryd.prog (part 3 #[Value.int .i64 a, .int .i64 b] 0) W = .ok (.int .i64 a) W := fun W => by kernel_rfl
  have hb : ∀ W, Sem.run Tryd.prog (part 3 #[Value.int .i64 a, .int .i64 b] 1) W = .ok (.int .i64 b) W := fun W => by kernel_rfl
  have ha' : ∀ W, Sem.run Tryd.prog (part 3 #[Value.int .i64 a', .int .i64 b'] 0) W = .ok (.int .i64 a') W := fun W => by kernel_rfl
  have hb' : ∀ W, Sem.run Tryd.prog (part 3 #[Value.int .i64 a', .int .i64 b'] 1) W = .ok (.int .i64 b') W := fun W => by kernel_rfl
  have he : ∀ W x y, Sem.run Tryd.prog (Op.equalIn (d + 1) 3 (.int .i64 x) (.int .i64 y)) W = .ok (x == y) W := fun W x y => run_equalIn_int W d _ .i64 .i64 x y Tryd.underlying3
  simp [Sem.run_bind, Result.andThen_ok, ha, hb, ha', hb', he, Sem.run_ite, Sem.run_pure]
  cases h1 : a == a' <;> cases h2 : b == b' <;> simp_all
theorem run_eql_pair (W : World) (a b a' b' : Int) : Sem.run Tryd.prog (binOp .eql 43 (.agg #[.int .i64 a, .int .i64 b]) (.agg #[.int .i64 a', .int .i64 b'])) W = .ok (.bool (a == a' && b == b')) W := by
  rw [run_eql_struct]
  rw [run_eqIn_pair W 9998 a b a' b']
  rfl
theorem run_neq_pair (W : World) (a b a' b' : Int) : Sem.run Tryd.prog (binOp .neq 43 (.agg #[.int .i64 a, .int .i64 b]) (.agg #[.int .i64 a', .int .i64 b'])) W = .ok (.bool (!(a == a' && b == b'))) W := by
  rw [run_neq_struct]
  rw [run_eqIn_pair W 9998 a b a' b']
  rfl

set_option maxRecDepth 10000 in
set_option maxHeartbeats 1000000 in
theorem samePairs_yes (u v : Value) (l : List (Int × Int)) (w : World) (hu : HoldsM w u l) (hv : HoldsM w v l) :
    Calls Tryd.prog 15 #[u, v] w fun e w' => e = .returned (.bool true) ∧ Below w.heap.size w w' := by
  have HU := Lib.hid fun w' (hb : Below w.heap.size w w') => hu.keep hb
  have HV := Lib.hid fun w' (hb : Below w.heap.size w w') => hv.keep hb
  obtain ⟨a, cap, rfl, h2, h3, h4⟩ := hu
  obtain ⟨a', cap', rfl, h2', h3', h4'⟩ := hv
  have hm : l.length ≤ 9223372036854775807 := by unfold maxLen at h3; omega
  obtain ⟨n, hn⟩ : ∃ n, n = l.length := ⟨_, rfl⟩
  rw [← hn] at HU HV hm ⊢
  have hne : ((n : Int) != (n : Int)) = false := by simp
  clear hn h2 h3 h4 h2' h3' h4'
  go_enter Tryd.func15, Tryd.ntmps15
  go_wp2_with fail
  go_loopw [5] (fun i wr => ∃ k : Nat, k ≤ n ∧ i = .int .i64 k ∧ Below w.heap.size w wr) (fun i _ => n - (intOf i).toNat)
  case atStart => exact ⟨0, by omega, rfl, Below.refl _ _⟩
  case round =>
    obtain ⟨k, hk, rfl, hbr⟩ := hrel
    by_cases hlt : k < n
    · obtain ⟨b, off, hkl, rfl, h6, s0, s1⟩ := (HU.out wr hbr).at_ hlt
      obtain ⟨b', off', hkl', rfl, h6', t0, t1⟩ := (HV.out wr hbr).at_ hlt
      have hnp := fun W => run_neq_pair W l[k].1 l[k].2 l[k].1 l[k].2
      have hbt : (!(l[k].1 == l[k].1 && l[k].2 == l[k].2)) = false := by simp
      rw [hbt] at hnp
      generalize l[k].1 = f at s0 t0 hnp
      generalize l[k].2 = t at s1 t1 hnp
      have ik : (k : Int) < (n : Int) := by omega
      have i0k : (0 : Int) ≤ (k : Int) := by omega
      clear hkl hkl' hbt
      go_wp2_with fail
      (first | go_region | fail)
      have c2 : Below w.heap.size w wr.drew := hbr.drew
      go_wp2_with fail
      go_roundw
      case rel => exact ⟨k + 1, by omega, by go_num, c2⟩
      case measure => simp [intOf]; omega
    · go_wp2_with fail
      go_ret
      exact ⟨rfl, hbr⟩
end Go.Proofs.YtlccmgdmfchmnaaDoor
