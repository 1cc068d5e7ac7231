/-
  The library's slices.Repeat on one number, six times.
-/
import Derived.Test.YthlcjojhmhoadaaGStk
import Derived.Test.YthlcjojhmhoadaaGPl
import Derived.Test.YthlcjojhmhoadaaGBase
import Derived.Laws.AppendOwnNone
import Derived.Laws.CopyOwn
import Derived.Deep.RegionLaw
namespace Go.Proofs.Ythlcjojhmhoadaa
open Go.RowKit
set_option linter.unusedVariables false

set_option maxRecDepth 10000 in
set_option maxHeartbeats 2000000 in
theorem mul64_six (w : World) : Calls Try.prog 81 #[.int .u64 1, .int .u64 6] w fun e w' => e = .returned (.tuple #[.int .u64 0, .int .u64 6]) ∧ w = w' := by
  go_enter Try.func81, Try.ntmps81
  go_wp2_with fail
  exact bodyPost_ret (v := .tuple #[.int .u64 0, .int .u64 6]) (by simp [results, Try.results81, go_sem]; decide) rfl ⟨rfl, rfl⟩
set_option maxRecDepth 10000 in
set_option maxHeartbeats 2000000 in
theorem mul_six (w : World) : Calls Try.prog 67 #[.int .u64 1, .int .u64 6] w fun e w' => e = .returned (.tuple #[.int .u64 0, .int .u64 6]) ∧ w = w' := by
  go_enter Try.func67, Try.ntmps67
  go_wp2_with fail
  refine (mul64_six _).mono ?_
  rintro e w2 ⟨rfl, rfl⟩
  go_wp2_with fail
  exact bodyPost_ret (v := .tuple #[.int .u64 0, .int .u64 6]) (by simp [results, Try.results67, go_sem]) rfl ⟨rfl, rfl⟩
/-- Six places of which the first k hold x. -/
def sixL (x : Int) (k : Nat) : List Value := (List.replicate k (Value.int .i64 x)) ++ List.replicate (6 - k) (Value.int .i64 0)
theorem six_made : (madeCells (Value.int .i64 0).cells (6 * 1)).toList = sixL 0 0 := by simp [madeCells, Value.cells, sixL, Nat.mod_one, List.replicate, List.range_succ]
theorem made_six {K : Nat} {w w4 : World} (hK : K = w.heap.size) (hown : w4.ownsRow K 3 1 (.slice (some ⟨w.heap.size, 0, none⟩) 6 6) 6 (madeCells (Value.int .i64 0).cells (6 * 1)).toList) : w4.heap[w.heap.size]? = some (.cells (sixL 0 0).toArray 3 (0, 0)) := by
  rw [six_made] at hown
  rcases hown.2 with ⟨e0, _⟩ | ⟨g', cap', cur, hv, q1, q2, q3, q4, q5, q6⟩
  · cases e0
  · simp only [Value.slice.injEq, Option.some.injEq, Addr.mk.injEq, and_true, true_and] at hv
    obtain ⟨rfl, rfl⟩ := hv
    have e : cur.toList = sixL 0 0 := by rw [← q6, List.take_of_length_le (by rw [Array.length_toList]; omega)]
    rw [q2, ← e]
theorem six_cells {x : Int} {g k n : Nat} {W : World} (h : W.heap[g]? = some (.cells (sixL x k).toArray 3 (0, 0))) (hn : n ≤ k) : ∀ j v, (List.replicate n (Value.int .i64 x))[j]? = some v → W.cell? ((⟨g, 0, none⟩ : Addr).add j) = some v := fun j v hj => by
  obtain ⟨hj1, hj2⟩ := List.getElem?_eq_some_iff.1 hj
  rw [List.length_replicate] at hj1
  rw [List.getElem_replicate] at hj2
  subst hj2
  have e : (⟨g, 0, none⟩ : Addr).add j = ⟨g, j, none⟩ := by simp [Addr.add]; omega
  rw [e]
  simp only [World.cell?, h]
  show (sixL x k).toArray[j]? = _
  rw [List.getElem?_toArray]
  unfold sixL
  rw [List.getElem?_append_left (by simp; omega), List.getElem?_replicate_of_lt (by omega)]
theorem one_cell {b : Nat} {x : Int} {w : World} (h0 : w.cell? ⟨b, 0, none⟩ = some (.int .i64 x)) : ∀ j v, [Value.int .i64 x][j]? = some v → w.cell? ((⟨b, 0, none⟩ : Addr).add j) = some v := fun j v hj => by
  obtain ⟨hj1, hj2⟩ := List.getElem?_eq_some_iff.1 hj
  have : j = 0 := by simpa using hj1
  subst this
  rw [← hj2]
  exact h0
set_option maxRecDepth 10000 in
set_option maxHeartbeats 400000 in
theorem slRepeat_six (b cap : Nat) (x : Int) (w : World) (h0 : w.cell? ⟨b, 0, none⟩ = some (.int .i64 x)) (hb : b < w.heap.size) :
    Calls Try.prog 59 #[.slice (some ⟨b, 0, none⟩) 1 cap, .int .i64 6] w fun e w' => e = .returned (.slice (some ⟨w.heap.size, 0, none⟩) 6 6) ∧ w'.heap[w.heap.size]? = some (.cells (List.replicate 6 (Value.int .i64 x)).toArray 3 (0, 0)) ∧ Below w.heap.size w w' := by
  obtain ⟨i0, hi, hz0, hz1, hz2⟩ := info_parts infoInt
  have HSZ := Lib.hid (show (Try.prog.info? 3).map (·.size) = some 1 by rw [hi]; simp [hz1])
  have HK0 := Lib.hid fun (w' : World) (hs : Below w.heap.size w w') => (hs.cell (p := ⟨b, 0, none⟩) hb).trans h0
  have hb2 : i0.bytes * 6 ≤ 281474976710656 := by rw [hz2]; omega
  have hb3 : 6 ≤ maxLen := by unfold maxLen; omega
  go_enter Try.func59, Try.ntmps59
  go_wp2_with fail
  refine (mul_six _).mono ?_
  rintro e w2 ⟨rfl, rfl⟩
  go_wp2_with (first | (at_make; refine wpList_make_full _ rfl _ _ _ rfl w.heap.size 3 i0 (.int .i64 0) 1 Try.underlying27 hi hz0 hz1 .i64 .i64 _ _ 6 rfl rfl rfl rfl hb2 hb3 (Nat.le_refl _) ?_; intro w4 hown hgrow; have B4 : Below w.heap.size w w4 := (Below.refl _ _).grown hgrow (Nat.le_refl _) (fun k hk => by cases hk); have HW4 := Lib.hid (made_six rfl hown); have HB4 := Lib.hid B4; have HS0 := Lib.hid (one_cell (HK0.out w4 B4)); clear hown hgrow B4) | ((with_reducible show wpList _ _ _ _ _ _); refine wpList_copy_splice rfl (.tmp 31) (.tmp 32) 27 27 rfl 3 Try.underlying27 HSZ.out (some ⟨w.heap.size, 0, none⟩) (some ⟨b, 0, none⟩) 6 6 1 cap rfl rfl w.heap.size 0 (sixL 0 0) 3 HW4.out [.int .i64 x] rfl (fun _ => ⟨rfl, _, rfl, HS0.out⟩) (by simp [sixL]) (by simp [Value.oneCell']) w.heap.size w HB4.out (Nat.le_refl _) ?_; intro w5 hg5 hb5; have HG5 := Lib.hid hg5.out; rw [show splice (sixL 0 0) 0 [Value.int .i64 x] = sixL x 1 from rfl] at HG5; have HB5 := Lib.hid hb5; clear hg5 hb5) | fail)
  have hKg : w.heap.size ≤ w.heap.size := Nat.le_refl _
  go_loopw [8] (fun i wr => ∃ (k : Nat) (ki : Int), ((k = 1 ∧ ki = 1) ∨ (k = 2 ∧ ki = 2) ∨ (k = 4 ∧ ki = 4) ∨ (k = 6 ∧ ki = 6)) ∧ i = .int .i64 ki ∧ Hid (wr.heap[w.heap.size]? = some (.cells (sixL x k).toArray 3 (0, 0))) ∧ Hid (Below w.heap.size w wr)) (fun i _ => 6 - (intOf i).toNat)
  case atStart => exact ⟨1, 1, by omega, rfl, HG5, HB5⟩
  case round =>
    clear HG5 HB5
    obtain ⟨k, ki, hk, rfl, HG, BR⟩ := hrel
    rcases hk with ⟨rfl, rfl⟩ | ⟨rfl, rfl⟩ | ⟨rfl, rfl⟩ | ⟨rfl, rfl⟩
    · have HGd := Lib.hid (show wr.drew.heap[w.heap.size]? = some (.cells (sixL x 1).toArray 3 (0, 0)) from HG.out)
      have HBd := Lib.hid BR.out.drew
      have HC1 := Lib.hid (six_cells (n := 1) HGd.out (by omega))
      go_wp2_with fail
      go_region_law (refine step_copy_splice (by rfl) (.tmp 41) (.tmp 44) 27 27 (by rfl) 3 Try.underlying27 HSZ.out (some ⟨w.heap.size, 1, none⟩) (some ⟨w.heap.size, 0, none⟩) 5 5 1 6 (by simp [Act.eval, Act.put]) (by simp [Act.eval, Act.put]) w.heap.size 1 (sixL x 1) 3 HGd.out (List.replicate 1 (.int .i64 x)) (by rfl) (fun _ => ⟨rfl, _, rfl, HC1.out⟩) (by simp [sixL]) (by simp [Value.oneCell']) w.heap.size w HBd.out hKg ?_; intro w4 hg4 hb4)
      have HG4 := Lib.hid hg4.out
      rw [show splice (sixL x 1) 1 (List.replicate 1 (Value.int .i64 x)) = sixL x 2 from rfl] at HG4
      have HB4 := Lib.hid hb4
      clear hg4 hb4
      have zw : IntKind.i64.wrap 2 = 2 := IntWalk.i64_in _ (by omega)
      go_simp
      go_wp2_with fail
      go_roundw
      case rel => exact ⟨2, 2, by omega, by go_num, HG4, HB4⟩
      case measure => simp [intOf]
    · have HGd := Lib.hid (show wr.drew.heap[w.heap.size]? = some (.cells (sixL x 2).toArray 3 (0, 0)) from HG.out)
      have HBd := Lib.hid BR.out.drew
      have HC2 := Lib.hid (six_cells (n := 2) HGd.out (by omega))
      go_wp2_with fail
      go_region_law (refine step_copy_splice (by rfl) (.tmp 41) (.tmp 44) 27 27 (by rfl) 3 Try.underlying27 HSZ.out (some ⟨w.heap.size, 2, none⟩) (some ⟨w.heap.size, 0, none⟩) 4 4 2 6 (by simp [Act.eval, Act.put]) (by simp [Act.eval, Act.put]) w.heap.size 2 (sixL x 2) 3 HGd.out (List.replicate 2 (.int .i64 x)) (by rfl) (fun _ => ⟨rfl, _, rfl, HC2.out⟩) (by simp [sixL]) (by simp [Value.oneCell']) w.heap.size w HBd.out hKg ?_; intro w4 hg4 hb4)
      have HG4 := Lib.hid hg4.out
      rw [show splice (sixL x 2) 2 (List.replicate 2 (Value.int .i64 x)) = sixL x 4 from rfl] at HG4
      have HB4 := Lib.hid hb4
      clear hg4 hb4
      have zw : IntKind.i64.wrap 4 = 4 := IntWalk.i64_in _ (by omega)
      go_simp
      go_wp2_with fail
      go_roundw
      case rel => exact ⟨4, 4, by omega, by go_num, HG4, HB4⟩
      case measure => simp [intOf]
    · have HGd := Lib.hid (show wr.drew.heap[w.heap.size]? = some (.cells (sixL x 4).toArray 3 (0, 0)) from HG.out)
      have HBd := Lib.hid BR.out.drew
      have HC4 := Lib.hid (six_cells (n := 2) HGd.out (by omega))
      go_wp2_with fail
      go_region_law (refine step_copy_splice (by rfl) (.tmp 41) (.tmp 44) 27 27 (by rfl) 3 Try.underlying27 HSZ.out (some ⟨w.heap.size, 4, none⟩) (some ⟨w.heap.size, 0, none⟩) 2 2 4 6 (by simp [Act.eval, Act.put]) (by simp [Act.eval, Act.put]) w.heap.size 4 (sixL x 4) 3 HGd.out (List.replicate 2 (.int .i64 x)) (by rfl) (fun _ => ⟨rfl, _, rfl, HC4.out⟩) (by simp [sixL]) (by simp [Value.oneCell']) w.heap.size w HBd.out hKg ?_; intro w4 hg4 hb4)
      have HG4 := Lib.hid hg4.out
      rw [show splice (sixL x 4) 4 (List.replicate 2 (Value.int .i64 x)) = sixL x 6 from rfl] at HG4
      have HB4 := Lib.hid hb4
      clear hg4 hb4
      have zw : IntKind.i64.wrap 6 = 6 := IntWalk.i64_in _ (by omega)
      go_simp
      go_wp2_with fail
      go_roundw
      case rel => exact ⟨6, 6, by omega, by go_num, HG4, HB4⟩
      case measure => simp [intOf]
    · go_wp2_with fail
      go_ret
      exact ⟨rfl, HG.out, BR.out⟩
end Go.Proofs.Ythlcjojhmhoadaa
