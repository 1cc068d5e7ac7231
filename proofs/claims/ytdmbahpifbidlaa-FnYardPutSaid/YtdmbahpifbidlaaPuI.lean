/-
  The contract of the program's StackPut.
-/
import Derived.Test.YtdmbahpifbidlaaPpI
import Derived.Test.YtdmbahpifbidlaaPsI
import Derived.Test.YtdmbahpifbidlaaMkI
namespace Go.Proofs.Ytdmbahpifbidlaa
open Go.RowKit
set_option linter.unusedVariables false

/-- What the program's StackPut gives: memory of the call's own, that can be written. -/
def PutGivesF (l : List Int) (high id : Int) (w : World) (e : Ending) (w' : World) : Prop :=
  ∃ v, e = .returned (.tuple #[v, .bool (putS l high id).2]) ∧ FreeE w.heap.size w' v (putS l high id).1 ∧ Below w.heap.size w w'
theorem putS_len {l : List Int} {high id : Int} (h : l.length ≤ 1048576) : (putS l high id).1.length ≤ 1048577 := by
  unfold putS
  split
  · split
    · simp; omega
    · simp; omega
  · simp

theorem implStackPut_bad (v : Value) (l : List Int) (high id : Int) (w : World) (h : HoldsI w v l) (hok : stOk l high = false) :
    Calls Try.prog 64 #[v, .int .i64 high, .int .i64 id] w (PutGivesF l high id w) := by
  have HV := Lib.hid (implStackValid_any v l high w h)
  rw [hok] at HV
  unfold PutGivesF
  rw [putS_bad hok]
  clear hok h
  go_enter Try.func64, Try.ntmps64
  go_wp2_with fail
  refine HV.out.mono ?_
  rintro e w2 ⟨rfl, b2⟩
  go_wp2_with fail
  go_ret2
  exact ⟨_, rfl, .inl ⟨rfl, _, _, rfl, Nat.zero_le _, fun _ => rfl⟩, b2⟩

set_option maxHeartbeats 2000000 in
theorem implStackPut_good (v : Value) (l : List Int) (high id : Int) (w : World) (h : HoldsI w v l) (hok : stOk l high = true) :
    Calls Try.prog 64 #[v, .int .i64 high, .int .i64 id] w (PutGivesF l high id w) := by
  have HV := Lib.hid (implStackValid_any v l high w h)
  have hlen := stOk_len hok
  have HH := Lib.hid h
  have HC := Lib.hid fun w' (hb : Below w.heap.size w w') => slClone_any v l w' (HH.out.keep hb) (by omega)
  have HP := Lib.hid fun B K u w' hKB hB own => stackPut_ptr B K u l id w' hKB (by omega) hB own
  have HV2 := Lib.hid fun v' w' h' => implStackValid_any v' (l ++ [id]) high w' h'
  rw [hok] at HV
  have HY := Lib.hid (putS_yes (id := id) hok)
  have HN := Lib.hid (putS_no (id := id) hok)
  clear hok h
  go_enter Try.func64, Try.ntmps64
  go_wp2_with fail
  refine HV.out.mono ?_
  rintro e w2 ⟨rfl, b2⟩
  go_wp2_with fail
  refine (HC.out _ b2).mono ?_
  rintro e w3 ⟨u, rfl, own3, b3⟩
  have hv3 : VarAt w3.heap.size (w3.alloc (.cells #[u] 84)) u := heap_alloc_new _ _
  have own3' : (w3.alloc (.cells #[u] 84)).ownsRow w2.heap.size 3 1 u l.length (rowI l) := own3.alloc _
  have b3' : Below w2.heap.size w2 (w3.alloc (.cells #[u] 84)) := b3.alloc b3.size _
  have h32 := b3.size
  obtain ⟨cu, lu, pu, rfl⟩ : ∃ (x : Option Addr) (y z : Nat), u = .slice x y z := by
    rcases own3.2 with ⟨rfl, _⟩ | ⟨g, cap, cur, rfl, _⟩
    · exact ⟨_, _, _, rfl⟩
    · exact ⟨_, _, _, rfl⟩
  have HP3 := Lib.hid (HP.out w3.heap.size w2.heap.size _ _ h32 hv3 own3')
  have B3 := Lib.hid b3'
  clear own3 hv3 own3' b3 b3'
  go_wp2_with fail
  refine HP3.out.mono ?_
  rintro e w4 ⟨rfl, ⟨v4, hv4, own4⟩, b4⟩
  have c4 := hv4.cell
  have hb4 := B3.out.trans b4
  have HF := Lib.hid (FreeE.of_own own4)
  have HV4 := Lib.hid (HV2.out v4 w4 HF.out.holds)
  have HV4V := Lib.hid hv4
  obtain ⟨g4, p4, hv, -, -⟩ := own_form own4 (by simp)
  rw [List.length_append, List.length_cons, List.length_nil, Nat.zero_add] at hv
  subst hv
  have hbb := b2.trans (hb4.mono b2.size)
  clear own4 hv4 b4 hb4 B3 HP3 HP
  cases hok2 : stOk (l ++ [id]) high
  · have he := HN.out hok2
    rw [hok2] at HV4
    have HE := Lib.hid he
    clear he hok2 HY
    go_wp2_with fail
    refine HV4.out.mono ?_
    rintro e w5 ⟨rfl, b5⟩
    have hb5 := hbb.trans (b5.mono hbb.size)
    go_wp2_with fail
    refine (HC.out _ hb5).mono ?_
    rintro e w6 ⟨v6, rfl, own6, b6⟩
    go_wp2_with fail
    go_ret2
    exact ⟨v6, by rw [HE.out]; rfl, by rw [HE.out]; exact (FreeE.of_own own6).from_ hb5.size, hb5.trans (b6.mono hb5.size)⟩
  · have he := HY.out hok2
    rw [hok2] at HV4
    have HE := Lib.hid he
    clear he hok2 HN
    go_wp2_with fail
    refine HV4.out.mono ?_
    rintro e w5 ⟨rfl, b5⟩
    have hb5 := hbb.trans (b5.mono hbb.size)
    have hv5 := HV4V.out.keep b5
    have c5 := hv5.cell
    clear c4
    go_wp2_with fail
    go_ret2
    exact ⟨_, by rw [HE.out]; rfl, by rw [HE.out]; exact (HF.out.keep b5).from_ b2.size, hb5⟩
theorem implStackPut_any (v : Value) (l : List Int) (high id : Int) (w : World) (h : HoldsI w v l) :
    Calls Try.prog 64 #[v, .int .i64 high, .int .i64 id] w (PutGivesF l high id w) := by
  cases hok : stOk l high
  · exact implStackPut_bad v l high id w h hok
  · exact implStackPut_good v l high id w h hok
end Go.Proofs.Ytdmbahpifbidlaa
