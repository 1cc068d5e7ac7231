/-
  Maps from numbers to numbers: what they hold, told by a function.
-/
import Derived.Maps.Own
import Derived.Maps.OwnOps
import Derived.Maps.OwnSet
import Derived.Maps.Views
import Derived.Test.YtbaebamiiigmlacGBase
namespace Go.Proofs.Ytbaebamiiigmlac
open Go.RowKit
open Go.ChangeMaps Go.MapKept
set_option linter.unusedVariables false

theorem mapLaw : Go.Maps.Keyed Try.prog 3 := Go.Maps.int_keyed Try.underlying3
theorem mapZero (w : World) : (zeroValue 3).run Try.prog w = .ok (.int .i64 0) w := by kernel_rfl
/-- Block B is a map of at most n entries; m tells what it holds. -/
def MapI (B : Nat) (w : World) (n : Nat) (m : Int → Option Int) : Prop :=
  ∃ D : DataW Unit, w.ownsMap Try.prog 3 (plainElem Try.prog 3) B n D ∧ ∀ k : Int, (Lit.int .i64 k).wf = true → D.atKey (.int .i64 k) (.lit (.int .i64 0)) = .lit (.int .i64 ((m k).getD 0)) ∧ Go.Maps.has D (.int .i64 k) = (m k).isSome
def updM (m : Int → Option Int) (k v : Int) : Int → Option Int := fun j => if j = k then some v else m j
theorem wf_lit {k : Int} (h0 : -9223372036854775808 ≤ k) (h1 : k ≤ 9223372036854775807) : (Lit.int .i64 k).wf = true := WalkArith.wf_i64 (by omega)
theorem MapI.made (w : World) : MapI w.heap.size (w.alloc (.map #[] 0)) 0 fun _ => none :=
  ⟨.map [], World.ownsMap_made _ _ _ _, fun k _ => ⟨rfl, rfl⟩⟩
theorem MapI.lt {B n : Nat} {w : World} {m : Int → Option Int} (h : MapI B w n m) : B < w.heap.size := by
  obtain ⟨D, h1, _⟩ := h; exact h1.lt
theorem MapI.same {B n : Nat} {w w' : World} {m : Int → Option Int} (h : MapI B w n m) (hb : w'.heap[B]? = w.heap[B]?) : MapI B w' n m := by
  obtain ⟨D, ⟨es, clock, h1, F, hs, hD⟩, h2⟩ := h
  exact ⟨D, ⟨es, clock, hb.trans h1, F, hs, hD⟩, h2⟩
theorem MapI.keep {B n : Nat} {w w' : World} {m : Int → Option Int} (h : MapI B w n m) (hb : Below w.heap.size w w') : MapI B w' n m := h.same (hb.block B h.lt)
theorem MapI.look {B n : Nat} {w : World} {m : Int → Option Int} (h : MapI B w n m) (k : Int) (h0 : -9223372036854775808 ≤ k) (h1 : k ≤ 9223372036854775807) :
    (Instr.lookup 73 (.map (some B)) (.int .i64 k) false).run Try.prog w = .ok (.int .i64 ((m k).getD 0)) w := by
  obtain ⟨D, hown, hat⟩ := h
  obtain ⟨c, hrun, hc, hwc⟩ := hown.lookup_int mapLaw Try.underlying73 Try.underlying3 (mapZero w) (Go.Maps.keyOf_int_mk Try.underlying3 (wf_lit h0 h1))
  rw [(hat k (wf_lit h0 h1)).1] at hc
  simp only [DataW.lit.injEq, Lit.int.injEq, true_and] at hc
  rw [hc]
  exact hrun
theorem MapI.look_ok {B n : Nat} {w : World} {m : Int → Option Int} (h : MapI B w n m) (k : Int) (h0 : -9223372036854775808 ≤ k) (h1 : k ≤ 9223372036854775807) :
    (Instr.lookup 73 (.map (some B)) (.int .i64 k) true).run Try.prog w = .ok (.tuple #[.int .i64 ((m k).getD 0), .bool (m k).isSome]) w := by
  obtain ⟨D, hown, hat⟩ := h
  obtain ⟨v, ps, hrun, hv⟩ := hown.look_ok mapLaw Try.underlying73 (mapZero w) (plainElem_int Try.underlying3 (by decide)) (Go.Maps.keyOf_int_mk Try.underlying3 (wf_lit h0 h1))
  obtain ⟨c, rfl, hc, hwc⟩ := plainElem_int_inv Try.underlying3 hv
  have hc := congrArg Prod.fst hc
  obtain ⟨q1, q2⟩ := hat k (wf_lit h0 h1)
  simp only [] at hc
  rw [q1] at hc
  simp only [DataW.lit.injEq, Lit.int.injEq, true_and] at hc
  rw [hc, ← q2]
  exact hrun
theorem MapI.put {B n : Nat} {w : World} {m : Int → Option Int} (h : MapI B w n m) (k v : Int) (hn : n < 1000000) (h0 : -9223372036854775808 ≤ k) (h1 : k ≤ 9223372036854775807) (v0 : -9223372036854775808 ≤ v) (v1 : v ≤ 9223372036854775807) :
    ∃ w', (Instr.mapUpdate 73 (.map (some B)) (.int .i64 k) (.int .i64 v)).run Try.prog w = .ok () w' ∧ MapI B w' (n + 1) (updM m k v) ∧ w.grownBy w' (some B) := by
  obtain ⟨D, hown, hat⟩ := h
  obtain ⟨w', hrun, hown', hg⟩ := hown.update mapLaw Try.underlying73 (by unfold maxLen; omega) (Go.Maps.keyOf_int_mk Try.underlying3 (wf_lit h0 h1)) (plainElem_int Try.underlying3 (wf_lit v0 v1))
  refine ⟨w', hrun, ⟨_, hown', fun j hj => ?_⟩, hg⟩
  unfold updM
  by_cases e : j = k
  · subst e
    rw [if_pos rfl, Go.Maps.atKey_put_same hown.isMap (show WideAt.IsKeyLit (Lit.int .i64 j) from trivial), Go.Maps.has_put_same hown.isMap (show WideAt.IsKeyLit (Lit.int .i64 j) from trivial)]
    exact ⟨rfl, rfl⟩
  · rw [if_neg e, Go.Maps.atKey_put_other (fun h => e (by injection h)), Go.Maps.has_put_other (fun h => e (by injection h))]
    exact hat j hj
end Go.Proofs.Ytbaebamiiigmlac
