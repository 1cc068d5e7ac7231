/-
  No cell of these rows narrows 'for every input' (looked for: loops, veiled, ifaces, maps, wideKeys, modest, calm, conditions, laid).
  DERIVED. THE GIVEN ROWS OF THIS SEAT. 9 by the template 'for every input the law returns true; each argument reads behind the call as it read before'; 0 by the template 'total and deterministic' (their statements: YtmfdibjobgfgbaaTotals.lean).
  GIVEN WITH THE SEED: the statements are not yours to turn. If you find one false, say at which input.
  Laid BY PROGRAM, IN A SANDBOX (cutbox-rows.mjs): the forced cells as the released guide's own fill.sh prints them over the translation 4829edc982af14f2… (all of the seat's roots in one cut). By AI agents, Wed Nov 11 2026. No macro, syntax, notation, axiom, sorry.
-/
import Derived.Test.YtmfdibjobgfgbaaChecked
import GoSem.Claim
import GoSem.ClaimJoined
import GoSem.ClaimMapViews
import Derived.JoinedTies
import Derived.KernelRfl
namespace Go.Proofs.Ytmfdibjobgfgbaa
/- THE CELL 'sum', in the pinned program and in every row, IS THE sha256 OF THE DUMP (.gsa) THAT YtmfdibjobgfgbaaProg.lean LOADS. Nothing in Lean hashes anything: it is a label: what it is worth is what the hold of that sum in a sandbox is worth. -/
noncomputable def Try.pinned : Pinned := { name := "ytmfdibjobgfgbaa", sum := "4829edc982af14f2d5cf74041a470bec667467e0964244fe074759a7271b1092", checked := Try.checked }
namespace Rows
def none {H : Type} : Left H := { results := [], args := [] }

/-- 'laws.FnSlotMany': WHATEVER THE INPUT: true; the input reads as it did. -/
def fnSlotManySpec : ChangeSpec := { name := "fnSlotMany", fn := fun _ => fun
  | [d] => { results := [.lit (.bool true)], args := [d] }
  | _ => none }
def fnSlotManyRow : OpenClaim := { program := "ytmfdibjobgfgbaa", sum := "4829edc982af14f2d5cf74041a470bec667467e0964244fe074759a7271b1092", func := "loop.example/containerport/laws.FnSlotMany", spec := "fnSlotMany", inPlace := ["internal/bytealg.IndexByteString"], apart := false }
def FnSlotManySaid : Prop := fnSlotManyRow.holds Try.pinned (OpenSpec.ofChange fnSlotManySpec)

/-- ITS FALSE NEIGHBOUR: 'it returns false'. Refute it at one input. -/
def fnSlotManyWrong : ChangeSpec := { name := "fnSlotMany", fn := fun _ => fun
  | [d] => { results := [.lit (.bool false)], args := [d] }
  | _ => none }
def FnSlotManyWrongFalsely : Prop := fnSlotManyRow.holds Try.pinned (OpenSpec.ofChange fnSlotManyWrong)

/-- 'laws.FnSlotOf': WHATEVER THE INPUT: true; the input reads as it did. -/
def fnSlotOfSpec : ChangeSpec := { name := "fnSlotOf", fn := fun _ => fun
  | [d] => { results := [.lit (.bool true)], args := [d] }
  | _ => none }
def fnSlotOfRow : OpenClaim := { program := "ytmfdibjobgfgbaa", sum := "4829edc982af14f2d5cf74041a470bec667467e0964244fe074759a7271b1092", func := "loop.example/containerport/laws.FnSlotOf", spec := "fnSlotOf", inPlace := ["internal/bytealg.IndexByteString"], apart := false }
def FnSlotOfSaid : Prop := fnSlotOfRow.holds Try.pinned (OpenSpec.ofChange fnSlotOfSpec)

/-- ITS FALSE NEIGHBOUR: 'it returns false'. Refute it at one input. -/
def fnSlotOfWrong : ChangeSpec := { name := "fnSlotOf", fn := fun _ => fun
  | [d] => { results := [.lit (.bool false)], args := [d] }
  | _ => none }
def FnSlotOfWrongFalsely : Prop := fnSlotOfRow.holds Try.pinned (OpenSpec.ofChange fnSlotOfWrong)

/-- 'laws.FnPlaceOf': WHATEVER THE INPUT: true; the input reads as it did. -/
def fnPlaceOfSpec : ChangeSpec := { name := "fnPlaceOf", fn := fun _ => fun
  | [d] => { results := [.lit (.bool true)], args := [d] }
  | _ => none }
def fnPlaceOfRow : OpenClaim := { program := "ytmfdibjobgfgbaa", sum := "4829edc982af14f2d5cf74041a470bec667467e0964244fe074759a7271b1092", func := "loop.example/containerport/laws.FnPlaceOf", spec := "fnPlaceOf", inPlace := ["internal/bytealg.IndexByteString"], apart := false }
def FnPlaceOfSaid : Prop := fnPlaceOfRow.holds Try.pinned (OpenSpec.ofChange fnPlaceOfSpec)

/-- ITS FALSE NEIGHBOUR: 'it returns false'. Refute it at one input. -/
def fnPlaceOfWrong : ChangeSpec := { name := "fnPlaceOf", fn := fun _ => fun
  | [d] => { results := [.lit (.bool false)], args := [d] }
  | _ => none }
def FnPlaceOfWrongFalsely : Prop := fnPlaceOfRow.holds Try.pinned (OpenSpec.ofChange fnPlaceOfWrong)

/-- 'laws.FnSlotBelow': WHATEVER THE INPUT: true; the input reads as it did. -/
def fnSlotBelowSpec : ChangeSpec := { name := "fnSlotBelow", fn := fun _ => fun
  | [d] => { results := [.lit (.bool true)], args := [d] }
  | _ => none }
def fnSlotBelowRow : OpenClaim := { program := "ytmfdibjobgfgbaa", sum := "4829edc982af14f2d5cf74041a470bec667467e0964244fe074759a7271b1092", func := "loop.example/containerport/laws.FnSlotBelow", spec := "fnSlotBelow", inPlace := ["internal/bytealg.IndexByteString"], apart := false }
def FnSlotBelowSaid : Prop := fnSlotBelowRow.holds Try.pinned (OpenSpec.ofChange fnSlotBelowSpec)

/-- ITS FALSE NEIGHBOUR: 'it returns false'. Refute it at one input. -/
def fnSlotBelowWrong : ChangeSpec := { name := "fnSlotBelow", fn := fun _ => fun
  | [d] => { results := [.lit (.bool false)], args := [d] }
  | _ => none }
def FnSlotBelowWrongFalsely : Prop := fnSlotBelowRow.holds Try.pinned (OpenSpec.ofChange fnSlotBelowWrong)

/-- 'laws.FnExactHullValid': WHATEVER THE INPUT: true; the input reads as it did. -/
def fnExactHullValidSpec : ChangeSpec := { name := "fnExactHullValid", fn := fun _ => fun
  | [d] => { results := [.lit (.bool true)], args := [d] }
  | _ => none }
def fnExactHullValidRow : OpenClaim := { program := "ytmfdibjobgfgbaa", sum := "4829edc982af14f2d5cf74041a470bec667467e0964244fe074759a7271b1092", func := "loop.example/containerport/laws.FnExactHullValid", spec := "fnExactHullValid", apart := false }
def FnExactHullValidSaid : Prop := fnExactHullValidRow.holds Try.pinned (OpenSpec.ofChange fnExactHullValidSpec)

/-- ITS FALSE NEIGHBOUR: 'it returns false'. Refute it at one input. -/
def fnExactHullValidWrong : ChangeSpec := { name := "fnExactHullValid", fn := fun _ => fun
  | [d] => { results := [.lit (.bool false)], args := [d] }
  | _ => none }
def FnExactHullValidWrongFalsely : Prop := fnExactHullValidRow.holds Try.pinned (OpenSpec.ofChange fnExactHullValidWrong)

/-- 'laws.FnExactSlotMany': WHATEVER THE INPUT: true; the input reads as it did. -/
def fnExactSlotManySpec : ChangeSpec := { name := "fnExactSlotMany", fn := fun _ => fun
  | [d] => { results := [.lit (.bool true)], args := [d] }
  | _ => none }
def fnExactSlotManyRow : OpenClaim := { program := "ytmfdibjobgfgbaa", sum := "4829edc982af14f2d5cf74041a470bec667467e0964244fe074759a7271b1092", func := "loop.example/containerport/laws.FnExactSlotMany", spec := "fnExactSlotMany", apart := false }
def FnExactSlotManySaid : Prop := fnExactSlotManyRow.holds Try.pinned (OpenSpec.ofChange fnExactSlotManySpec)

/-- ITS FALSE NEIGHBOUR: 'it returns false'. Refute it at one input. -/
def fnExactSlotManyWrong : ChangeSpec := { name := "fnExactSlotMany", fn := fun _ => fun
  | [d] => { results := [.lit (.bool false)], args := [d] }
  | _ => none }
def FnExactSlotManyWrongFalsely : Prop := fnExactSlotManyRow.holds Try.pinned (OpenSpec.ofChange fnExactSlotManyWrong)

/-- 'laws.FnExactSlotOf': WHATEVER THE INPUT: true; the input reads as it did. -/
def fnExactSlotOfSpec : ChangeSpec := { name := "fnExactSlotOf", fn := fun _ => fun
  | [d1, d2, d3, d4] => { results := [.lit (.bool true)], args := [d1, d2, d3, d4] }
  | _ => none }
def fnExactSlotOfRow : OpenClaim := { program := "ytmfdibjobgfgbaa", sum := "4829edc982af14f2d5cf74041a470bec667467e0964244fe074759a7271b1092", func := "loop.example/containerport/laws.FnExactSlotOf", spec := "fnExactSlotOf", apart := false }
def FnExactSlotOfSaid : Prop := fnExactSlotOfRow.holds Try.pinned (OpenSpec.ofChange fnExactSlotOfSpec)

/-- ITS FALSE NEIGHBOUR: 'it returns false'. Refute it at one input. -/
def fnExactSlotOfWrong : ChangeSpec := { name := "fnExactSlotOf", fn := fun _ => fun
  | [d1, d2, d3, d4] => { results := [.lit (.bool false)], args := [d1, d2, d3, d4] }
  | _ => none }
def FnExactSlotOfWrongFalsely : Prop := fnExactSlotOfRow.holds Try.pinned (OpenSpec.ofChange fnExactSlotOfWrong)

/-- 'laws.FnExactPlaceOf': WHATEVER THE INPUT: true; the input reads as it did. -/
def fnExactPlaceOfSpec : ChangeSpec := { name := "fnExactPlaceOf", fn := fun _ => fun
  | [d1, d2] => { results := [.lit (.bool true)], args := [d1, d2] }
  | _ => none }
def fnExactPlaceOfRow : OpenClaim := { program := "ytmfdibjobgfgbaa", sum := "4829edc982af14f2d5cf74041a470bec667467e0964244fe074759a7271b1092", func := "loop.example/containerport/laws.FnExactPlaceOf", spec := "fnExactPlaceOf", apart := false }
def FnExactPlaceOfSaid : Prop := fnExactPlaceOfRow.holds Try.pinned (OpenSpec.ofChange fnExactPlaceOfSpec)

/-- ITS FALSE NEIGHBOUR: 'it returns false'. Refute it at one input. -/
def fnExactPlaceOfWrong : ChangeSpec := { name := "fnExactPlaceOf", fn := fun _ => fun
  | [d1, d2] => { results := [.lit (.bool false)], args := [d1, d2] }
  | _ => none }
def FnExactPlaceOfWrongFalsely : Prop := fnExactPlaceOfRow.holds Try.pinned (OpenSpec.ofChange fnExactPlaceOfWrong)

/-- 'laws.FnExactSlotBelow': WHATEVER THE INPUT: true; the input reads as it did. -/
def fnExactSlotBelowSpec : ChangeSpec := { name := "fnExactSlotBelow", fn := fun _ => fun
  | [d1, d2] => { results := [.lit (.bool true)], args := [d1, d2] }
  | _ => none }
def fnExactSlotBelowRow : OpenClaim := { program := "ytmfdibjobgfgbaa", sum := "4829edc982af14f2d5cf74041a470bec667467e0964244fe074759a7271b1092", func := "loop.example/containerport/laws.FnExactSlotBelow", spec := "fnExactSlotBelow", apart := false }
def FnExactSlotBelowSaid : Prop := fnExactSlotBelowRow.holds Try.pinned (OpenSpec.ofChange fnExactSlotBelowSpec)

/-- ITS FALSE NEIGHBOUR: 'it returns false'. Refute it at one input. -/
def fnExactSlotBelowWrong : ChangeSpec := { name := "fnExactSlotBelow", fn := fun _ => fun
  | [d1, d2] => { results := [.lit (.bool false)], args := [d1, d2] }
  | _ => none }
def FnExactSlotBelowWrongFalsely : Prop := fnExactSlotBelowRow.holds Try.pinned (OpenSpec.ofChange fnExactSlotBelowWrong)

/- THE SECOND FORM. 'bulk': how many values and letters a reading holds, each counted each time it is reached (what is shared counts as often as it is met; a slice's spare places count too). A statement '..UptoSaid' is the law's where the arguments, and the package variables that the reading takes, are together of bulk at most 1048576: NARROWER than '..Said'. Prove '..Said' where nothing that the law and all that it calls make is longer than what came in: it says more and counts as full. Else prove '..UptoSaid'. A law counts once. -/
mutual
def uptoBulk {H : Type} : DataW H → Nat
  | .lit (.string bytes) => bytes.length + 1
  | .lit _ => 1
  | .nil => 1
  | .ptr d => uptoBulk d + 1
  | .slice elems spare => uptoBulkAll elems + uptoBulkAll spare + 1
  | .agg parts => uptoBulkAll parts + 1
  | .iface _ d => uptoBulk d + 1
  | .map entries => uptoBulkEntries entries + 1
  | .held _ => 1
def uptoBulkAll {H : Type} : List (DataW H) → Nat
  | [] => 0
  | d :: r => uptoBulk d + uptoBulkAll r
def uptoBulkEntries {H : Type} : List (Lit × DataW H) → Nat
  | [] => 0
  | x :: r => uptoBulkEntry x + uptoBulkEntries r
def uptoBulkEntry {H : Type} : Lit × DataW H → Nat
  | (.string bytes, d) => bytes.length + uptoBulk d + 1
  | (_, d) => uptoBulk d + 1
 end
def uptoSmall : (H : Type) → List (DataW H) → Bool := fun _ ds => decide (uptoBulkAll ds ≤ 1048576)
def OpenSpec.upto (s : _root_.Go.ChangeSpec) : _root_.Go.OpenSpec := { _root_.Go.OpenSpec.ofChange s with cond := some uptoSmall }

/-- 'laws.FnSlotMany', WHERE WHAT IT READS IS OF BULK AT MOST 1048576: true; the input reads as it did. -/
def fnSlotManyUptoRow : OpenClaim := { program := "ytmfdibjobgfgbaa", sum := "4829edc982af14f2d5cf74041a470bec667467e0964244fe074759a7271b1092", func := "loop.example/containerport/laws.FnSlotMany", spec := "fnSlotMany", inPlace := ["internal/bytealg.IndexByteString"], apart := false, narrowed := true }
def FnSlotManyUptoSaid : Prop := fnSlotManyUptoRow.holds Try.pinned (OpenSpec.upto fnSlotManySpec)

/-- 'laws.FnSlotOf', WHERE WHAT IT READS IS OF BULK AT MOST 1048576: true; the input reads as it did. -/
def fnSlotOfUptoRow : OpenClaim := { program := "ytmfdibjobgfgbaa", sum := "4829edc982af14f2d5cf74041a470bec667467e0964244fe074759a7271b1092", func := "loop.example/containerport/laws.FnSlotOf", spec := "fnSlotOf", inPlace := ["internal/bytealg.IndexByteString"], apart := false, narrowed := true }
def FnSlotOfUptoSaid : Prop := fnSlotOfUptoRow.holds Try.pinned (OpenSpec.upto fnSlotOfSpec)

/-- 'laws.FnPlaceOf', WHERE WHAT IT READS IS OF BULK AT MOST 1048576: true; the input reads as it did. -/
def fnPlaceOfUptoRow : OpenClaim := { program := "ytmfdibjobgfgbaa", sum := "4829edc982af14f2d5cf74041a470bec667467e0964244fe074759a7271b1092", func := "loop.example/containerport/laws.FnPlaceOf", spec := "fnPlaceOf", inPlace := ["internal/bytealg.IndexByteString"], apart := false, narrowed := true }
def FnPlaceOfUptoSaid : Prop := fnPlaceOfUptoRow.holds Try.pinned (OpenSpec.upto fnPlaceOfSpec)

/-- 'laws.FnSlotBelow', WHERE WHAT IT READS IS OF BULK AT MOST 1048576: true; the input reads as it did. -/
def fnSlotBelowUptoRow : OpenClaim := { program := "ytmfdibjobgfgbaa", sum := "4829edc982af14f2d5cf74041a470bec667467e0964244fe074759a7271b1092", func := "loop.example/containerport/laws.FnSlotBelow", spec := "fnSlotBelow", inPlace := ["internal/bytealg.IndexByteString"], apart := false, narrowed := true }
def FnSlotBelowUptoSaid : Prop := fnSlotBelowUptoRow.holds Try.pinned (OpenSpec.upto fnSlotBelowSpec)

/-- 'laws.FnExactHullValid', WHERE WHAT IT READS IS OF BULK AT MOST 1048576: true; the input reads as it did. -/
def fnExactHullValidUptoRow : OpenClaim := { program := "ytmfdibjobgfgbaa", sum := "4829edc982af14f2d5cf74041a470bec667467e0964244fe074759a7271b1092", func := "loop.example/containerport/laws.FnExactHullValid", spec := "fnExactHullValid", apart := false, narrowed := true }
def FnExactHullValidUptoSaid : Prop := fnExactHullValidUptoRow.holds Try.pinned (OpenSpec.upto fnExactHullValidSpec)

/-- 'laws.FnExactSlotMany', WHERE WHAT IT READS IS OF BULK AT MOST 1048576: true; the input reads as it did. -/
def fnExactSlotManyUptoRow : OpenClaim := { program := "ytmfdibjobgfgbaa", sum := "4829edc982af14f2d5cf74041a470bec667467e0964244fe074759a7271b1092", func := "loop.example/containerport/laws.FnExactSlotMany", spec := "fnExactSlotMany", apart := false, narrowed := true }
def FnExactSlotManyUptoSaid : Prop := fnExactSlotManyUptoRow.holds Try.pinned (OpenSpec.upto fnExactSlotManySpec)

/-- 'laws.FnExactSlotOf', WHERE WHAT IT READS IS OF BULK AT MOST 1048576: true; the input reads as it did. -/
def fnExactSlotOfUptoRow : OpenClaim := { program := "ytmfdibjobgfgbaa", sum := "4829edc982af14f2d5cf74041a470bec667467e0964244fe074759a7271b1092", func := "loop.example/containerport/laws.FnExactSlotOf", spec := "fnExactSlotOf", apart := false, narrowed := true }
def FnExactSlotOfUptoSaid : Prop := fnExactSlotOfUptoRow.holds Try.pinned (OpenSpec.upto fnExactSlotOfSpec)

/-- 'laws.FnExactPlaceOf', WHERE WHAT IT READS IS OF BULK AT MOST 1048576: true; the input reads as it did. -/
def fnExactPlaceOfUptoRow : OpenClaim := { program := "ytmfdibjobgfgbaa", sum := "4829edc982af14f2d5cf74041a470bec667467e0964244fe074759a7271b1092", func := "loop.example/containerport/laws.FnExactPlaceOf", spec := "fnExactPlaceOf", apart := false, narrowed := true }
def FnExactPlaceOfUptoSaid : Prop := fnExactPlaceOfUptoRow.holds Try.pinned (OpenSpec.upto fnExactPlaceOfSpec)

/-- 'laws.FnExactSlotBelow', WHERE WHAT IT READS IS OF BULK AT MOST 1048576: true; the input reads as it did. -/
def fnExactSlotBelowUptoRow : OpenClaim := { program := "ytmfdibjobgfgbaa", sum := "4829edc982af14f2d5cf74041a470bec667467e0964244fe074759a7271b1092", func := "loop.example/containerport/laws.FnExactSlotBelow", spec := "fnExactSlotBelow", apart := false, narrowed := true }
def FnExactSlotBelowUptoSaid : Prop := fnExactSlotBelowUptoRow.holds Try.pinned (OpenSpec.upto fnExactSlotBelowSpec)

end Rows
end Go.Proofs.Ytmfdibjobgfgbaa
