/-
  No cell of these rows narrows 'for every input' (looked for: loops, veiled, ifaces, maps, wideKeys, modest, calm, conditions, laid).
  DERIVED. THE GIVEN ROWS OF THIS SEAT. 13 by the template 'for every input the law returns true; each argument reads behind the call as it read before'; 0 by the template 'total and deterministic' (their statements: YtbaebamiiigmlabTotals.lean).
  GIVEN WITH THE SEED: the statements are not yours to turn. If you find one false, say at which input.
  Laid BY PROGRAM, IN A SANDBOX (cutbox-rows.mjs): the forced cells as the released guide's own fill.sh prints them over the translation ccc1e2463e59b222… (all of the seat's roots in one cut). By AI agents, Wed Nov 11 2026. No macro, syntax, notation, axiom, sorry.
-/
import Derived.Test.YtbaebamiiigmlabChecked
import GoSem.Claim
import GoSem.ClaimJoined
import GoSem.ClaimMapViews
import Derived.JoinedTies
import Derived.KernelRfl
namespace Go.Proofs.Ytbaebamiiigmlab
/- THE CELL 'sum', in the pinned program and in every row, IS THE sha256 OF THE DUMP (.gsa) THAT YtbaebamiiigmlabProg.lean LOADS. Nothing in Lean hashes anything: it is a label: what it is worth is what the hold of that sum in a sandbox is worth. -/
noncomputable def Try.pinned : Pinned := { name := "ytbaebamiiigmlab", sum := "ccc1e2463e59b222f492a900f397fd77b041c4aafb850d45e636454d19f9e192", checked := Try.checked }
namespace Rows
def none {H : Type} : Left H := { results := [], args := [] }

/-- 'laws.FnLoadOf': WHATEVER THE INPUT: true; the input reads as it did. -/
def fnLoadOfSpec : ChangeSpec := { name := "fnLoadOf", fn := fun _ => fun
  | [d] => { results := [.lit (.bool true)], args := [d] }
  | _ => none }
def fnLoadOfRow : OpenClaim := { program := "ytbaebamiiigmlab", sum := "ccc1e2463e59b222f492a900f397fd77b041c4aafb850d45e636454d19f9e192", func := "loop.example/containerport/laws.FnLoadOf", spec := "fnLoadOf", inPlace := ["internal/bytealg.IndexByteString"], apart := false }
def FnLoadOfSaid : Prop := fnLoadOfRow.holds Try.pinned (OpenSpec.ofChange fnLoadOfSpec)

/-- ITS FALSE NEIGHBOUR: 'it returns false'. Refute it at one input. -/
def fnLoadOfWrong : ChangeSpec := { name := "fnLoadOf", fn := fun _ => fun
  | [d] => { results := [.lit (.bool false)], args := [d] }
  | _ => none }
def FnLoadOfWrongFalsely : Prop := fnLoadOfRow.holds Try.pinned (OpenSpec.ofChange fnLoadOfWrong)

/-- 'laws.FnHeelOf': WHATEVER THE INPUT: true; the input reads as it did. -/
def fnHeelOfSpec : ChangeSpec := { name := "fnHeelOf", fn := fun _ => fun
  | [d] => { results := [.lit (.bool true)], args := [d] }
  | _ => none }
def fnHeelOfRow : OpenClaim := { program := "ytbaebamiiigmlab", sum := "ccc1e2463e59b222f492a900f397fd77b041c4aafb850d45e636454d19f9e192", func := "loop.example/containerport/laws.FnHeelOf", spec := "fnHeelOf", inPlace := ["internal/bytealg.IndexByteString"], apart := false }
def FnHeelOfSaid : Prop := fnHeelOfRow.holds Try.pinned (OpenSpec.ofChange fnHeelOfSpec)

/-- ITS FALSE NEIGHBOUR: 'it returns false'. Refute it at one input. -/
def fnHeelOfWrong : ChangeSpec := { name := "fnHeelOf", fn := fun _ => fun
  | [d] => { results := [.lit (.bool false)], args := [d] }
  | _ => none }
def FnHeelOfWrongFalsely : Prop := fnHeelOfRow.holds Try.pinned (OpenSpec.ofChange fnHeelOfWrong)

/-- 'laws.FnTrimOf': WHATEVER THE INPUT: true; the input reads as it did. -/
def fnTrimOfSpec : ChangeSpec := { name := "fnTrimOf", fn := fun _ => fun
  | [d] => { results := [.lit (.bool true)], args := [d] }
  | _ => none }
def fnTrimOfRow : OpenClaim := { program := "ytbaebamiiigmlab", sum := "ccc1e2463e59b222f492a900f397fd77b041c4aafb850d45e636454d19f9e192", func := "loop.example/containerport/laws.FnTrimOf", spec := "fnTrimOf", inPlace := ["internal/bytealg.IndexByteString"], apart := false }
def FnTrimOfSaid : Prop := fnTrimOfRow.holds Try.pinned (OpenSpec.ofChange fnTrimOfSpec)

/-- ITS FALSE NEIGHBOUR: 'it returns false'. Refute it at one input. -/
def fnTrimOfWrong : ChangeSpec := { name := "fnTrimOf", fn := fun _ => fun
  | [d] => { results := [.lit (.bool false)], args := [d] }
  | _ => none }
def FnTrimOfWrongFalsely : Prop := fnTrimOfRow.holds Try.pinned (OpenSpec.ofChange fnTrimOfWrong)

/-- 'laws.FnSteady': WHATEVER THE INPUT: true; the input reads as it did. -/
def fnSteadySpec : ChangeSpec := { name := "fnSteady", fn := fun _ => fun
  | [d] => { results := [.lit (.bool true)], args := [d] }
  | _ => none }
def fnSteadyRow : OpenClaim := { program := "ytbaebamiiigmlab", sum := "ccc1e2463e59b222f492a900f397fd77b041c4aafb850d45e636454d19f9e192", func := "loop.example/containerport/laws.FnSteady", spec := "fnSteady", inPlace := ["internal/bytealg.IndexByteString"], apart := false }
def FnSteadySaid : Prop := fnSteadyRow.holds Try.pinned (OpenSpec.ofChange fnSteadySpec)

/-- ITS FALSE NEIGHBOUR: 'it returns false'. Refute it at one input. -/
def fnSteadyWrong : ChangeSpec := { name := "fnSteady", fn := fun _ => fun
  | [d] => { results := [.lit (.bool false)], args := [d] }
  | _ => none }
def FnSteadyWrongFalsely : Prop := fnSteadyRow.holds Try.pinned (OpenSpec.ofChange fnSteadyWrong)

/-- 'laws.FnExactLoadOf': WHATEVER THE INPUT: true; the input reads as it did. -/
def fnExactLoadOfSpec : ChangeSpec := { name := "fnExactLoadOf", fn := fun _ => fun
  | [d1, d2, d3] => { results := [.lit (.bool true)], args := [d1, d2, d3] }
  | _ => none }
def fnExactLoadOfRow : OpenClaim := { program := "ytbaebamiiigmlab", sum := "ccc1e2463e59b222f492a900f397fd77b041c4aafb850d45e636454d19f9e192", func := "loop.example/containerport/laws.FnExactLoadOf", spec := "fnExactLoadOf", apart := false }
def FnExactLoadOfSaid : Prop := fnExactLoadOfRow.holds Try.pinned (OpenSpec.ofChange fnExactLoadOfSpec)

/-- ITS FALSE NEIGHBOUR: 'it returns false'. Refute it at one input. -/
def fnExactLoadOfWrong : ChangeSpec := { name := "fnExactLoadOf", fn := fun _ => fun
  | [d1, d2, d3] => { results := [.lit (.bool false)], args := [d1, d2, d3] }
  | _ => none }
def FnExactLoadOfWrongFalsely : Prop := fnExactLoadOfRow.holds Try.pinned (OpenSpec.ofChange fnExactLoadOfWrong)

/-- 'laws.FnExactHeelOf': WHATEVER THE INPUT: true; the input reads as it did. -/
def fnExactHeelOfSpec : ChangeSpec := { name := "fnExactHeelOf", fn := fun _ => fun
  | [d1, d2, d3] => { results := [.lit (.bool true)], args := [d1, d2, d3] }
  | _ => none }
def fnExactHeelOfRow : OpenClaim := { program := "ytbaebamiiigmlab", sum := "ccc1e2463e59b222f492a900f397fd77b041c4aafb850d45e636454d19f9e192", func := "loop.example/containerport/laws.FnExactHeelOf", spec := "fnExactHeelOf", apart := false }
def FnExactHeelOfSaid : Prop := fnExactHeelOfRow.holds Try.pinned (OpenSpec.ofChange fnExactHeelOfSpec)

/-- ITS FALSE NEIGHBOUR: 'it returns false'. Refute it at one input. -/
def fnExactHeelOfWrong : ChangeSpec := { name := "fnExactHeelOf", fn := fun _ => fun
  | [d1, d2, d3] => { results := [.lit (.bool false)], args := [d1, d2, d3] }
  | _ => none }
def FnExactHeelOfWrongFalsely : Prop := fnExactHeelOfRow.holds Try.pinned (OpenSpec.ofChange fnExactHeelOfWrong)

/-- 'laws.FnExactTrimOf': WHATEVER THE INPUT: true; the input reads as it did. -/
def fnExactTrimOfSpec : ChangeSpec := { name := "fnExactTrimOf", fn := fun _ => fun
  | [d1, d2, d3] => { results := [.lit (.bool true)], args := [d1, d2, d3] }
  | _ => none }
def fnExactTrimOfRow : OpenClaim := { program := "ytbaebamiiigmlab", sum := "ccc1e2463e59b222f492a900f397fd77b041c4aafb850d45e636454d19f9e192", func := "loop.example/containerport/laws.FnExactTrimOf", spec := "fnExactTrimOf", apart := false }
def FnExactTrimOfSaid : Prop := fnExactTrimOfRow.holds Try.pinned (OpenSpec.ofChange fnExactTrimOfSpec)

/-- ITS FALSE NEIGHBOUR: 'it returns false'. Refute it at one input. -/
def fnExactTrimOfWrong : ChangeSpec := { name := "fnExactTrimOf", fn := fun _ => fun
  | [d1, d2, d3] => { results := [.lit (.bool false)], args := [d1, d2, d3] }
  | _ => none }
def FnExactTrimOfWrongFalsely : Prop := fnExactTrimOfRow.holds Try.pinned (OpenSpec.ofChange fnExactTrimOfWrong)

/-- 'laws.FnExactSteady': WHATEVER THE INPUT: true; the input reads as it did. -/
def fnExactSteadySpec : ChangeSpec := { name := "fnExactSteady", fn := fun _ => fun
  | [d1, d2, d3, d4, d5] => { results := [.lit (.bool true)], args := [d1, d2, d3, d4, d5] }
  | _ => none }
def fnExactSteadyRow : OpenClaim := { program := "ytbaebamiiigmlab", sum := "ccc1e2463e59b222f492a900f397fd77b041c4aafb850d45e636454d19f9e192", func := "loop.example/containerport/laws.FnExactSteady", spec := "fnExactSteady", apart := false }
def FnExactSteadySaid : Prop := fnExactSteadyRow.holds Try.pinned (OpenSpec.ofChange fnExactSteadySpec)

/-- ITS FALSE NEIGHBOUR: 'it returns false'. Refute it at one input. -/
def fnExactSteadyWrong : ChangeSpec := { name := "fnExactSteady", fn := fun _ => fun
  | [d1, d2, d3, d4, d5] => { results := [.lit (.bool false)], args := [d1, d2, d3, d4, d5] }
  | _ => none }
def FnExactSteadyWrongFalsely : Prop := fnExactSteadyRow.holds Try.pinned (OpenSpec.ofChange fnExactSteadyWrong)

/-- 'laws.FnLoadOk': WHATEVER THE INPUT: true; the input reads as it did. -/
def fnLoadOkSpec : ChangeSpec := { name := "fnLoadOk", fn := fun _ => fun
  | [d] => { results := [.lit (.bool true)], args := [d] }
  | _ => none }
def fnLoadOkRow : OpenClaim := { program := "ytbaebamiiigmlab", sum := "ccc1e2463e59b222f492a900f397fd77b041c4aafb850d45e636454d19f9e192", func := "loop.example/containerport/laws.FnLoadOk", spec := "fnLoadOk", inPlace := ["internal/bytealg.IndexByteString"], apart := false }
def FnLoadOkSaid : Prop := fnLoadOkRow.holds Try.pinned (OpenSpec.ofChange fnLoadOkSpec)

/-- ITS FALSE NEIGHBOUR: 'it returns false'. Refute it at one input. -/
def fnLoadOkWrong : ChangeSpec := { name := "fnLoadOk", fn := fun _ => fun
  | [d] => { results := [.lit (.bool false)], args := [d] }
  | _ => none }
def FnLoadOkWrongFalsely : Prop := fnLoadOkRow.holds Try.pinned (OpenSpec.ofChange fnLoadOkWrong)

/-- 'laws.FnLoadOrder': WHATEVER THE INPUT: true; the input reads as it did. -/
def fnLoadOrderSpec : ChangeSpec := { name := "fnLoadOrder", fn := fun _ => fun
  | [d] => { results := [.lit (.bool true)], args := [d] }
  | _ => none }
def fnLoadOrderRow : OpenClaim := { program := "ytbaebamiiigmlab", sum := "ccc1e2463e59b222f492a900f397fd77b041c4aafb850d45e636454d19f9e192", func := "loop.example/containerport/laws.FnLoadOrder", spec := "fnLoadOrder", inPlace := ["internal/bytealg.IndexByteString"], apart := false }
def FnLoadOrderSaid : Prop := fnLoadOrderRow.holds Try.pinned (OpenSpec.ofChange fnLoadOrderSpec)

/-- ITS FALSE NEIGHBOUR: 'it returns false'. Refute it at one input. -/
def fnLoadOrderWrong : ChangeSpec := { name := "fnLoadOrder", fn := fun _ => fun
  | [d] => { results := [.lit (.bool false)], args := [d] }
  | _ => none }
def FnLoadOrderWrongFalsely : Prop := fnLoadOrderRow.holds Try.pinned (OpenSpec.ofChange fnLoadOrderWrong)

/-- 'laws.FnWorstHeel': WHATEVER THE INPUT: true; the input reads as it did. -/
def fnWorstHeelSpec : ChangeSpec := { name := "fnWorstHeel", fn := fun _ => fun
  | [d] => { results := [.lit (.bool true)], args := [d] }
  | _ => none }
def fnWorstHeelRow : OpenClaim := { program := "ytbaebamiiigmlab", sum := "ccc1e2463e59b222f492a900f397fd77b041c4aafb850d45e636454d19f9e192", func := "loop.example/containerport/laws.FnWorstHeel", spec := "fnWorstHeel", inPlace := ["internal/bytealg.IndexByteString"], apart := false }
def FnWorstHeelSaid : Prop := fnWorstHeelRow.holds Try.pinned (OpenSpec.ofChange fnWorstHeelSpec)

/-- ITS FALSE NEIGHBOUR: 'it returns false'. Refute it at one input. -/
def fnWorstHeelWrong : ChangeSpec := { name := "fnWorstHeel", fn := fun _ => fun
  | [d] => { results := [.lit (.bool false)], args := [d] }
  | _ => none }
def FnWorstHeelWrongFalsely : Prop := fnWorstHeelRow.holds Try.pinned (OpenSpec.ofChange fnWorstHeelWrong)

/-- 'laws.FnBestOrder': WHATEVER THE INPUT: true; the input reads as it did. -/
def fnBestOrderSpec : ChangeSpec := { name := "fnBestOrder", fn := fun _ => fun
  | [d] => { results := [.lit (.bool true)], args := [d] }
  | _ => none }
def fnBestOrderRow : OpenClaim := { program := "ytbaebamiiigmlab", sum := "ccc1e2463e59b222f492a900f397fd77b041c4aafb850d45e636454d19f9e192", func := "loop.example/containerport/laws.FnBestOrder", spec := "fnBestOrder", inPlace := ["internal/bytealg.IndexByteString"], apart := false }
def FnBestOrderSaid : Prop := fnBestOrderRow.holds Try.pinned (OpenSpec.ofChange fnBestOrderSpec)

/-- ITS FALSE NEIGHBOUR: 'it returns false'. Refute it at one input. -/
def fnBestOrderWrong : ChangeSpec := { name := "fnBestOrder", fn := fun _ => fun
  | [d] => { results := [.lit (.bool false)], args := [d] }
  | _ => none }
def FnBestOrderWrongFalsely : Prop := fnBestOrderRow.holds Try.pinned (OpenSpec.ofChange fnBestOrderWrong)

/-- 'laws.FnExactLoadOk': WHATEVER THE INPUT: true; the input reads as it did. -/
def fnExactLoadOkSpec : ChangeSpec := { name := "fnExactLoadOk", fn := fun _ => fun
  | [d1, d2, d3, d4] => { results := [.lit (.bool true)], args := [d1, d2, d3, d4] }
  | _ => none }
def fnExactLoadOkRow : OpenClaim := { program := "ytbaebamiiigmlab", sum := "ccc1e2463e59b222f492a900f397fd77b041c4aafb850d45e636454d19f9e192", func := "loop.example/containerport/laws.FnExactLoadOk", spec := "fnExactLoadOk", apart := false }
def FnExactLoadOkSaid : Prop := fnExactLoadOkRow.holds Try.pinned (OpenSpec.ofChange fnExactLoadOkSpec)

/-- ITS FALSE NEIGHBOUR: 'it returns false'. Refute it at one input. -/
def fnExactLoadOkWrong : ChangeSpec := { name := "fnExactLoadOk", fn := fun _ => fun
  | [d1, d2, d3, d4] => { results := [.lit (.bool false)], args := [d1, d2, d3, d4] }
  | _ => none }
def FnExactLoadOkWrongFalsely : Prop := fnExactLoadOkRow.holds Try.pinned (OpenSpec.ofChange fnExactLoadOkWrong)

/- THE SECOND FORM. 'bulk': how many values and letters a reading holds, each counted each time it is reached (what is shared counts as often as it is met; a slice's spare places count too). A statement '..UptoSaid' is the law's where the arguments, and the package variables that the reading takes, are together of bulk at most 1048576: NARROWER than '..Said'. Prove '..Said' where nothing that the law and all that it calls make is longer than what came in: it says more and counts as full. Else prove '..UptoSaid'. A law counts once. -/
mutual
def uptoBulk {H : Type} : DataW H → Nat
  | .lit (.string bytes) => bytes.length + 1
  | .lit _ => 1
  | .nil => 1
  | .ptr d => uptoBulk d + 1
  | .slice elems spare => uptoBulkAll elems + uptoBulkAll spare + 1
  | .agg parts => uptoBulkAll parts + 1
  | .iface _ d => uptoBulk d + 1
  | .map entries => uptoBulkEntries entries + 1
  | .held _ => 1
def uptoBulkAll {H : Type} : List (DataW H) → Nat
  | [] => 0
  | d :: r => uptoBulk d + uptoBulkAll r
def uptoBulkEntries {H : Type} : List (Lit × DataW H) → Nat
  | [] => 0
  | x :: r => uptoBulkEntry x + uptoBulkEntries r
def uptoBulkEntry {H : Type} : Lit × DataW H → Nat
  | (.string bytes, d) => bytes.length + uptoBulk d + 1
  | (_, d) => uptoBulk d + 1
 end
def uptoSmall : (H : Type) → List (DataW H) → Bool := fun _ ds => decide (uptoBulkAll ds ≤ 1048576)
def OpenSpec.upto (s : _root_.Go.ChangeSpec) : _root_.Go.OpenSpec := { _root_.Go.OpenSpec.ofChange s with cond := some uptoSmall }

/-- 'laws.FnLoadOf', WHERE WHAT IT READS IS OF BULK AT MOST 1048576: true; the input reads as it did. -/
def fnLoadOfUptoRow : OpenClaim := { program := "ytbaebamiiigmlab", sum := "ccc1e2463e59b222f492a900f397fd77b041c4aafb850d45e636454d19f9e192", func := "loop.example/containerport/laws.FnLoadOf", spec := "fnLoadOf", inPlace := ["internal/bytealg.IndexByteString"], apart := false, narrowed := true }
def FnLoadOfUptoSaid : Prop := fnLoadOfUptoRow.holds Try.pinned (OpenSpec.upto fnLoadOfSpec)

/-- 'laws.FnHeelOf', WHERE WHAT IT READS IS OF BULK AT MOST 1048576: true; the input reads as it did. -/
def fnHeelOfUptoRow : OpenClaim := { program := "ytbaebamiiigmlab", sum := "ccc1e2463e59b222f492a900f397fd77b041c4aafb850d45e636454d19f9e192", func := "loop.example/containerport/laws.FnHeelOf", spec := "fnHeelOf", inPlace := ["internal/bytealg.IndexByteString"], apart := false, narrowed := true }
def FnHeelOfUptoSaid : Prop := fnHeelOfUptoRow.holds Try.pinned (OpenSpec.upto fnHeelOfSpec)

/-- 'laws.FnTrimOf', WHERE WHAT IT READS IS OF BULK AT MOST 1048576: true; the input reads as it did. -/
def fnTrimOfUptoRow : OpenClaim := { program := "ytbaebamiiigmlab", sum := "ccc1e2463e59b222f492a900f397fd77b041c4aafb850d45e636454d19f9e192", func := "loop.example/containerport/laws.FnTrimOf", spec := "fnTrimOf", inPlace := ["internal/bytealg.IndexByteString"], apart := false, narrowed := true }
def FnTrimOfUptoSaid : Prop := fnTrimOfUptoRow.holds Try.pinned (OpenSpec.upto fnTrimOfSpec)

/-- 'laws.FnSteady', WHERE WHAT IT READS IS OF BULK AT MOST 1048576: true; the input reads as it did. -/
def fnSteadyUptoRow : OpenClaim := { program := "ytbaebamiiigmlab", sum := "ccc1e2463e59b222f492a900f397fd77b041c4aafb850d45e636454d19f9e192", func := "loop.example/containerport/laws.FnSteady", spec := "fnSteady", inPlace := ["internal/bytealg.IndexByteString"], apart := false, narrowed := true }
def FnSteadyUptoSaid : Prop := fnSteadyUptoRow.holds Try.pinned (OpenSpec.upto fnSteadySpec)

/-- 'laws.FnExactLoadOf', WHERE WHAT IT READS IS OF BULK AT MOST 1048576: true; the input reads as it did. -/
def fnExactLoadOfUptoRow : OpenClaim := { program := "ytbaebamiiigmlab", sum := "ccc1e2463e59b222f492a900f397fd77b041c4aafb850d45e636454d19f9e192", func := "loop.example/containerport/laws.FnExactLoadOf", spec := "fnExactLoadOf", apart := false, narrowed := true }
def FnExactLoadOfUptoSaid : Prop := fnExactLoadOfUptoRow.holds Try.pinned (OpenSpec.upto fnExactLoadOfSpec)

/-- 'laws.FnExactHeelOf', WHERE WHAT IT READS IS OF BULK AT MOST 1048576: true; the input reads as it did. -/
def fnExactHeelOfUptoRow : OpenClaim := { program := "ytbaebamiiigmlab", sum := "ccc1e2463e59b222f492a900f397fd77b041c4aafb850d45e636454d19f9e192", func := "loop.example/containerport/laws.FnExactHeelOf", spec := "fnExactHeelOf", apart := false, narrowed := true }
def FnExactHeelOfUptoSaid : Prop := fnExactHeelOfUptoRow.holds Try.pinned (OpenSpec.upto fnExactHeelOfSpec)

/-- 'laws.FnExactTrimOf', WHERE WHAT IT READS IS OF BULK AT MOST 1048576: true; the input reads as it did. -/
def fnExactTrimOfUptoRow : OpenClaim := { program := "ytbaebamiiigmlab", sum := "ccc1e2463e59b222f492a900f397fd77b041c4aafb850d45e636454d19f9e192", func := "loop.example/containerport/laws.FnExactTrimOf", spec := "fnExactTrimOf", apart := false, narrowed := true }
def FnExactTrimOfUptoSaid : Prop := fnExactTrimOfUptoRow.holds Try.pinned (OpenSpec.upto fnExactTrimOfSpec)

/-- 'laws.FnExactSteady', WHERE WHAT IT READS IS OF BULK AT MOST 1048576: true; the input reads as it did. -/
def fnExactSteadyUptoRow : OpenClaim := { program := "ytbaebamiiigmlab", sum := "ccc1e2463e59b222f492a900f397fd77b041c4aafb850d45e636454d19f9e192", func := "loop.example/containerport/laws.FnExactSteady", spec := "fnExactSteady", apart := false, narrowed := true }
def FnExactSteadyUptoSaid : Prop := fnExactSteadyUptoRow.holds Try.pinned (OpenSpec.upto fnExactSteadySpec)

/-- 'laws.FnLoadOk', WHERE WHAT IT READS IS OF BULK AT MOST 1048576: true; the input reads as it did. -/
def fnLoadOkUptoRow : OpenClaim := { program := "ytbaebamiiigmlab", sum := "ccc1e2463e59b222f492a900f397fd77b041c4aafb850d45e636454d19f9e192", func := "loop.example/containerport/laws.FnLoadOk", spec := "fnLoadOk", inPlace := ["internal/bytealg.IndexByteString"], apart := false, narrowed := true }
def FnLoadOkUptoSaid : Prop := fnLoadOkUptoRow.holds Try.pinned (OpenSpec.upto fnLoadOkSpec)

/-- 'laws.FnLoadOrder', WHERE WHAT IT READS IS OF BULK AT MOST 1048576: true; the input reads as it did. -/
def fnLoadOrderUptoRow : OpenClaim := { program := "ytbaebamiiigmlab", sum := "ccc1e2463e59b222f492a900f397fd77b041c4aafb850d45e636454d19f9e192", func := "loop.example/containerport/laws.FnLoadOrder", spec := "fnLoadOrder", inPlace := ["internal/bytealg.IndexByteString"], apart := false, narrowed := true }
def FnLoadOrderUptoSaid : Prop := fnLoadOrderUptoRow.holds Try.pinned (OpenSpec.upto fnLoadOrderSpec)

/-- 'laws.FnWorstHeel', WHERE WHAT IT READS IS OF BULK AT MOST 1048576: true; the input reads as it did. -/
def fnWorstHeelUptoRow : OpenClaim := { program := "ytbaebamiiigmlab", sum := "ccc1e2463e59b222f492a900f397fd77b041c4aafb850d45e636454d19f9e192", func := "loop.example/containerport/laws.FnWorstHeel", spec := "fnWorstHeel", inPlace := ["internal/bytealg.IndexByteString"], apart := false, narrowed := true }
def FnWorstHeelUptoSaid : Prop := fnWorstHeelUptoRow.holds Try.pinned (OpenSpec.upto fnWorstHeelSpec)

/-- 'laws.FnBestOrder', WHERE WHAT IT READS IS OF BULK AT MOST 1048576: true; the input reads as it did. -/
def fnBestOrderUptoRow : OpenClaim := { program := "ytbaebamiiigmlab", sum := "ccc1e2463e59b222f492a900f397fd77b041c4aafb850d45e636454d19f9e192", func := "loop.example/containerport/laws.FnBestOrder", spec := "fnBestOrder", inPlace := ["internal/bytealg.IndexByteString"], apart := false, narrowed := true }
def FnBestOrderUptoSaid : Prop := fnBestOrderUptoRow.holds Try.pinned (OpenSpec.upto fnBestOrderSpec)

/-- 'laws.FnExactLoadOk', WHERE WHAT IT READS IS OF BULK AT MOST 1048576: true; the input reads as it did. -/
def fnExactLoadOkUptoRow : OpenClaim := { program := "ytbaebamiiigmlab", sum := "ccc1e2463e59b222f492a900f397fd77b041c4aafb850d45e636454d19f9e192", func := "loop.example/containerport/laws.FnExactLoadOk", spec := "fnExactLoadOk", apart := false, narrowed := true }
def FnExactLoadOkUptoSaid : Prop := fnExactLoadOkUptoRow.holds Try.pinned (OpenSpec.upto fnExactLoadOkSpec)

end Rows
end Go.Proofs.Ytbaebamiiigmlab
