/-
  No cell of these rows narrows 'for every input' (looked for: loops, veiled, ifaces, maps, wideKeys, modest, calm, conditions, laid).
  DERIVED. THE GIVEN ROWS OF THIS SEAT. 13 by the template 'for every input the law returns true; each argument reads behind the call as it read before'; 0 by the template 'total and deterministic' (their statements: YtbaebamiiigmlaaTotals.lean).
  GIVEN WITH THE SEED: the statements are not yours to turn. If you find one false, say at which input.
  Laid BY PROGRAM, IN A SANDBOX (cutbox-rows.mjs): the forced cells as the released guide's own fill.sh prints them over the translation 16ea65589bd16ccc… (all of the seat's roots in one cut). By AI agents, Wed Nov 11 2026. No macro, syntax, notation, axiom, sorry.
-/
import Derived.Test.YtbaebamiiigmlaaChecked
import GoSem.Claim
import GoSem.ClaimJoined
import GoSem.ClaimMapViews
import Derived.JoinedTies
import Derived.KernelRfl
namespace Go.Proofs.Ytbaebamiiigmlaa
/- THE CELL 'sum', in the pinned program and in every row, IS THE sha256 OF THE DUMP (.gsa) THAT YtbaebamiiigmlaaProg.lean LOADS. Nothing in Lean hashes anything: it is a label: what it is worth is what the hold of that sum in a sandbox is worth. -/
noncomputable def Try.pinned : Pinned := { name := "ytbaebamiiigmlaa", sum := "16ea65589bd16cccec7ec7f24710bf09eced70154f5e4c4f6e71268895fc3cd5", checked := Try.checked }
namespace Rows
def none {H : Type} : Left H := { results := [], args := [] }

/-- 'laws.FnPlanValid': WHATEVER THE INPUT: true; the input reads as it did. -/
def fnPlanValidSpec : ChangeSpec := { name := "fnPlanValid", fn := fun _ => fun
  | [d] => { results := [.lit (.bool true)], args := [d] }
  | _ => none }
def fnPlanValidRow : OpenClaim := { program := "ytbaebamiiigmlaa", sum := "16ea65589bd16cccec7ec7f24710bf09eced70154f5e4c4f6e71268895fc3cd5", func := "loop.example/containerport/laws.FnPlanValid", spec := "fnPlanValid", inPlace := ["internal/bytealg.IndexByteString"], apart := false }
def FnPlanValidSaid : Prop := fnPlanValidRow.holds Try.pinned (OpenSpec.ofChange fnPlanValidSpec)

/-- ITS FALSE NEIGHBOUR: 'it returns false'. Refute it at one input. -/
def fnPlanValidWrong : ChangeSpec := { name := "fnPlanValid", fn := fun _ => fun
  | [d] => { results := [.lit (.bool false)], args := [d] }
  | _ => none }
def FnPlanValidWrongFalsely : Prop := fnPlanValidRow.holds Try.pinned (OpenSpec.ofChange fnPlanValidWrong)

/-- 'laws.FnPlanEmpty': WHATEVER THE INPUT: true; the input reads as it did. -/
def fnPlanEmptySpec : ChangeSpec := { name := "fnPlanEmpty", fn := fun _ => fun
  | [d] => { results := [.lit (.bool true)], args := [d] }
  | _ => none }
def fnPlanEmptyRow : OpenClaim := { program := "ytbaebamiiigmlaa", sum := "16ea65589bd16cccec7ec7f24710bf09eced70154f5e4c4f6e71268895fc3cd5", func := "loop.example/containerport/laws.FnPlanEmpty", spec := "fnPlanEmpty", inPlace := ["internal/bytealg.IndexByteString"], apart := false }
def FnPlanEmptySaid : Prop := fnPlanEmptyRow.holds Try.pinned (OpenSpec.ofChange fnPlanEmptySpec)

/-- ITS FALSE NEIGHBOUR: 'it returns false'. Refute it at one input. -/
def fnPlanEmptyWrong : ChangeSpec := { name := "fnPlanEmpty", fn := fun _ => fun
  | [d] => { results := [.lit (.bool false)], args := [d] }
  | _ => none }
def FnPlanEmptyWrongFalsely : Prop := fnPlanEmptyRow.holds Try.pinned (OpenSpec.ofChange fnPlanEmptyWrong)

/-- 'laws.FnPlanFind': WHATEVER THE INPUT: true; the input reads as it did. -/
def fnPlanFindSpec : ChangeSpec := { name := "fnPlanFind", fn := fun _ => fun
  | [d] => { results := [.lit (.bool true)], args := [d] }
  | _ => none }
def fnPlanFindRow : OpenClaim := { program := "ytbaebamiiigmlaa", sum := "16ea65589bd16cccec7ec7f24710bf09eced70154f5e4c4f6e71268895fc3cd5", func := "loop.example/containerport/laws.FnPlanFind", spec := "fnPlanFind", inPlace := ["internal/bytealg.IndexByteString"], apart := false }
def FnPlanFindSaid : Prop := fnPlanFindRow.holds Try.pinned (OpenSpec.ofChange fnPlanFindSpec)

/-- ITS FALSE NEIGHBOUR: 'it returns false'. Refute it at one input. -/
def fnPlanFindWrong : ChangeSpec := { name := "fnPlanFind", fn := fun _ => fun
  | [d] => { results := [.lit (.bool false)], args := [d] }
  | _ => none }
def FnPlanFindWrongFalsely : Prop := fnPlanFindRow.holds Try.pinned (OpenSpec.ofChange fnPlanFindWrong)

/-- 'laws.FnPlanPut': WHATEVER THE INPUT: true; the input reads as it did. -/
def fnPlanPutSpec : ChangeSpec := { name := "fnPlanPut", fn := fun _ => fun
  | [d] => { results := [.lit (.bool true)], args := [d] }
  | _ => none }
def fnPlanPutRow : OpenClaim := { program := "ytbaebamiiigmlaa", sum := "16ea65589bd16cccec7ec7f24710bf09eced70154f5e4c4f6e71268895fc3cd5", func := "loop.example/containerport/laws.FnPlanPut", spec := "fnPlanPut", inPlace := ["internal/bytealg.IndexByteString"], apart := false }
def FnPlanPutSaid : Prop := fnPlanPutRow.holds Try.pinned (OpenSpec.ofChange fnPlanPutSpec)

/-- ITS FALSE NEIGHBOUR: 'it returns false'. Refute it at one input. -/
def fnPlanPutWrong : ChangeSpec := { name := "fnPlanPut", fn := fun _ => fun
  | [d] => { results := [.lit (.bool false)], args := [d] }
  | _ => none }
def FnPlanPutWrongFalsely : Prop := fnPlanPutRow.holds Try.pinned (OpenSpec.ofChange fnPlanPutWrong)

/-- 'laws.FnPlanTake': WHATEVER THE INPUT: true; the input reads as it did. -/
def fnPlanTakeSpec : ChangeSpec := { name := "fnPlanTake", fn := fun _ => fun
  | [d] => { results := [.lit (.bool true)], args := [d] }
  | _ => none }
def fnPlanTakeRow : OpenClaim := { program := "ytbaebamiiigmlaa", sum := "16ea65589bd16cccec7ec7f24710bf09eced70154f5e4c4f6e71268895fc3cd5", func := "loop.example/containerport/laws.FnPlanTake", spec := "fnPlanTake", inPlace := ["internal/bytealg.IndexByteString"], apart := false }
def FnPlanTakeSaid : Prop := fnPlanTakeRow.holds Try.pinned (OpenSpec.ofChange fnPlanTakeSpec)

/-- ITS FALSE NEIGHBOUR: 'it returns false'. Refute it at one input. -/
def fnPlanTakeWrong : ChangeSpec := { name := "fnPlanTake", fn := fun _ => fun
  | [d] => { results := [.lit (.bool false)], args := [d] }
  | _ => none }
def FnPlanTakeWrongFalsely : Prop := fnPlanTakeRow.holds Try.pinned (OpenSpec.ofChange fnPlanTakeWrong)

/-- 'laws.FnPlanIds': WHATEVER THE INPUT: true; the input reads as it did. -/
def fnPlanIdsSpec : ChangeSpec := { name := "fnPlanIds", fn := fun _ => fun
  | [d] => { results := [.lit (.bool true)], args := [d] }
  | _ => none }
def fnPlanIdsRow : OpenClaim := { program := "ytbaebamiiigmlaa", sum := "16ea65589bd16cccec7ec7f24710bf09eced70154f5e4c4f6e71268895fc3cd5", func := "loop.example/containerport/laws.FnPlanIds", spec := "fnPlanIds", inPlace := ["internal/bytealg.IndexByteString"], apart := false }
def FnPlanIdsSaid : Prop := fnPlanIdsRow.holds Try.pinned (OpenSpec.ofChange fnPlanIdsSpec)

/-- ITS FALSE NEIGHBOUR: 'it returns false'. Refute it at one input. -/
def fnPlanIdsWrong : ChangeSpec := { name := "fnPlanIds", fn := fun _ => fun
  | [d] => { results := [.lit (.bool false)], args := [d] }
  | _ => none }
def FnPlanIdsWrongFalsely : Prop := fnPlanIdsRow.holds Try.pinned (OpenSpec.ofChange fnPlanIdsWrong)

/-- 'laws.FnPlanNext': WHATEVER THE INPUT: true; the input reads as it did. -/
def fnPlanNextSpec : ChangeSpec := { name := "fnPlanNext", fn := fun _ => fun
  | [d] => { results := [.lit (.bool true)], args := [d] }
  | _ => none }
def fnPlanNextRow : OpenClaim := { program := "ytbaebamiiigmlaa", sum := "16ea65589bd16cccec7ec7f24710bf09eced70154f5e4c4f6e71268895fc3cd5", func := "loop.example/containerport/laws.FnPlanNext", spec := "fnPlanNext", inPlace := ["internal/bytealg.IndexByteString"], apart := false }
def FnPlanNextSaid : Prop := fnPlanNextRow.holds Try.pinned (OpenSpec.ofChange fnPlanNextSpec)

/-- ITS FALSE NEIGHBOUR: 'it returns false'. Refute it at one input. -/
def fnPlanNextWrong : ChangeSpec := { name := "fnPlanNext", fn := fun _ => fun
  | [d] => { results := [.lit (.bool false)], args := [d] }
  | _ => none }
def FnPlanNextWrongFalsely : Prop := fnPlanNextRow.holds Try.pinned (OpenSpec.ofChange fnPlanNextWrong)

/-- 'laws.FnExactPlanValid': WHATEVER THE INPUT: true; the input reads as it did. -/
def fnExactPlanValidSpec : ChangeSpec := { name := "fnExactPlanValid", fn := fun _ => fun
  | [d1, d2, d3] => { results := [.lit (.bool true)], args := [d1, d2, d3] }
  | _ => none }
def fnExactPlanValidRow : OpenClaim := { program := "ytbaebamiiigmlaa", sum := "16ea65589bd16cccec7ec7f24710bf09eced70154f5e4c4f6e71268895fc3cd5", func := "loop.example/containerport/laws.FnExactPlanValid", spec := "fnExactPlanValid", apart := false }
def FnExactPlanValidSaid : Prop := fnExactPlanValidRow.holds Try.pinned (OpenSpec.ofChange fnExactPlanValidSpec)

/-- ITS FALSE NEIGHBOUR: 'it returns false'. Refute it at one input. -/
def fnExactPlanValidWrong : ChangeSpec := { name := "fnExactPlanValid", fn := fun _ => fun
  | [d1, d2, d3] => { results := [.lit (.bool false)], args := [d1, d2, d3] }
  | _ => none }
def FnExactPlanValidWrongFalsely : Prop := fnExactPlanValidRow.holds Try.pinned (OpenSpec.ofChange fnExactPlanValidWrong)

/-- 'laws.FnExactPlanFind': WHATEVER THE INPUT: true; the input reads as it did. -/
def fnExactPlanFindSpec : ChangeSpec := { name := "fnExactPlanFind", fn := fun _ => fun
  | [d1, d2, d3, d4] => { results := [.lit (.bool true)], args := [d1, d2, d3, d4] }
  | _ => none }
def fnExactPlanFindRow : OpenClaim := { program := "ytbaebamiiigmlaa", sum := "16ea65589bd16cccec7ec7f24710bf09eced70154f5e4c4f6e71268895fc3cd5", func := "loop.example/containerport/laws.FnExactPlanFind", spec := "fnExactPlanFind", apart := false }
def FnExactPlanFindSaid : Prop := fnExactPlanFindRow.holds Try.pinned (OpenSpec.ofChange fnExactPlanFindSpec)

/-- ITS FALSE NEIGHBOUR: 'it returns false'. Refute it at one input. -/
def fnExactPlanFindWrong : ChangeSpec := { name := "fnExactPlanFind", fn := fun _ => fun
  | [d1, d2, d3, d4] => { results := [.lit (.bool false)], args := [d1, d2, d3, d4] }
  | _ => none }
def FnExactPlanFindWrongFalsely : Prop := fnExactPlanFindRow.holds Try.pinned (OpenSpec.ofChange fnExactPlanFindWrong)

/-- 'laws.FnExactPlanPut': WHATEVER THE INPUT: true; the input reads as it did. -/
def fnExactPlanPutSpec : ChangeSpec := { name := "fnExactPlanPut", fn := fun _ => fun
  | [d1, d2, d3, d4, d5] => { results := [.lit (.bool true)], args := [d1, d2, d3, d4, d5] }
  | _ => none }
def fnExactPlanPutRow : OpenClaim := { program := "ytbaebamiiigmlaa", sum := "16ea65589bd16cccec7ec7f24710bf09eced70154f5e4c4f6e71268895fc3cd5", func := "loop.example/containerport/laws.FnExactPlanPut", spec := "fnExactPlanPut", apart := false }
def FnExactPlanPutSaid : Prop := fnExactPlanPutRow.holds Try.pinned (OpenSpec.ofChange fnExactPlanPutSpec)

/-- ITS FALSE NEIGHBOUR: 'it returns false'. Refute it at one input. -/
def fnExactPlanPutWrong : ChangeSpec := { name := "fnExactPlanPut", fn := fun _ => fun
  | [d1, d2, d3, d4, d5] => { results := [.lit (.bool false)], args := [d1, d2, d3, d4, d5] }
  | _ => none }
def FnExactPlanPutWrongFalsely : Prop := fnExactPlanPutRow.holds Try.pinned (OpenSpec.ofChange fnExactPlanPutWrong)

/-- 'laws.FnExactPlanTake': WHATEVER THE INPUT: true; the input reads as it did. -/
def fnExactPlanTakeSpec : ChangeSpec := { name := "fnExactPlanTake", fn := fun _ => fun
  | [d1, d2, d3, d4] => { results := [.lit (.bool true)], args := [d1, d2, d3, d4] }
  | _ => none }
def fnExactPlanTakeRow : OpenClaim := { program := "ytbaebamiiigmlaa", sum := "16ea65589bd16cccec7ec7f24710bf09eced70154f5e4c4f6e71268895fc3cd5", func := "loop.example/containerport/laws.FnExactPlanTake", spec := "fnExactPlanTake", apart := false }
def FnExactPlanTakeSaid : Prop := fnExactPlanTakeRow.holds Try.pinned (OpenSpec.ofChange fnExactPlanTakeSpec)

/-- ITS FALSE NEIGHBOUR: 'it returns false'. Refute it at one input. -/
def fnExactPlanTakeWrong : ChangeSpec := { name := "fnExactPlanTake", fn := fun _ => fun
  | [d1, d2, d3, d4] => { results := [.lit (.bool false)], args := [d1, d2, d3, d4] }
  | _ => none }
def FnExactPlanTakeWrongFalsely : Prop := fnExactPlanTakeRow.holds Try.pinned (OpenSpec.ofChange fnExactPlanTakeWrong)

/-- 'laws.FnExactPlanIds': WHATEVER THE INPUT: true; the input reads as it did. -/
def fnExactPlanIdsSpec : ChangeSpec := { name := "fnExactPlanIds", fn := fun _ => fun
  | [d1, d2, d3] => { results := [.lit (.bool true)], args := [d1, d2, d3] }
  | _ => none }
def fnExactPlanIdsRow : OpenClaim := { program := "ytbaebamiiigmlaa", sum := "16ea65589bd16cccec7ec7f24710bf09eced70154f5e4c4f6e71268895fc3cd5", func := "loop.example/containerport/laws.FnExactPlanIds", spec := "fnExactPlanIds", apart := false }
def FnExactPlanIdsSaid : Prop := fnExactPlanIdsRow.holds Try.pinned (OpenSpec.ofChange fnExactPlanIdsSpec)

/-- ITS FALSE NEIGHBOUR: 'it returns false'. Refute it at one input. -/
def fnExactPlanIdsWrong : ChangeSpec := { name := "fnExactPlanIds", fn := fun _ => fun
  | [d1, d2, d3] => { results := [.lit (.bool false)], args := [d1, d2, d3] }
  | _ => none }
def FnExactPlanIdsWrongFalsely : Prop := fnExactPlanIdsRow.holds Try.pinned (OpenSpec.ofChange fnExactPlanIdsWrong)

/-- 'laws.FnExactPlanNext': WHATEVER THE INPUT: true; the input reads as it did. -/
def fnExactPlanNextSpec : ChangeSpec := { name := "fnExactPlanNext", fn := fun _ => fun
  | [d1, d2, d3] => { results := [.lit (.bool true)], args := [d1, d2, d3] }
  | _ => none }
def fnExactPlanNextRow : OpenClaim := { program := "ytbaebamiiigmlaa", sum := "16ea65589bd16cccec7ec7f24710bf09eced70154f5e4c4f6e71268895fc3cd5", func := "loop.example/containerport/laws.FnExactPlanNext", spec := "fnExactPlanNext", apart := false }
def FnExactPlanNextSaid : Prop := fnExactPlanNextRow.holds Try.pinned (OpenSpec.ofChange fnExactPlanNextSpec)

/-- ITS FALSE NEIGHBOUR: 'it returns false'. Refute it at one input. -/
def fnExactPlanNextWrong : ChangeSpec := { name := "fnExactPlanNext", fn := fun _ => fun
  | [d1, d2, d3] => { results := [.lit (.bool false)], args := [d1, d2, d3] }
  | _ => none }
def FnExactPlanNextWrongFalsely : Prop := fnExactPlanNextRow.holds Try.pinned (OpenSpec.ofChange fnExactPlanNextWrong)

/- THE SECOND FORM. 'bulk': how many values and letters a reading holds, each counted each time it is reached (what is shared counts as often as it is met; a slice's spare places count too). A statement '..UptoSaid' is the law's where the arguments, and the package variables that the reading takes, are together of bulk at most 1048576: NARROWER than '..Said'. Prove '..Said' where nothing that the law and all that it calls make is longer than what came in: it says more and counts as full. Else prove '..UptoSaid'. A law counts once. -/
mutual
def uptoBulk {H : Type} : DataW H → Nat
  | .lit (.string bytes) => bytes.length + 1
  | .lit _ => 1
  | .nil => 1
  | .ptr d => uptoBulk d + 1
  | .slice elems spare => uptoBulkAll elems + uptoBulkAll spare + 1
  | .agg parts => uptoBulkAll parts + 1
  | .iface _ d => uptoBulk d + 1
  | .map entries => uptoBulkEntries entries + 1
  | .held _ => 1
def uptoBulkAll {H : Type} : List (DataW H) → Nat
  | [] => 0
  | d :: r => uptoBulk d + uptoBulkAll r
def uptoBulkEntries {H : Type} : List (Lit × DataW H) → Nat
  | [] => 0
  | x :: r => uptoBulkEntry x + uptoBulkEntries r
def uptoBulkEntry {H : Type} : Lit × DataW H → Nat
  | (.string bytes, d) => bytes.length + uptoBulk d + 1
  | (_, d) => uptoBulk d + 1
 end
def uptoSmall : (H : Type) → List (DataW H) → Bool := fun _ ds => decide (uptoBulkAll ds ≤ 1048576)
def OpenSpec.upto (s : _root_.Go.ChangeSpec) : _root_.Go.OpenSpec := { _root_.Go.OpenSpec.ofChange s with cond := some uptoSmall }

/-- 'laws.FnPlanValid', WHERE WHAT IT READS IS OF BULK AT MOST 1048576: true; the input reads as it did. -/
def fnPlanValidUptoRow : OpenClaim := { program := "ytbaebamiiigmlaa", sum := "16ea65589bd16cccec7ec7f24710bf09eced70154f5e4c4f6e71268895fc3cd5", func := "loop.example/containerport/laws.FnPlanValid", spec := "fnPlanValid", inPlace := ["internal/bytealg.IndexByteString"], apart := false, narrowed := true }
def FnPlanValidUptoSaid : Prop := fnPlanValidUptoRow.holds Try.pinned (OpenSpec.upto fnPlanValidSpec)

/-- 'laws.FnPlanEmpty', WHERE WHAT IT READS IS OF BULK AT MOST 1048576: true; the input reads as it did. -/
def fnPlanEmptyUptoRow : OpenClaim := { program := "ytbaebamiiigmlaa", sum := "16ea65589bd16cccec7ec7f24710bf09eced70154f5e4c4f6e71268895fc3cd5", func := "loop.example/containerport/laws.FnPlanEmpty", spec := "fnPlanEmpty", inPlace := ["internal/bytealg.IndexByteString"], apart := false, narrowed := true }
def FnPlanEmptyUptoSaid : Prop := fnPlanEmptyUptoRow.holds Try.pinned (OpenSpec.upto fnPlanEmptySpec)

/-- 'laws.FnPlanFind', WHERE WHAT IT READS IS OF BULK AT MOST 1048576: true; the input reads as it did. -/
def fnPlanFindUptoRow : OpenClaim := { program := "ytbaebamiiigmlaa", sum := "16ea65589bd16cccec7ec7f24710bf09eced70154f5e4c4f6e71268895fc3cd5", func := "loop.example/containerport/laws.FnPlanFind", spec := "fnPlanFind", inPlace := ["internal/bytealg.IndexByteString"], apart := false, narrowed := true }
def FnPlanFindUptoSaid : Prop := fnPlanFindUptoRow.holds Try.pinned (OpenSpec.upto fnPlanFindSpec)

/-- 'laws.FnPlanPut', WHERE WHAT IT READS IS OF BULK AT MOST 1048576: true; the input reads as it did. -/
def fnPlanPutUptoRow : OpenClaim := { program := "ytbaebamiiigmlaa", sum := "16ea65589bd16cccec7ec7f24710bf09eced70154f5e4c4f6e71268895fc3cd5", func := "loop.example/containerport/laws.FnPlanPut", spec := "fnPlanPut", inPlace := ["internal/bytealg.IndexByteString"], apart := false, narrowed := true }
def FnPlanPutUptoSaid : Prop := fnPlanPutUptoRow.holds Try.pinned (OpenSpec.upto fnPlanPutSpec)

/-- 'laws.FnPlanTake', WHERE WHAT IT READS IS OF BULK AT MOST 1048576: true; the input reads as it did. -/
def fnPlanTakeUptoRow : OpenClaim := { program := "ytbaebamiiigmlaa", sum := "16ea65589bd16cccec7ec7f24710bf09eced70154f5e4c4f6e71268895fc3cd5", func := "loop.example/containerport/laws.FnPlanTake", spec := "fnPlanTake", inPlace := ["internal/bytealg.IndexByteString"], apart := false, narrowed := true }
def FnPlanTakeUptoSaid : Prop := fnPlanTakeUptoRow.holds Try.pinned (OpenSpec.upto fnPlanTakeSpec)

/-- 'laws.FnPlanIds', WHERE WHAT IT READS IS OF BULK AT MOST 1048576: true; the input reads as it did. -/
def fnPlanIdsUptoRow : OpenClaim := { program := "ytbaebamiiigmlaa", sum := "16ea65589bd16cccec7ec7f24710bf09eced70154f5e4c4f6e71268895fc3cd5", func := "loop.example/containerport/laws.FnPlanIds", spec := "fnPlanIds", inPlace := ["internal/bytealg.IndexByteString"], apart := false, narrowed := true }
def FnPlanIdsUptoSaid : Prop := fnPlanIdsUptoRow.holds Try.pinned (OpenSpec.upto fnPlanIdsSpec)

/-- 'laws.FnPlanNext', WHERE WHAT IT READS IS OF BULK AT MOST 1048576: true; the input reads as it did. -/
def fnPlanNextUptoRow : OpenClaim := { program := "ytbaebamiiigmlaa", sum := "16ea65589bd16cccec7ec7f24710bf09eced70154f5e4c4f6e71268895fc3cd5", func := "loop.example/containerport/laws.FnPlanNext", spec := "fnPlanNext", inPlace := ["internal/bytealg.IndexByteString"], apart := false, narrowed := true }
def FnPlanNextUptoSaid : Prop := fnPlanNextUptoRow.holds Try.pinned (OpenSpec.upto fnPlanNextSpec)

/-- 'laws.FnExactPlanValid', WHERE WHAT IT READS IS OF BULK AT MOST 1048576: true; the input reads as it did. -/
def fnExactPlanValidUptoRow : OpenClaim := { program := "ytbaebamiiigmlaa", sum := "16ea65589bd16cccec7ec7f24710bf09eced70154f5e4c4f6e71268895fc3cd5", func := "loop.example/containerport/laws.FnExactPlanValid", spec := "fnExactPlanValid", apart := false, narrowed := true }
def FnExactPlanValidUptoSaid : Prop := fnExactPlanValidUptoRow.holds Try.pinned (OpenSpec.upto fnExactPlanValidSpec)

/-- 'laws.FnExactPlanFind', WHERE WHAT IT READS IS OF BULK AT MOST 1048576: true; the input reads as it did. -/
def fnExactPlanFindUptoRow : OpenClaim := { program := "ytbaebamiiigmlaa", sum := "16ea65589bd16cccec7ec7f24710bf09eced70154f5e4c4f6e71268895fc3cd5", func := "loop.example/containerport/laws.FnExactPlanFind", spec := "fnExactPlanFind", apart := false, narrowed := true }
def FnExactPlanFindUptoSaid : Prop := fnExactPlanFindUptoRow.holds Try.pinned (OpenSpec.upto fnExactPlanFindSpec)

/-- 'laws.FnExactPlanPut', WHERE WHAT IT READS IS OF BULK AT MOST 1048576: true; the input reads as it did. -/
def fnExactPlanPutUptoRow : OpenClaim := { program := "ytbaebamiiigmlaa", sum := "16ea65589bd16cccec7ec7f24710bf09eced70154f5e4c4f6e71268895fc3cd5", func := "loop.example/containerport/laws.FnExactPlanPut", spec := "fnExactPlanPut", apart := false, narrowed := true }
def FnExactPlanPutUptoSaid : Prop := fnExactPlanPutUptoRow.holds Try.pinned (OpenSpec.upto fnExactPlanPutSpec)

/-- 'laws.FnExactPlanTake', WHERE WHAT IT READS IS OF BULK AT MOST 1048576: true; the input reads as it did. -/
def fnExactPlanTakeUptoRow : OpenClaim := { program := "ytbaebamiiigmlaa", sum := "16ea65589bd16cccec7ec7f24710bf09eced70154f5e4c4f6e71268895fc3cd5", func := "loop.example/containerport/laws.FnExactPlanTake", spec := "fnExactPlanTake", apart := false, narrowed := true }
def FnExactPlanTakeUptoSaid : Prop := fnExactPlanTakeUptoRow.holds Try.pinned (OpenSpec.upto fnExactPlanTakeSpec)

/-- 'laws.FnExactPlanIds', WHERE WHAT IT READS IS OF BULK AT MOST 1048576: true; the input reads as it did. -/
def fnExactPlanIdsUptoRow : OpenClaim := { program := "ytbaebamiiigmlaa", sum := "16ea65589bd16cccec7ec7f24710bf09eced70154f5e4c4f6e71268895fc3cd5", func := "loop.example/containerport/laws.FnExactPlanIds", spec := "fnExactPlanIds", apart := false, narrowed := true }
def FnExactPlanIdsUptoSaid : Prop := fnExactPlanIdsUptoRow.holds Try.pinned (OpenSpec.upto fnExactPlanIdsSpec)

/-- 'laws.FnExactPlanNext', WHERE WHAT IT READS IS OF BULK AT MOST 1048576: true; the input reads as it did. -/
def fnExactPlanNextUptoRow : OpenClaim := { program := "ytbaebamiiigmlaa", sum := "16ea65589bd16cccec7ec7f24710bf09eced70154f5e4c4f6e71268895fc3cd5", func := "loop.example/containerport/laws.FnExactPlanNext", spec := "fnExactPlanNext", apart := false, narrowed := true }
def FnExactPlanNextUptoSaid : Prop := fnExactPlanNextUptoRow.holds Try.pinned (OpenSpec.upto fnExactPlanNextSpec)

end Rows
end Go.Proofs.Ytbaebamiiigmlaa
