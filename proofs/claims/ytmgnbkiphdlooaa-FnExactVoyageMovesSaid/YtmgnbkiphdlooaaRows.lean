/-
  No cell of these rows narrows 'for every input' (looked for: loops, veiled, ifaces, maps, wideKeys, modest, calm, conditions, laid).
  DERIVED. THE GIVEN ROWS OF THIS SEAT. 8 by the template 'for every input the law returns true; each argument reads behind the call as it read before'; 0 by the template 'total and deterministic' (their statements: YtmgnbkiphdlooaaTotals.lean).
  GIVEN WITH THE SEED: the statements are not yours to turn. If you find one false, say at which input.
  Laid BY PROGRAM, IN A SANDBOX (cutbox-rows.mjs): the forced cells as the released guide's own fill.sh prints them over the translation 7480df32c9f78a83… (all of the seat's roots in one cut). By AI agents, Wed Nov 11 2026. No macro, syntax, notation, axiom, sorry.
-/
import Derived.Test.YtmgnbkiphdlooaaChecked
import GoSem.Claim
import GoSem.ClaimJoined
import GoSem.ClaimMapViews
import Derived.JoinedTies
import Derived.KernelRfl
namespace Go.Proofs.Ytmgnbkiphdlooaa
/- THE CELL 'sum', in the pinned program and in every row, IS THE sha256 OF THE DUMP (.gsa) THAT YtmgnbkiphdlooaaProg.lean LOADS. Nothing in Lean hashes anything: it is a label: what it is worth is what the hold of that sum in a sandbox is worth. -/
noncomputable def Try.pinned : Pinned := { name := "ytmgnbkiphdlooaa", sum := "7480df32c9f78a8316fc4eef4fd9169e9e0b57aeecf9aec4fccfb6efc4bce1e5", checked := Try.checked }
namespace Rows
def none {H : Type} : Left H := { results := [], args := [] }

/-- 'laws.FnOverstows': WHATEVER THE INPUT: true; the input reads as it did. -/
def fnOverstowsSpec : ChangeSpec := { name := "fnOverstows", fn := fun _ => fun
  | [d] => { results := [.lit (.bool true)], args := [d] }
  | _ => none }
def fnOverstowsRow : OpenClaim := { program := "ytmgnbkiphdlooaa", sum := "7480df32c9f78a8316fc4eef4fd9169e9e0b57aeecf9aec4fccfb6efc4bce1e5", func := "loop.example/containerport/laws.FnOverstows", spec := "fnOverstows", inPlace := ["internal/bytealg.IndexByteString"], apart := false }
def FnOverstowsSaid : Prop := fnOverstowsRow.holds Try.pinned (OpenSpec.ofChange fnOverstowsSpec)

/-- ITS FALSE NEIGHBOUR: 'it returns false'. Refute it at one input. -/
def fnOverstowsWrong : ChangeSpec := { name := "fnOverstows", fn := fun _ => fun
  | [d] => { results := [.lit (.bool false)], args := [d] }
  | _ => none }
def FnOverstowsWrongFalsely : Prop := fnOverstowsRow.holds Try.pinned (OpenSpec.ofChange fnOverstowsWrong)

/-- 'laws.FnPortMoves': WHATEVER THE INPUT: true; the input reads as it did. -/
def fnPortMovesSpec : ChangeSpec := { name := "fnPortMoves", fn := fun _ => fun
  | [d] => { results := [.lit (.bool true)], args := [d] }
  | _ => none }
def fnPortMovesRow : OpenClaim := { program := "ytmgnbkiphdlooaa", sum := "7480df32c9f78a8316fc4eef4fd9169e9e0b57aeecf9aec4fccfb6efc4bce1e5", func := "loop.example/containerport/laws.FnPortMoves", spec := "fnPortMoves", inPlace := ["internal/bytealg.IndexByteString"], apart := false }
def FnPortMovesSaid : Prop := fnPortMovesRow.holds Try.pinned (OpenSpec.ofChange fnPortMovesSpec)

/-- ITS FALSE NEIGHBOUR: 'it returns false'. Refute it at one input. -/
def fnPortMovesWrong : ChangeSpec := { name := "fnPortMoves", fn := fun _ => fun
  | [d] => { results := [.lit (.bool false)], args := [d] }
  | _ => none }
def FnPortMovesWrongFalsely : Prop := fnPortMovesRow.holds Try.pinned (OpenSpec.ofChange fnPortMovesWrong)

/-- 'laws.FnAfterPort': WHATEVER THE INPUT: true; the input reads as it did. -/
def fnAfterPortSpec : ChangeSpec := { name := "fnAfterPort", fn := fun _ => fun
  | [d] => { results := [.lit (.bool true)], args := [d] }
  | _ => none }
def fnAfterPortRow : OpenClaim := { program := "ytmgnbkiphdlooaa", sum := "7480df32c9f78a8316fc4eef4fd9169e9e0b57aeecf9aec4fccfb6efc4bce1e5", func := "loop.example/containerport/laws.FnAfterPort", spec := "fnAfterPort", inPlace := ["internal/bytealg.IndexByteString"], apart := false }
def FnAfterPortSaid : Prop := fnAfterPortRow.holds Try.pinned (OpenSpec.ofChange fnAfterPortSpec)

/-- ITS FALSE NEIGHBOUR: 'it returns false'. Refute it at one input. -/
def fnAfterPortWrong : ChangeSpec := { name := "fnAfterPort", fn := fun _ => fun
  | [d] => { results := [.lit (.bool false)], args := [d] }
  | _ => none }
def FnAfterPortWrongFalsely : Prop := fnAfterPortRow.holds Try.pinned (OpenSpec.ofChange fnAfterPortWrong)

/-- 'laws.FnVoyageMoves': WHATEVER THE INPUT: true; the input reads as it did. -/
def fnVoyageMovesSpec : ChangeSpec := { name := "fnVoyageMoves", fn := fun _ => fun
  | [d] => { results := [.lit (.bool true)], args := [d] }
  | _ => none }
def fnVoyageMovesRow : OpenClaim := { program := "ytmgnbkiphdlooaa", sum := "7480df32c9f78a8316fc4eef4fd9169e9e0b57aeecf9aec4fccfb6efc4bce1e5", func := "loop.example/containerport/laws.FnVoyageMoves", spec := "fnVoyageMoves", inPlace := ["internal/bytealg.IndexByteString"], apart := false }
def FnVoyageMovesSaid : Prop := fnVoyageMovesRow.holds Try.pinned (OpenSpec.ofChange fnVoyageMovesSpec)

/-- ITS FALSE NEIGHBOUR: 'it returns false'. Refute it at one input. -/
def fnVoyageMovesWrong : ChangeSpec := { name := "fnVoyageMoves", fn := fun _ => fun
  | [d] => { results := [.lit (.bool false)], args := [d] }
  | _ => none }
def FnVoyageMovesWrongFalsely : Prop := fnVoyageMovesRow.holds Try.pinned (OpenSpec.ofChange fnVoyageMovesWrong)

/-- 'laws.FnExactOverstows': WHATEVER THE INPUT: true; the input reads as it did. -/
def fnExactOverstowsSpec : ChangeSpec := { name := "fnExactOverstows", fn := fun _ => fun
  | [d1, d2, d3] => { results := [.lit (.bool true)], args := [d1, d2, d3] }
  | _ => none }
def fnExactOverstowsRow : OpenClaim := { program := "ytmgnbkiphdlooaa", sum := "7480df32c9f78a8316fc4eef4fd9169e9e0b57aeecf9aec4fccfb6efc4bce1e5", func := "loop.example/containerport/laws.FnExactOverstows", spec := "fnExactOverstows", apart := false }
def FnExactOverstowsSaid : Prop := fnExactOverstowsRow.holds Try.pinned (OpenSpec.ofChange fnExactOverstowsSpec)

/-- ITS FALSE NEIGHBOUR: 'it returns false'. Refute it at one input. -/
def fnExactOverstowsWrong : ChangeSpec := { name := "fnExactOverstows", fn := fun _ => fun
  | [d1, d2, d3] => { results := [.lit (.bool false)], args := [d1, d2, d3] }
  | _ => none }
def FnExactOverstowsWrongFalsely : Prop := fnExactOverstowsRow.holds Try.pinned (OpenSpec.ofChange fnExactOverstowsWrong)

/-- 'laws.FnExactPortMoves': WHATEVER THE INPUT: true; the input reads as it did. -/
def fnExactPortMovesSpec : ChangeSpec := { name := "fnExactPortMoves", fn := fun _ => fun
  | [d1, d2, d3, d4] => { results := [.lit (.bool true)], args := [d1, d2, d3, d4] }
  | _ => none }
def fnExactPortMovesRow : OpenClaim := { program := "ytmgnbkiphdlooaa", sum := "7480df32c9f78a8316fc4eef4fd9169e9e0b57aeecf9aec4fccfb6efc4bce1e5", func := "loop.example/containerport/laws.FnExactPortMoves", spec := "fnExactPortMoves", apart := false }
def FnExactPortMovesSaid : Prop := fnExactPortMovesRow.holds Try.pinned (OpenSpec.ofChange fnExactPortMovesSpec)

/-- ITS FALSE NEIGHBOUR: 'it returns false'. Refute it at one input. -/
def fnExactPortMovesWrong : ChangeSpec := { name := "fnExactPortMoves", fn := fun _ => fun
  | [d1, d2, d3, d4] => { results := [.lit (.bool false)], args := [d1, d2, d3, d4] }
  | _ => none }
def FnExactPortMovesWrongFalsely : Prop := fnExactPortMovesRow.holds Try.pinned (OpenSpec.ofChange fnExactPortMovesWrong)

/-- 'laws.FnExactAfterPort': WHATEVER THE INPUT: true; the input reads as it did. -/
def fnExactAfterPortSpec : ChangeSpec := { name := "fnExactAfterPort", fn := fun _ => fun
  | [d1, d2, d3, d4] => { results := [.lit (.bool true)], args := [d1, d2, d3, d4] }
  | _ => none }
def fnExactAfterPortRow : OpenClaim := { program := "ytmgnbkiphdlooaa", sum := "7480df32c9f78a8316fc4eef4fd9169e9e0b57aeecf9aec4fccfb6efc4bce1e5", func := "loop.example/containerport/laws.FnExactAfterPort", spec := "fnExactAfterPort", apart := false }
def FnExactAfterPortSaid : Prop := fnExactAfterPortRow.holds Try.pinned (OpenSpec.ofChange fnExactAfterPortSpec)

/-- ITS FALSE NEIGHBOUR: 'it returns false'. Refute it at one input. -/
def fnExactAfterPortWrong : ChangeSpec := { name := "fnExactAfterPort", fn := fun _ => fun
  | [d1, d2, d3, d4] => { results := [.lit (.bool false)], args := [d1, d2, d3, d4] }
  | _ => none }
def FnExactAfterPortWrongFalsely : Prop := fnExactAfterPortRow.holds Try.pinned (OpenSpec.ofChange fnExactAfterPortWrong)

/-- 'laws.FnExactVoyageMoves': WHATEVER THE INPUT: true; the input reads as it did. -/
def fnExactVoyageMovesSpec : ChangeSpec := { name := "fnExactVoyageMoves", fn := fun _ => fun
  | [d1, d2, d3] => { results := [.lit (.bool true)], args := [d1, d2, d3] }
  | _ => none }
def fnExactVoyageMovesRow : OpenClaim := { program := "ytmgnbkiphdlooaa", sum := "7480df32c9f78a8316fc4eef4fd9169e9e0b57aeecf9aec4fccfb6efc4bce1e5", func := "loop.example/containerport/laws.FnExactVoyageMoves", spec := "fnExactVoyageMoves", apart := false }
def FnExactVoyageMovesSaid : Prop := fnExactVoyageMovesRow.holds Try.pinned (OpenSpec.ofChange fnExactVoyageMovesSpec)

/-- ITS FALSE NEIGHBOUR: 'it returns false'. Refute it at one input. -/
def fnExactVoyageMovesWrong : ChangeSpec := { name := "fnExactVoyageMoves", fn := fun _ => fun
  | [d1, d2, d3] => { results := [.lit (.bool false)], args := [d1, d2, d3] }
  | _ => none }
def FnExactVoyageMovesWrongFalsely : Prop := fnExactVoyageMovesRow.holds Try.pinned (OpenSpec.ofChange fnExactVoyageMovesWrong)

/- THE SECOND FORM. 'bulk': how many values and letters a reading holds, each counted each time it is reached (what is shared counts as often as it is met; a slice's spare places count too). A statement '..UptoSaid' is the law's where the arguments, and the package variables that the reading takes, are together of bulk at most 1048576: NARROWER than '..Said'. Prove '..Said' where nothing that the law and all that it calls make is longer than what came in: it says more and counts as full. Else prove '..UptoSaid'. A law counts once. -/
mutual
def uptoBulk {H : Type} : DataW H → Nat
  | .lit (.string bytes) => bytes.length + 1
  | .lit _ => 1
  | .nil => 1
  | .ptr d => uptoBulk d + 1
  | .slice elems spare => uptoBulkAll elems + uptoBulkAll spare + 1
  | .agg parts => uptoBulkAll parts + 1
  | .iface _ d => uptoBulk d + 1
  | .map entries => uptoBulkEntries entries + 1
  | .held _ => 1
def uptoBulkAll {H : Type} : List (DataW H) → Nat
  | [] => 0
  | d :: r => uptoBulk d + uptoBulkAll r
def uptoBulkEntries {H : Type} : List (Lit × DataW H) → Nat
  | [] => 0
  | x :: r => uptoBulkEntry x + uptoBulkEntries r
def uptoBulkEntry {H : Type} : Lit × DataW H → Nat
  | (.string bytes, d) => bytes.length + uptoBulk d + 1
  | (_, d) => uptoBulk d + 1
 end
def uptoSmall : (H : Type) → List (DataW H) → Bool := fun _ ds => decide (uptoBulkAll ds ≤ 1048576)
def OpenSpec.upto (s : _root_.Go.ChangeSpec) : _root_.Go.OpenSpec := { _root_.Go.OpenSpec.ofChange s with cond := some uptoSmall }

/-- 'laws.FnOverstows', WHERE WHAT IT READS IS OF BULK AT MOST 1048576: true; the input reads as it did. -/
def fnOverstowsUptoRow : OpenClaim := { program := "ytmgnbkiphdlooaa", sum := "7480df32c9f78a8316fc4eef4fd9169e9e0b57aeecf9aec4fccfb6efc4bce1e5", func := "loop.example/containerport/laws.FnOverstows", spec := "fnOverstows", inPlace := ["internal/bytealg.IndexByteString"], apart := false, narrowed := true }
def FnOverstowsUptoSaid : Prop := fnOverstowsUptoRow.holds Try.pinned (OpenSpec.upto fnOverstowsSpec)

/-- 'laws.FnPortMoves', WHERE WHAT IT READS IS OF BULK AT MOST 1048576: true; the input reads as it did. -/
def fnPortMovesUptoRow : OpenClaim := { program := "ytmgnbkiphdlooaa", sum := "7480df32c9f78a8316fc4eef4fd9169e9e0b57aeecf9aec4fccfb6efc4bce1e5", func := "loop.example/containerport/laws.FnPortMoves", spec := "fnPortMoves", inPlace := ["internal/bytealg.IndexByteString"], apart := false, narrowed := true }
def FnPortMovesUptoSaid : Prop := fnPortMovesUptoRow.holds Try.pinned (OpenSpec.upto fnPortMovesSpec)

/-- 'laws.FnAfterPort', WHERE WHAT IT READS IS OF BULK AT MOST 1048576: true; the input reads as it did. -/
def fnAfterPortUptoRow : OpenClaim := { program := "ytmgnbkiphdlooaa", sum := "7480df32c9f78a8316fc4eef4fd9169e9e0b57aeecf9aec4fccfb6efc4bce1e5", func := "loop.example/containerport/laws.FnAfterPort", spec := "fnAfterPort", inPlace := ["internal/bytealg.IndexByteString"], apart := false, narrowed := true }
def FnAfterPortUptoSaid : Prop := fnAfterPortUptoRow.holds Try.pinned (OpenSpec.upto fnAfterPortSpec)

/-- 'laws.FnVoyageMoves', WHERE WHAT IT READS IS OF BULK AT MOST 1048576: true; the input reads as it did. -/
def fnVoyageMovesUptoRow : OpenClaim := { program := "ytmgnbkiphdlooaa", sum := "7480df32c9f78a8316fc4eef4fd9169e9e0b57aeecf9aec4fccfb6efc4bce1e5", func := "loop.example/containerport/laws.FnVoyageMoves", spec := "fnVoyageMoves", inPlace := ["internal/bytealg.IndexByteString"], apart := false, narrowed := true }
def FnVoyageMovesUptoSaid : Prop := fnVoyageMovesUptoRow.holds Try.pinned (OpenSpec.upto fnVoyageMovesSpec)

/-- 'laws.FnExactOverstows', WHERE WHAT IT READS IS OF BULK AT MOST 1048576: true; the input reads as it did. -/
def fnExactOverstowsUptoRow : OpenClaim := { program := "ytmgnbkiphdlooaa", sum := "7480df32c9f78a8316fc4eef4fd9169e9e0b57aeecf9aec4fccfb6efc4bce1e5", func := "loop.example/containerport/laws.FnExactOverstows", spec := "fnExactOverstows", apart := false, narrowed := true }
def FnExactOverstowsUptoSaid : Prop := fnExactOverstowsUptoRow.holds Try.pinned (OpenSpec.upto fnExactOverstowsSpec)

/-- 'laws.FnExactPortMoves', WHERE WHAT IT READS IS OF BULK AT MOST 1048576: true; the input reads as it did. -/
def fnExactPortMovesUptoRow : OpenClaim := { program := "ytmgnbkiphdlooaa", sum := "7480df32c9f78a8316fc4eef4fd9169e9e0b57aeecf9aec4fccfb6efc4bce1e5", func := "loop.example/containerport/laws.FnExactPortMoves", spec := "fnExactPortMoves", apart := false, narrowed := true }
def FnExactPortMovesUptoSaid : Prop := fnExactPortMovesUptoRow.holds Try.pinned (OpenSpec.upto fnExactPortMovesSpec)

/-- 'laws.FnExactAfterPort', WHERE WHAT IT READS IS OF BULK AT MOST 1048576: true; the input reads as it did. -/
def fnExactAfterPortUptoRow : OpenClaim := { program := "ytmgnbkiphdlooaa", sum := "7480df32c9f78a8316fc4eef4fd9169e9e0b57aeecf9aec4fccfb6efc4bce1e5", func := "loop.example/containerport/laws.FnExactAfterPort", spec := "fnExactAfterPort", apart := false, narrowed := true }
def FnExactAfterPortUptoSaid : Prop := fnExactAfterPortUptoRow.holds Try.pinned (OpenSpec.upto fnExactAfterPortSpec)

/-- 'laws.FnExactVoyageMoves', WHERE WHAT IT READS IS OF BULK AT MOST 1048576: true; the input reads as it did. -/
def fnExactVoyageMovesUptoRow : OpenClaim := { program := "ytmgnbkiphdlooaa", sum := "7480df32c9f78a8316fc4eef4fd9169e9e0b57aeecf9aec4fccfb6efc4bce1e5", func := "loop.example/containerport/laws.FnExactVoyageMoves", spec := "fnExactVoyageMoves", apart := false, narrowed := true }
def FnExactVoyageMovesUptoSaid : Prop := fnExactVoyageMovesUptoRow.holds Try.pinned (OpenSpec.upto fnExactVoyageMovesSpec)

end Rows
end Go.Proofs.Ytmgnbkiphdlooaa
