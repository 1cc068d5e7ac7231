/-
  No cell of these rows narrows 'for every input' (looked for: loops, veiled, ifaces, maps, wideKeys, modest, calm, conditions, laid).
  DERIVED. THE GIVEN ROWS OF THIS SEAT. 8 by the template 'for every input the law returns true; each argument reads behind the call as it read before'; 0 by the template 'total and deterministic' (their statements: YtnjmdfjplmakpaaTotals.lean).
  GIVEN WITH THE SEED: the statements are not yours to turn. If you find one false, say at which input.
  Laid BY PROGRAM, IN A SANDBOX (cutbox-rows.mjs): the forced cells as the released guide's own fill.sh prints them over the translation 851498fc5be71e55… (all of the seat's roots in one cut). By AI agents, Wed Nov 11 2026. No macro, syntax, notation, axiom, sorry.
-/
import Derived.Test.YtnjmdfjplmakpaaChecked
import GoSem.Claim
import GoSem.ClaimJoined
import GoSem.ClaimMapViews
import Derived.JoinedTies
import Derived.KernelRfl
namespace Go.Proofs.Ytnjmdfjplmakpaa
/- THE CELL 'sum', in the pinned program and in every row, IS THE sha256 OF THE DUMP (.gsa) THAT YtnjmdfjplmakpaaProg.lean LOADS. Nothing in Lean hashes anything: it is a label: what it is worth is what the hold of that sum in a sandbox is worth. -/
noncomputable def Try.pinned : Pinned := { name := "ytnjmdfjplmakpaa", sum := "851498fc5be71e55d27509f3bc5555af8ad067767b98c7e8dec38ec144af2a7a", checked := Try.checked }
namespace Rows
def none {H : Type} : Left H := { results := [], args := [] }

/-- 'laws.FnStackValid': WHATEVER THE INPUT: true; the input reads as it did. -/
def fnStackValidSpec : ChangeSpec := { name := "fnStackValid", fn := fun _ => fun
  | [d] => { results := [.lit (.bool true)], args := [d] }
  | _ => none }
def fnStackValidRow : OpenClaim := { program := "ytnjmdfjplmakpaa", sum := "851498fc5be71e55d27509f3bc5555af8ad067767b98c7e8dec38ec144af2a7a", func := "loop.example/containerport/laws.FnStackValid", spec := "fnStackValid", inPlace := ["internal/bytealg.IndexByteString"], apart := false }
def FnStackValidSaid : Prop := fnStackValidRow.holds Try.pinned (OpenSpec.ofChange fnStackValidSpec)

/-- ITS FALSE NEIGHBOUR: 'it returns false'. Refute it at one input. -/
def fnStackValidWrong : ChangeSpec := { name := "fnStackValid", fn := fun _ => fun
  | [d] => { results := [.lit (.bool false)], args := [d] }
  | _ => none }
def FnStackValidWrongFalsely : Prop := fnStackValidRow.holds Try.pinned (OpenSpec.ofChange fnStackValidWrong)

/-- 'laws.FnStackPut': WHATEVER THE INPUT: true; the input reads as it did. -/
def fnStackPutSpec : ChangeSpec := { name := "fnStackPut", fn := fun _ => fun
  | [d] => { results := [.lit (.bool true)], args := [d] }
  | _ => none }
def fnStackPutRow : OpenClaim := { program := "ytnjmdfjplmakpaa", sum := "851498fc5be71e55d27509f3bc5555af8ad067767b98c7e8dec38ec144af2a7a", func := "loop.example/containerport/laws.FnStackPut", spec := "fnStackPut", inPlace := ["internal/bytealg.IndexByteString"], apart := false }
def FnStackPutSaid : Prop := fnStackPutRow.holds Try.pinned (OpenSpec.ofChange fnStackPutSpec)

/-- ITS FALSE NEIGHBOUR: 'it returns false'. Refute it at one input. -/
def fnStackPutWrong : ChangeSpec := { name := "fnStackPut", fn := fun _ => fun
  | [d] => { results := [.lit (.bool false)], args := [d] }
  | _ => none }
def FnStackPutWrongFalsely : Prop := fnStackPutRow.holds Try.pinned (OpenSpec.ofChange fnStackPutWrong)

/-- 'laws.FnStackTake': WHATEVER THE INPUT: true; the input reads as it did. -/
def fnStackTakeSpec : ChangeSpec := { name := "fnStackTake", fn := fun _ => fun
  | [d] => { results := [.lit (.bool true)], args := [d] }
  | _ => none }
def fnStackTakeRow : OpenClaim := { program := "ytnjmdfjplmakpaa", sum := "851498fc5be71e55d27509f3bc5555af8ad067767b98c7e8dec38ec144af2a7a", func := "loop.example/containerport/laws.FnStackTake", spec := "fnStackTake", inPlace := ["internal/bytealg.IndexByteString"], apart := false }
def FnStackTakeSaid : Prop := fnStackTakeRow.holds Try.pinned (OpenSpec.ofChange fnStackTakeSpec)

/-- ITS FALSE NEIGHBOUR: 'it returns false'. Refute it at one input. -/
def fnStackTakeWrong : ChangeSpec := { name := "fnStackTake", fn := fun _ => fun
  | [d] => { results := [.lit (.bool false)], args := [d] }
  | _ => none }
def FnStackTakeWrongFalsely : Prop := fnStackTakeRow.holds Try.pinned (OpenSpec.ofChange fnStackTakeWrong)

/-- 'laws.FnStackAbove': WHATEVER THE INPUT: true; the input reads as it did. -/
def fnStackAboveSpec : ChangeSpec := { name := "fnStackAbove", fn := fun _ => fun
  | [d] => { results := [.lit (.bool true)], args := [d] }
  | _ => none }
def fnStackAboveRow : OpenClaim := { program := "ytnjmdfjplmakpaa", sum := "851498fc5be71e55d27509f3bc5555af8ad067767b98c7e8dec38ec144af2a7a", func := "loop.example/containerport/laws.FnStackAbove", spec := "fnStackAbove", inPlace := ["internal/bytealg.IndexByteString"], apart := false }
def FnStackAboveSaid : Prop := fnStackAboveRow.holds Try.pinned (OpenSpec.ofChange fnStackAboveSpec)

/-- ITS FALSE NEIGHBOUR: 'it returns false'. Refute it at one input. -/
def fnStackAboveWrong : ChangeSpec := { name := "fnStackAbove", fn := fun _ => fun
  | [d] => { results := [.lit (.bool false)], args := [d] }
  | _ => none }
def FnStackAboveWrongFalsely : Prop := fnStackAboveRow.holds Try.pinned (OpenSpec.ofChange fnStackAboveWrong)

/-- 'laws.FnExactStackValid': WHATEVER THE INPUT: true; the input reads as it did. -/
def fnExactStackValidSpec : ChangeSpec := { name := "fnExactStackValid", fn := fun _ => fun
  | [d1, d2] => { results := [.lit (.bool true)], args := [d1, d2] }
  | _ => none }
def fnExactStackValidRow : OpenClaim := { program := "ytnjmdfjplmakpaa", sum := "851498fc5be71e55d27509f3bc5555af8ad067767b98c7e8dec38ec144af2a7a", func := "loop.example/containerport/laws.FnExactStackValid", spec := "fnExactStackValid", apart := false }
def FnExactStackValidSaid : Prop := fnExactStackValidRow.holds Try.pinned (OpenSpec.ofChange fnExactStackValidSpec)

/-- ITS FALSE NEIGHBOUR: 'it returns false'. Refute it at one input. -/
def fnExactStackValidWrong : ChangeSpec := { name := "fnExactStackValid", fn := fun _ => fun
  | [d1, d2] => { results := [.lit (.bool false)], args := [d1, d2] }
  | _ => none }
def FnExactStackValidWrongFalsely : Prop := fnExactStackValidRow.holds Try.pinned (OpenSpec.ofChange fnExactStackValidWrong)

/-- 'laws.FnExactStackPut': WHATEVER THE INPUT: true; the input reads as it did. -/
def fnExactStackPutSpec : ChangeSpec := { name := "fnExactStackPut", fn := fun _ => fun
  | [d1, d2, d3] => { results := [.lit (.bool true)], args := [d1, d2, d3] }
  | _ => none }
def fnExactStackPutRow : OpenClaim := { program := "ytnjmdfjplmakpaa", sum := "851498fc5be71e55d27509f3bc5555af8ad067767b98c7e8dec38ec144af2a7a", func := "loop.example/containerport/laws.FnExactStackPut", spec := "fnExactStackPut", apart := false }
def FnExactStackPutSaid : Prop := fnExactStackPutRow.holds Try.pinned (OpenSpec.ofChange fnExactStackPutSpec)

/-- ITS FALSE NEIGHBOUR: 'it returns false'. Refute it at one input. -/
def fnExactStackPutWrong : ChangeSpec := { name := "fnExactStackPut", fn := fun _ => fun
  | [d1, d2, d3] => { results := [.lit (.bool false)], args := [d1, d2, d3] }
  | _ => none }
def FnExactStackPutWrongFalsely : Prop := fnExactStackPutRow.holds Try.pinned (OpenSpec.ofChange fnExactStackPutWrong)

/-- 'laws.FnExactStackTake': WHATEVER THE INPUT: true; the input reads as it did. -/
def fnExactStackTakeSpec : ChangeSpec := { name := "fnExactStackTake", fn := fun _ => fun
  | [d1, d2] => { results := [.lit (.bool true)], args := [d1, d2] }
  | _ => none }
def fnExactStackTakeRow : OpenClaim := { program := "ytnjmdfjplmakpaa", sum := "851498fc5be71e55d27509f3bc5555af8ad067767b98c7e8dec38ec144af2a7a", func := "loop.example/containerport/laws.FnExactStackTake", spec := "fnExactStackTake", apart := false }
def FnExactStackTakeSaid : Prop := fnExactStackTakeRow.holds Try.pinned (OpenSpec.ofChange fnExactStackTakeSpec)

/-- ITS FALSE NEIGHBOUR: 'it returns false'. Refute it at one input. -/
def fnExactStackTakeWrong : ChangeSpec := { name := "fnExactStackTake", fn := fun _ => fun
  | [d1, d2] => { results := [.lit (.bool false)], args := [d1, d2] }
  | _ => none }
def FnExactStackTakeWrongFalsely : Prop := fnExactStackTakeRow.holds Try.pinned (OpenSpec.ofChange fnExactStackTakeWrong)

/-- 'laws.FnExactStackAbove': WHATEVER THE INPUT: true; the input reads as it did. -/
def fnExactStackAboveSpec : ChangeSpec := { name := "fnExactStackAbove", fn := fun _ => fun
  | [d1, d2, d3] => { results := [.lit (.bool true)], args := [d1, d2, d3] }
  | _ => none }
def fnExactStackAboveRow : OpenClaim := { program := "ytnjmdfjplmakpaa", sum := "851498fc5be71e55d27509f3bc5555af8ad067767b98c7e8dec38ec144af2a7a", func := "loop.example/containerport/laws.FnExactStackAbove", spec := "fnExactStackAbove", apart := false }
def FnExactStackAboveSaid : Prop := fnExactStackAboveRow.holds Try.pinned (OpenSpec.ofChange fnExactStackAboveSpec)

/-- ITS FALSE NEIGHBOUR: 'it returns false'. Refute it at one input. -/
def fnExactStackAboveWrong : ChangeSpec := { name := "fnExactStackAbove", fn := fun _ => fun
  | [d1, d2, d3] => { results := [.lit (.bool false)], args := [d1, d2, d3] }
  | _ => none }
def FnExactStackAboveWrongFalsely : Prop := fnExactStackAboveRow.holds Try.pinned (OpenSpec.ofChange fnExactStackAboveWrong)

/- THE SECOND FORM. 'bulk': how many values and letters a reading holds, each counted each time it is reached (what is shared counts as often as it is met; a slice's spare places count too). A statement '..UptoSaid' is the law's where the arguments, and the package variables that the reading takes, are together of bulk at most 1048576: NARROWER than '..Said'. Prove '..Said' where nothing that the law and all that it calls make is longer than what came in: it says more and counts as full. Else prove '..UptoSaid'. A law counts once. -/
mutual
def uptoBulk {H : Type} : DataW H → Nat
  | .lit (.string bytes) => bytes.length + 1
  | .lit _ => 1
  | .nil => 1
  | .ptr d => uptoBulk d + 1
  | .slice elems spare => uptoBulkAll elems + uptoBulkAll spare + 1
  | .agg parts => uptoBulkAll parts + 1
  | .iface _ d => uptoBulk d + 1
  | .map entries => uptoBulkEntries entries + 1
  | .held _ => 1
def uptoBulkAll {H : Type} : List (DataW H) → Nat
  | [] => 0
  | d :: r => uptoBulk d + uptoBulkAll r
def uptoBulkEntries {H : Type} : List (Lit × DataW H) → Nat
  | [] => 0
  | x :: r => uptoBulkEntry x + uptoBulkEntries r
def uptoBulkEntry {H : Type} : Lit × DataW H → Nat
  | (.string bytes, d) => bytes.length + uptoBulk d + 1
  | (_, d) => uptoBulk d + 1
 end
def uptoSmall : (H : Type) → List (DataW H) → Bool := fun _ ds => decide (uptoBulkAll ds ≤ 1048576)
def OpenSpec.upto (s : _root_.Go.ChangeSpec) : _root_.Go.OpenSpec := { _root_.Go.OpenSpec.ofChange s with cond := some uptoSmall }

/-- 'laws.FnStackValid', WHERE WHAT IT READS IS OF BULK AT MOST 1048576: true; the input reads as it did. -/
def fnStackValidUptoRow : OpenClaim := { program := "ytnjmdfjplmakpaa", sum := "851498fc5be71e55d27509f3bc5555af8ad067767b98c7e8dec38ec144af2a7a", func := "loop.example/containerport/laws.FnStackValid", spec := "fnStackValid", inPlace := ["internal/bytealg.IndexByteString"], apart := false, narrowed := true }
def FnStackValidUptoSaid : Prop := fnStackValidUptoRow.holds Try.pinned (OpenSpec.upto fnStackValidSpec)

/-- 'laws.FnStackPut', WHERE WHAT IT READS IS OF BULK AT MOST 1048576: true; the input reads as it did. -/
def fnStackPutUptoRow : OpenClaim := { program := "ytnjmdfjplmakpaa", sum := "851498fc5be71e55d27509f3bc5555af8ad067767b98c7e8dec38ec144af2a7a", func := "loop.example/containerport/laws.FnStackPut", spec := "fnStackPut", inPlace := ["internal/bytealg.IndexByteString"], apart := false, narrowed := true }
def FnStackPutUptoSaid : Prop := fnStackPutUptoRow.holds Try.pinned (OpenSpec.upto fnStackPutSpec)

/-- 'laws.FnStackTake', WHERE WHAT IT READS IS OF BULK AT MOST 1048576: true; the input reads as it did. -/
def fnStackTakeUptoRow : OpenClaim := { program := "ytnjmdfjplmakpaa", sum := "851498fc5be71e55d27509f3bc5555af8ad067767b98c7e8dec38ec144af2a7a", func := "loop.example/containerport/laws.FnStackTake", spec := "fnStackTake", inPlace := ["internal/bytealg.IndexByteString"], apart := false, narrowed := true }
def FnStackTakeUptoSaid : Prop := fnStackTakeUptoRow.holds Try.pinned (OpenSpec.upto fnStackTakeSpec)

/-- 'laws.FnStackAbove', WHERE WHAT IT READS IS OF BULK AT MOST 1048576: true; the input reads as it did. -/
def fnStackAboveUptoRow : OpenClaim := { program := "ytnjmdfjplmakpaa", sum := "851498fc5be71e55d27509f3bc5555af8ad067767b98c7e8dec38ec144af2a7a", func := "loop.example/containerport/laws.FnStackAbove", spec := "fnStackAbove", inPlace := ["internal/bytealg.IndexByteString"], apart := false, narrowed := true }
def FnStackAboveUptoSaid : Prop := fnStackAboveUptoRow.holds Try.pinned (OpenSpec.upto fnStackAboveSpec)

/-- 'laws.FnExactStackValid', WHERE WHAT IT READS IS OF BULK AT MOST 1048576: true; the input reads as it did. -/
def fnExactStackValidUptoRow : OpenClaim := { program := "ytnjmdfjplmakpaa", sum := "851498fc5be71e55d27509f3bc5555af8ad067767b98c7e8dec38ec144af2a7a", func := "loop.example/containerport/laws.FnExactStackValid", spec := "fnExactStackValid", apart := false, narrowed := true }
def FnExactStackValidUptoSaid : Prop := fnExactStackValidUptoRow.holds Try.pinned (OpenSpec.upto fnExactStackValidSpec)

/-- 'laws.FnExactStackPut', WHERE WHAT IT READS IS OF BULK AT MOST 1048576: true; the input reads as it did. -/
def fnExactStackPutUptoRow : OpenClaim := { program := "ytnjmdfjplmakpaa", sum := "851498fc5be71e55d27509f3bc5555af8ad067767b98c7e8dec38ec144af2a7a", func := "loop.example/containerport/laws.FnExactStackPut", spec := "fnExactStackPut", apart := false, narrowed := true }
def FnExactStackPutUptoSaid : Prop := fnExactStackPutUptoRow.holds Try.pinned (OpenSpec.upto fnExactStackPutSpec)

/-- 'laws.FnExactStackTake', WHERE WHAT IT READS IS OF BULK AT MOST 1048576: true; the input reads as it did. -/
def fnExactStackTakeUptoRow : OpenClaim := { program := "ytnjmdfjplmakpaa", sum := "851498fc5be71e55d27509f3bc5555af8ad067767b98c7e8dec38ec144af2a7a", func := "loop.example/containerport/laws.FnExactStackTake", spec := "fnExactStackTake", apart := false, narrowed := true }
def FnExactStackTakeUptoSaid : Prop := fnExactStackTakeUptoRow.holds Try.pinned (OpenSpec.upto fnExactStackTakeSpec)

/-- 'laws.FnExactStackAbove', WHERE WHAT IT READS IS OF BULK AT MOST 1048576: true; the input reads as it did. -/
def fnExactStackAboveUptoRow : OpenClaim := { program := "ytnjmdfjplmakpaa", sum := "851498fc5be71e55d27509f3bc5555af8ad067767b98c7e8dec38ec144af2a7a", func := "loop.example/containerport/laws.FnExactStackAbove", spec := "fnExactStackAbove", apart := false, narrowed := true }
def FnExactStackAboveUptoSaid : Prop := fnExactStackAboveUptoRow.holds Try.pinned (OpenSpec.upto fnExactStackAboveSpec)

end Rows
end Go.Proofs.Ytnjmdfjplmakpaa
