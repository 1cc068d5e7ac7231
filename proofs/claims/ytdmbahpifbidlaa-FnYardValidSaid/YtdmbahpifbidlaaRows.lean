/-
  No cell of these rows narrows 'for every input' (looked for: loops, veiled, ifaces, maps, wideKeys, modest, calm, conditions, laid).
  DERIVED. THE GIVEN ROWS OF THIS SEAT. 12 by the template 'for every input the law returns true; each argument reads behind the call as it read before'; 0 by the template 'total and deterministic' (their statements: YtdmbahpifbidlaaTotals.lean).
  GIVEN WITH THE SEED: the statements are not yours to turn. If you find one false, say at which input.
  Laid BY PROGRAM, IN A SANDBOX (cutbox-rows.mjs): the forced cells as the released guide's own fill.sh prints them over the translation e0189569f138a5bb… (all of the seat's roots in one cut). By AI agents, Wed Nov 11 2026. No macro, syntax, notation, axiom, sorry.
-/
import Derived.Test.YtdmbahpifbidlaaChecked
import GoSem.Claim
import GoSem.ClaimJoined
import GoSem.ClaimMapViews
import Derived.JoinedTies
import Derived.KernelRfl
namespace Go.Proofs.Ytdmbahpifbidlaa
/- THE CELL 'sum', in the pinned program and in every row, IS THE sha256 OF THE DUMP (.gsa) THAT YtdmbahpifbidlaaProg.lean LOADS. Nothing in Lean hashes anything: it is a label: what it is worth is what the hold of that sum in a sandbox is worth. -/
noncomputable def Try.pinned : Pinned := { name := "ytdmbahpifbidlaa", sum := "e0189569f138a5bb0ffe693db06038c6d7c1fe60cc19259c02f54ed86bb4069c", checked := Try.checked }
namespace Rows
def none {H : Type} : Left H := { results := [], args := [] }

/-- 'laws.FnYardValid': WHATEVER THE INPUT: true; the input reads as it did. -/
def fnYardValidSpec : ChangeSpec := { name := "fnYardValid", fn := fun _ => fun
  | [d] => { results := [.lit (.bool true)], args := [d] }
  | _ => none }
def fnYardValidRow : OpenClaim := { program := "ytdmbahpifbidlaa", sum := "e0189569f138a5bb0ffe693db06038c6d7c1fe60cc19259c02f54ed86bb4069c", func := "loop.example/containerport/laws.FnYardValid", spec := "fnYardValid", inPlace := ["internal/bytealg.IndexByteString"], recurses := true, apart := false }
def FnYardValidSaid : Prop := fnYardValidRow.holds Try.pinned (OpenSpec.ofChange fnYardValidSpec)

/-- ITS FALSE NEIGHBOUR: 'it returns false'. Refute it at one input. -/
def fnYardValidWrong : ChangeSpec := { name := "fnYardValid", fn := fun _ => fun
  | [d] => { results := [.lit (.bool false)], args := [d] }
  | _ => none }
def FnYardValidWrongFalsely : Prop := fnYardValidRow.holds Try.pinned (OpenSpec.ofChange fnYardValidWrong)

/-- 'laws.FnYardFind': WHATEVER THE INPUT: true; the input reads as it did. -/
def fnYardFindSpec : ChangeSpec := { name := "fnYardFind", fn := fun _ => fun
  | [d] => { results := [.lit (.bool true)], args := [d] }
  | _ => none }
def fnYardFindRow : OpenClaim := { program := "ytdmbahpifbidlaa", sum := "e0189569f138a5bb0ffe693db06038c6d7c1fe60cc19259c02f54ed86bb4069c", func := "loop.example/containerport/laws.FnYardFind", spec := "fnYardFind", inPlace := ["internal/bytealg.IndexByteString"], recurses := true, apart := false }
def FnYardFindSaid : Prop := fnYardFindRow.holds Try.pinned (OpenSpec.ofChange fnYardFindSpec)

/-- ITS FALSE NEIGHBOUR: 'it returns false'. Refute it at one input. -/
def fnYardFindWrong : ChangeSpec := { name := "fnYardFind", fn := fun _ => fun
  | [d] => { results := [.lit (.bool false)], args := [d] }
  | _ => none }
def FnYardFindWrongFalsely : Prop := fnYardFindRow.holds Try.pinned (OpenSpec.ofChange fnYardFindWrong)

/-- 'laws.FnYardIds': WHATEVER THE INPUT: true; the input reads as it did. -/
def fnYardIdsSpec : ChangeSpec := { name := "fnYardIds", fn := fun _ => fun
  | [d] => { results := [.lit (.bool true)], args := [d] }
  | _ => none }
def fnYardIdsRow : OpenClaim := { program := "ytdmbahpifbidlaa", sum := "e0189569f138a5bb0ffe693db06038c6d7c1fe60cc19259c02f54ed86bb4069c", func := "loop.example/containerport/laws.FnYardIds", spec := "fnYardIds", inPlace := ["internal/bytealg.IndexByteString"], recurses := true, apart := false }
def FnYardIdsSaid : Prop := fnYardIdsRow.holds Try.pinned (OpenSpec.ofChange fnYardIdsSpec)

/-- ITS FALSE NEIGHBOUR: 'it returns false'. Refute it at one input. -/
def fnYardIdsWrong : ChangeSpec := { name := "fnYardIds", fn := fun _ => fun
  | [d] => { results := [.lit (.bool false)], args := [d] }
  | _ => none }
def FnYardIdsWrongFalsely : Prop := fnYardIdsRow.holds Try.pinned (OpenSpec.ofChange fnYardIdsWrong)

/-- 'laws.FnYardPut': WHATEVER THE INPUT: true; the input reads as it did. -/
def fnYardPutSpec : ChangeSpec := { name := "fnYardPut", fn := fun _ => fun
  | [d] => { results := [.lit (.bool true)], args := [d] }
  | _ => none }
def fnYardPutRow : OpenClaim := { program := "ytdmbahpifbidlaa", sum := "e0189569f138a5bb0ffe693db06038c6d7c1fe60cc19259c02f54ed86bb4069c", func := "loop.example/containerport/laws.FnYardPut", spec := "fnYardPut", inPlace := ["internal/bytealg.IndexByteString"], recurses := true, apart := false }
def FnYardPutSaid : Prop := fnYardPutRow.holds Try.pinned (OpenSpec.ofChange fnYardPutSpec)

/-- ITS FALSE NEIGHBOUR: 'it returns false'. Refute it at one input. -/
def fnYardPutWrong : ChangeSpec := { name := "fnYardPut", fn := fun _ => fun
  | [d] => { results := [.lit (.bool false)], args := [d] }
  | _ => none }
def FnYardPutWrongFalsely : Prop := fnYardPutRow.holds Try.pinned (OpenSpec.ofChange fnYardPutWrong)

/-- 'laws.FnYardTake': WHATEVER THE INPUT: true; the input reads as it did. -/
def fnYardTakeSpec : ChangeSpec := { name := "fnYardTake", fn := fun _ => fun
  | [d] => { results := [.lit (.bool true)], args := [d] }
  | _ => none }
def fnYardTakeRow : OpenClaim := { program := "ytdmbahpifbidlaa", sum := "e0189569f138a5bb0ffe693db06038c6d7c1fe60cc19259c02f54ed86bb4069c", func := "loop.example/containerport/laws.FnYardTake", spec := "fnYardTake", inPlace := ["internal/bytealg.IndexByteString"], recurses := true, apart := false }
def FnYardTakeSaid : Prop := fnYardTakeRow.holds Try.pinned (OpenSpec.ofChange fnYardTakeSpec)

/-- ITS FALSE NEIGHBOUR: 'it returns false'. Refute it at one input. -/
def fnYardTakeWrong : ChangeSpec := { name := "fnYardTake", fn := fun _ => fun
  | [d] => { results := [.lit (.bool false)], args := [d] }
  | _ => none }
def FnYardTakeWrongFalsely : Prop := fnYardTakeRow.holds Try.pinned (OpenSpec.ofChange fnYardTakeWrong)

/-- 'laws.FnYardMove': WHATEVER THE INPUT: true; the input reads as it did. -/
def fnYardMoveSpec : ChangeSpec := { name := "fnYardMove", fn := fun _ => fun
  | [d] => { results := [.lit (.bool true)], args := [d] }
  | _ => none }
def fnYardMoveRow : OpenClaim := { program := "ytdmbahpifbidlaa", sum := "e0189569f138a5bb0ffe693db06038c6d7c1fe60cc19259c02f54ed86bb4069c", func := "loop.example/containerport/laws.FnYardMove", spec := "fnYardMove", inPlace := ["internal/bytealg.IndexByteString"], recurses := true, apart := false }
def FnYardMoveSaid : Prop := fnYardMoveRow.holds Try.pinned (OpenSpec.ofChange fnYardMoveSpec)

/-- ITS FALSE NEIGHBOUR: 'it returns false'. Refute it at one input. -/
def fnYardMoveWrong : ChangeSpec := { name := "fnYardMove", fn := fun _ => fun
  | [d] => { results := [.lit (.bool false)], args := [d] }
  | _ => none }
def FnYardMoveWrongFalsely : Prop := fnYardMoveRow.holds Try.pinned (OpenSpec.ofChange fnYardMoveWrong)

/-- 'laws.FnYardRun': WHATEVER THE INPUT: true; the input reads as it did. -/
def fnYardRunSpec : ChangeSpec := { name := "fnYardRun", fn := fun _ => fun
  | [d] => { results := [.lit (.bool true)], args := [d] }
  | _ => none }
def fnYardRunRow : OpenClaim := { program := "ytdmbahpifbidlaa", sum := "e0189569f138a5bb0ffe693db06038c6d7c1fe60cc19259c02f54ed86bb4069c", func := "loop.example/containerport/laws.FnYardRun", spec := "fnYardRun", inPlace := ["internal/bytealg.IndexByteString"], recurses := true, apart := false }
def FnYardRunSaid : Prop := fnYardRunRow.holds Try.pinned (OpenSpec.ofChange fnYardRunSpec)

/-- ITS FALSE NEIGHBOUR: 'it returns false'. Refute it at one input. -/
def fnYardRunWrong : ChangeSpec := { name := "fnYardRun", fn := fun _ => fun
  | [d] => { results := [.lit (.bool false)], args := [d] }
  | _ => none }
def FnYardRunWrongFalsely : Prop := fnYardRunRow.holds Try.pinned (OpenSpec.ofChange fnYardRunWrong)

/-- 'laws.FnExactYardValid': WHATEVER THE INPUT: true; the input reads as it did. -/
def fnExactYardValidSpec : ChangeSpec := { name := "fnExactYardValid", fn := fun _ => fun
  | [d] => { results := [.lit (.bool true)], args := [d] }
  | _ => none }
def fnExactYardValidRow : OpenClaim := { program := "ytdmbahpifbidlaa", sum := "e0189569f138a5bb0ffe693db06038c6d7c1fe60cc19259c02f54ed86bb4069c", func := "loop.example/containerport/laws.FnExactYardValid", spec := "fnExactYardValid", recurses := true, apart := false }
def FnExactYardValidSaid : Prop := fnExactYardValidRow.holds Try.pinned (OpenSpec.ofChange fnExactYardValidSpec)

/-- ITS FALSE NEIGHBOUR: 'it returns false'. Refute it at one input. -/
def fnExactYardValidWrong : ChangeSpec := { name := "fnExactYardValid", fn := fun _ => fun
  | [d] => { results := [.lit (.bool false)], args := [d] }
  | _ => none }
def FnExactYardValidWrongFalsely : Prop := fnExactYardValidRow.holds Try.pinned (OpenSpec.ofChange fnExactYardValidWrong)

/-- 'laws.FnExactYardFind': WHATEVER THE INPUT: true; the input reads as it did. -/
def fnExactYardFindSpec : ChangeSpec := { name := "fnExactYardFind", fn := fun _ => fun
  | [d1, d2] => { results := [.lit (.bool true)], args := [d1, d2] }
  | _ => none }
def fnExactYardFindRow : OpenClaim := { program := "ytdmbahpifbidlaa", sum := "e0189569f138a5bb0ffe693db06038c6d7c1fe60cc19259c02f54ed86bb4069c", func := "loop.example/containerport/laws.FnExactYardFind", spec := "fnExactYardFind", recurses := true, apart := false }
def FnExactYardFindSaid : Prop := fnExactYardFindRow.holds Try.pinned (OpenSpec.ofChange fnExactYardFindSpec)

/-- ITS FALSE NEIGHBOUR: 'it returns false'. Refute it at one input. -/
def fnExactYardFindWrong : ChangeSpec := { name := "fnExactYardFind", fn := fun _ => fun
  | [d1, d2] => { results := [.lit (.bool false)], args := [d1, d2] }
  | _ => none }
def FnExactYardFindWrongFalsely : Prop := fnExactYardFindRow.holds Try.pinned (OpenSpec.ofChange fnExactYardFindWrong)

/-- 'laws.FnExactYardIds': WHATEVER THE INPUT: true; the input reads as it did. -/
def fnExactYardIdsSpec : ChangeSpec := { name := "fnExactYardIds", fn := fun _ => fun
  | [d] => { results := [.lit (.bool true)], args := [d] }
  | _ => none }
def fnExactYardIdsRow : OpenClaim := { program := "ytdmbahpifbidlaa", sum := "e0189569f138a5bb0ffe693db06038c6d7c1fe60cc19259c02f54ed86bb4069c", func := "loop.example/containerport/laws.FnExactYardIds", spec := "fnExactYardIds", recurses := true, apart := false }
def FnExactYardIdsSaid : Prop := fnExactYardIdsRow.holds Try.pinned (OpenSpec.ofChange fnExactYardIdsSpec)

/-- ITS FALSE NEIGHBOUR: 'it returns false'. Refute it at one input. -/
def fnExactYardIdsWrong : ChangeSpec := { name := "fnExactYardIds", fn := fun _ => fun
  | [d] => { results := [.lit (.bool false)], args := [d] }
  | _ => none }
def FnExactYardIdsWrongFalsely : Prop := fnExactYardIdsRow.holds Try.pinned (OpenSpec.ofChange fnExactYardIdsWrong)

/-- 'laws.FnExactYardPut': WHATEVER THE INPUT: true; the input reads as it did. -/
def fnExactYardPutSpec : ChangeSpec := { name := "fnExactYardPut", fn := fun _ => fun
  | [d1, d2, d3] => { results := [.lit (.bool true)], args := [d1, d2, d3] }
  | _ => none }
def fnExactYardPutRow : OpenClaim := { program := "ytdmbahpifbidlaa", sum := "e0189569f138a5bb0ffe693db06038c6d7c1fe60cc19259c02f54ed86bb4069c", func := "loop.example/containerport/laws.FnExactYardPut", spec := "fnExactYardPut", recurses := true, apart := false }
def FnExactYardPutSaid : Prop := fnExactYardPutRow.holds Try.pinned (OpenSpec.ofChange fnExactYardPutSpec)

/-- ITS FALSE NEIGHBOUR: 'it returns false'. Refute it at one input. -/
def fnExactYardPutWrong : ChangeSpec := { name := "fnExactYardPut", fn := fun _ => fun
  | [d1, d2, d3] => { results := [.lit (.bool false)], args := [d1, d2, d3] }
  | _ => none }
def FnExactYardPutWrongFalsely : Prop := fnExactYardPutRow.holds Try.pinned (OpenSpec.ofChange fnExactYardPutWrong)

/-- 'laws.FnExactYardTake': WHATEVER THE INPUT: true; the input reads as it did. -/
def fnExactYardTakeSpec : ChangeSpec := { name := "fnExactYardTake", fn := fun _ => fun
  | [d1, d2] => { results := [.lit (.bool true)], args := [d1, d2] }
  | _ => none }
def fnExactYardTakeRow : OpenClaim := { program := "ytdmbahpifbidlaa", sum := "e0189569f138a5bb0ffe693db06038c6d7c1fe60cc19259c02f54ed86bb4069c", func := "loop.example/containerport/laws.FnExactYardTake", spec := "fnExactYardTake", recurses := true, apart := false }
def FnExactYardTakeSaid : Prop := fnExactYardTakeRow.holds Try.pinned (OpenSpec.ofChange fnExactYardTakeSpec)

/-- ITS FALSE NEIGHBOUR: 'it returns false'. Refute it at one input. -/
def fnExactYardTakeWrong : ChangeSpec := { name := "fnExactYardTake", fn := fun _ => fun
  | [d1, d2] => { results := [.lit (.bool false)], args := [d1, d2] }
  | _ => none }
def FnExactYardTakeWrongFalsely : Prop := fnExactYardTakeRow.holds Try.pinned (OpenSpec.ofChange fnExactYardTakeWrong)

/- THE SECOND FORM. 'bulk': how many values and letters a reading holds, each counted each time it is reached (what is shared counts as often as it is met; a slice's spare places count too). A statement '..UptoSaid' is the law's where the arguments, and the package variables that the reading takes, are together of bulk at most 1048576: NARROWER than '..Said'. Prove '..Said' where nothing that the law and all that it calls make is longer than what came in: it says more and counts as full. Else prove '..UptoSaid'. A law counts once. -/
mutual
def uptoBulk {H : Type} : DataW H → Nat
  | .lit (.string bytes) => bytes.length + 1
  | .lit _ => 1
  | .nil => 1
  | .ptr d => uptoBulk d + 1
  | .slice elems spare => uptoBulkAll elems + uptoBulkAll spare + 1
  | .agg parts => uptoBulkAll parts + 1
  | .iface _ d => uptoBulk d + 1
  | .map entries => uptoBulkEntries entries + 1
  | .held _ => 1
def uptoBulkAll {H : Type} : List (DataW H) → Nat
  | [] => 0
  | d :: r => uptoBulk d + uptoBulkAll r
def uptoBulkEntries {H : Type} : List (Lit × DataW H) → Nat
  | [] => 0
  | x :: r => uptoBulkEntry x + uptoBulkEntries r
def uptoBulkEntry {H : Type} : Lit × DataW H → Nat
  | (.string bytes, d) => bytes.length + uptoBulk d + 1
  | (_, d) => uptoBulk d + 1
 end
def uptoSmall : (H : Type) → List (DataW H) → Bool := fun _ ds => decide (uptoBulkAll ds ≤ 1048576)
def OpenSpec.upto (s : _root_.Go.ChangeSpec) : _root_.Go.OpenSpec := { _root_.Go.OpenSpec.ofChange s with cond := some uptoSmall }

/-- 'laws.FnYardValid', WHERE WHAT IT READS IS OF BULK AT MOST 1048576: true; the input reads as it did. -/
def fnYardValidUptoRow : OpenClaim := { program := "ytdmbahpifbidlaa", sum := "e0189569f138a5bb0ffe693db06038c6d7c1fe60cc19259c02f54ed86bb4069c", func := "loop.example/containerport/laws.FnYardValid", spec := "fnYardValid", inPlace := ["internal/bytealg.IndexByteString"], recurses := true, apart := false, narrowed := true }
def FnYardValidUptoSaid : Prop := fnYardValidUptoRow.holds Try.pinned (OpenSpec.upto fnYardValidSpec)

/-- 'laws.FnYardFind', WHERE WHAT IT READS IS OF BULK AT MOST 1048576: true; the input reads as it did. -/
def fnYardFindUptoRow : OpenClaim := { program := "ytdmbahpifbidlaa", sum := "e0189569f138a5bb0ffe693db06038c6d7c1fe60cc19259c02f54ed86bb4069c", func := "loop.example/containerport/laws.FnYardFind", spec := "fnYardFind", inPlace := ["internal/bytealg.IndexByteString"], recurses := true, apart := false, narrowed := true }
def FnYardFindUptoSaid : Prop := fnYardFindUptoRow.holds Try.pinned (OpenSpec.upto fnYardFindSpec)

/-- 'laws.FnYardIds', WHERE WHAT IT READS IS OF BULK AT MOST 1048576: true; the input reads as it did. -/
def fnYardIdsUptoRow : OpenClaim := { program := "ytdmbahpifbidlaa", sum := "e0189569f138a5bb0ffe693db06038c6d7c1fe60cc19259c02f54ed86bb4069c", func := "loop.example/containerport/laws.FnYardIds", spec := "fnYardIds", inPlace := ["internal/bytealg.IndexByteString"], recurses := true, apart := false, narrowed := true }
def FnYardIdsUptoSaid : Prop := fnYardIdsUptoRow.holds Try.pinned (OpenSpec.upto fnYardIdsSpec)

/-- 'laws.FnYardPut', WHERE WHAT IT READS IS OF BULK AT MOST 1048576: true; the input reads as it did. -/
def fnYardPutUptoRow : OpenClaim := { program := "ytdmbahpifbidlaa", sum := "e0189569f138a5bb0ffe693db06038c6d7c1fe60cc19259c02f54ed86bb4069c", func := "loop.example/containerport/laws.FnYardPut", spec := "fnYardPut", inPlace := ["internal/bytealg.IndexByteString"], recurses := true, apart := false, narrowed := true }
def FnYardPutUptoSaid : Prop := fnYardPutUptoRow.holds Try.pinned (OpenSpec.upto fnYardPutSpec)

/-- 'laws.FnYardTake', WHERE WHAT IT READS IS OF BULK AT MOST 1048576: true; the input reads as it did. -/
def fnYardTakeUptoRow : OpenClaim := { program := "ytdmbahpifbidlaa", sum := "e0189569f138a5bb0ffe693db06038c6d7c1fe60cc19259c02f54ed86bb4069c", func := "loop.example/containerport/laws.FnYardTake", spec := "fnYardTake", inPlace := ["internal/bytealg.IndexByteString"], recurses := true, apart := false, narrowed := true }
def FnYardTakeUptoSaid : Prop := fnYardTakeUptoRow.holds Try.pinned (OpenSpec.upto fnYardTakeSpec)

/-- 'laws.FnYardMove', WHERE WHAT IT READS IS OF BULK AT MOST 1048576: true; the input reads as it did. -/
def fnYardMoveUptoRow : OpenClaim := { program := "ytdmbahpifbidlaa", sum := "e0189569f138a5bb0ffe693db06038c6d7c1fe60cc19259c02f54ed86bb4069c", func := "loop.example/containerport/laws.FnYardMove", spec := "fnYardMove", inPlace := ["internal/bytealg.IndexByteString"], recurses := true, apart := false, narrowed := true }
def FnYardMoveUptoSaid : Prop := fnYardMoveUptoRow.holds Try.pinned (OpenSpec.upto fnYardMoveSpec)

/-- 'laws.FnYardRun', WHERE WHAT IT READS IS OF BULK AT MOST 1048576: true; the input reads as it did. -/
def fnYardRunUptoRow : OpenClaim := { program := "ytdmbahpifbidlaa", sum := "e0189569f138a5bb0ffe693db06038c6d7c1fe60cc19259c02f54ed86bb4069c", func := "loop.example/containerport/laws.FnYardRun", spec := "fnYardRun", inPlace := ["internal/bytealg.IndexByteString"], recurses := true, apart := false, narrowed := true }
def FnYardRunUptoSaid : Prop := fnYardRunUptoRow.holds Try.pinned (OpenSpec.upto fnYardRunSpec)

/-- 'laws.FnExactYardValid', WHERE WHAT IT READS IS OF BULK AT MOST 1048576: true; the input reads as it did. -/
def fnExactYardValidUptoRow : OpenClaim := { program := "ytdmbahpifbidlaa", sum := "e0189569f138a5bb0ffe693db06038c6d7c1fe60cc19259c02f54ed86bb4069c", func := "loop.example/containerport/laws.FnExactYardValid", spec := "fnExactYardValid", recurses := true, apart := false, narrowed := true }
def FnExactYardValidUptoSaid : Prop := fnExactYardValidUptoRow.holds Try.pinned (OpenSpec.upto fnExactYardValidSpec)

/-- 'laws.FnExactYardFind', WHERE WHAT IT READS IS OF BULK AT MOST 1048576: true; the input reads as it did. -/
def fnExactYardFindUptoRow : OpenClaim := { program := "ytdmbahpifbidlaa", sum := "e0189569f138a5bb0ffe693db06038c6d7c1fe60cc19259c02f54ed86bb4069c", func := "loop.example/containerport/laws.FnExactYardFind", spec := "fnExactYardFind", recurses := true, apart := false, narrowed := true }
def FnExactYardFindUptoSaid : Prop := fnExactYardFindUptoRow.holds Try.pinned (OpenSpec.upto fnExactYardFindSpec)

/-- 'laws.FnExactYardIds', WHERE WHAT IT READS IS OF BULK AT MOST 1048576: true; the input reads as it did. -/
def fnExactYardIdsUptoRow : OpenClaim := { program := "ytdmbahpifbidlaa", sum := "e0189569f138a5bb0ffe693db06038c6d7c1fe60cc19259c02f54ed86bb4069c", func := "loop.example/containerport/laws.FnExactYardIds", spec := "fnExactYardIds", recurses := true, apart := false, narrowed := true }
def FnExactYardIdsUptoSaid : Prop := fnExactYardIdsUptoRow.holds Try.pinned (OpenSpec.upto fnExactYardIdsSpec)

/-- 'laws.FnExactYardPut', WHERE WHAT IT READS IS OF BULK AT MOST 1048576: true; the input reads as it did. -/
def fnExactYardPutUptoRow : OpenClaim := { program := "ytdmbahpifbidlaa", sum := "e0189569f138a5bb0ffe693db06038c6d7c1fe60cc19259c02f54ed86bb4069c", func := "loop.example/containerport/laws.FnExactYardPut", spec := "fnExactYardPut", recurses := true, apart := false, narrowed := true }
def FnExactYardPutUptoSaid : Prop := fnExactYardPutUptoRow.holds Try.pinned (OpenSpec.upto fnExactYardPutSpec)

/-- 'laws.FnExactYardTake', WHERE WHAT IT READS IS OF BULK AT MOST 1048576: true; the input reads as it did. -/
def fnExactYardTakeUptoRow : OpenClaim := { program := "ytdmbahpifbidlaa", sum := "e0189569f138a5bb0ffe693db06038c6d7c1fe60cc19259c02f54ed86bb4069c", func := "loop.example/containerport/laws.FnExactYardTake", spec := "fnExactYardTake", recurses := true, apart := false, narrowed := true }
def FnExactYardTakeUptoSaid : Prop := fnExactYardTakeUptoRow.holds Try.pinned (OpenSpec.upto fnExactYardTakeSpec)

end Rows
end Go.Proofs.Ytdmbahpifbidlaa
