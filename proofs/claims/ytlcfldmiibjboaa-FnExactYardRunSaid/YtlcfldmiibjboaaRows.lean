/-
  No cell of these rows narrows 'for every input' (looked for: loops, veiled, ifaces, maps, wideKeys, modest, calm, conditions, laid).
  DERIVED. THE GIVEN ROWS OF THIS SEAT. 12 by the template 'for every input the law returns true; each argument reads behind the call as it read before'; 0 by the template 'total and deterministic' (their statements: YtlcfldmiibjboaaTotals.lean).
  GIVEN WITH THE SEED: the statements are not yours to turn. If you find one false, say at which input.
  Laid BY PROGRAM, IN A SANDBOX (cutbox-rows.mjs): the forced cells as the released guide's own fill.sh prints them over the translation 67aad8f3dff49735… (all of the seat's roots in one cut). By AI agents, Wed Nov 11 2026. No macro, syntax, notation, axiom, sorry.
-/
import Derived.Test.YtlcfldmiibjboaaChecked
import GoSem.Claim
import GoSem.ClaimJoined
import GoSem.ClaimMapViews
import Derived.JoinedTies
import Derived.KernelRfl
namespace Go.Proofs.Ytlcfldmiibjboaa
/- THE CELL 'sum', in the pinned program and in every row, IS THE sha256 OF THE DUMP (.gsa) THAT YtlcfldmiibjboaaProg.lean LOADS. Nothing in Lean hashes anything: it is a label: what it is worth is what the hold of that sum in a sandbox is worth. -/
noncomputable def Try.pinned : Pinned := { name := "ytlcfldmiibjboaa", sum := "67aad8f3dff49735473846711abac8cd516a259aa25bcf020641ded532de8a03", checked := Try.checked }
namespace Rows
def none {H : Type} : Left H := { results := [], args := [] }

/-- 'laws.FnYardPut': WHATEVER THE INPUT: true; the input reads as it did. -/
def fnYardPutSpec : ChangeSpec := { name := "fnYardPut", fn := fun _ => fun
  | [d] => { results := [.lit (.bool true)], args := [d] }
  | _ => none }
def fnYardPutRow : OpenClaim := { program := "ytlcfldmiibjboaa", sum := "67aad8f3dff49735473846711abac8cd516a259aa25bcf020641ded532de8a03", func := "loop.example/containerport/laws.FnYardPut", spec := "fnYardPut", inPlace := ["internal/bytealg.IndexByteString"], recurses := true, apart := false }
def FnYardPutSaid : Prop := fnYardPutRow.holds Try.pinned (OpenSpec.ofChange fnYardPutSpec)

/-- ITS FALSE NEIGHBOUR: 'it returns false'. Refute it at one input. -/
def fnYardPutWrong : ChangeSpec := { name := "fnYardPut", fn := fun _ => fun
  | [d] => { results := [.lit (.bool false)], args := [d] }
  | _ => none }
def FnYardPutWrongFalsely : Prop := fnYardPutRow.holds Try.pinned (OpenSpec.ofChange fnYardPutWrong)

/-- 'laws.FnYardTake': WHATEVER THE INPUT: true; the input reads as it did. -/
def fnYardTakeSpec : ChangeSpec := { name := "fnYardTake", fn := fun _ => fun
  | [d] => { results := [.lit (.bool true)], args := [d] }
  | _ => none }
def fnYardTakeRow : OpenClaim := { program := "ytlcfldmiibjboaa", sum := "67aad8f3dff49735473846711abac8cd516a259aa25bcf020641ded532de8a03", func := "loop.example/containerport/laws.FnYardTake", spec := "fnYardTake", inPlace := ["internal/bytealg.IndexByteString"], recurses := true, apart := false }
def FnYardTakeSaid : Prop := fnYardTakeRow.holds Try.pinned (OpenSpec.ofChange fnYardTakeSpec)

/-- ITS FALSE NEIGHBOUR: 'it returns false'. Refute it at one input. -/
def fnYardTakeWrong : ChangeSpec := { name := "fnYardTake", fn := fun _ => fun
  | [d] => { results := [.lit (.bool false)], args := [d] }
  | _ => none }
def FnYardTakeWrongFalsely : Prop := fnYardTakeRow.holds Try.pinned (OpenSpec.ofChange fnYardTakeWrong)

/-- 'laws.FnYardMove': WHATEVER THE INPUT: true; the input reads as it did. -/
def fnYardMoveSpec : ChangeSpec := { name := "fnYardMove", fn := fun _ => fun
  | [d] => { results := [.lit (.bool true)], args := [d] }
  | _ => none }
def fnYardMoveRow : OpenClaim := { program := "ytlcfldmiibjboaa", sum := "67aad8f3dff49735473846711abac8cd516a259aa25bcf020641ded532de8a03", func := "loop.example/containerport/laws.FnYardMove", spec := "fnYardMove", inPlace := ["internal/bytealg.IndexByteString"], recurses := true, apart := false }
def FnYardMoveSaid : Prop := fnYardMoveRow.holds Try.pinned (OpenSpec.ofChange fnYardMoveSpec)

/-- ITS FALSE NEIGHBOUR: 'it returns false'. Refute it at one input. -/
def fnYardMoveWrong : ChangeSpec := { name := "fnYardMove", fn := fun _ => fun
  | [d] => { results := [.lit (.bool false)], args := [d] }
  | _ => none }
def FnYardMoveWrongFalsely : Prop := fnYardMoveRow.holds Try.pinned (OpenSpec.ofChange fnYardMoveWrong)

/-- 'laws.FnYardRun': WHATEVER THE INPUT: true; the input reads as it did. -/
def fnYardRunSpec : ChangeSpec := { name := "fnYardRun", fn := fun _ => fun
  | [d] => { results := [.lit (.bool true)], args := [d] }
  | _ => none }
def fnYardRunRow : OpenClaim := { program := "ytlcfldmiibjboaa", sum := "67aad8f3dff49735473846711abac8cd516a259aa25bcf020641ded532de8a03", func := "loop.example/containerport/laws.FnYardRun", spec := "fnYardRun", inPlace := ["internal/bytealg.IndexByteString"], recurses := true, apart := false }
def FnYardRunSaid : Prop := fnYardRunRow.holds Try.pinned (OpenSpec.ofChange fnYardRunSpec)

/-- ITS FALSE NEIGHBOUR: 'it returns false'. Refute it at one input. -/
def fnYardRunWrong : ChangeSpec := { name := "fnYardRun", fn := fun _ => fun
  | [d] => { results := [.lit (.bool false)], args := [d] }
  | _ => none }
def FnYardRunWrongFalsely : Prop := fnYardRunRow.holds Try.pinned (OpenSpec.ofChange fnYardRunWrong)

/-- 'laws.FnExactYardPut': WHATEVER THE INPUT: true; the input reads as it did. -/
def fnExactYardPutSpec : ChangeSpec := { name := "fnExactYardPut", fn := fun _ => fun
  | [d1, d2, d3] => { results := [.lit (.bool true)], args := [d1, d2, d3] }
  | _ => none }
def fnExactYardPutRow : OpenClaim := { program := "ytlcfldmiibjboaa", sum := "67aad8f3dff49735473846711abac8cd516a259aa25bcf020641ded532de8a03", func := "loop.example/containerport/laws.FnExactYardPut", spec := "fnExactYardPut", recurses := true, apart := false }
def FnExactYardPutSaid : Prop := fnExactYardPutRow.holds Try.pinned (OpenSpec.ofChange fnExactYardPutSpec)

/-- ITS FALSE NEIGHBOUR: 'it returns false'. Refute it at one input. -/
def fnExactYardPutWrong : ChangeSpec := { name := "fnExactYardPut", fn := fun _ => fun
  | [d1, d2, d3] => { results := [.lit (.bool false)], args := [d1, d2, d3] }
  | _ => none }
def FnExactYardPutWrongFalsely : Prop := fnExactYardPutRow.holds Try.pinned (OpenSpec.ofChange fnExactYardPutWrong)

/-- 'laws.FnExactYardTake': WHATEVER THE INPUT: true; the input reads as it did. -/
def fnExactYardTakeSpec : ChangeSpec := { name := "fnExactYardTake", fn := fun _ => fun
  | [d1, d2] => { results := [.lit (.bool true)], args := [d1, d2] }
  | _ => none }
def fnExactYardTakeRow : OpenClaim := { program := "ytlcfldmiibjboaa", sum := "67aad8f3dff49735473846711abac8cd516a259aa25bcf020641ded532de8a03", func := "loop.example/containerport/laws.FnExactYardTake", spec := "fnExactYardTake", recurses := true, apart := false }
def FnExactYardTakeSaid : Prop := fnExactYardTakeRow.holds Try.pinned (OpenSpec.ofChange fnExactYardTakeSpec)

/-- ITS FALSE NEIGHBOUR: 'it returns false'. Refute it at one input. -/
def fnExactYardTakeWrong : ChangeSpec := { name := "fnExactYardTake", fn := fun _ => fun
  | [d1, d2] => { results := [.lit (.bool false)], args := [d1, d2] }
  | _ => none }
def FnExactYardTakeWrongFalsely : Prop := fnExactYardTakeRow.holds Try.pinned (OpenSpec.ofChange fnExactYardTakeWrong)

/-- 'laws.FnExactYardMove': WHATEVER THE INPUT: true; the input reads as it did. -/
def fnExactYardMoveSpec : ChangeSpec := { name := "fnExactYardMove", fn := fun _ => fun
  | [d1, d2] => { results := [.lit (.bool true)], args := [d1, d2] }
  | _ => none }
def fnExactYardMoveRow : OpenClaim := { program := "ytlcfldmiibjboaa", sum := "67aad8f3dff49735473846711abac8cd516a259aa25bcf020641ded532de8a03", func := "loop.example/containerport/laws.FnExactYardMove", spec := "fnExactYardMove", recurses := true, apart := false }
def FnExactYardMoveSaid : Prop := fnExactYardMoveRow.holds Try.pinned (OpenSpec.ofChange fnExactYardMoveSpec)

/-- ITS FALSE NEIGHBOUR: 'it returns false'. Refute it at one input. -/
def fnExactYardMoveWrong : ChangeSpec := { name := "fnExactYardMove", fn := fun _ => fun
  | [d1, d2] => { results := [.lit (.bool false)], args := [d1, d2] }
  | _ => none }
def FnExactYardMoveWrongFalsely : Prop := fnExactYardMoveRow.holds Try.pinned (OpenSpec.ofChange fnExactYardMoveWrong)

/-- 'laws.FnExactYardRun': WHATEVER THE INPUT: true; the input reads as it did. -/
def fnExactYardRunSpec : ChangeSpec := { name := "fnExactYardRun", fn := fun _ => fun
  | [d1, d2] => { results := [.lit (.bool true)], args := [d1, d2] }
  | _ => none }
def fnExactYardRunRow : OpenClaim := { program := "ytlcfldmiibjboaa", sum := "67aad8f3dff49735473846711abac8cd516a259aa25bcf020641ded532de8a03", func := "loop.example/containerport/laws.FnExactYardRun", spec := "fnExactYardRun", recurses := true, apart := false }
def FnExactYardRunSaid : Prop := fnExactYardRunRow.holds Try.pinned (OpenSpec.ofChange fnExactYardRunSpec)

/-- ITS FALSE NEIGHBOUR: 'it returns false'. Refute it at one input. -/
def fnExactYardRunWrong : ChangeSpec := { name := "fnExactYardRun", fn := fun _ => fun
  | [d1, d2] => { results := [.lit (.bool false)], args := [d1, d2] }
  | _ => none }
def FnExactYardRunWrongFalsely : Prop := fnExactYardRunRow.holds Try.pinned (OpenSpec.ofChange fnExactYardRunWrong)

/-- 'laws.FnBlocking': WHATEVER THE INPUT: true; the input reads as it did. -/
def fnBlockingSpec : ChangeSpec := { name := "fnBlocking", fn := fun _ => fun
  | [d1, d2] => { results := [.lit (.bool true)], args := [d1, d2] }
  | _ => none }
def fnBlockingRow : OpenClaim := { program := "ytlcfldmiibjboaa", sum := "67aad8f3dff49735473846711abac8cd516a259aa25bcf020641ded532de8a03", func := "loop.example/containerport/laws.FnBlocking", spec := "fnBlocking", inPlace := ["internal/bytealg.IndexByteString"], recurses := true, apart := false }
def FnBlockingSaid : Prop := fnBlockingRow.holds Try.pinned (OpenSpec.ofChange fnBlockingSpec)

/-- ITS FALSE NEIGHBOUR: 'it returns false'. Refute it at one input. -/
def fnBlockingWrong : ChangeSpec := { name := "fnBlocking", fn := fun _ => fun
  | [d1, d2] => { results := [.lit (.bool false)], args := [d1, d2] }
  | _ => none }
def FnBlockingWrongFalsely : Prop := fnBlockingRow.holds Try.pinned (OpenSpec.ofChange fnBlockingWrong)

/-- 'laws.FnDigMoves': WHATEVER THE INPUT: true; the input reads as it did. -/
def fnDigMovesSpec : ChangeSpec := { name := "fnDigMoves", fn := fun _ => fun
  | [d] => { results := [.lit (.bool true)], args := [d] }
  | _ => none }
def fnDigMovesRow : OpenClaim := { program := "ytlcfldmiibjboaa", sum := "67aad8f3dff49735473846711abac8cd516a259aa25bcf020641ded532de8a03", func := "loop.example/containerport/laws.FnDigMoves", spec := "fnDigMoves", inPlace := ["internal/bytealg.IndexByteString"], recurses := true, apart := false }
def FnDigMovesSaid : Prop := fnDigMovesRow.holds Try.pinned (OpenSpec.ofChange fnDigMovesSpec)

/-- ITS FALSE NEIGHBOUR: 'it returns false'. Refute it at one input. -/
def fnDigMovesWrong : ChangeSpec := { name := "fnDigMoves", fn := fun _ => fun
  | [d] => { results := [.lit (.bool false)], args := [d] }
  | _ => none }
def FnDigMovesWrongFalsely : Prop := fnDigMovesRow.holds Try.pinned (OpenSpec.ofChange fnDigMovesWrong)

/-- 'laws.FnDigAll': WHATEVER THE INPUT: true; the input reads as it did. -/
def fnDigAllSpec : ChangeSpec := { name := "fnDigAll", fn := fun _ => fun
  | [d] => { results := [.lit (.bool true)], args := [d] }
  | _ => none }
def fnDigAllRow : OpenClaim := { program := "ytlcfldmiibjboaa", sum := "67aad8f3dff49735473846711abac8cd516a259aa25bcf020641ded532de8a03", func := "loop.example/containerport/laws.FnDigAll", spec := "fnDigAll", inPlace := ["internal/bytealg.IndexByteString"], recurses := true, apart := false }
def FnDigAllSaid : Prop := fnDigAllRow.holds Try.pinned (OpenSpec.ofChange fnDigAllSpec)

/-- ITS FALSE NEIGHBOUR: 'it returns false'. Refute it at one input. -/
def fnDigAllWrong : ChangeSpec := { name := "fnDigAll", fn := fun _ => fun
  | [d] => { results := [.lit (.bool false)], args := [d] }
  | _ => none }
def FnDigAllWrongFalsely : Prop := fnDigAllRow.holds Try.pinned (OpenSpec.ofChange fnDigAllWrong)

/-- 'laws.FnExactDigMoves': WHATEVER THE INPUT: true; the input reads as it did. -/
def fnExactDigMovesSpec : ChangeSpec := { name := "fnExactDigMoves", fn := fun _ => fun
  | [d1, d2] => { results := [.lit (.bool true)], args := [d1, d2] }
  | _ => none }
def fnExactDigMovesRow : OpenClaim := { program := "ytlcfldmiibjboaa", sum := "67aad8f3dff49735473846711abac8cd516a259aa25bcf020641ded532de8a03", func := "loop.example/containerport/laws.FnExactDigMoves", spec := "fnExactDigMoves", recurses := true, apart := false }
def FnExactDigMovesSaid : Prop := fnExactDigMovesRow.holds Try.pinned (OpenSpec.ofChange fnExactDigMovesSpec)

/-- ITS FALSE NEIGHBOUR: 'it returns false'. Refute it at one input. -/
def fnExactDigMovesWrong : ChangeSpec := { name := "fnExactDigMoves", fn := fun _ => fun
  | [d1, d2] => { results := [.lit (.bool false)], args := [d1, d2] }
  | _ => none }
def FnExactDigMovesWrongFalsely : Prop := fnExactDigMovesRow.holds Try.pinned (OpenSpec.ofChange fnExactDigMovesWrong)

/- THE SECOND FORM. 'bulk': how many values and letters a reading holds, each counted each time it is reached (what is shared counts as often as it is met; a slice's spare places count too). A statement '..UptoSaid' is the law's where the arguments, and the package variables that the reading takes, are together of bulk at most 1048576: NARROWER than '..Said'. Prove '..Said' where nothing that the law and all that it calls make is longer than what came in: it says more and counts as full. Else prove '..UptoSaid'. A law counts once. -/
mutual
def uptoBulk {H : Type} : DataW H → Nat
  | .lit (.string bytes) => bytes.length + 1
  | .lit _ => 1
  | .nil => 1
  | .ptr d => uptoBulk d + 1
  | .slice elems spare => uptoBulkAll elems + uptoBulkAll spare + 1
  | .agg parts => uptoBulkAll parts + 1
  | .iface _ d => uptoBulk d + 1
  | .map entries => uptoBulkEntries entries + 1
  | .held _ => 1
def uptoBulkAll {H : Type} : List (DataW H) → Nat
  | [] => 0
  | d :: r => uptoBulk d + uptoBulkAll r
def uptoBulkEntries {H : Type} : List (Lit × DataW H) → Nat
  | [] => 0
  | x :: r => uptoBulkEntry x + uptoBulkEntries r
def uptoBulkEntry {H : Type} : Lit × DataW H → Nat
  | (.string bytes, d) => bytes.length + uptoBulk d + 1
  | (_, d) => uptoBulk d + 1
 end
def uptoSmall : (H : Type) → List (DataW H) → Bool := fun _ ds => decide (uptoBulkAll ds ≤ 1048576)
def OpenSpec.upto (s : _root_.Go.ChangeSpec) : _root_.Go.OpenSpec := { _root_.Go.OpenSpec.ofChange s with cond := some uptoSmall }

/-- 'laws.FnYardPut', WHERE WHAT IT READS IS OF BULK AT MOST 1048576: true; the input reads as it did. -/
def fnYardPutUptoRow : OpenClaim := { program := "ytlcfldmiibjboaa", sum := "67aad8f3dff49735473846711abac8cd516a259aa25bcf020641ded532de8a03", func := "loop.example/containerport/laws.FnYardPut", spec := "fnYardPut", inPlace := ["internal/bytealg.IndexByteString"], recurses := true, apart := false, narrowed := true }
def FnYardPutUptoSaid : Prop := fnYardPutUptoRow.holds Try.pinned (OpenSpec.upto fnYardPutSpec)

/-- 'laws.FnYardTake', WHERE WHAT IT READS IS OF BULK AT MOST 1048576: true; the input reads as it did. -/
def fnYardTakeUptoRow : OpenClaim := { program := "ytlcfldmiibjboaa", sum := "67aad8f3dff49735473846711abac8cd516a259aa25bcf020641ded532de8a03", func := "loop.example/containerport/laws.FnYardTake", spec := "fnYardTake", inPlace := ["internal/bytealg.IndexByteString"], recurses := true, apart := false, narrowed := true }
def FnYardTakeUptoSaid : Prop := fnYardTakeUptoRow.holds Try.pinned (OpenSpec.upto fnYardTakeSpec)

/-- 'laws.FnYardMove', WHERE WHAT IT READS IS OF BULK AT MOST 1048576: true; the input reads as it did. -/
def fnYardMoveUptoRow : OpenClaim := { program := "ytlcfldmiibjboaa", sum := "67aad8f3dff49735473846711abac8cd516a259aa25bcf020641ded532de8a03", func := "loop.example/containerport/laws.FnYardMove", spec := "fnYardMove", inPlace := ["internal/bytealg.IndexByteString"], recurses := true, apart := false, narrowed := true }
def FnYardMoveUptoSaid : Prop := fnYardMoveUptoRow.holds Try.pinned (OpenSpec.upto fnYardMoveSpec)

/-- 'laws.FnYardRun', WHERE WHAT IT READS IS OF BULK AT MOST 1048576: true; the input reads as it did. -/
def fnYardRunUptoRow : OpenClaim := { program := "ytlcfldmiibjboaa", sum := "67aad8f3dff49735473846711abac8cd516a259aa25bcf020641ded532de8a03", func := "loop.example/containerport/laws.FnYardRun", spec := "fnYardRun", inPlace := ["internal/bytealg.IndexByteString"], recurses := true, apart := false, narrowed := true }
def FnYardRunUptoSaid : Prop := fnYardRunUptoRow.holds Try.pinned (OpenSpec.upto fnYardRunSpec)

/-- 'laws.FnExactYardPut', WHERE WHAT IT READS IS OF BULK AT MOST 1048576: true; the input reads as it did. -/
def fnExactYardPutUptoRow : OpenClaim := { program := "ytlcfldmiibjboaa", sum := "67aad8f3dff49735473846711abac8cd516a259aa25bcf020641ded532de8a03", func := "loop.example/containerport/laws.FnExactYardPut", spec := "fnExactYardPut", recurses := true, apart := false, narrowed := true }
def FnExactYardPutUptoSaid : Prop := fnExactYardPutUptoRow.holds Try.pinned (OpenSpec.upto fnExactYardPutSpec)

/-- 'laws.FnExactYardTake', WHERE WHAT IT READS IS OF BULK AT MOST 1048576: true; the input reads as it did. -/
def fnExactYardTakeUptoRow : OpenClaim := { program := "ytlcfldmiibjboaa", sum := "67aad8f3dff49735473846711abac8cd516a259aa25bcf020641ded532de8a03", func := "loop.example/containerport/laws.FnExactYardTake", spec := "fnExactYardTake", recurses := true, apart := false, narrowed := true }
def FnExactYardTakeUptoSaid : Prop := fnExactYardTakeUptoRow.holds Try.pinned (OpenSpec.upto fnExactYardTakeSpec)

/-- 'laws.FnExactYardMove', WHERE WHAT IT READS IS OF BULK AT MOST 1048576: true; the input reads as it did. -/
def fnExactYardMoveUptoRow : OpenClaim := { program := "ytlcfldmiibjboaa", sum := "67aad8f3dff49735473846711abac8cd516a259aa25bcf020641ded532de8a03", func := "loop.example/containerport/laws.FnExactYardMove", spec := "fnExactYardMove", recurses := true, apart := false, narrowed := true }
def FnExactYardMoveUptoSaid : Prop := fnExactYardMoveUptoRow.holds Try.pinned (OpenSpec.upto fnExactYardMoveSpec)

/-- 'laws.FnExactYardRun', WHERE WHAT IT READS IS OF BULK AT MOST 1048576: true; the input reads as it did. -/
def fnExactYardRunUptoRow : OpenClaim := { program := "ytlcfldmiibjboaa", sum := "67aad8f3dff49735473846711abac8cd516a259aa25bcf020641ded532de8a03", func := "loop.example/containerport/laws.FnExactYardRun", spec := "fnExactYardRun", recurses := true, apart := false, narrowed := true }
def FnExactYardRunUptoSaid : Prop := fnExactYardRunUptoRow.holds Try.pinned (OpenSpec.upto fnExactYardRunSpec)

/-- 'laws.FnBlocking', WHERE WHAT IT READS IS OF BULK AT MOST 1048576: true; the input reads as it did. -/
def fnBlockingUptoRow : OpenClaim := { program := "ytlcfldmiibjboaa", sum := "67aad8f3dff49735473846711abac8cd516a259aa25bcf020641ded532de8a03", func := "loop.example/containerport/laws.FnBlocking", spec := "fnBlocking", inPlace := ["internal/bytealg.IndexByteString"], recurses := true, apart := false, narrowed := true }
def FnBlockingUptoSaid : Prop := fnBlockingUptoRow.holds Try.pinned (OpenSpec.upto fnBlockingSpec)

/-- 'laws.FnDigMoves', WHERE WHAT IT READS IS OF BULK AT MOST 1048576: true; the input reads as it did. -/
def fnDigMovesUptoRow : OpenClaim := { program := "ytlcfldmiibjboaa", sum := "67aad8f3dff49735473846711abac8cd516a259aa25bcf020641ded532de8a03", func := "loop.example/containerport/laws.FnDigMoves", spec := "fnDigMoves", inPlace := ["internal/bytealg.IndexByteString"], recurses := true, apart := false, narrowed := true }
def FnDigMovesUptoSaid : Prop := fnDigMovesUptoRow.holds Try.pinned (OpenSpec.upto fnDigMovesSpec)

/-- 'laws.FnDigAll', WHERE WHAT IT READS IS OF BULK AT MOST 1048576: true; the input reads as it did. -/
def fnDigAllUptoRow : OpenClaim := { program := "ytlcfldmiibjboaa", sum := "67aad8f3dff49735473846711abac8cd516a259aa25bcf020641ded532de8a03", func := "loop.example/containerport/laws.FnDigAll", spec := "fnDigAll", inPlace := ["internal/bytealg.IndexByteString"], recurses := true, apart := false, narrowed := true }
def FnDigAllUptoSaid : Prop := fnDigAllUptoRow.holds Try.pinned (OpenSpec.upto fnDigAllSpec)

/-- 'laws.FnExactDigMoves', WHERE WHAT IT READS IS OF BULK AT MOST 1048576: true; the input reads as it did. -/
def fnExactDigMovesUptoRow : OpenClaim := { program := "ytlcfldmiibjboaa", sum := "67aad8f3dff49735473846711abac8cd516a259aa25bcf020641ded532de8a03", func := "loop.example/containerport/laws.FnExactDigMoves", spec := "fnExactDigMoves", recurses := true, apart := false, narrowed := true }
def FnExactDigMovesUptoSaid : Prop := fnExactDigMovesUptoRow.holds Try.pinned (OpenSpec.upto fnExactDigMovesSpec)

end Rows
end Go.Proofs.Ytlcfldmiibjboaa
