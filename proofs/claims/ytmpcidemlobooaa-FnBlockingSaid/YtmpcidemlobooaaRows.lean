/-
  No cell of these rows narrows 'for every input' (looked for: loops, veiled, ifaces, maps, wideKeys, modest, calm, conditions, laid).
  DERIVED. THE GIVEN ROWS OF THIS SEAT. 8 by the template 'for every input the law returns true; each argument reads behind the call as it read before'; 0 by the template 'total and deterministic' (their statements: YtmpcidemlobooaaTotals.lean).
  GIVEN WITH THE SEED: the statements are not yours to turn. If you find one false, say at which input.
  Laid BY PROGRAM, IN A SANDBOX (cutbox-rows.mjs): the forced cells as the released guide's own fill.sh prints them over the translation f46565a5cd5ca3ac… (all of the seat's roots in one cut). By AI agents, Wed Nov 11 2026. No macro, syntax, notation, axiom, sorry.
-/
import Derived.Test.YtmpcidemlobooaaChecked
import GoSem.Claim
import GoSem.ClaimJoined
import GoSem.ClaimMapViews
import Derived.JoinedTies
import Derived.KernelRfl
namespace Go.Proofs.Ytmpcidemlobooaa
/- THE CELL 'sum', in the pinned program and in every row, IS THE sha256 OF THE DUMP (.gsa) THAT YtmpcidemlobooaaProg.lean LOADS. Nothing in Lean hashes anything: it is a label: what it is worth is what the hold of that sum in a sandbox is worth. -/
noncomputable def Try.pinned : Pinned := { name := "ytmpcidemlobooaa", sum := "f46565a5cd5ca3aca846b6965ae8c06380c7561b0332206c8c3c70a1a24f323e", checked := Try.checked }
namespace Rows
def none {H : Type} : Left H := { results := [], args := [] }

/-- 'laws.FnOrderOk': WHATEVER THE INPUT: true; the input reads as it did. -/
def fnOrderOkSpec : ChangeSpec := { name := "fnOrderOk", fn := fun _ => fun
  | [d] => { results := [.lit (.bool true)], args := [d] }
  | _ => none }
def fnOrderOkRow : OpenClaim := { program := "ytmpcidemlobooaa", sum := "f46565a5cd5ca3aca846b6965ae8c06380c7561b0332206c8c3c70a1a24f323e", func := "loop.example/containerport/laws.FnOrderOk", spec := "fnOrderOk", inPlace := ["internal/bytealg.IndexByteString"], recurses := true, apart := false }
def FnOrderOkSaid : Prop := fnOrderOkRow.holds Try.pinned (OpenSpec.ofChange fnOrderOkSpec)

/-- ITS FALSE NEIGHBOUR: 'it returns false'. Refute it at one input. -/
def fnOrderOkWrong : ChangeSpec := { name := "fnOrderOk", fn := fun _ => fun
  | [d] => { results := [.lit (.bool false)], args := [d] }
  | _ => none }
def FnOrderOkWrongFalsely : Prop := fnOrderOkRow.holds Try.pinned (OpenSpec.ofChange fnOrderOkWrong)

/-- 'laws.FnBlocking': WHATEVER THE INPUT: true; the input reads as it did. -/
def fnBlockingSpec : ChangeSpec := { name := "fnBlocking", fn := fun _ => fun
  | [d1, d2] => { results := [.lit (.bool true)], args := [d1, d2] }
  | _ => none }
def fnBlockingRow : OpenClaim := { program := "ytmpcidemlobooaa", sum := "f46565a5cd5ca3aca846b6965ae8c06380c7561b0332206c8c3c70a1a24f323e", func := "loop.example/containerport/laws.FnBlocking", spec := "fnBlocking", inPlace := ["internal/bytealg.IndexByteString"], recurses := true, apart := false }
def FnBlockingSaid : Prop := fnBlockingRow.holds Try.pinned (OpenSpec.ofChange fnBlockingSpec)

/-- ITS FALSE NEIGHBOUR: 'it returns false'. Refute it at one input. -/
def fnBlockingWrong : ChangeSpec := { name := "fnBlocking", fn := fun _ => fun
  | [d1, d2] => { results := [.lit (.bool false)], args := [d1, d2] }
  | _ => none }
def FnBlockingWrongFalsely : Prop := fnBlockingRow.holds Try.pinned (OpenSpec.ofChange fnBlockingWrong)

/-- 'laws.FnDigMoves': WHATEVER THE INPUT: true; the input reads as it did. -/
def fnDigMovesSpec : ChangeSpec := { name := "fnDigMoves", fn := fun _ => fun
  | [d] => { results := [.lit (.bool true)], args := [d] }
  | _ => none }
def fnDigMovesRow : OpenClaim := { program := "ytmpcidemlobooaa", sum := "f46565a5cd5ca3aca846b6965ae8c06380c7561b0332206c8c3c70a1a24f323e", func := "loop.example/containerport/laws.FnDigMoves", spec := "fnDigMoves", inPlace := ["internal/bytealg.IndexByteString"], recurses := true, apart := false }
def FnDigMovesSaid : Prop := fnDigMovesRow.holds Try.pinned (OpenSpec.ofChange fnDigMovesSpec)

/-- ITS FALSE NEIGHBOUR: 'it returns false'. Refute it at one input. -/
def fnDigMovesWrong : ChangeSpec := { name := "fnDigMoves", fn := fun _ => fun
  | [d] => { results := [.lit (.bool false)], args := [d] }
  | _ => none }
def FnDigMovesWrongFalsely : Prop := fnDigMovesRow.holds Try.pinned (OpenSpec.ofChange fnDigMovesWrong)

/-- 'laws.FnDigAll': WHATEVER THE INPUT: true; the input reads as it did. -/
def fnDigAllSpec : ChangeSpec := { name := "fnDigAll", fn := fun _ => fun
  | [d] => { results := [.lit (.bool true)], args := [d] }
  | _ => none }
def fnDigAllRow : OpenClaim := { program := "ytmpcidemlobooaa", sum := "f46565a5cd5ca3aca846b6965ae8c06380c7561b0332206c8c3c70a1a24f323e", func := "loop.example/containerport/laws.FnDigAll", spec := "fnDigAll", inPlace := ["internal/bytealg.IndexByteString"], recurses := true, apart := false }
def FnDigAllSaid : Prop := fnDigAllRow.holds Try.pinned (OpenSpec.ofChange fnDigAllSpec)

/-- ITS FALSE NEIGHBOUR: 'it returns false'. Refute it at one input. -/
def fnDigAllWrong : ChangeSpec := { name := "fnDigAll", fn := fun _ => fun
  | [d] => { results := [.lit (.bool false)], args := [d] }
  | _ => none }
def FnDigAllWrongFalsely : Prop := fnDigAllRow.holds Try.pinned (OpenSpec.ofChange fnDigAllWrong)

/-- 'laws.FnExactOrderOk': WHATEVER THE INPUT: true; the input reads as it did. -/
def fnExactOrderOkSpec : ChangeSpec := { name := "fnExactOrderOk", fn := fun _ => fun
  | [d1, d2] => { results := [.lit (.bool true)], args := [d1, d2] }
  | _ => none }
def fnExactOrderOkRow : OpenClaim := { program := "ytmpcidemlobooaa", sum := "f46565a5cd5ca3aca846b6965ae8c06380c7561b0332206c8c3c70a1a24f323e", func := "loop.example/containerport/laws.FnExactOrderOk", spec := "fnExactOrderOk", recurses := true, apart := false }
def FnExactOrderOkSaid : Prop := fnExactOrderOkRow.holds Try.pinned (OpenSpec.ofChange fnExactOrderOkSpec)

/-- ITS FALSE NEIGHBOUR: 'it returns false'. Refute it at one input. -/
def fnExactOrderOkWrong : ChangeSpec := { name := "fnExactOrderOk", fn := fun _ => fun
  | [d1, d2] => { results := [.lit (.bool false)], args := [d1, d2] }
  | _ => none }
def FnExactOrderOkWrongFalsely : Prop := fnExactOrderOkRow.holds Try.pinned (OpenSpec.ofChange fnExactOrderOkWrong)

/-- 'laws.FnExactBlocking': WHATEVER THE INPUT: true; the input reads as it did. -/
def fnExactBlockingSpec : ChangeSpec := { name := "fnExactBlocking", fn := fun _ => fun
  | [d1, d2] => { results := [.lit (.bool true)], args := [d1, d2] }
  | _ => none }
def fnExactBlockingRow : OpenClaim := { program := "ytmpcidemlobooaa", sum := "f46565a5cd5ca3aca846b6965ae8c06380c7561b0332206c8c3c70a1a24f323e", func := "loop.example/containerport/laws.FnExactBlocking", spec := "fnExactBlocking", recurses := true, apart := false }
def FnExactBlockingSaid : Prop := fnExactBlockingRow.holds Try.pinned (OpenSpec.ofChange fnExactBlockingSpec)

/-- ITS FALSE NEIGHBOUR: 'it returns false'. Refute it at one input. -/
def fnExactBlockingWrong : ChangeSpec := { name := "fnExactBlocking", fn := fun _ => fun
  | [d1, d2] => { results := [.lit (.bool false)], args := [d1, d2] }
  | _ => none }
def FnExactBlockingWrongFalsely : Prop := fnExactBlockingRow.holds Try.pinned (OpenSpec.ofChange fnExactBlockingWrong)

/-- 'laws.FnExactDigMoves': WHATEVER THE INPUT: true; the input reads as it did. -/
def fnExactDigMovesSpec : ChangeSpec := { name := "fnExactDigMoves", fn := fun _ => fun
  | [d1, d2] => { results := [.lit (.bool true)], args := [d1, d2] }
  | _ => none }
def fnExactDigMovesRow : OpenClaim := { program := "ytmpcidemlobooaa", sum := "f46565a5cd5ca3aca846b6965ae8c06380c7561b0332206c8c3c70a1a24f323e", func := "loop.example/containerport/laws.FnExactDigMoves", spec := "fnExactDigMoves", recurses := true, apart := false }
def FnExactDigMovesSaid : Prop := fnExactDigMovesRow.holds Try.pinned (OpenSpec.ofChange fnExactDigMovesSpec)

/-- ITS FALSE NEIGHBOUR: 'it returns false'. Refute it at one input. -/
def fnExactDigMovesWrong : ChangeSpec := { name := "fnExactDigMoves", fn := fun _ => fun
  | [d1, d2] => { results := [.lit (.bool false)], args := [d1, d2] }
  | _ => none }
def FnExactDigMovesWrongFalsely : Prop := fnExactDigMovesRow.holds Try.pinned (OpenSpec.ofChange fnExactDigMovesWrong)

/-- 'laws.FnExactDigAll': WHATEVER THE INPUT: true; the input reads as it did. -/
def fnExactDigAllSpec : ChangeSpec := { name := "fnExactDigAll", fn := fun _ => fun
  | [d1, d2] => { results := [.lit (.bool true)], args := [d1, d2] }
  | _ => none }
def fnExactDigAllRow : OpenClaim := { program := "ytmpcidemlobooaa", sum := "f46565a5cd5ca3aca846b6965ae8c06380c7561b0332206c8c3c70a1a24f323e", func := "loop.example/containerport/laws.FnExactDigAll", spec := "fnExactDigAll", recurses := true, apart := false }
def FnExactDigAllSaid : Prop := fnExactDigAllRow.holds Try.pinned (OpenSpec.ofChange fnExactDigAllSpec)

/-- ITS FALSE NEIGHBOUR: 'it returns false'. Refute it at one input. -/
def fnExactDigAllWrong : ChangeSpec := { name := "fnExactDigAll", fn := fun _ => fun
  | [d1, d2] => { results := [.lit (.bool false)], args := [d1, d2] }
  | _ => none }
def FnExactDigAllWrongFalsely : Prop := fnExactDigAllRow.holds Try.pinned (OpenSpec.ofChange fnExactDigAllWrong)

/- THE SECOND FORM. 'bulk': how many values and letters a reading holds, each counted each time it is reached (what is shared counts as often as it is met; a slice's spare places count too). A statement '..UptoSaid' is the law's where the arguments, and the package variables that the reading takes, are together of bulk at most 1048576: NARROWER than '..Said'. Prove '..Said' where nothing that the law and all that it calls make is longer than what came in: it says more and counts as full. Else prove '..UptoSaid'. A law counts once. -/
mutual
def uptoBulk {H : Type} : DataW H → Nat
  | .lit (.string bytes) => bytes.length + 1
  | .lit _ => 1
  | .nil => 1
  | .ptr d => uptoBulk d + 1
  | .slice elems spare => uptoBulkAll elems + uptoBulkAll spare + 1
  | .agg parts => uptoBulkAll parts + 1
  | .iface _ d => uptoBulk d + 1
  | .map entries => uptoBulkEntries entries + 1
  | .held _ => 1
def uptoBulkAll {H : Type} : List (DataW H) → Nat
  | [] => 0
  | d :: r => uptoBulk d + uptoBulkAll r
def uptoBulkEntries {H : Type} : List (Lit × DataW H) → Nat
  | [] => 0
  | x :: r => uptoBulkEntry x + uptoBulkEntries r
def uptoBulkEntry {H : Type} : Lit × DataW H → Nat
  | (.string bytes, d) => bytes.length + uptoBulk d + 1
  | (_, d) => uptoBulk d + 1
 end
def uptoSmall : (H : Type) → List (DataW H) → Bool := fun _ ds => decide (uptoBulkAll ds ≤ 1048576)
def OpenSpec.upto (s : _root_.Go.ChangeSpec) : _root_.Go.OpenSpec := { _root_.Go.OpenSpec.ofChange s with cond := some uptoSmall }

/-- 'laws.FnOrderOk', WHERE WHAT IT READS IS OF BULK AT MOST 1048576: true; the input reads as it did. -/
def fnOrderOkUptoRow : OpenClaim := { program := "ytmpcidemlobooaa", sum := "f46565a5cd5ca3aca846b6965ae8c06380c7561b0332206c8c3c70a1a24f323e", func := "loop.example/containerport/laws.FnOrderOk", spec := "fnOrderOk", inPlace := ["internal/bytealg.IndexByteString"], recurses := true, apart := false, narrowed := true }
def FnOrderOkUptoSaid : Prop := fnOrderOkUptoRow.holds Try.pinned (OpenSpec.upto fnOrderOkSpec)

/-- 'laws.FnBlocking', WHERE WHAT IT READS IS OF BULK AT MOST 1048576: true; the input reads as it did. -/
def fnBlockingUptoRow : OpenClaim := { program := "ytmpcidemlobooaa", sum := "f46565a5cd5ca3aca846b6965ae8c06380c7561b0332206c8c3c70a1a24f323e", func := "loop.example/containerport/laws.FnBlocking", spec := "fnBlocking", inPlace := ["internal/bytealg.IndexByteString"], recurses := true, apart := false, narrowed := true }
def FnBlockingUptoSaid : Prop := fnBlockingUptoRow.holds Try.pinned (OpenSpec.upto fnBlockingSpec)

/-- 'laws.FnDigMoves', WHERE WHAT IT READS IS OF BULK AT MOST 1048576: true; the input reads as it did. -/
def fnDigMovesUptoRow : OpenClaim := { program := "ytmpcidemlobooaa", sum := "f46565a5cd5ca3aca846b6965ae8c06380c7561b0332206c8c3c70a1a24f323e", func := "loop.example/containerport/laws.FnDigMoves", spec := "fnDigMoves", inPlace := ["internal/bytealg.IndexByteString"], recurses := true, apart := false, narrowed := true }
def FnDigMovesUptoSaid : Prop := fnDigMovesUptoRow.holds Try.pinned (OpenSpec.upto fnDigMovesSpec)

/-- 'laws.FnDigAll', WHERE WHAT IT READS IS OF BULK AT MOST 1048576: true; the input reads as it did. -/
def fnDigAllUptoRow : OpenClaim := { program := "ytmpcidemlobooaa", sum := "f46565a5cd5ca3aca846b6965ae8c06380c7561b0332206c8c3c70a1a24f323e", func := "loop.example/containerport/laws.FnDigAll", spec := "fnDigAll", inPlace := ["internal/bytealg.IndexByteString"], recurses := true, apart := false, narrowed := true }
def FnDigAllUptoSaid : Prop := fnDigAllUptoRow.holds Try.pinned (OpenSpec.upto fnDigAllSpec)

/-- 'laws.FnExactOrderOk', WHERE WHAT IT READS IS OF BULK AT MOST 1048576: true; the input reads as it did. -/
def fnExactOrderOkUptoRow : OpenClaim := { program := "ytmpcidemlobooaa", sum := "f46565a5cd5ca3aca846b6965ae8c06380c7561b0332206c8c3c70a1a24f323e", func := "loop.example/containerport/laws.FnExactOrderOk", spec := "fnExactOrderOk", recurses := true, apart := false, narrowed := true }
def FnExactOrderOkUptoSaid : Prop := fnExactOrderOkUptoRow.holds Try.pinned (OpenSpec.upto fnExactOrderOkSpec)

/-- 'laws.FnExactBlocking', WHERE WHAT IT READS IS OF BULK AT MOST 1048576: true; the input reads as it did. -/
def fnExactBlockingUptoRow : OpenClaim := { program := "ytmpcidemlobooaa", sum := "f46565a5cd5ca3aca846b6965ae8c06380c7561b0332206c8c3c70a1a24f323e", func := "loop.example/containerport/laws.FnExactBlocking", spec := "fnExactBlocking", recurses := true, apart := false, narrowed := true }
def FnExactBlockingUptoSaid : Prop := fnExactBlockingUptoRow.holds Try.pinned (OpenSpec.upto fnExactBlockingSpec)

/-- 'laws.FnExactDigMoves', WHERE WHAT IT READS IS OF BULK AT MOST 1048576: true; the input reads as it did. -/
def fnExactDigMovesUptoRow : OpenClaim := { program := "ytmpcidemlobooaa", sum := "f46565a5cd5ca3aca846b6965ae8c06380c7561b0332206c8c3c70a1a24f323e", func := "loop.example/containerport/laws.FnExactDigMoves", spec := "fnExactDigMoves", recurses := true, apart := false, narrowed := true }
def FnExactDigMovesUptoSaid : Prop := fnExactDigMovesUptoRow.holds Try.pinned (OpenSpec.upto fnExactDigMovesSpec)

/-- 'laws.FnExactDigAll', WHERE WHAT IT READS IS OF BULK AT MOST 1048576: true; the input reads as it did. -/
def fnExactDigAllUptoRow : OpenClaim := { program := "ytmpcidemlobooaa", sum := "f46565a5cd5ca3aca846b6965ae8c06380c7561b0332206c8c3c70a1a24f323e", func := "loop.example/containerport/laws.FnExactDigAll", spec := "fnExactDigAll", recurses := true, apart := false, narrowed := true }
def FnExactDigAllUptoSaid : Prop := fnExactDigAllUptoRow.holds Try.pinned (OpenSpec.upto fnExactDigAllSpec)

end Rows
end Go.Proofs.Ytmpcidemlobooaa
