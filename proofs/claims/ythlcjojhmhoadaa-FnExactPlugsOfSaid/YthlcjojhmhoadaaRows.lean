/-
  No cell of these rows narrows 'for every input' (looked for: loops, veiled, ifaces, maps, wideKeys, modest, calm, conditions, laid).
  DERIVED. THE GIVEN ROWS OF THIS SEAT. 10 by the template 'for every input the law returns true; each argument reads behind the call as it read before'; 0 by the template 'total and deterministic' (their statements: YthlcjojhmhoadaaTotals.lean).
  GIVEN WITH THE SEED: the statements are not yours to turn. If you find one false, say at which input.
  Laid BY PROGRAM, IN A SANDBOX (cutbox-rows.mjs): the forced cells as the released guide's own fill.sh prints them over the translation 3c36e47f79d036f4… (all of the seat's roots in one cut). By AI agents, Wed Nov 11 2026. No macro, syntax, notation, axiom, sorry.
-/
import Derived.Test.YthlcjojhmhoadaaChecked
import GoSem.Claim
import GoSem.ClaimJoined
import GoSem.ClaimMapViews
import Derived.JoinedTies
import Derived.KernelRfl
namespace Go.Proofs.Ythlcjojhmhoadaa
/- THE CELL 'sum', in the pinned program and in every row, IS THE sha256 OF THE DUMP (.gsa) THAT YthlcjojhmhoadaaProg.lean LOADS. Nothing in Lean hashes anything: it is a label: what it is worth is what the hold of that sum in a sandbox is worth. -/
noncomputable def Try.pinned : Pinned := { name := "ythlcjojhmhoadaa", sum := "3c36e47f79d036f400983710a772a156c0dfa2091ef80fa27f3ffe29de9848fb", checked := Try.checked }
namespace Rows
def none {H : Type} : Left H := { results := [], args := [] }

/-- 'laws.FnUsesValid': WHATEVER THE INPUT: true; the input reads as it did. -/
def fnUsesValidSpec : ChangeSpec := { name := "fnUsesValid", fn := fun _ => fun
  | [d] => { results := [.lit (.bool true)], args := [d] }
  | _ => none }
def fnUsesValidRow : OpenClaim := { program := "ythlcjojhmhoadaa", sum := "3c36e47f79d036f400983710a772a156c0dfa2091ef80fa27f3ffe29de9848fb", func := "loop.example/containerport/laws.FnUsesValid", spec := "fnUsesValid", inPlace := ["internal/bytealg.IndexByteString"], apart := false }
def FnUsesValidSaid : Prop := fnUsesValidRow.holds Try.pinned (OpenSpec.ofChange fnUsesValidSpec)

/-- ITS FALSE NEIGHBOUR: 'it returns false'. Refute it at one input. -/
def fnUsesValidWrong : ChangeSpec := { name := "fnUsesValid", fn := fun _ => fun
  | [d] => { results := [.lit (.bool false)], args := [d] }
  | _ => none }
def FnUsesValidWrongFalsely : Prop := fnUsesValidRow.holds Try.pinned (OpenSpec.ofChange fnUsesValidWrong)

/-- 'laws.FnPlugsValid': WHATEVER THE INPUT: true; the input reads as it did. -/
def fnPlugsValidSpec : ChangeSpec := { name := "fnPlugsValid", fn := fun _ => fun
  | [d] => { results := [.lit (.bool true)], args := [d] }
  | _ => none }
def fnPlugsValidRow : OpenClaim := { program := "ythlcjojhmhoadaa", sum := "3c36e47f79d036f400983710a772a156c0dfa2091ef80fa27f3ffe29de9848fb", func := "loop.example/containerport/laws.FnPlugsValid", spec := "fnPlugsValid", inPlace := ["internal/bytealg.IndexByteString"], unfollowed := true, recurses := true, apart := false }
def FnPlugsValidSaid : Prop := fnPlugsValidRow.holds Try.pinned (OpenSpec.ofChange fnPlugsValidSpec)

/-- ITS FALSE NEIGHBOUR: 'it returns false'. Refute it at one input. -/
def fnPlugsValidWrong : ChangeSpec := { name := "fnPlugsValid", fn := fun _ => fun
  | [d] => { results := [.lit (.bool false)], args := [d] }
  | _ => none }
def FnPlugsValidWrongFalsely : Prop := fnPlugsValidRow.holds Try.pinned (OpenSpec.ofChange fnPlugsValidWrong)

/-- 'laws.FnPlugIn': WHATEVER THE INPUT: true; the input reads as it did. -/
def fnPlugInSpec : ChangeSpec := { name := "fnPlugIn", fn := fun _ => fun
  | [d] => { results := [.lit (.bool true)], args := [d] }
  | _ => none }
def fnPlugInRow : OpenClaim := { program := "ythlcjojhmhoadaa", sum := "3c36e47f79d036f400983710a772a156c0dfa2091ef80fa27f3ffe29de9848fb", func := "loop.example/containerport/laws.FnPlugIn", spec := "fnPlugIn", inPlace := ["internal/bytealg.IndexByteString"], unfollowed := true, recurses := true, apart := false }
def FnPlugInSaid : Prop := fnPlugInRow.holds Try.pinned (OpenSpec.ofChange fnPlugInSpec)

/-- ITS FALSE NEIGHBOUR: 'it returns false'. Refute it at one input. -/
def fnPlugInWrong : ChangeSpec := { name := "fnPlugIn", fn := fun _ => fun
  | [d] => { results := [.lit (.bool false)], args := [d] }
  | _ => none }
def FnPlugInWrongFalsely : Prop := fnPlugInRow.holds Try.pinned (OpenSpec.ofChange fnPlugInWrong)

/-- 'laws.FnPlugMany': WHATEVER THE INPUT: true; the input reads as it did. -/
def fnPlugManySpec : ChangeSpec := { name := "fnPlugMany", fn := fun _ => fun
  | [d] => { results := [.lit (.bool true)], args := [d] }
  | _ => none }
def fnPlugManyRow : OpenClaim := { program := "ythlcjojhmhoadaa", sum := "3c36e47f79d036f400983710a772a156c0dfa2091ef80fa27f3ffe29de9848fb", func := "loop.example/containerport/laws.FnPlugMany", spec := "fnPlugMany", inPlace := ["internal/bytealg.IndexByteString"], unfollowed := true, recurses := true, apart := false }
def FnPlugManySaid : Prop := fnPlugManyRow.holds Try.pinned (OpenSpec.ofChange fnPlugManySpec)

/-- ITS FALSE NEIGHBOUR: 'it returns false'. Refute it at one input. -/
def fnPlugManyWrong : ChangeSpec := { name := "fnPlugMany", fn := fun _ => fun
  | [d] => { results := [.lit (.bool false)], args := [d] }
  | _ => none }
def FnPlugManyWrongFalsely : Prop := fnPlugManyRow.holds Try.pinned (OpenSpec.ofChange fnPlugManyWrong)

/-- 'laws.FnPlugsOf': WHATEVER THE INPUT: true; the input reads as it did. -/
def fnPlugsOfSpec : ChangeSpec := { name := "fnPlugsOf", fn := fun _ => fun
  | [d] => { results := [.lit (.bool true)], args := [d] }
  | _ => none }
def fnPlugsOfRow : OpenClaim := { program := "ythlcjojhmhoadaa", sum := "3c36e47f79d036f400983710a772a156c0dfa2091ef80fa27f3ffe29de9848fb", func := "loop.example/containerport/laws.FnPlugsOf", spec := "fnPlugsOf", inPlace := ["internal/bytealg.IndexByteString"], recurses := true, apart := false }
def FnPlugsOfSaid : Prop := fnPlugsOfRow.holds Try.pinned (OpenSpec.ofChange fnPlugsOfSpec)

/-- ITS FALSE NEIGHBOUR: 'it returns false'. Refute it at one input. -/
def fnPlugsOfWrong : ChangeSpec := { name := "fnPlugsOf", fn := fun _ => fun
  | [d] => { results := [.lit (.bool false)], args := [d] }
  | _ => none }
def FnPlugsOfWrongFalsely : Prop := fnPlugsOfRow.holds Try.pinned (OpenSpec.ofChange fnPlugsOfWrong)

/-- 'laws.FnExactUsesValid': WHATEVER THE INPUT: true; the input reads as it did. -/
def fnExactUsesValidSpec : ChangeSpec := { name := "fnExactUsesValid", fn := fun _ => fun
  | [d] => { results := [.lit (.bool true)], args := [d] }
  | _ => none }
def fnExactUsesValidRow : OpenClaim := { program := "ythlcjojhmhoadaa", sum := "3c36e47f79d036f400983710a772a156c0dfa2091ef80fa27f3ffe29de9848fb", func := "loop.example/containerport/laws.FnExactUsesValid", spec := "fnExactUsesValid", apart := false }
def FnExactUsesValidSaid : Prop := fnExactUsesValidRow.holds Try.pinned (OpenSpec.ofChange fnExactUsesValidSpec)

/-- ITS FALSE NEIGHBOUR: 'it returns false'. Refute it at one input. -/
def fnExactUsesValidWrong : ChangeSpec := { name := "fnExactUsesValid", fn := fun _ => fun
  | [d] => { results := [.lit (.bool false)], args := [d] }
  | _ => none }
def FnExactUsesValidWrongFalsely : Prop := fnExactUsesValidRow.holds Try.pinned (OpenSpec.ofChange fnExactUsesValidWrong)

/-- 'laws.FnExactPlugsValid': WHATEVER THE INPUT: true; the input reads as it did. -/
def fnExactPlugsValidSpec : ChangeSpec := { name := "fnExactPlugsValid", fn := fun _ => fun
  | [d1, d2] => { results := [.lit (.bool true)], args := [d1, d2] }
  | _ => none }
def fnExactPlugsValidRow : OpenClaim := { program := "ythlcjojhmhoadaa", sum := "3c36e47f79d036f400983710a772a156c0dfa2091ef80fa27f3ffe29de9848fb", func := "loop.example/containerport/laws.FnExactPlugsValid", spec := "fnExactPlugsValid", apart := false }
def FnExactPlugsValidSaid : Prop := fnExactPlugsValidRow.holds Try.pinned (OpenSpec.ofChange fnExactPlugsValidSpec)

/-- ITS FALSE NEIGHBOUR: 'it returns false'. Refute it at one input. -/
def fnExactPlugsValidWrong : ChangeSpec := { name := "fnExactPlugsValid", fn := fun _ => fun
  | [d1, d2] => { results := [.lit (.bool false)], args := [d1, d2] }
  | _ => none }
def FnExactPlugsValidWrongFalsely : Prop := fnExactPlugsValidRow.holds Try.pinned (OpenSpec.ofChange fnExactPlugsValidWrong)

/-- 'laws.FnExactPlugIn': WHATEVER THE INPUT: true; the input reads as it did. -/
def fnExactPlugInSpec : ChangeSpec := { name := "fnExactPlugIn", fn := fun _ => fun
  | [d] => { results := [.lit (.bool true)], args := [d] }
  | _ => none }
def fnExactPlugInRow : OpenClaim := { program := "ythlcjojhmhoadaa", sum := "3c36e47f79d036f400983710a772a156c0dfa2091ef80fa27f3ffe29de9848fb", func := "loop.example/containerport/laws.FnExactPlugIn", spec := "fnExactPlugIn", unfollowed := true, recurses := true, apart := false }
def FnExactPlugInSaid : Prop := fnExactPlugInRow.holds Try.pinned (OpenSpec.ofChange fnExactPlugInSpec)

/-- ITS FALSE NEIGHBOUR: 'it returns false'. Refute it at one input. -/
def fnExactPlugInWrong : ChangeSpec := { name := "fnExactPlugIn", fn := fun _ => fun
  | [d] => { results := [.lit (.bool false)], args := [d] }
  | _ => none }
def FnExactPlugInWrongFalsely : Prop := fnExactPlugInRow.holds Try.pinned (OpenSpec.ofChange fnExactPlugInWrong)

/-- 'laws.FnExactPlugMany': WHATEVER THE INPUT: true; the input reads as it did. -/
def fnExactPlugManySpec : ChangeSpec := { name := "fnExactPlugMany", fn := fun _ => fun
  | [d] => { results := [.lit (.bool true)], args := [d] }
  | _ => none }
def fnExactPlugManyRow : OpenClaim := { program := "ythlcjojhmhoadaa", sum := "3c36e47f79d036f400983710a772a156c0dfa2091ef80fa27f3ffe29de9848fb", func := "loop.example/containerport/laws.FnExactPlugMany", spec := "fnExactPlugMany", unfollowed := true, recurses := true, apart := false }
def FnExactPlugManySaid : Prop := fnExactPlugManyRow.holds Try.pinned (OpenSpec.ofChange fnExactPlugManySpec)

/-- ITS FALSE NEIGHBOUR: 'it returns false'. Refute it at one input. -/
def fnExactPlugManyWrong : ChangeSpec := { name := "fnExactPlugMany", fn := fun _ => fun
  | [d] => { results := [.lit (.bool false)], args := [d] }
  | _ => none }
def FnExactPlugManyWrongFalsely : Prop := fnExactPlugManyRow.holds Try.pinned (OpenSpec.ofChange fnExactPlugManyWrong)

/-- 'laws.FnExactPlugsOf': WHATEVER THE INPUT: true; the input reads as it did. -/
def fnExactPlugsOfSpec : ChangeSpec := { name := "fnExactPlugsOf", fn := fun _ => fun
  | [d1, d2] => { results := [.lit (.bool true)], args := [d1, d2] }
  | _ => none }
def fnExactPlugsOfRow : OpenClaim := { program := "ythlcjojhmhoadaa", sum := "3c36e47f79d036f400983710a772a156c0dfa2091ef80fa27f3ffe29de9848fb", func := "loop.example/containerport/laws.FnExactPlugsOf", spec := "fnExactPlugsOf", recurses := true, apart := false }
def FnExactPlugsOfSaid : Prop := fnExactPlugsOfRow.holds Try.pinned (OpenSpec.ofChange fnExactPlugsOfSpec)

/-- ITS FALSE NEIGHBOUR: 'it returns false'. Refute it at one input. -/
def fnExactPlugsOfWrong : ChangeSpec := { name := "fnExactPlugsOf", fn := fun _ => fun
  | [d1, d2] => { results := [.lit (.bool false)], args := [d1, d2] }
  | _ => none }
def FnExactPlugsOfWrongFalsely : Prop := fnExactPlugsOfRow.holds Try.pinned (OpenSpec.ofChange fnExactPlugsOfWrong)

/- THE SECOND FORM. 'bulk': how many values and letters a reading holds, each counted each time it is reached (what is shared counts as often as it is met; a slice's spare places count too). A statement '..UptoSaid' is the law's where the arguments, and the package variables that the reading takes, are together of bulk at most 1048576: NARROWER than '..Said'. Prove '..Said' where nothing that the law and all that it calls make is longer than what came in: it says more and counts as full. Else prove '..UptoSaid'. A law counts once. -/
mutual
def uptoBulk {H : Type} : DataW H → Nat
  | .lit (.string bytes) => bytes.length + 1
  | .lit _ => 1
  | .nil => 1
  | .ptr d => uptoBulk d + 1
  | .slice elems spare => uptoBulkAll elems + uptoBulkAll spare + 1
  | .agg parts => uptoBulkAll parts + 1
  | .iface _ d => uptoBulk d + 1
  | .map entries => uptoBulkEntries entries + 1
  | .held _ => 1
def uptoBulkAll {H : Type} : List (DataW H) → Nat
  | [] => 0
  | d :: r => uptoBulk d + uptoBulkAll r
def uptoBulkEntries {H : Type} : List (Lit × DataW H) → Nat
  | [] => 0
  | x :: r => uptoBulkEntry x + uptoBulkEntries r
def uptoBulkEntry {H : Type} : Lit × DataW H → Nat
  | (.string bytes, d) => bytes.length + uptoBulk d + 1
  | (_, d) => uptoBulk d + 1
 end
def uptoSmall : (H : Type) → List (DataW H) → Bool := fun _ ds => decide (uptoBulkAll ds ≤ 1048576)
def OpenSpec.upto (s : _root_.Go.ChangeSpec) : _root_.Go.OpenSpec := { _root_.Go.OpenSpec.ofChange s with cond := some uptoSmall }

/-- 'laws.FnUsesValid', WHERE WHAT IT READS IS OF BULK AT MOST 1048576: true; the input reads as it did. -/
def fnUsesValidUptoRow : OpenClaim := { program := "ythlcjojhmhoadaa", sum := "3c36e47f79d036f400983710a772a156c0dfa2091ef80fa27f3ffe29de9848fb", func := "loop.example/containerport/laws.FnUsesValid", spec := "fnUsesValid", inPlace := ["internal/bytealg.IndexByteString"], apart := false, narrowed := true }
def FnUsesValidUptoSaid : Prop := fnUsesValidUptoRow.holds Try.pinned (OpenSpec.upto fnUsesValidSpec)

/-- 'laws.FnPlugsValid', WHERE WHAT IT READS IS OF BULK AT MOST 1048576: true; the input reads as it did. -/
def fnPlugsValidUptoRow : OpenClaim := { program := "ythlcjojhmhoadaa", sum := "3c36e47f79d036f400983710a772a156c0dfa2091ef80fa27f3ffe29de9848fb", func := "loop.example/containerport/laws.FnPlugsValid", spec := "fnPlugsValid", inPlace := ["internal/bytealg.IndexByteString"], unfollowed := true, recurses := true, apart := false, narrowed := true }
def FnPlugsValidUptoSaid : Prop := fnPlugsValidUptoRow.holds Try.pinned (OpenSpec.upto fnPlugsValidSpec)

/-- 'laws.FnPlugIn', WHERE WHAT IT READS IS OF BULK AT MOST 1048576: true; the input reads as it did. -/
def fnPlugInUptoRow : OpenClaim := { program := "ythlcjojhmhoadaa", sum := "3c36e47f79d036f400983710a772a156c0dfa2091ef80fa27f3ffe29de9848fb", func := "loop.example/containerport/laws.FnPlugIn", spec := "fnPlugIn", inPlace := ["internal/bytealg.IndexByteString"], unfollowed := true, recurses := true, apart := false, narrowed := true }
def FnPlugInUptoSaid : Prop := fnPlugInUptoRow.holds Try.pinned (OpenSpec.upto fnPlugInSpec)

/-- 'laws.FnPlugMany', WHERE WHAT IT READS IS OF BULK AT MOST 1048576: true; the input reads as it did. -/
def fnPlugManyUptoRow : OpenClaim := { program := "ythlcjojhmhoadaa", sum := "3c36e47f79d036f400983710a772a156c0dfa2091ef80fa27f3ffe29de9848fb", func := "loop.example/containerport/laws.FnPlugMany", spec := "fnPlugMany", inPlace := ["internal/bytealg.IndexByteString"], unfollowed := true, recurses := true, apart := false, narrowed := true }
def FnPlugManyUptoSaid : Prop := fnPlugManyUptoRow.holds Try.pinned (OpenSpec.upto fnPlugManySpec)

/-- 'laws.FnPlugsOf', WHERE WHAT IT READS IS OF BULK AT MOST 1048576: true; the input reads as it did. -/
def fnPlugsOfUptoRow : OpenClaim := { program := "ythlcjojhmhoadaa", sum := "3c36e47f79d036f400983710a772a156c0dfa2091ef80fa27f3ffe29de9848fb", func := "loop.example/containerport/laws.FnPlugsOf", spec := "fnPlugsOf", inPlace := ["internal/bytealg.IndexByteString"], recurses := true, apart := false, narrowed := true }
def FnPlugsOfUptoSaid : Prop := fnPlugsOfUptoRow.holds Try.pinned (OpenSpec.upto fnPlugsOfSpec)

/-- 'laws.FnExactUsesValid', WHERE WHAT IT READS IS OF BULK AT MOST 1048576: true; the input reads as it did. -/
def fnExactUsesValidUptoRow : OpenClaim := { program := "ythlcjojhmhoadaa", sum := "3c36e47f79d036f400983710a772a156c0dfa2091ef80fa27f3ffe29de9848fb", func := "loop.example/containerport/laws.FnExactUsesValid", spec := "fnExactUsesValid", apart := false, narrowed := true }
def FnExactUsesValidUptoSaid : Prop := fnExactUsesValidUptoRow.holds Try.pinned (OpenSpec.upto fnExactUsesValidSpec)

/-- 'laws.FnExactPlugsValid', WHERE WHAT IT READS IS OF BULK AT MOST 1048576: true; the input reads as it did. -/
def fnExactPlugsValidUptoRow : OpenClaim := { program := "ythlcjojhmhoadaa", sum := "3c36e47f79d036f400983710a772a156c0dfa2091ef80fa27f3ffe29de9848fb", func := "loop.example/containerport/laws.FnExactPlugsValid", spec := "fnExactPlugsValid", apart := false, narrowed := true }
def FnExactPlugsValidUptoSaid : Prop := fnExactPlugsValidUptoRow.holds Try.pinned (OpenSpec.upto fnExactPlugsValidSpec)

/-- 'laws.FnExactPlugIn', WHERE WHAT IT READS IS OF BULK AT MOST 1048576: true; the input reads as it did. -/
def fnExactPlugInUptoRow : OpenClaim := { program := "ythlcjojhmhoadaa", sum := "3c36e47f79d036f400983710a772a156c0dfa2091ef80fa27f3ffe29de9848fb", func := "loop.example/containerport/laws.FnExactPlugIn", spec := "fnExactPlugIn", unfollowed := true, recurses := true, apart := false, narrowed := true }
def FnExactPlugInUptoSaid : Prop := fnExactPlugInUptoRow.holds Try.pinned (OpenSpec.upto fnExactPlugInSpec)

/-- 'laws.FnExactPlugMany', WHERE WHAT IT READS IS OF BULK AT MOST 1048576: true; the input reads as it did. -/
def fnExactPlugManyUptoRow : OpenClaim := { program := "ythlcjojhmhoadaa", sum := "3c36e47f79d036f400983710a772a156c0dfa2091ef80fa27f3ffe29de9848fb", func := "loop.example/containerport/laws.FnExactPlugMany", spec := "fnExactPlugMany", unfollowed := true, recurses := true, apart := false, narrowed := true }
def FnExactPlugManyUptoSaid : Prop := fnExactPlugManyUptoRow.holds Try.pinned (OpenSpec.upto fnExactPlugManySpec)

/-- 'laws.FnExactPlugsOf', WHERE WHAT IT READS IS OF BULK AT MOST 1048576: true; the input reads as it did. -/
def fnExactPlugsOfUptoRow : OpenClaim := { program := "ythlcjojhmhoadaa", sum := "3c36e47f79d036f400983710a772a156c0dfa2091ef80fa27f3ffe29de9848fb", func := "loop.example/containerport/laws.FnExactPlugsOf", spec := "fnExactPlugsOf", recurses := true, apart := false, narrowed := true }
def FnExactPlugsOfUptoSaid : Prop := fnExactPlugsOfUptoRow.holds Try.pinned (OpenSpec.upto fnExactPlugsOfSpec)

end Rows
end Go.Proofs.Ythlcjojhmhoadaa
