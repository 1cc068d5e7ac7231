/-
  No cell of these rows narrows 'for every input' (looked for: loops, veiled, ifaces, maps, wideKeys, modest, calm, conditions, laid).
  DERIVED. THE GIVEN ROWS OF THIS SEAT. 2 by the template 'for every input the law returns true; each argument reads behind the call as it read before'; 0 by the template 'total and deterministic' (their statements: YtdmbahpifbidlabTotals.lean).
  GIVEN WITH THE SEED: the statements are not yours to turn. If you find one false, say at which input.
  Laid BY PROGRAM, IN A SANDBOX (cutbox-rows.mjs): the forced cells as the released guide's own fill.sh prints them over the translation d9275c1af79f9181… (all of the seat's roots in one cut). By AI agents, Wed Nov 11 2026. No macro, syntax, notation, axiom, sorry.
-/
import Derived.Test.YtdmbahpifbidlabChecked
import GoSem.Claim
import GoSem.ClaimJoined
import GoSem.ClaimMapViews
import Derived.JoinedTies
import Derived.KernelRfl
namespace Go.Proofs.Ytdmbahpifbidlab
/- THE CELL 'sum', in the pinned program and in every row, IS THE sha256 OF THE DUMP (.gsa) THAT YtdmbahpifbidlabProg.lean LOADS. Nothing in Lean hashes anything: it is a label: what it is worth is what the hold of that sum in a sandbox is worth. -/
noncomputable def Try.pinned : Pinned := { name := "ytdmbahpifbidlab", sum := "d9275c1af79f91810af857b3d6916dc452e0b72029d08a331f015fea310f0db4", checked := Try.checked }
namespace Rows
def none {H : Type} : Left H := { results := [], args := [] }

/-- 'laws.FnExactYardMove': WHATEVER THE INPUT: true; the input reads as it did. -/
def fnExactYardMoveSpec : ChangeSpec := { name := "fnExactYardMove", fn := fun _ => fun
  | [d1, d2] => { results := [.lit (.bool true)], args := [d1, d2] }
  | _ => none }
def fnExactYardMoveRow : OpenClaim := { program := "ytdmbahpifbidlab", sum := "d9275c1af79f91810af857b3d6916dc452e0b72029d08a331f015fea310f0db4", func := "loop.example/containerport/laws.FnExactYardMove", spec := "fnExactYardMove", recurses := true, apart := false }
def FnExactYardMoveSaid : Prop := fnExactYardMoveRow.holds Try.pinned (OpenSpec.ofChange fnExactYardMoveSpec)

/-- ITS FALSE NEIGHBOUR: 'it returns false'. Refute it at one input. -/
def fnExactYardMoveWrong : ChangeSpec := { name := "fnExactYardMove", fn := fun _ => fun
  | [d1, d2] => { results := [.lit (.bool false)], args := [d1, d2] }
  | _ => none }
def FnExactYardMoveWrongFalsely : Prop := fnExactYardMoveRow.holds Try.pinned (OpenSpec.ofChange fnExactYardMoveWrong)

/-- 'laws.FnExactYardRun': WHATEVER THE INPUT: true; the input reads as it did. -/
def fnExactYardRunSpec : ChangeSpec := { name := "fnExactYardRun", fn := fun _ => fun
  | [d1, d2] => { results := [.lit (.bool true)], args := [d1, d2] }
  | _ => none }
def fnExactYardRunRow : OpenClaim := { program := "ytdmbahpifbidlab", sum := "d9275c1af79f91810af857b3d6916dc452e0b72029d08a331f015fea310f0db4", func := "loop.example/containerport/laws.FnExactYardRun", spec := "fnExactYardRun", recurses := true, apart := false }
def FnExactYardRunSaid : Prop := fnExactYardRunRow.holds Try.pinned (OpenSpec.ofChange fnExactYardRunSpec)

/-- ITS FALSE NEIGHBOUR: 'it returns false'. Refute it at one input. -/
def fnExactYardRunWrong : ChangeSpec := { name := "fnExactYardRun", fn := fun _ => fun
  | [d1, d2] => { results := [.lit (.bool false)], args := [d1, d2] }
  | _ => none }
def FnExactYardRunWrongFalsely : Prop := fnExactYardRunRow.holds Try.pinned (OpenSpec.ofChange fnExactYardRunWrong)

/- THE SECOND FORM. 'bulk': how many values and letters a reading holds, each counted each time it is reached (what is shared counts as often as it is met; a slice's spare places count too). A statement '..UptoSaid' is the law's where the arguments, and the package variables that the reading takes, are together of bulk at most 1048576: NARROWER than '..Said'. Prove '..Said' where nothing that the law and all that it calls make is longer than what came in: it says more and counts as full. Else prove '..UptoSaid'. A law counts once. -/
mutual
def uptoBulk {H : Type} : DataW H → Nat
  | .lit (.string bytes) => bytes.length + 1
  | .lit _ => 1
  | .nil => 1
  | .ptr d => uptoBulk d + 1
  | .slice elems spare => uptoBulkAll elems + uptoBulkAll spare + 1
  | .agg parts => uptoBulkAll parts + 1
  | .iface _ d => uptoBulk d + 1
  | .map entries => uptoBulkEntries entries + 1
  | .held _ => 1
def uptoBulkAll {H : Type} : List (DataW H) → Nat
  | [] => 0
  | d :: r => uptoBulk d + uptoBulkAll r
def uptoBulkEntries {H : Type} : List (Lit × DataW H) → Nat
  | [] => 0
  | x :: r => uptoBulkEntry x + uptoBulkEntries r
def uptoBulkEntry {H : Type} : Lit × DataW H → Nat
  | (.string bytes, d) => bytes.length + uptoBulk d + 1
  | (_, d) => uptoBulk d + 1
 end
def uptoSmall : (H : Type) → List (DataW H) → Bool := fun _ ds => decide (uptoBulkAll ds ≤ 1048576)
def OpenSpec.upto (s : _root_.Go.ChangeSpec) : _root_.Go.OpenSpec := { _root_.Go.OpenSpec.ofChange s with cond := some uptoSmall }

/-- 'laws.FnExactYardMove', WHERE WHAT IT READS IS OF BULK AT MOST 1048576: true; the input reads as it did. -/
def fnExactYardMoveUptoRow : OpenClaim := { program := "ytdmbahpifbidlab", sum := "d9275c1af79f91810af857b3d6916dc452e0b72029d08a331f015fea310f0db4", func := "loop.example/containerport/laws.FnExactYardMove", spec := "fnExactYardMove", recurses := true, apart := false, narrowed := true }
def FnExactYardMoveUptoSaid : Prop := fnExactYardMoveUptoRow.holds Try.pinned (OpenSpec.upto fnExactYardMoveSpec)

/-- 'laws.FnExactYardRun', WHERE WHAT IT READS IS OF BULK AT MOST 1048576: true; the input reads as it did. -/
def fnExactYardRunUptoRow : OpenClaim := { program := "ytdmbahpifbidlab", sum := "d9275c1af79f91810af857b3d6916dc452e0b72029d08a331f015fea310f0db4", func := "loop.example/containerport/laws.FnExactYardRun", spec := "fnExactYardRun", recurses := true, apart := false, narrowed := true }
def FnExactYardRunUptoSaid : Prop := fnExactYardRunUptoRow.holds Try.pinned (OpenSpec.upto fnExactYardRunSpec)

end Rows
end Go.Proofs.Ytdmbahpifbidlab
