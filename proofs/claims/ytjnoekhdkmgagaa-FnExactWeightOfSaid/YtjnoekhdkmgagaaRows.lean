/-
  No cell of these rows narrows 'for every input' (looked for: loops, veiled, ifaces, maps, wideKeys, modest, calm, conditions, laid).
  DERIVED. THE GIVEN ROWS OF THIS SEAT. 9 by the template 'for every input the law returns true; each argument reads behind the call as it read before'; 0 by the template 'total and deterministic' (their statements: YtjnoekhdkmgagaaTotals.lean).
  GIVEN WITH THE SEED: the statements are not yours to turn. If you find one false, say at which input.
  Laid BY PROGRAM, IN A SANDBOX (cutbox-rows.mjs): the forced cells as the released guide's own fill.sh prints them over the translation 7eef148afabe44f9… (all of the seat's roots in one cut). By AI agents, Wed Nov 11 2026. No macro, syntax, notation, axiom, sorry.
-/
import Derived.Test.YtjnoekhdkmgagaaChecked
import GoSem.Claim
import GoSem.ClaimJoined
import GoSem.ClaimMapViews
import Derived.JoinedTies
import Derived.KernelRfl
namespace Go.Proofs.Ytjnoekhdkmgagaa
/- THE CELL 'sum', in the pinned program and in every row, IS THE sha256 OF THE DUMP (.gsa) THAT YtjnoekhdkmgagaaProg.lean LOADS. Nothing in Lean hashes anything: it is a label: what it is worth is what the hold of that sum in a sandbox is worth. -/
noncomputable def Try.pinned : Pinned := { name := "ytjnoekhdkmgagaa", sum := "7eef148afabe44f9e0054670bf5260bc849aea7c38582854e74688460c25b4d2", checked := Try.checked }
namespace Rows
def none {H : Type} : Left H := { results := [], args := [] }

/-- 'laws.FnBoxValid': WHATEVER THE INPUT: true; the input reads as it did. -/
def fnBoxValidSpec : ChangeSpec := { name := "fnBoxValid", fn := fun _ => fun
  | [d] => { results := [.lit (.bool true)], args := [d] }
  | _ => none }
def fnBoxValidRow : OpenClaim := { program := "ytjnoekhdkmgagaa", sum := "7eef148afabe44f9e0054670bf5260bc849aea7c38582854e74688460c25b4d2", func := "loop.example/containerport/laws.FnBoxValid", spec := "fnBoxValid", inPlace := ["internal/bytealg.IndexByteString"], apart := false }
def FnBoxValidSaid : Prop := fnBoxValidRow.holds Try.pinned (OpenSpec.ofChange fnBoxValidSpec)

/-- ITS FALSE NEIGHBOUR: 'it returns false'. Refute it at one input. -/
def fnBoxValidWrong : ChangeSpec := { name := "fnBoxValid", fn := fun _ => fun
  | [d] => { results := [.lit (.bool false)], args := [d] }
  | _ => none }
def FnBoxValidWrongFalsely : Prop := fnBoxValidRow.holds Try.pinned (OpenSpec.ofChange fnBoxValidWrong)

/-- 'laws.FnBoxesValid': WHATEVER THE INPUT: true; the input reads as it did. -/
def fnBoxesValidSpec : ChangeSpec := { name := "fnBoxesValid", fn := fun _ => fun
  | [d] => { results := [.lit (.bool true)], args := [d] }
  | _ => none }
def fnBoxesValidRow : OpenClaim := { program := "ytjnoekhdkmgagaa", sum := "7eef148afabe44f9e0054670bf5260bc849aea7c38582854e74688460c25b4d2", func := "loop.example/containerport/laws.FnBoxesValid", spec := "fnBoxesValid", inPlace := ["internal/bytealg.IndexByteString"], apart := false }
def FnBoxesValidSaid : Prop := fnBoxesValidRow.holds Try.pinned (OpenSpec.ofChange fnBoxesValidSpec)

/-- ITS FALSE NEIGHBOUR: 'it returns false'. Refute it at one input. -/
def fnBoxesValidWrong : ChangeSpec := { name := "fnBoxesValid", fn := fun _ => fun
  | [d] => { results := [.lit (.bool false)], args := [d] }
  | _ => none }
def FnBoxesValidWrongFalsely : Prop := fnBoxesValidRow.holds Try.pinned (OpenSpec.ofChange fnBoxesValidWrong)

/-- 'laws.FnFindBox': WHATEVER THE INPUT: true; the input reads as it did. -/
def fnFindBoxSpec : ChangeSpec := { name := "fnFindBox", fn := fun _ => fun
  | [d] => { results := [.lit (.bool true)], args := [d] }
  | _ => none }
def fnFindBoxRow : OpenClaim := { program := "ytjnoekhdkmgagaa", sum := "7eef148afabe44f9e0054670bf5260bc849aea7c38582854e74688460c25b4d2", func := "loop.example/containerport/laws.FnFindBox", spec := "fnFindBox", inPlace := ["internal/bytealg.IndexByteString"], apart := false }
def FnFindBoxSaid : Prop := fnFindBoxRow.holds Try.pinned (OpenSpec.ofChange fnFindBoxSpec)

/-- ITS FALSE NEIGHBOUR: 'it returns false'. Refute it at one input. -/
def fnFindBoxWrong : ChangeSpec := { name := "fnFindBox", fn := fun _ => fun
  | [d] => { results := [.lit (.bool false)], args := [d] }
  | _ => none }
def FnFindBoxWrongFalsely : Prop := fnFindBoxRow.holds Try.pinned (OpenSpec.ofChange fnFindBoxWrong)

/-- 'laws.FnWeightOf': WHATEVER THE INPUT: true; the input reads as it did. -/
def fnWeightOfSpec : ChangeSpec := { name := "fnWeightOf", fn := fun _ => fun
  | [d] => { results := [.lit (.bool true)], args := [d] }
  | _ => none }
def fnWeightOfRow : OpenClaim := { program := "ytjnoekhdkmgagaa", sum := "7eef148afabe44f9e0054670bf5260bc849aea7c38582854e74688460c25b4d2", func := "loop.example/containerport/laws.FnWeightOf", spec := "fnWeightOf", inPlace := ["internal/bytealg.IndexByteString"], apart := false }
def FnWeightOfSaid : Prop := fnWeightOfRow.holds Try.pinned (OpenSpec.ofChange fnWeightOfSpec)

/-- ITS FALSE NEIGHBOUR: 'it returns false'. Refute it at one input. -/
def fnWeightOfWrong : ChangeSpec := { name := "fnWeightOf", fn := fun _ => fun
  | [d] => { results := [.lit (.bool false)], args := [d] }
  | _ => none }
def FnWeightOfWrongFalsely : Prop := fnWeightOfRow.holds Try.pinned (OpenSpec.ofChange fnWeightOfWrong)

/-- 'laws.FnExactBoxValid': WHATEVER THE INPUT: true; the input reads as it did. -/
def fnExactBoxValidSpec : ChangeSpec := { name := "fnExactBoxValid", fn := fun _ => fun
  | [d] => { results := [.lit (.bool true)], args := [d] }
  | _ => none }
def fnExactBoxValidRow : OpenClaim := { program := "ytjnoekhdkmgagaa", sum := "7eef148afabe44f9e0054670bf5260bc849aea7c38582854e74688460c25b4d2", func := "loop.example/containerport/laws.FnExactBoxValid", spec := "fnExactBoxValid", apart := false }
def FnExactBoxValidSaid : Prop := fnExactBoxValidRow.holds Try.pinned (OpenSpec.ofChange fnExactBoxValidSpec)

/-- ITS FALSE NEIGHBOUR: 'it returns false'. Refute it at one input. -/
def fnExactBoxValidWrong : ChangeSpec := { name := "fnExactBoxValid", fn := fun _ => fun
  | [d] => { results := [.lit (.bool false)], args := [d] }
  | _ => none }
def FnExactBoxValidWrongFalsely : Prop := fnExactBoxValidRow.holds Try.pinned (OpenSpec.ofChange fnExactBoxValidWrong)

/-- 'laws.FnExactReadBox': WHATEVER THE INPUT: true; the input reads as it did. -/
def fnExactReadBoxSpec : ChangeSpec := { name := "fnExactReadBox", fn := fun _ => fun
  | [d] => { results := [.lit (.bool true)], args := [d] }
  | _ => none }
def fnExactReadBoxRow : OpenClaim := { program := "ytjnoekhdkmgagaa", sum := "7eef148afabe44f9e0054670bf5260bc849aea7c38582854e74688460c25b4d2", func := "loop.example/containerport/laws.FnExactReadBox", spec := "fnExactReadBox", inPlace := ["internal/bytealg.IndexByteString", "internal/bytealg.IndexString"], recurses := true, named := ["internal/bytealg.MaxLen"], apart := false }
def FnExactReadBoxSaid : Prop := fnExactReadBoxRow.holds Try.pinned (OpenSpec.ofChange fnExactReadBoxSpec)

/-- ITS FALSE NEIGHBOUR: 'it returns false'. Refute it at one input. -/
def fnExactReadBoxWrong : ChangeSpec := { name := "fnExactReadBox", fn := fun _ => fun
  | [d] => { results := [.lit (.bool false)], args := [d] }
  | _ => none }
def FnExactReadBoxWrongFalsely : Prop := fnExactReadBoxRow.holds Try.pinned (OpenSpec.ofChange fnExactReadBoxWrong)

/-- 'laws.FnExactBoxesValid': WHATEVER THE INPUT: true; the input reads as it did. -/
def fnExactBoxesValidSpec : ChangeSpec := { name := "fnExactBoxesValid", fn := fun _ => fun
  | [d] => { results := [.lit (.bool true)], args := [d] }
  | _ => none }
def fnExactBoxesValidRow : OpenClaim := { program := "ytjnoekhdkmgagaa", sum := "7eef148afabe44f9e0054670bf5260bc849aea7c38582854e74688460c25b4d2", func := "loop.example/containerport/laws.FnExactBoxesValid", spec := "fnExactBoxesValid", apart := false }
def FnExactBoxesValidSaid : Prop := fnExactBoxesValidRow.holds Try.pinned (OpenSpec.ofChange fnExactBoxesValidSpec)

/-- ITS FALSE NEIGHBOUR: 'it returns false'. Refute it at one input. -/
def fnExactBoxesValidWrong : ChangeSpec := { name := "fnExactBoxesValid", fn := fun _ => fun
  | [d] => { results := [.lit (.bool false)], args := [d] }
  | _ => none }
def FnExactBoxesValidWrongFalsely : Prop := fnExactBoxesValidRow.holds Try.pinned (OpenSpec.ofChange fnExactBoxesValidWrong)

/-- 'laws.FnExactFindBox': WHATEVER THE INPUT: true; the input reads as it did. -/
def fnExactFindBoxSpec : ChangeSpec := { name := "fnExactFindBox", fn := fun _ => fun
  | [d1, d2] => { results := [.lit (.bool true)], args := [d1, d2] }
  | _ => none }
def fnExactFindBoxRow : OpenClaim := { program := "ytjnoekhdkmgagaa", sum := "7eef148afabe44f9e0054670bf5260bc849aea7c38582854e74688460c25b4d2", func := "loop.example/containerport/laws.FnExactFindBox", spec := "fnExactFindBox", apart := false }
def FnExactFindBoxSaid : Prop := fnExactFindBoxRow.holds Try.pinned (OpenSpec.ofChange fnExactFindBoxSpec)

/-- ITS FALSE NEIGHBOUR: 'it returns false'. Refute it at one input. -/
def fnExactFindBoxWrong : ChangeSpec := { name := "fnExactFindBox", fn := fun _ => fun
  | [d1, d2] => { results := [.lit (.bool false)], args := [d1, d2] }
  | _ => none }
def FnExactFindBoxWrongFalsely : Prop := fnExactFindBoxRow.holds Try.pinned (OpenSpec.ofChange fnExactFindBoxWrong)

/-- 'laws.FnExactWeightOf': WHATEVER THE INPUT: true; the input reads as it did. -/
def fnExactWeightOfSpec : ChangeSpec := { name := "fnExactWeightOf", fn := fun _ => fun
  | [d1, d2] => { results := [.lit (.bool true)], args := [d1, d2] }
  | _ => none }
def fnExactWeightOfRow : OpenClaim := { program := "ytjnoekhdkmgagaa", sum := "7eef148afabe44f9e0054670bf5260bc849aea7c38582854e74688460c25b4d2", func := "loop.example/containerport/laws.FnExactWeightOf", spec := "fnExactWeightOf", apart := false }
def FnExactWeightOfSaid : Prop := fnExactWeightOfRow.holds Try.pinned (OpenSpec.ofChange fnExactWeightOfSpec)

/-- ITS FALSE NEIGHBOUR: 'it returns false'. Refute it at one input. -/
def fnExactWeightOfWrong : ChangeSpec := { name := "fnExactWeightOf", fn := fun _ => fun
  | [d1, d2] => { results := [.lit (.bool false)], args := [d1, d2] }
  | _ => none }
def FnExactWeightOfWrongFalsely : Prop := fnExactWeightOfRow.holds Try.pinned (OpenSpec.ofChange fnExactWeightOfWrong)

/- THE SECOND FORM. 'bulk': how many values and letters a reading holds, each counted each time it is reached (what is shared counts as often as it is met; a slice's spare places count too). A statement '..UptoSaid' is the law's where the arguments, and the package variables that the reading takes, are together of bulk at most 1048576: NARROWER than '..Said'. Prove '..Said' where nothing that the law and all that it calls make is longer than what came in: it says more and counts as full. Else prove '..UptoSaid'. A law counts once. -/
mutual
def uptoBulk {H : Type} : DataW H → Nat
  | .lit (.string bytes) => bytes.length + 1
  | .lit _ => 1
  | .nil => 1
  | .ptr d => uptoBulk d + 1
  | .slice elems spare => uptoBulkAll elems + uptoBulkAll spare + 1
  | .agg parts => uptoBulkAll parts + 1
  | .iface _ d => uptoBulk d + 1
  | .map entries => uptoBulkEntries entries + 1
  | .held _ => 1
def uptoBulkAll {H : Type} : List (DataW H) → Nat
  | [] => 0
  | d :: r => uptoBulk d + uptoBulkAll r
def uptoBulkEntries {H : Type} : List (Lit × DataW H) → Nat
  | [] => 0
  | x :: r => uptoBulkEntry x + uptoBulkEntries r
def uptoBulkEntry {H : Type} : Lit × DataW H → Nat
  | (.string bytes, d) => bytes.length + uptoBulk d + 1
  | (_, d) => uptoBulk d + 1
 end
def uptoSmall : (H : Type) → List (DataW H) → Bool := fun _ ds => decide (uptoBulkAll ds ≤ 1048576)
def OpenSpec.upto (s : _root_.Go.ChangeSpec) : _root_.Go.OpenSpec := { _root_.Go.OpenSpec.ofChange s with cond := some uptoSmall }

/-- 'laws.FnBoxValid', WHERE WHAT IT READS IS OF BULK AT MOST 1048576: true; the input reads as it did. -/
def fnBoxValidUptoRow : OpenClaim := { program := "ytjnoekhdkmgagaa", sum := "7eef148afabe44f9e0054670bf5260bc849aea7c38582854e74688460c25b4d2", func := "loop.example/containerport/laws.FnBoxValid", spec := "fnBoxValid", inPlace := ["internal/bytealg.IndexByteString"], apart := false, narrowed := true }
def FnBoxValidUptoSaid : Prop := fnBoxValidUptoRow.holds Try.pinned (OpenSpec.upto fnBoxValidSpec)

/-- 'laws.FnBoxesValid', WHERE WHAT IT READS IS OF BULK AT MOST 1048576: true; the input reads as it did. -/
def fnBoxesValidUptoRow : OpenClaim := { program := "ytjnoekhdkmgagaa", sum := "7eef148afabe44f9e0054670bf5260bc849aea7c38582854e74688460c25b4d2", func := "loop.example/containerport/laws.FnBoxesValid", spec := "fnBoxesValid", inPlace := ["internal/bytealg.IndexByteString"], apart := false, narrowed := true }
def FnBoxesValidUptoSaid : Prop := fnBoxesValidUptoRow.holds Try.pinned (OpenSpec.upto fnBoxesValidSpec)

/-- 'laws.FnFindBox', WHERE WHAT IT READS IS OF BULK AT MOST 1048576: true; the input reads as it did. -/
def fnFindBoxUptoRow : OpenClaim := { program := "ytjnoekhdkmgagaa", sum := "7eef148afabe44f9e0054670bf5260bc849aea7c38582854e74688460c25b4d2", func := "loop.example/containerport/laws.FnFindBox", spec := "fnFindBox", inPlace := ["internal/bytealg.IndexByteString"], apart := false, narrowed := true }
def FnFindBoxUptoSaid : Prop := fnFindBoxUptoRow.holds Try.pinned (OpenSpec.upto fnFindBoxSpec)

/-- 'laws.FnWeightOf', WHERE WHAT IT READS IS OF BULK AT MOST 1048576: true; the input reads as it did. -/
def fnWeightOfUptoRow : OpenClaim := { program := "ytjnoekhdkmgagaa", sum := "7eef148afabe44f9e0054670bf5260bc849aea7c38582854e74688460c25b4d2", func := "loop.example/containerport/laws.FnWeightOf", spec := "fnWeightOf", inPlace := ["internal/bytealg.IndexByteString"], apart := false, narrowed := true }
def FnWeightOfUptoSaid : Prop := fnWeightOfUptoRow.holds Try.pinned (OpenSpec.upto fnWeightOfSpec)

/-- 'laws.FnExactBoxValid', WHERE WHAT IT READS IS OF BULK AT MOST 1048576: true; the input reads as it did. -/
def fnExactBoxValidUptoRow : OpenClaim := { program := "ytjnoekhdkmgagaa", sum := "7eef148afabe44f9e0054670bf5260bc849aea7c38582854e74688460c25b4d2", func := "loop.example/containerport/laws.FnExactBoxValid", spec := "fnExactBoxValid", apart := false, narrowed := true }
def FnExactBoxValidUptoSaid : Prop := fnExactBoxValidUptoRow.holds Try.pinned (OpenSpec.upto fnExactBoxValidSpec)

/-- 'laws.FnExactReadBox', WHERE WHAT IT READS IS OF BULK AT MOST 1048576: true; the input reads as it did. -/
def fnExactReadBoxUptoRow : OpenClaim := { program := "ytjnoekhdkmgagaa", sum := "7eef148afabe44f9e0054670bf5260bc849aea7c38582854e74688460c25b4d2", func := "loop.example/containerport/laws.FnExactReadBox", spec := "fnExactReadBox", inPlace := ["internal/bytealg.IndexByteString", "internal/bytealg.IndexString"], recurses := true, named := ["internal/bytealg.MaxLen"], apart := false, narrowed := true }
def FnExactReadBoxUptoSaid : Prop := fnExactReadBoxUptoRow.holds Try.pinned (OpenSpec.upto fnExactReadBoxSpec)

/-- 'laws.FnExactBoxesValid', WHERE WHAT IT READS IS OF BULK AT MOST 1048576: true; the input reads as it did. -/
def fnExactBoxesValidUptoRow : OpenClaim := { program := "ytjnoekhdkmgagaa", sum := "7eef148afabe44f9e0054670bf5260bc849aea7c38582854e74688460c25b4d2", func := "loop.example/containerport/laws.FnExactBoxesValid", spec := "fnExactBoxesValid", apart := false, narrowed := true }
def FnExactBoxesValidUptoSaid : Prop := fnExactBoxesValidUptoRow.holds Try.pinned (OpenSpec.upto fnExactBoxesValidSpec)

/-- 'laws.FnExactFindBox', WHERE WHAT IT READS IS OF BULK AT MOST 1048576: true; the input reads as it did. -/
def fnExactFindBoxUptoRow : OpenClaim := { program := "ytjnoekhdkmgagaa", sum := "7eef148afabe44f9e0054670bf5260bc849aea7c38582854e74688460c25b4d2", func := "loop.example/containerport/laws.FnExactFindBox", spec := "fnExactFindBox", apart := false, narrowed := true }
def FnExactFindBoxUptoSaid : Prop := fnExactFindBoxUptoRow.holds Try.pinned (OpenSpec.upto fnExactFindBoxSpec)

/-- 'laws.FnExactWeightOf', WHERE WHAT IT READS IS OF BULK AT MOST 1048576: true; the input reads as it did. -/
def fnExactWeightOfUptoRow : OpenClaim := { program := "ytjnoekhdkmgagaa", sum := "7eef148afabe44f9e0054670bf5260bc849aea7c38582854e74688460c25b4d2", func := "loop.example/containerport/laws.FnExactWeightOf", spec := "fnExactWeightOf", apart := false, narrowed := true }
def FnExactWeightOfUptoSaid : Prop := fnExactWeightOfUptoRow.holds Try.pinned (OpenSpec.upto fnExactWeightOfSpec)

end Rows
end Go.Proofs.Ytjnoekhdkmgagaa
