/-
  No cell of these rows narrows 'for every input' (looked for: loops, veiled, ifaces, maps, wideKeys, modest, calm, conditions, laid).
  DERIVED. THE GIVEN ROWS OF THIS SEAT. 8 by the template 'for every input the law returns true; each argument reads behind the call as it read before'; 0 by the template 'total and deterministic' (their statements: YtbglbkeebapfpaaTotals.lean).
  GIVEN WITH THE SEED: the statements are not yours to turn. If you find one false, say at which input.
  Laid BY PROGRAM, IN A SANDBOX (cutbox-rows.mjs): the forced cells as the released guide's own fill.sh prints them over the translation 1f554af84d9ef8b6… (all of the seat's roots in one cut). By AI agents, Wed Nov 11 2026. No macro, syntax, notation, axiom, sorry.
-/
import Derived.Test.YtbglbkeebapfpaaChecked
import GoSem.Claim
import GoSem.ClaimJoined
import GoSem.ClaimMapViews
import Derived.JoinedTies
import Derived.KernelRfl
namespace Go.Proofs.Ytbglbkeebapfpaa
/- THE CELL 'sum', in the pinned program and in every row, IS THE sha256 OF THE DUMP (.gsa) THAT YtbglbkeebapfpaaProg.lean LOADS. Nothing in Lean hashes anything: it is a label: what it is worth is what the hold of that sum in a sandbox is worth. -/
noncomputable def Try.pinned : Pinned := { name := "ytbglbkeebapfpaa", sum := "1f554af84d9ef8b6267121818faeb6ee7e4972ab6dcd80b6443e62c2cd7c63cf", checked := Try.checked }
namespace Rows
def none {H : Type} : Left H := { results := [], args := [] }

/-- 'laws.FnLoadOk': WHATEVER THE INPUT: true; the input reads as it did. -/
def fnLoadOkSpec : ChangeSpec := { name := "fnLoadOk", fn := fun _ => fun
  | [d] => { results := [.lit (.bool true)], args := [d] }
  | _ => none }
def fnLoadOkRow : OpenClaim := { program := "ytbglbkeebapfpaa", sum := "1f554af84d9ef8b6267121818faeb6ee7e4972ab6dcd80b6443e62c2cd7c63cf", func := "loop.example/containerport/laws.FnLoadOk", spec := "fnLoadOk", inPlace := ["internal/bytealg.IndexByteString"], apart := false }
def FnLoadOkSaid : Prop := fnLoadOkRow.holds Try.pinned (OpenSpec.ofChange fnLoadOkSpec)

/-- ITS FALSE NEIGHBOUR: 'it returns false'. Refute it at one input. -/
def fnLoadOkWrong : ChangeSpec := { name := "fnLoadOk", fn := fun _ => fun
  | [d] => { results := [.lit (.bool false)], args := [d] }
  | _ => none }
def FnLoadOkWrongFalsely : Prop := fnLoadOkRow.holds Try.pinned (OpenSpec.ofChange fnLoadOkWrong)

/-- 'laws.FnLoadOrder': WHATEVER THE INPUT: true; the input reads as it did. -/
def fnLoadOrderSpec : ChangeSpec := { name := "fnLoadOrder", fn := fun _ => fun
  | [d] => { results := [.lit (.bool true)], args := [d] }
  | _ => none }
def fnLoadOrderRow : OpenClaim := { program := "ytbglbkeebapfpaa", sum := "1f554af84d9ef8b6267121818faeb6ee7e4972ab6dcd80b6443e62c2cd7c63cf", func := "loop.example/containerport/laws.FnLoadOrder", spec := "fnLoadOrder", inPlace := ["internal/bytealg.IndexByteString"], apart := false }
def FnLoadOrderSaid : Prop := fnLoadOrderRow.holds Try.pinned (OpenSpec.ofChange fnLoadOrderSpec)

/-- ITS FALSE NEIGHBOUR: 'it returns false'. Refute it at one input. -/
def fnLoadOrderWrong : ChangeSpec := { name := "fnLoadOrder", fn := fun _ => fun
  | [d] => { results := [.lit (.bool false)], args := [d] }
  | _ => none }
def FnLoadOrderWrongFalsely : Prop := fnLoadOrderRow.holds Try.pinned (OpenSpec.ofChange fnLoadOrderWrong)

/-- 'laws.FnWorstHeel': WHATEVER THE INPUT: true; the input reads as it did. -/
def fnWorstHeelSpec : ChangeSpec := { name := "fnWorstHeel", fn := fun _ => fun
  | [d] => { results := [.lit (.bool true)], args := [d] }
  | _ => none }
def fnWorstHeelRow : OpenClaim := { program := "ytbglbkeebapfpaa", sum := "1f554af84d9ef8b6267121818faeb6ee7e4972ab6dcd80b6443e62c2cd7c63cf", func := "loop.example/containerport/laws.FnWorstHeel", spec := "fnWorstHeel", inPlace := ["internal/bytealg.IndexByteString"], apart := false }
def FnWorstHeelSaid : Prop := fnWorstHeelRow.holds Try.pinned (OpenSpec.ofChange fnWorstHeelSpec)

/-- ITS FALSE NEIGHBOUR: 'it returns false'. Refute it at one input. -/
def fnWorstHeelWrong : ChangeSpec := { name := "fnWorstHeel", fn := fun _ => fun
  | [d] => { results := [.lit (.bool false)], args := [d] }
  | _ => none }
def FnWorstHeelWrongFalsely : Prop := fnWorstHeelRow.holds Try.pinned (OpenSpec.ofChange fnWorstHeelWrong)

/-- 'laws.FnBestOrder': WHATEVER THE INPUT: true; the input reads as it did. -/
def fnBestOrderSpec : ChangeSpec := { name := "fnBestOrder", fn := fun _ => fun
  | [d] => { results := [.lit (.bool true)], args := [d] }
  | _ => none }
def fnBestOrderRow : OpenClaim := { program := "ytbglbkeebapfpaa", sum := "1f554af84d9ef8b6267121818faeb6ee7e4972ab6dcd80b6443e62c2cd7c63cf", func := "loop.example/containerport/laws.FnBestOrder", spec := "fnBestOrder", inPlace := ["internal/bytealg.IndexByteString"], apart := false }
def FnBestOrderSaid : Prop := fnBestOrderRow.holds Try.pinned (OpenSpec.ofChange fnBestOrderSpec)

/-- ITS FALSE NEIGHBOUR: 'it returns false'. Refute it at one input. -/
def fnBestOrderWrong : ChangeSpec := { name := "fnBestOrder", fn := fun _ => fun
  | [d] => { results := [.lit (.bool false)], args := [d] }
  | _ => none }
def FnBestOrderWrongFalsely : Prop := fnBestOrderRow.holds Try.pinned (OpenSpec.ofChange fnBestOrderWrong)

/-- 'laws.FnExactLoadOk': WHATEVER THE INPUT: true; the input reads as it did. -/
def fnExactLoadOkSpec : ChangeSpec := { name := "fnExactLoadOk", fn := fun _ => fun
  | [d1, d2, d3, d4] => { results := [.lit (.bool true)], args := [d1, d2, d3, d4] }
  | _ => none }
def fnExactLoadOkRow : OpenClaim := { program := "ytbglbkeebapfpaa", sum := "1f554af84d9ef8b6267121818faeb6ee7e4972ab6dcd80b6443e62c2cd7c63cf", func := "loop.example/containerport/laws.FnExactLoadOk", spec := "fnExactLoadOk", apart := false }
def FnExactLoadOkSaid : Prop := fnExactLoadOkRow.holds Try.pinned (OpenSpec.ofChange fnExactLoadOkSpec)

/-- ITS FALSE NEIGHBOUR: 'it returns false'. Refute it at one input. -/
def fnExactLoadOkWrong : ChangeSpec := { name := "fnExactLoadOk", fn := fun _ => fun
  | [d1, d2, d3, d4] => { results := [.lit (.bool false)], args := [d1, d2, d3, d4] }
  | _ => none }
def FnExactLoadOkWrongFalsely : Prop := fnExactLoadOkRow.holds Try.pinned (OpenSpec.ofChange fnExactLoadOkWrong)

/-- 'laws.FnExactLoadOrder': WHATEVER THE INPUT: true; the input reads as it did. -/
def fnExactLoadOrderSpec : ChangeSpec := { name := "fnExactLoadOrder", fn := fun _ => fun
  | [d1, d2, d3] => { results := [.lit (.bool true)], args := [d1, d2, d3] }
  | _ => none }
def fnExactLoadOrderRow : OpenClaim := { program := "ytbglbkeebapfpaa", sum := "1f554af84d9ef8b6267121818faeb6ee7e4972ab6dcd80b6443e62c2cd7c63cf", func := "loop.example/containerport/laws.FnExactLoadOrder", spec := "fnExactLoadOrder", apart := false }
def FnExactLoadOrderSaid : Prop := fnExactLoadOrderRow.holds Try.pinned (OpenSpec.ofChange fnExactLoadOrderSpec)

/-- ITS FALSE NEIGHBOUR: 'it returns false'. Refute it at one input. -/
def fnExactLoadOrderWrong : ChangeSpec := { name := "fnExactLoadOrder", fn := fun _ => fun
  | [d1, d2, d3] => { results := [.lit (.bool false)], args := [d1, d2, d3] }
  | _ => none }
def FnExactLoadOrderWrongFalsely : Prop := fnExactLoadOrderRow.holds Try.pinned (OpenSpec.ofChange fnExactLoadOrderWrong)

/-- 'laws.FnExactWorstHeel': WHATEVER THE INPUT: true; the input reads as it did. -/
def fnExactWorstHeelSpec : ChangeSpec := { name := "fnExactWorstHeel", fn := fun _ => fun
  | [d1, d2, d3, d4] => { results := [.lit (.bool true)], args := [d1, d2, d3, d4] }
  | _ => none }
def fnExactWorstHeelRow : OpenClaim := { program := "ytbglbkeebapfpaa", sum := "1f554af84d9ef8b6267121818faeb6ee7e4972ab6dcd80b6443e62c2cd7c63cf", func := "loop.example/containerport/laws.FnExactWorstHeel", spec := "fnExactWorstHeel", apart := false }
def FnExactWorstHeelSaid : Prop := fnExactWorstHeelRow.holds Try.pinned (OpenSpec.ofChange fnExactWorstHeelSpec)

/-- ITS FALSE NEIGHBOUR: 'it returns false'. Refute it at one input. -/
def fnExactWorstHeelWrong : ChangeSpec := { name := "fnExactWorstHeel", fn := fun _ => fun
  | [d1, d2, d3, d4] => { results := [.lit (.bool false)], args := [d1, d2, d3, d4] }
  | _ => none }
def FnExactWorstHeelWrongFalsely : Prop := fnExactWorstHeelRow.holds Try.pinned (OpenSpec.ofChange fnExactWorstHeelWrong)

/-- 'laws.FnExactBestOrder': WHATEVER THE INPUT: true; the input reads as it did. -/
def fnExactBestOrderSpec : ChangeSpec := { name := "fnExactBestOrder", fn := fun _ => fun
  | [d1, d2, d3] => { results := [.lit (.bool true)], args := [d1, d2, d3] }
  | _ => none }
def fnExactBestOrderRow : OpenClaim := { program := "ytbglbkeebapfpaa", sum := "1f554af84d9ef8b6267121818faeb6ee7e4972ab6dcd80b6443e62c2cd7c63cf", func := "loop.example/containerport/laws.FnExactBestOrder", spec := "fnExactBestOrder", apart := false }
def FnExactBestOrderSaid : Prop := fnExactBestOrderRow.holds Try.pinned (OpenSpec.ofChange fnExactBestOrderSpec)

/-- ITS FALSE NEIGHBOUR: 'it returns false'. Refute it at one input. -/
def fnExactBestOrderWrong : ChangeSpec := { name := "fnExactBestOrder", fn := fun _ => fun
  | [d1, d2, d3] => { results := [.lit (.bool false)], args := [d1, d2, d3] }
  | _ => none }
def FnExactBestOrderWrongFalsely : Prop := fnExactBestOrderRow.holds Try.pinned (OpenSpec.ofChange fnExactBestOrderWrong)

/- THE SECOND FORM. 'bulk': how many values and letters a reading holds, each counted each time it is reached (what is shared counts as often as it is met; a slice's spare places count too). A statement '..UptoSaid' is the law's where the arguments, and the package variables that the reading takes, are together of bulk at most 1048576: NARROWER than '..Said'. Prove '..Said' where nothing that the law and all that it calls make is longer than what came in: it says more and counts as full. Else prove '..UptoSaid'. A law counts once. -/
mutual
def uptoBulk {H : Type} : DataW H → Nat
  | .lit (.string bytes) => bytes.length + 1
  | .lit _ => 1
  | .nil => 1
  | .ptr d => uptoBulk d + 1
  | .slice elems spare => uptoBulkAll elems + uptoBulkAll spare + 1
  | .agg parts => uptoBulkAll parts + 1
  | .iface _ d => uptoBulk d + 1
  | .map entries => uptoBulkEntries entries + 1
  | .held _ => 1
def uptoBulkAll {H : Type} : List (DataW H) → Nat
  | [] => 0
  | d :: r => uptoBulk d + uptoBulkAll r
def uptoBulkEntries {H : Type} : List (Lit × DataW H) → Nat
  | [] => 0
  | x :: r => uptoBulkEntry x + uptoBulkEntries r
def uptoBulkEntry {H : Type} : Lit × DataW H → Nat
  | (.string bytes, d) => bytes.length + uptoBulk d + 1
  | (_, d) => uptoBulk d + 1
 end
def uptoSmall : (H : Type) → List (DataW H) → Bool := fun _ ds => decide (uptoBulkAll ds ≤ 1048576)
def OpenSpec.upto (s : _root_.Go.ChangeSpec) : _root_.Go.OpenSpec := { _root_.Go.OpenSpec.ofChange s with cond := some uptoSmall }

/-- 'laws.FnLoadOk', WHERE WHAT IT READS IS OF BULK AT MOST 1048576: true; the input reads as it did. -/
def fnLoadOkUptoRow : OpenClaim := { program := "ytbglbkeebapfpaa", sum := "1f554af84d9ef8b6267121818faeb6ee7e4972ab6dcd80b6443e62c2cd7c63cf", func := "loop.example/containerport/laws.FnLoadOk", spec := "fnLoadOk", inPlace := ["internal/bytealg.IndexByteString"], apart := false, narrowed := true }
def FnLoadOkUptoSaid : Prop := fnLoadOkUptoRow.holds Try.pinned (OpenSpec.upto fnLoadOkSpec)

/-- 'laws.FnLoadOrder', WHERE WHAT IT READS IS OF BULK AT MOST 1048576: true; the input reads as it did. -/
def fnLoadOrderUptoRow : OpenClaim := { program := "ytbglbkeebapfpaa", sum := "1f554af84d9ef8b6267121818faeb6ee7e4972ab6dcd80b6443e62c2cd7c63cf", func := "loop.example/containerport/laws.FnLoadOrder", spec := "fnLoadOrder", inPlace := ["internal/bytealg.IndexByteString"], apart := false, narrowed := true }
def FnLoadOrderUptoSaid : Prop := fnLoadOrderUptoRow.holds Try.pinned (OpenSpec.upto fnLoadOrderSpec)

/-- 'laws.FnWorstHeel', WHERE WHAT IT READS IS OF BULK AT MOST 1048576: true; the input reads as it did. -/
def fnWorstHeelUptoRow : OpenClaim := { program := "ytbglbkeebapfpaa", sum := "1f554af84d9ef8b6267121818faeb6ee7e4972ab6dcd80b6443e62c2cd7c63cf", func := "loop.example/containerport/laws.FnWorstHeel", spec := "fnWorstHeel", inPlace := ["internal/bytealg.IndexByteString"], apart := false, narrowed := true }
def FnWorstHeelUptoSaid : Prop := fnWorstHeelUptoRow.holds Try.pinned (OpenSpec.upto fnWorstHeelSpec)

/-- 'laws.FnBestOrder', WHERE WHAT IT READS IS OF BULK AT MOST 1048576: true; the input reads as it did. -/
def fnBestOrderUptoRow : OpenClaim := { program := "ytbglbkeebapfpaa", sum := "1f554af84d9ef8b6267121818faeb6ee7e4972ab6dcd80b6443e62c2cd7c63cf", func := "loop.example/containerport/laws.FnBestOrder", spec := "fnBestOrder", inPlace := ["internal/bytealg.IndexByteString"], apart := false, narrowed := true }
def FnBestOrderUptoSaid : Prop := fnBestOrderUptoRow.holds Try.pinned (OpenSpec.upto fnBestOrderSpec)

/-- 'laws.FnExactLoadOk', WHERE WHAT IT READS IS OF BULK AT MOST 1048576: true; the input reads as it did. -/
def fnExactLoadOkUptoRow : OpenClaim := { program := "ytbglbkeebapfpaa", sum := "1f554af84d9ef8b6267121818faeb6ee7e4972ab6dcd80b6443e62c2cd7c63cf", func := "loop.example/containerport/laws.FnExactLoadOk", spec := "fnExactLoadOk", apart := false, narrowed := true }
def FnExactLoadOkUptoSaid : Prop := fnExactLoadOkUptoRow.holds Try.pinned (OpenSpec.upto fnExactLoadOkSpec)

/-- 'laws.FnExactLoadOrder', WHERE WHAT IT READS IS OF BULK AT MOST 1048576: true; the input reads as it did. -/
def fnExactLoadOrderUptoRow : OpenClaim := { program := "ytbglbkeebapfpaa", sum := "1f554af84d9ef8b6267121818faeb6ee7e4972ab6dcd80b6443e62c2cd7c63cf", func := "loop.example/containerport/laws.FnExactLoadOrder", spec := "fnExactLoadOrder", apart := false, narrowed := true }
def FnExactLoadOrderUptoSaid : Prop := fnExactLoadOrderUptoRow.holds Try.pinned (OpenSpec.upto fnExactLoadOrderSpec)

/-- 'laws.FnExactWorstHeel', WHERE WHAT IT READS IS OF BULK AT MOST 1048576: true; the input reads as it did. -/
def fnExactWorstHeelUptoRow : OpenClaim := { program := "ytbglbkeebapfpaa", sum := "1f554af84d9ef8b6267121818faeb6ee7e4972ab6dcd80b6443e62c2cd7c63cf", func := "loop.example/containerport/laws.FnExactWorstHeel", spec := "fnExactWorstHeel", apart := false, narrowed := true }
def FnExactWorstHeelUptoSaid : Prop := fnExactWorstHeelUptoRow.holds Try.pinned (OpenSpec.upto fnExactWorstHeelSpec)

/-- 'laws.FnExactBestOrder', WHERE WHAT IT READS IS OF BULK AT MOST 1048576: true; the input reads as it did. -/
def fnExactBestOrderUptoRow : OpenClaim := { program := "ytbglbkeebapfpaa", sum := "1f554af84d9ef8b6267121818faeb6ee7e4972ab6dcd80b6443e62c2cd7c63cf", func := "loop.example/containerport/laws.FnExactBestOrder", spec := "fnExactBestOrder", apart := false, narrowed := true }
def FnExactBestOrderUptoSaid : Prop := fnExactBestOrderUptoRow.holds Try.pinned (OpenSpec.upto fnExactBestOrderSpec)

end Rows
end Go.Proofs.Ytbglbkeebapfpaa
