/-
  No cell of these rows narrows 'for every input' (looked for: loops, veiled, ifaces, maps, wideKeys, modest, calm, conditions, laid).
  DERIVED. THE GIVEN ROWS OF THIS SEAT. 6 by the template 'for every input the law returns true; each argument reads behind the call as it read before'; 0 by the template 'total and deterministic' (their statements: YtfeobdgdhgcgoaaTotals.lean).
  GIVEN WITH THE SEED: the statements are not yours to turn. If you find one false, say at which input.
  Laid BY PROGRAM, IN A SANDBOX (cutbox-rows.mjs): the forced cells as the released guide's own fill.sh prints them over the translation 4d3ce3d5ff582467… (all of the seat's roots in one cut). By AI agents, Wed Nov 11 2026. No macro, syntax, notation, axiom, sorry.
-/
import Derived.Test.YtfeobdgdhgcgoaaChecked
import GoSem.Claim
import GoSem.ClaimJoined
import GoSem.ClaimMapViews
import Derived.JoinedTies
import Derived.KernelRfl
namespace Go.Proofs.Ytfeobdgdhgcgoaa
/- THE CELL 'sum', in the pinned program and in every row, IS THE sha256 OF THE DUMP (.gsa) THAT YtfeobdgdhgcgoaaProg.lean LOADS. Nothing in Lean hashes anything: it is a label: what it is worth is what the hold of that sum in a sandbox is worth. -/
noncomputable def Try.pinned : Pinned := { name := "ytfeobdgdhgcgoaa", sum := "4d3ce3d5ff58246709a2790214ba027da875ce2149daf00c9d33c53fcb5b24fa", checked := Try.checked }
namespace Rows
def none {H : Type} : Left H := { results := [], args := [] }

/-- 'laws.FnFillOrder': WHATEVER THE INPUT: true; the input reads as it did. -/
def fnFillOrderSpec : ChangeSpec := { name := "fnFillOrder", fn := fun _ => fun
  | [d] => { results := [.lit (.bool true)], args := [d] }
  | _ => none }
def fnFillOrderRow : OpenClaim := { program := "ytfeobdgdhgcgoaa", sum := "4d3ce3d5ff58246709a2790214ba027da875ce2149daf00c9d33c53fcb5b24fa", func := "loop.example/containerport/laws.FnFillOrder", spec := "fnFillOrder", inPlace := ["internal/bytealg.IndexByteString"], unfollowed := true, recurses := true, apart := false }
def FnFillOrderSaid : Prop := fnFillOrderRow.holds Try.pinned (OpenSpec.ofChange fnFillOrderSpec)

/-- ITS FALSE NEIGHBOUR: 'it returns false'. Refute it at one input. -/
def fnFillOrderWrong : ChangeSpec := { name := "fnFillOrder", fn := fun _ => fun
  | [d] => { results := [.lit (.bool false)], args := [d] }
  | _ => none }
def FnFillOrderWrongFalsely : Prop := fnFillOrderRow.holds Try.pinned (OpenSpec.ofChange fnFillOrderWrong)

/-- 'laws.FnFillPlan': WHATEVER THE INPUT: true; the input reads as it did. -/
def fnFillPlanSpec : ChangeSpec := { name := "fnFillPlan", fn := fun _ => fun
  | [d] => { results := [.lit (.bool true)], args := [d] }
  | _ => none }
def fnFillPlanRow : OpenClaim := { program := "ytfeobdgdhgcgoaa", sum := "4d3ce3d5ff58246709a2790214ba027da875ce2149daf00c9d33c53fcb5b24fa", func := "loop.example/containerport/laws.FnFillPlan", spec := "fnFillPlan", inPlace := ["internal/bytealg.IndexByteString"], unfollowed := true, recurses := true, apart := false }
def FnFillPlanSaid : Prop := fnFillPlanRow.holds Try.pinned (OpenSpec.ofChange fnFillPlanSpec)

/-- ITS FALSE NEIGHBOUR: 'it returns false'. Refute it at one input. -/
def fnFillPlanWrong : ChangeSpec := { name := "fnFillPlan", fn := fun _ => fun
  | [d] => { results := [.lit (.bool false)], args := [d] }
  | _ => none }
def FnFillPlanWrongFalsely : Prop := fnFillPlanRow.holds Try.pinned (OpenSpec.ofChange fnFillPlanWrong)

/-- 'laws.FnLeftOver': WHATEVER THE INPUT: true; the input reads as it did. -/
def fnLeftOverSpec : ChangeSpec := { name := "fnLeftOver", fn := fun _ => fun
  | [d] => { results := [.lit (.bool true)], args := [d] }
  | _ => none }
def fnLeftOverRow : OpenClaim := { program := "ytfeobdgdhgcgoaa", sum := "4d3ce3d5ff58246709a2790214ba027da875ce2149daf00c9d33c53fcb5b24fa", func := "loop.example/containerport/laws.FnLeftOver", spec := "fnLeftOver", inPlace := ["internal/bytealg.IndexByteString"], apart := false }
def FnLeftOverSaid : Prop := fnLeftOverRow.holds Try.pinned (OpenSpec.ofChange fnLeftOverSpec)

/-- ITS FALSE NEIGHBOUR: 'it returns false'. Refute it at one input. -/
def fnLeftOverWrong : ChangeSpec := { name := "fnLeftOver", fn := fun _ => fun
  | [d] => { results := [.lit (.bool false)], args := [d] }
  | _ => none }
def FnLeftOverWrongFalsely : Prop := fnLeftOverRow.holds Try.pinned (OpenSpec.ofChange fnLeftOverWrong)

/-- 'laws.FnExactFillOrder': WHATEVER THE INPUT: true; the input reads as it did. -/
def fnExactFillOrderSpec : ChangeSpec := { name := "fnExactFillOrder", fn := fun _ => fun
  | [d] => { results := [.lit (.bool true)], args := [d] }
  | _ => none }
def fnExactFillOrderRow : OpenClaim := { program := "ytfeobdgdhgcgoaa", sum := "4d3ce3d5ff58246709a2790214ba027da875ce2149daf00c9d33c53fcb5b24fa", func := "loop.example/containerport/laws.FnExactFillOrder", spec := "fnExactFillOrder", unfollowed := true, recurses := true, apart := false }
def FnExactFillOrderSaid : Prop := fnExactFillOrderRow.holds Try.pinned (OpenSpec.ofChange fnExactFillOrderSpec)

/-- ITS FALSE NEIGHBOUR: 'it returns false'. Refute it at one input. -/
def fnExactFillOrderWrong : ChangeSpec := { name := "fnExactFillOrder", fn := fun _ => fun
  | [d] => { results := [.lit (.bool false)], args := [d] }
  | _ => none }
def FnExactFillOrderWrongFalsely : Prop := fnExactFillOrderRow.holds Try.pinned (OpenSpec.ofChange fnExactFillOrderWrong)

/-- 'laws.FnExactFillPlan': WHATEVER THE INPUT: true; the input reads as it did. -/
def fnExactFillPlanSpec : ChangeSpec := { name := "fnExactFillPlan", fn := fun _ => fun
  | [d1, d2] => { results := [.lit (.bool true)], args := [d1, d2] }
  | _ => none }
def fnExactFillPlanRow : OpenClaim := { program := "ytfeobdgdhgcgoaa", sum := "4d3ce3d5ff58246709a2790214ba027da875ce2149daf00c9d33c53fcb5b24fa", func := "loop.example/containerport/laws.FnExactFillPlan", spec := "fnExactFillPlan", unfollowed := true, recurses := true, apart := false }
def FnExactFillPlanSaid : Prop := fnExactFillPlanRow.holds Try.pinned (OpenSpec.ofChange fnExactFillPlanSpec)

/-- ITS FALSE NEIGHBOUR: 'it returns false'. Refute it at one input. -/
def fnExactFillPlanWrong : ChangeSpec := { name := "fnExactFillPlan", fn := fun _ => fun
  | [d1, d2] => { results := [.lit (.bool false)], args := [d1, d2] }
  | _ => none }
def FnExactFillPlanWrongFalsely : Prop := fnExactFillPlanRow.holds Try.pinned (OpenSpec.ofChange fnExactFillPlanWrong)

/-- 'laws.FnExactLeftOver': WHATEVER THE INPUT: true; the input reads as it did. -/
def fnExactLeftOverSpec : ChangeSpec := { name := "fnExactLeftOver", fn := fun _ => fun
  | [d1, d2, d3] => { results := [.lit (.bool true)], args := [d1, d2, d3] }
  | _ => none }
def fnExactLeftOverRow : OpenClaim := { program := "ytfeobdgdhgcgoaa", sum := "4d3ce3d5ff58246709a2790214ba027da875ce2149daf00c9d33c53fcb5b24fa", func := "loop.example/containerport/laws.FnExactLeftOver", spec := "fnExactLeftOver", apart := false }
def FnExactLeftOverSaid : Prop := fnExactLeftOverRow.holds Try.pinned (OpenSpec.ofChange fnExactLeftOverSpec)

/-- ITS FALSE NEIGHBOUR: 'it returns false'. Refute it at one input. -/
def fnExactLeftOverWrong : ChangeSpec := { name := "fnExactLeftOver", fn := fun _ => fun
  | [d1, d2, d3] => { results := [.lit (.bool false)], args := [d1, d2, d3] }
  | _ => none }
def FnExactLeftOverWrongFalsely : Prop := fnExactLeftOverRow.holds Try.pinned (OpenSpec.ofChange fnExactLeftOverWrong)

/- THE SECOND FORM. 'bulk': how many values and letters a reading holds, each counted each time it is reached (what is shared counts as often as it is met; a slice's spare places count too). A statement '..UptoSaid' is the law's where the arguments, and the package variables that the reading takes, are together of bulk at most 1048576: NARROWER than '..Said'. Prove '..Said' where nothing that the law and all that it calls make is longer than what came in: it says more and counts as full. Else prove '..UptoSaid'. A law counts once. -/
mutual
def uptoBulk {H : Type} : DataW H → Nat
  | .lit (.string bytes) => bytes.length + 1
  | .lit _ => 1
  | .nil => 1
  | .ptr d => uptoBulk d + 1
  | .slice elems spare => uptoBulkAll elems + uptoBulkAll spare + 1
  | .agg parts => uptoBulkAll parts + 1
  | .iface _ d => uptoBulk d + 1
  | .map entries => uptoBulkEntries entries + 1
  | .held _ => 1
def uptoBulkAll {H : Type} : List (DataW H) → Nat
  | [] => 0
  | d :: r => uptoBulk d + uptoBulkAll r
def uptoBulkEntries {H : Type} : List (Lit × DataW H) → Nat
  | [] => 0
  | x :: r => uptoBulkEntry x + uptoBulkEntries r
def uptoBulkEntry {H : Type} : Lit × DataW H → Nat
  | (.string bytes, d) => bytes.length + uptoBulk d + 1
  | (_, d) => uptoBulk d + 1
 end
def uptoSmall : (H : Type) → List (DataW H) → Bool := fun _ ds => decide (uptoBulkAll ds ≤ 1048576)
def OpenSpec.upto (s : _root_.Go.ChangeSpec) : _root_.Go.OpenSpec := { _root_.Go.OpenSpec.ofChange s with cond := some uptoSmall }

/-- 'laws.FnFillOrder', WHERE WHAT IT READS IS OF BULK AT MOST 1048576: true; the input reads as it did. -/
def fnFillOrderUptoRow : OpenClaim := { program := "ytfeobdgdhgcgoaa", sum := "4d3ce3d5ff58246709a2790214ba027da875ce2149daf00c9d33c53fcb5b24fa", func := "loop.example/containerport/laws.FnFillOrder", spec := "fnFillOrder", inPlace := ["internal/bytealg.IndexByteString"], unfollowed := true, recurses := true, apart := false, narrowed := true }
def FnFillOrderUptoSaid : Prop := fnFillOrderUptoRow.holds Try.pinned (OpenSpec.upto fnFillOrderSpec)

/-- 'laws.FnFillPlan', WHERE WHAT IT READS IS OF BULK AT MOST 1048576: true; the input reads as it did. -/
def fnFillPlanUptoRow : OpenClaim := { program := "ytfeobdgdhgcgoaa", sum := "4d3ce3d5ff58246709a2790214ba027da875ce2149daf00c9d33c53fcb5b24fa", func := "loop.example/containerport/laws.FnFillPlan", spec := "fnFillPlan", inPlace := ["internal/bytealg.IndexByteString"], unfollowed := true, recurses := true, apart := false, narrowed := true }
def FnFillPlanUptoSaid : Prop := fnFillPlanUptoRow.holds Try.pinned (OpenSpec.upto fnFillPlanSpec)

/-- 'laws.FnLeftOver', WHERE WHAT IT READS IS OF BULK AT MOST 1048576: true; the input reads as it did. -/
def fnLeftOverUptoRow : OpenClaim := { program := "ytfeobdgdhgcgoaa", sum := "4d3ce3d5ff58246709a2790214ba027da875ce2149daf00c9d33c53fcb5b24fa", func := "loop.example/containerport/laws.FnLeftOver", spec := "fnLeftOver", inPlace := ["internal/bytealg.IndexByteString"], apart := false, narrowed := true }
def FnLeftOverUptoSaid : Prop := fnLeftOverUptoRow.holds Try.pinned (OpenSpec.upto fnLeftOverSpec)

/-- 'laws.FnExactFillOrder', WHERE WHAT IT READS IS OF BULK AT MOST 1048576: true; the input reads as it did. -/
def fnExactFillOrderUptoRow : OpenClaim := { program := "ytfeobdgdhgcgoaa", sum := "4d3ce3d5ff58246709a2790214ba027da875ce2149daf00c9d33c53fcb5b24fa", func := "loop.example/containerport/laws.FnExactFillOrder", spec := "fnExactFillOrder", unfollowed := true, recurses := true, apart := false, narrowed := true }
def FnExactFillOrderUptoSaid : Prop := fnExactFillOrderUptoRow.holds Try.pinned (OpenSpec.upto fnExactFillOrderSpec)

/-- 'laws.FnExactFillPlan', WHERE WHAT IT READS IS OF BULK AT MOST 1048576: true; the input reads as it did. -/
def fnExactFillPlanUptoRow : OpenClaim := { program := "ytfeobdgdhgcgoaa", sum := "4d3ce3d5ff58246709a2790214ba027da875ce2149daf00c9d33c53fcb5b24fa", func := "loop.example/containerport/laws.FnExactFillPlan", spec := "fnExactFillPlan", unfollowed := true, recurses := true, apart := false, narrowed := true }
def FnExactFillPlanUptoSaid : Prop := fnExactFillPlanUptoRow.holds Try.pinned (OpenSpec.upto fnExactFillPlanSpec)

/-- 'laws.FnExactLeftOver', WHERE WHAT IT READS IS OF BULK AT MOST 1048576: true; the input reads as it did. -/
def fnExactLeftOverUptoRow : OpenClaim := { program := "ytfeobdgdhgcgoaa", sum := "4d3ce3d5ff58246709a2790214ba027da875ce2149daf00c9d33c53fcb5b24fa", func := "loop.example/containerport/laws.FnExactLeftOver", spec := "fnExactLeftOver", apart := false, narrowed := true }
def FnExactLeftOverUptoSaid : Prop := fnExactLeftOverUptoRow.holds Try.pinned (OpenSpec.upto fnExactLeftOverSpec)

end Rows
end Go.Proofs.Ytfeobdgdhgcgoaa
