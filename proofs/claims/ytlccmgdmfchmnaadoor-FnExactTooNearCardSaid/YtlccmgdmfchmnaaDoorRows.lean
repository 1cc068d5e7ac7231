/-
  NARROWER THAN 'FOR EVERY INPUT', by the rows' own cells (each row's printed sentence says how): FnApartNeed: laid · FnTooNear: laid · FnSafeSlots: laid · FnExactApartNeed: laid · FnExactTooNear: laid · FnExactSafeSlots: laid.
  DERIVED. THE GIVEN ROWS OF THIS SEAT. 6 by the template 'for every input the law returns true; each argument reads behind the call as it read before'; 0 by the template 'total and deterministic' (their statements: YtlccmgdmfchmnaaDoorTotals.lean).
  GIVEN WITH THE SEED: the statements are not yours to turn. If you find one false, say at which input.
  Laid BY PROGRAM, IN A SANDBOX (cutbox-rows.mjs): the forced cells as the released guide's own fill.sh prints them over the translation 52c649c0f05e7394… (all of the seat's roots in one cut). By AI agents, Wed Nov 11 2026. No macro, syntax, notation, axiom, sorry.
-/
import Derived.Test.YtlccmgdmfchmnaaDoorChecked
import GoSem.Claim
import GoSem.ClaimJoined
import GoSem.ClaimMapViews
import Derived.JoinedTies
import Derived.KernelRfl
namespace Go.Proofs.YtlccmgdmfchmnaaDoor
/- THE CELL 'sum', in the pinned program and in every row, IS THE sha256 OF THE DUMP (.gsa) THAT YtlccmgdmfchmnaaDoorProg.lean LOADS. Nothing in Lean hashes anything: it is a label: what it is worth is what the hold of that sum in a sandbox is worth. -/
noncomputable def Tryd.pinned : Pinned := { name := "ytlccmgdmfchmnaadoor", sum := "52c649c0f05e739497699034e909ec1126a6f5e65dc65618bbe6a21bd3492a1c", checked := Tryd.checked }
namespace Rows
def none {H : Type} : Left H := { results := [], args := [] }

/- WHAT THE LISTED PACKAGE-LEVEL VARIABLES READ AS WHEN THE CALL BEGINS. Each datum BY PROGRAM (the guide's laid-datum.mjs) off the statement by which the dump's own 'gosem.cut.vars' lays the variable. In a bare row this is a premise. The card (YtlccmgdmfchmnaaDoorCards.lean) ties it to the program's text. -/
def laid_loop_example_containerport_impl_apartNeeds {H : Type} : DataW H := .agg [.agg [.lit (.int .i64 0), .lit (.int .i64 0), .lit (.int .i64 0), .lit (.int .i64 0)], .agg [.lit (.int .i64 0), .lit (.int .i64 0), .lit (.int .i64 1), .lit (.int .i64 2)], .agg [.lit (.int .i64 0), .lit (.int .i64 1), .lit (.int .i64 0), .lit (.int .i64 3)], .agg [.lit (.int .i64 0), .lit (.int .i64 2), .lit (.int .i64 3), .lit (.int .i64 1)]]

/-- 'laws.FnApartNeed': WHATEVER THE INPUT: true; the input reads as it did. -/
def fnApartNeedSpec : ChangeSpec := { name := "fnApartNeed", vars := ["loop.example/containerport/impl.apartNeeds"], fn := fun _ => fun
  | [d, g1] => { results := [.lit (.bool true)], args := [d], vars := [g1] }
  | _ => none }
def fnApartNeedRow : OpenClaim := { program := "ytlccmgdmfchmnaadoor", sum := "52c649c0f05e739497699034e909ec1126a6f5e65dc65618bbe6a21bd3492a1c", func := "loop.example/containerport/laws.FnApartNeed", spec := "fnApartNeed", inPlace := ["internal/bytealg.IndexByteString"], named := ["loop.example/containerport/impl.apartNeeds"], apart := false, laid := [("loop.example/containerport/impl.apartNeeds", laid_loop_example_containerport_impl_apartNeeds)] }
def FnApartNeedSaid : Prop := fnApartNeedRow.holds Tryd.pinned (OpenSpec.ofChange fnApartNeedSpec)

/-- ITS FALSE NEIGHBOUR: 'it returns false'. Refute it at one input. -/
def fnApartNeedWrong : ChangeSpec := { name := "fnApartNeed", vars := ["loop.example/containerport/impl.apartNeeds"], fn := fun _ => fun
  | [d, g1] => { results := [.lit (.bool false)], args := [d], vars := [g1] }
  | _ => none }
def FnApartNeedWrongFalsely : Prop := fnApartNeedRow.holds Tryd.pinned (OpenSpec.ofChange fnApartNeedWrong)

/-- 'laws.FnTooNear': WHATEVER THE INPUT: true; the input reads as it did. -/
def fnTooNearSpec : ChangeSpec := { name := "fnTooNear", vars := ["loop.example/containerport/impl.apartNeeds"], fn := fun _ => fun
  | [d, g1] => { results := [.lit (.bool true)], args := [d], vars := [g1] }
  | _ => none }
def fnTooNearRow : OpenClaim := { program := "ytlccmgdmfchmnaadoor", sum := "52c649c0f05e739497699034e909ec1126a6f5e65dc65618bbe6a21bd3492a1c", func := "loop.example/containerport/laws.FnTooNear", spec := "fnTooNear", inPlace := ["internal/bytealg.IndexByteString"], named := ["loop.example/containerport/impl.apartNeeds"], apart := false, laid := [("loop.example/containerport/impl.apartNeeds", laid_loop_example_containerport_impl_apartNeeds)] }
def FnTooNearSaid : Prop := fnTooNearRow.holds Tryd.pinned (OpenSpec.ofChange fnTooNearSpec)

/-- ITS FALSE NEIGHBOUR: 'it returns false'. Refute it at one input. -/
def fnTooNearWrong : ChangeSpec := { name := "fnTooNear", vars := ["loop.example/containerport/impl.apartNeeds"], fn := fun _ => fun
  | [d, g1] => { results := [.lit (.bool false)], args := [d], vars := [g1] }
  | _ => none }
def FnTooNearWrongFalsely : Prop := fnTooNearRow.holds Tryd.pinned (OpenSpec.ofChange fnTooNearWrong)

/-- 'laws.FnSafeSlots': WHATEVER THE INPUT: true; the input reads as it did. -/
def fnSafeSlotsSpec : ChangeSpec := { name := "fnSafeSlots", vars := ["loop.example/containerport/impl.apartNeeds"], fn := fun _ => fun
  | [d, g1] => { results := [.lit (.bool true)], args := [d], vars := [g1] }
  | _ => none }
def fnSafeSlotsRow : OpenClaim := { program := "ytlccmgdmfchmnaadoor", sum := "52c649c0f05e739497699034e909ec1126a6f5e65dc65618bbe6a21bd3492a1c", func := "loop.example/containerport/laws.FnSafeSlots", spec := "fnSafeSlots", inPlace := ["internal/bytealg.IndexByteString"], named := ["loop.example/containerport/impl.apartNeeds"], apart := false, laid := [("loop.example/containerport/impl.apartNeeds", laid_loop_example_containerport_impl_apartNeeds)] }
def FnSafeSlotsSaid : Prop := fnSafeSlotsRow.holds Tryd.pinned (OpenSpec.ofChange fnSafeSlotsSpec)

/-- ITS FALSE NEIGHBOUR: 'it returns false'. Refute it at one input. -/
def fnSafeSlotsWrong : ChangeSpec := { name := "fnSafeSlots", vars := ["loop.example/containerport/impl.apartNeeds"], fn := fun _ => fun
  | [d, g1] => { results := [.lit (.bool false)], args := [d], vars := [g1] }
  | _ => none }
def FnSafeSlotsWrongFalsely : Prop := fnSafeSlotsRow.holds Tryd.pinned (OpenSpec.ofChange fnSafeSlotsWrong)

/-- 'laws.FnExactApartNeed': WHATEVER THE INPUT: true; the input reads as it did. -/
def fnExactApartNeedSpec : ChangeSpec := { name := "fnExactApartNeed", vars := ["loop.example/containerport/impl.apartNeeds"], fn := fun _ => fun
  | [d1, d2, g1] => { results := [.lit (.bool true)], args := [d1, d2], vars := [g1] }
  | _ => none }
def fnExactApartNeedRow : OpenClaim := { program := "ytlccmgdmfchmnaadoor", sum := "52c649c0f05e739497699034e909ec1126a6f5e65dc65618bbe6a21bd3492a1c", func := "loop.example/containerport/laws.FnExactApartNeed", spec := "fnExactApartNeed", named := ["loop.example/containerport/impl.apartNeeds"], apart := false, laid := [("loop.example/containerport/impl.apartNeeds", laid_loop_example_containerport_impl_apartNeeds)] }
def FnExactApartNeedSaid : Prop := fnExactApartNeedRow.holds Tryd.pinned (OpenSpec.ofChange fnExactApartNeedSpec)

/-- ITS FALSE NEIGHBOUR: 'it returns false'. Refute it at one input. -/
def fnExactApartNeedWrong : ChangeSpec := { name := "fnExactApartNeed", vars := ["loop.example/containerport/impl.apartNeeds"], fn := fun _ => fun
  | [d1, d2, g1] => { results := [.lit (.bool false)], args := [d1, d2], vars := [g1] }
  | _ => none }
def FnExactApartNeedWrongFalsely : Prop := fnExactApartNeedRow.holds Tryd.pinned (OpenSpec.ofChange fnExactApartNeedWrong)

/-- 'laws.FnExactTooNear': WHATEVER THE INPUT: true; the input reads as it did. -/
def fnExactTooNearSpec : ChangeSpec := { name := "fnExactTooNear", vars := ["loop.example/containerport/impl.apartNeeds"], fn := fun _ => fun
  | [d1, d2, d3, g1] => { results := [.lit (.bool true)], args := [d1, d2, d3], vars := [g1] }
  | _ => none }
def fnExactTooNearRow : OpenClaim := { program := "ytlccmgdmfchmnaadoor", sum := "52c649c0f05e739497699034e909ec1126a6f5e65dc65618bbe6a21bd3492a1c", func := "loop.example/containerport/laws.FnExactTooNear", spec := "fnExactTooNear", named := ["loop.example/containerport/impl.apartNeeds"], apart := false, laid := [("loop.example/containerport/impl.apartNeeds", laid_loop_example_containerport_impl_apartNeeds)] }
def FnExactTooNearSaid : Prop := fnExactTooNearRow.holds Tryd.pinned (OpenSpec.ofChange fnExactTooNearSpec)

/-- ITS FALSE NEIGHBOUR: 'it returns false'. Refute it at one input. -/
def fnExactTooNearWrong : ChangeSpec := { name := "fnExactTooNear", vars := ["loop.example/containerport/impl.apartNeeds"], fn := fun _ => fun
  | [d1, d2, d3, g1] => { results := [.lit (.bool false)], args := [d1, d2, d3], vars := [g1] }
  | _ => none }
def FnExactTooNearWrongFalsely : Prop := fnExactTooNearRow.holds Tryd.pinned (OpenSpec.ofChange fnExactTooNearWrong)

/-- 'laws.FnExactSafeSlots': WHATEVER THE INPUT: true; the input reads as it did. -/
def fnExactSafeSlotsSpec : ChangeSpec := { name := "fnExactSafeSlots", vars := ["loop.example/containerport/impl.apartNeeds"], fn := fun _ => fun
  | [d1, d2, d3, d4, g1] => { results := [.lit (.bool true)], args := [d1, d2, d3, d4], vars := [g1] }
  | _ => none }
def fnExactSafeSlotsRow : OpenClaim := { program := "ytlccmgdmfchmnaadoor", sum := "52c649c0f05e739497699034e909ec1126a6f5e65dc65618bbe6a21bd3492a1c", func := "loop.example/containerport/laws.FnExactSafeSlots", spec := "fnExactSafeSlots", named := ["loop.example/containerport/impl.apartNeeds"], apart := false, laid := [("loop.example/containerport/impl.apartNeeds", laid_loop_example_containerport_impl_apartNeeds)] }
def FnExactSafeSlotsSaid : Prop := fnExactSafeSlotsRow.holds Tryd.pinned (OpenSpec.ofChange fnExactSafeSlotsSpec)

/-- ITS FALSE NEIGHBOUR: 'it returns false'. Refute it at one input. -/
def fnExactSafeSlotsWrong : ChangeSpec := { name := "fnExactSafeSlots", vars := ["loop.example/containerport/impl.apartNeeds"], fn := fun _ => fun
  | [d1, d2, d3, d4, g1] => { results := [.lit (.bool false)], args := [d1, d2, d3, d4], vars := [g1] }
  | _ => none }
def FnExactSafeSlotsWrongFalsely : Prop := fnExactSafeSlotsRow.holds Tryd.pinned (OpenSpec.ofChange fnExactSafeSlotsWrong)

/- THE SECOND FORM. 'bulk': how many values and letters a reading holds, each counted each time it is reached (what is shared counts as often as it is met; a slice's spare places count too). A statement '..UptoSaid' is the law's where the arguments, and the package variables that the reading takes, are together of bulk at most 1048576: NARROWER than '..Said'. Prove '..Said' where nothing that the law and all that it calls make is longer than what came in: it says more and counts as full. Else prove '..UptoSaid'. A law counts once. -/
mutual
def uptoBulk {H : Type} : DataW H → Nat
  | .lit (.string bytes) => bytes.length + 1
  | .lit _ => 1
  | .nil => 1
  | .ptr d => uptoBulk d + 1
  | .slice elems spare => uptoBulkAll elems + uptoBulkAll spare + 1
  | .agg parts => uptoBulkAll parts + 1
  | .iface _ d => uptoBulk d + 1
  | .map entries => uptoBulkEntries entries + 1
  | .held _ => 1
def uptoBulkAll {H : Type} : List (DataW H) → Nat
  | [] => 0
  | d :: r => uptoBulk d + uptoBulkAll r
def uptoBulkEntries {H : Type} : List (Lit × DataW H) → Nat
  | [] => 0
  | x :: r => uptoBulkEntry x + uptoBulkEntries r
def uptoBulkEntry {H : Type} : Lit × DataW H → Nat
  | (.string bytes, d) => bytes.length + uptoBulk d + 1
  | (_, d) => uptoBulk d + 1
 end
def uptoSmall : (H : Type) → List (DataW H) → Bool := fun _ ds => decide (uptoBulkAll ds ≤ 1048576)
def OpenSpec.upto (s : _root_.Go.ChangeSpec) : _root_.Go.OpenSpec := { _root_.Go.OpenSpec.ofChange s with cond := some uptoSmall }

/-- 'laws.FnApartNeed', WHERE WHAT IT READS IS OF BULK AT MOST 1048576: true; the input reads as it did. -/
def fnApartNeedUptoRow : OpenClaim := { program := "ytlccmgdmfchmnaadoor", sum := "52c649c0f05e739497699034e909ec1126a6f5e65dc65618bbe6a21bd3492a1c", func := "loop.example/containerport/laws.FnApartNeed", spec := "fnApartNeed", inPlace := ["internal/bytealg.IndexByteString"], named := ["loop.example/containerport/impl.apartNeeds"], apart := false, laid := [("loop.example/containerport/impl.apartNeeds", laid_loop_example_containerport_impl_apartNeeds)], narrowed := true }
def FnApartNeedUptoSaid : Prop := fnApartNeedUptoRow.holds Tryd.pinned (OpenSpec.upto fnApartNeedSpec)

/-- 'laws.FnTooNear', WHERE WHAT IT READS IS OF BULK AT MOST 1048576: true; the input reads as it did. -/
def fnTooNearUptoRow : OpenClaim := { program := "ytlccmgdmfchmnaadoor", sum := "52c649c0f05e739497699034e909ec1126a6f5e65dc65618bbe6a21bd3492a1c", func := "loop.example/containerport/laws.FnTooNear", spec := "fnTooNear", inPlace := ["internal/bytealg.IndexByteString"], named := ["loop.example/containerport/impl.apartNeeds"], apart := false, laid := [("loop.example/containerport/impl.apartNeeds", laid_loop_example_containerport_impl_apartNeeds)], narrowed := true }
def FnTooNearUptoSaid : Prop := fnTooNearUptoRow.holds Tryd.pinned (OpenSpec.upto fnTooNearSpec)

/-- 'laws.FnSafeSlots', WHERE WHAT IT READS IS OF BULK AT MOST 1048576: true; the input reads as it did. -/
def fnSafeSlotsUptoRow : OpenClaim := { program := "ytlccmgdmfchmnaadoor", sum := "52c649c0f05e739497699034e909ec1126a6f5e65dc65618bbe6a21bd3492a1c", func := "loop.example/containerport/laws.FnSafeSlots", spec := "fnSafeSlots", inPlace := ["internal/bytealg.IndexByteString"], named := ["loop.example/containerport/impl.apartNeeds"], apart := false, laid := [("loop.example/containerport/impl.apartNeeds", laid_loop_example_containerport_impl_apartNeeds)], narrowed := true }
def FnSafeSlotsUptoSaid : Prop := fnSafeSlotsUptoRow.holds Tryd.pinned (OpenSpec.upto fnSafeSlotsSpec)

/-- 'laws.FnExactApartNeed', WHERE WHAT IT READS IS OF BULK AT MOST 1048576: true; the input reads as it did. -/
def fnExactApartNeedUptoRow : OpenClaim := { program := "ytlccmgdmfchmnaadoor", sum := "52c649c0f05e739497699034e909ec1126a6f5e65dc65618bbe6a21bd3492a1c", func := "loop.example/containerport/laws.FnExactApartNeed", spec := "fnExactApartNeed", named := ["loop.example/containerport/impl.apartNeeds"], apart := false, laid := [("loop.example/containerport/impl.apartNeeds", laid_loop_example_containerport_impl_apartNeeds)], narrowed := true }
def FnExactApartNeedUptoSaid : Prop := fnExactApartNeedUptoRow.holds Tryd.pinned (OpenSpec.upto fnExactApartNeedSpec)

/-- 'laws.FnExactTooNear', WHERE WHAT IT READS IS OF BULK AT MOST 1048576: true; the input reads as it did. -/
def fnExactTooNearUptoRow : OpenClaim := { program := "ytlccmgdmfchmnaadoor", sum := "52c649c0f05e739497699034e909ec1126a6f5e65dc65618bbe6a21bd3492a1c", func := "loop.example/containerport/laws.FnExactTooNear", spec := "fnExactTooNear", named := ["loop.example/containerport/impl.apartNeeds"], apart := false, laid := [("loop.example/containerport/impl.apartNeeds", laid_loop_example_containerport_impl_apartNeeds)], narrowed := true }
def FnExactTooNearUptoSaid : Prop := fnExactTooNearUptoRow.holds Tryd.pinned (OpenSpec.upto fnExactTooNearSpec)

/-- 'laws.FnExactSafeSlots', WHERE WHAT IT READS IS OF BULK AT MOST 1048576: true; the input reads as it did. -/
def fnExactSafeSlotsUptoRow : OpenClaim := { program := "ytlccmgdmfchmnaadoor", sum := "52c649c0f05e739497699034e909ec1126a6f5e65dc65618bbe6a21bd3492a1c", func := "loop.example/containerport/laws.FnExactSafeSlots", spec := "fnExactSafeSlots", named := ["loop.example/containerport/impl.apartNeeds"], apart := false, laid := [("loop.example/containerport/impl.apartNeeds", laid_loop_example_containerport_impl_apartNeeds)], narrowed := true }
def FnExactSafeSlotsUptoSaid : Prop := fnExactSafeSlotsUptoRow.holds Tryd.pinned (OpenSpec.upto fnExactSafeSlotsSpec)

end Rows
end Go.Proofs.YtlccmgdmfchmnaaDoor
