/-
  No cell of these rows narrows 'for every input' (looked for: loops, veiled, ifaces, maps, wideKeys, modest, calm, conditions, laid).
  DERIVED. THE GIVEN ROWS OF THIS SEAT. 8 by the template 'for every input the law returns true; each argument reads behind the call as it read before'; 0 by the template 'total and deterministic' (their statements: YtmgnbkiphdlooabTotals.lean).
  GIVEN WITH THE SEED: the statements are not yours to turn. If you find one false, say at which input.
  Laid BY PROGRAM, IN A SANDBOX (cutbox-rows.mjs): the forced cells as the released guide's own fill.sh prints them over the translation f0a0191488ca6e18… (all of the seat's roots in one cut). By AI agents, Wed Nov 11 2026. No macro, syntax, notation, axiom, sorry.
-/
import Derived.Test.YtmgnbkiphdlooabChecked
import GoSem.Claim
import GoSem.ClaimJoined
import GoSem.ClaimMapViews
import Derived.JoinedTies
import Derived.KernelRfl
namespace Go.Proofs.Ytmgnbkiphdlooab
/- THE CELL 'sum', in the pinned program and in every row, IS THE sha256 OF THE DUMP (.gsa) THAT YtmgnbkiphdlooabProg.lean LOADS. Nothing in Lean hashes anything: it is a label: what it is worth is what the hold of that sum in a sandbox is worth. -/
noncomputable def Try.pinned : Pinned := { name := "ytmgnbkiphdlooab", sum := "f0a0191488ca6e186d21d079df2802274c9436b87f83c7e865062a70250e8223", checked := Try.checked }
namespace Rows
def none {H : Type} : Left H := { results := [], args := [] }

/-- 'laws.FnRowWeights': WHATEVER THE INPUT: true; the input reads as it did. -/
def fnRowWeightsSpec : ChangeSpec := { name := "fnRowWeights", fn := fun _ => fun
  | [d] => { results := [.lit (.bool true)], args := [d] }
  | _ => none }
def fnRowWeightsRow : OpenClaim := { program := "ytmgnbkiphdlooab", sum := "f0a0191488ca6e186d21d079df2802274c9436b87f83c7e865062a70250e8223", func := "loop.example/containerport/laws.FnRowWeights", spec := "fnRowWeights", inPlace := ["internal/bytealg.IndexByteString"], apart := false }
def FnRowWeightsSaid : Prop := fnRowWeightsRow.holds Try.pinned (OpenSpec.ofChange fnRowWeightsSpec)

/-- ITS FALSE NEIGHBOUR: 'it returns false'. Refute it at one input. -/
def fnRowWeightsWrong : ChangeSpec := { name := "fnRowWeights", fn := fun _ => fun
  | [d] => { results := [.lit (.bool false)], args := [d] }
  | _ => none }
def FnRowWeightsWrongFalsely : Prop := fnRowWeightsRow.holds Try.pinned (OpenSpec.ofChange fnRowWeightsWrong)

/-- 'laws.FnRowsBear': WHATEVER THE INPUT: true; the input reads as it did. -/
def fnRowsBearSpec : ChangeSpec := { name := "fnRowsBear", fn := fun _ => fun
  | [d] => { results := [.lit (.bool true)], args := [d] }
  | _ => none }
def fnRowsBearRow : OpenClaim := { program := "ytmgnbkiphdlooab", sum := "f0a0191488ca6e186d21d079df2802274c9436b87f83c7e865062a70250e8223", func := "loop.example/containerport/laws.FnRowsBear", spec := "fnRowsBear", inPlace := ["internal/bytealg.IndexByteString"], apart := false }
def FnRowsBearSaid : Prop := fnRowsBearRow.holds Try.pinned (OpenSpec.ofChange fnRowsBearSpec)

/-- ITS FALSE NEIGHBOUR: 'it returns false'. Refute it at one input. -/
def fnRowsBearWrong : ChangeSpec := { name := "fnRowsBear", fn := fun _ => fun
  | [d] => { results := [.lit (.bool false)], args := [d] }
  | _ => none }
def FnRowsBearWrongFalsely : Prop := fnRowsBearRow.holds Try.pinned (OpenSpec.ofChange fnRowsBearWrong)

/-- 'laws.FnOnLighter': WHATEVER THE INPUT: true; the input reads as it did. -/
def fnOnLighterSpec : ChangeSpec := { name := "fnOnLighter", fn := fun _ => fun
  | [d] => { results := [.lit (.bool true)], args := [d] }
  | _ => none }
def fnOnLighterRow : OpenClaim := { program := "ytmgnbkiphdlooab", sum := "f0a0191488ca6e186d21d079df2802274c9436b87f83c7e865062a70250e8223", func := "loop.example/containerport/laws.FnOnLighter", spec := "fnOnLighter", inPlace := ["internal/bytealg.IndexByteString"], apart := false }
def FnOnLighterSaid : Prop := fnOnLighterRow.holds Try.pinned (OpenSpec.ofChange fnOnLighterSpec)

/-- ITS FALSE NEIGHBOUR: 'it returns false'. Refute it at one input. -/
def fnOnLighterWrong : ChangeSpec := { name := "fnOnLighter", fn := fun _ => fun
  | [d] => { results := [.lit (.bool false)], args := [d] }
  | _ => none }
def FnOnLighterWrongFalsely : Prop := fnOnLighterRow.holds Try.pinned (OpenSpec.ofChange fnOnLighterWrong)

/-- 'laws.FnSortRows': WHATEVER THE INPUT: true; the input reads as it did. -/
def fnSortRowsSpec : ChangeSpec := { name := "fnSortRows", fn := fun _ => fun
  | [d] => { results := [.lit (.bool true)], args := [d] }
  | _ => none }
def fnSortRowsRow : OpenClaim := { program := "ytmgnbkiphdlooab", sum := "f0a0191488ca6e186d21d079df2802274c9436b87f83c7e865062a70250e8223", func := "loop.example/containerport/laws.FnSortRows", spec := "fnSortRows", inPlace := ["internal/bytealg.IndexByteString"], unfollowed := true, recurses := true, apart := false }
def FnSortRowsSaid : Prop := fnSortRowsRow.holds Try.pinned (OpenSpec.ofChange fnSortRowsSpec)

/-- ITS FALSE NEIGHBOUR: 'it returns false'. Refute it at one input. -/
def fnSortRowsWrong : ChangeSpec := { name := "fnSortRows", fn := fun _ => fun
  | [d] => { results := [.lit (.bool false)], args := [d] }
  | _ => none }
def FnSortRowsWrongFalsely : Prop := fnSortRowsRow.holds Try.pinned (OpenSpec.ofChange fnSortRowsWrong)

/-- 'laws.FnExactRowWeights': WHATEVER THE INPUT: true; the input reads as it did. -/
def fnExactRowWeightsSpec : ChangeSpec := { name := "fnExactRowWeights", fn := fun _ => fun
  | [d1, d2, d3] => { results := [.lit (.bool true)], args := [d1, d2, d3] }
  | _ => none }
def fnExactRowWeightsRow : OpenClaim := { program := "ytmgnbkiphdlooab", sum := "f0a0191488ca6e186d21d079df2802274c9436b87f83c7e865062a70250e8223", func := "loop.example/containerport/laws.FnExactRowWeights", spec := "fnExactRowWeights", apart := false }
def FnExactRowWeightsSaid : Prop := fnExactRowWeightsRow.holds Try.pinned (OpenSpec.ofChange fnExactRowWeightsSpec)

/-- ITS FALSE NEIGHBOUR: 'it returns false'. Refute it at one input. -/
def fnExactRowWeightsWrong : ChangeSpec := { name := "fnExactRowWeights", fn := fun _ => fun
  | [d1, d2, d3] => { results := [.lit (.bool false)], args := [d1, d2, d3] }
  | _ => none }
def FnExactRowWeightsWrongFalsely : Prop := fnExactRowWeightsRow.holds Try.pinned (OpenSpec.ofChange fnExactRowWeightsWrong)

/-- 'laws.FnExactRowsBear': WHATEVER THE INPUT: true; the input reads as it did. -/
def fnExactRowsBearSpec : ChangeSpec := { name := "fnExactRowsBear", fn := fun _ => fun
  | [d1, d2, d3, d4] => { results := [.lit (.bool true)], args := [d1, d2, d3, d4] }
  | _ => none }
def fnExactRowsBearRow : OpenClaim := { program := "ytmgnbkiphdlooab", sum := "f0a0191488ca6e186d21d079df2802274c9436b87f83c7e865062a70250e8223", func := "loop.example/containerport/laws.FnExactRowsBear", spec := "fnExactRowsBear", apart := false }
def FnExactRowsBearSaid : Prop := fnExactRowsBearRow.holds Try.pinned (OpenSpec.ofChange fnExactRowsBearSpec)

/-- ITS FALSE NEIGHBOUR: 'it returns false'. Refute it at one input. -/
def fnExactRowsBearWrong : ChangeSpec := { name := "fnExactRowsBear", fn := fun _ => fun
  | [d1, d2, d3, d4] => { results := [.lit (.bool false)], args := [d1, d2, d3, d4] }
  | _ => none }
def FnExactRowsBearWrongFalsely : Prop := fnExactRowsBearRow.holds Try.pinned (OpenSpec.ofChange fnExactRowsBearWrong)

/-- 'laws.FnExactOnLighter': WHATEVER THE INPUT: true; the input reads as it did. -/
def fnExactOnLighterSpec : ChangeSpec := { name := "fnExactOnLighter", fn := fun _ => fun
  | [d1, d2, d3] => { results := [.lit (.bool true)], args := [d1, d2, d3] }
  | _ => none }
def fnExactOnLighterRow : OpenClaim := { program := "ytmgnbkiphdlooab", sum := "f0a0191488ca6e186d21d079df2802274c9436b87f83c7e865062a70250e8223", func := "loop.example/containerport/laws.FnExactOnLighter", spec := "fnExactOnLighter", apart := false }
def FnExactOnLighterSaid : Prop := fnExactOnLighterRow.holds Try.pinned (OpenSpec.ofChange fnExactOnLighterSpec)

/-- ITS FALSE NEIGHBOUR: 'it returns false'. Refute it at one input. -/
def fnExactOnLighterWrong : ChangeSpec := { name := "fnExactOnLighter", fn := fun _ => fun
  | [d1, d2, d3] => { results := [.lit (.bool false)], args := [d1, d2, d3] }
  | _ => none }
def FnExactOnLighterWrongFalsely : Prop := fnExactOnLighterRow.holds Try.pinned (OpenSpec.ofChange fnExactOnLighterWrong)

/-- 'laws.FnExactSortRows': WHATEVER THE INPUT: true; the input reads as it did. -/
def fnExactSortRowsSpec : ChangeSpec := { name := "fnExactSortRows", fn := fun _ => fun
  | [d1, d2, d3] => { results := [.lit (.bool true)], args := [d1, d2, d3] }
  | _ => none }
def fnExactSortRowsRow : OpenClaim := { program := "ytmgnbkiphdlooab", sum := "f0a0191488ca6e186d21d079df2802274c9436b87f83c7e865062a70250e8223", func := "loop.example/containerport/laws.FnExactSortRows", spec := "fnExactSortRows", unfollowed := true, recurses := true, apart := false }
def FnExactSortRowsSaid : Prop := fnExactSortRowsRow.holds Try.pinned (OpenSpec.ofChange fnExactSortRowsSpec)

/-- ITS FALSE NEIGHBOUR: 'it returns false'. Refute it at one input. -/
def fnExactSortRowsWrong : ChangeSpec := { name := "fnExactSortRows", fn := fun _ => fun
  | [d1, d2, d3] => { results := [.lit (.bool false)], args := [d1, d2, d3] }
  | _ => none }
def FnExactSortRowsWrongFalsely : Prop := fnExactSortRowsRow.holds Try.pinned (OpenSpec.ofChange fnExactSortRowsWrong)

/- THE SECOND FORM. 'bulk': how many values and letters a reading holds, each counted each time it is reached (what is shared counts as often as it is met; a slice's spare places count too). A statement '..UptoSaid' is the law's where the arguments, and the package variables that the reading takes, are together of bulk at most 1048576: NARROWER than '..Said'. Prove '..Said' where nothing that the law and all that it calls make is longer than what came in: it says more and counts as full. Else prove '..UptoSaid'. A law counts once. -/
mutual
def uptoBulk {H : Type} : DataW H → Nat
  | .lit (.string bytes) => bytes.length + 1
  | .lit _ => 1
  | .nil => 1
  | .ptr d => uptoBulk d + 1
  | .slice elems spare => uptoBulkAll elems + uptoBulkAll spare + 1
  | .agg parts => uptoBulkAll parts + 1
  | .iface _ d => uptoBulk d + 1
  | .map entries => uptoBulkEntries entries + 1
  | .held _ => 1
def uptoBulkAll {H : Type} : List (DataW H) → Nat
  | [] => 0
  | d :: r => uptoBulk d + uptoBulkAll r
def uptoBulkEntries {H : Type} : List (Lit × DataW H) → Nat
  | [] => 0
  | x :: r => uptoBulkEntry x + uptoBulkEntries r
def uptoBulkEntry {H : Type} : Lit × DataW H → Nat
  | (.string bytes, d) => bytes.length + uptoBulk d + 1
  | (_, d) => uptoBulk d + 1
 end
def uptoSmall : (H : Type) → List (DataW H) → Bool := fun _ ds => decide (uptoBulkAll ds ≤ 1048576)
def OpenSpec.upto (s : _root_.Go.ChangeSpec) : _root_.Go.OpenSpec := { _root_.Go.OpenSpec.ofChange s with cond := some uptoSmall }

/-- 'laws.FnRowWeights', WHERE WHAT IT READS IS OF BULK AT MOST 1048576: true; the input reads as it did. -/
def fnRowWeightsUptoRow : OpenClaim := { program := "ytmgnbkiphdlooab", sum := "f0a0191488ca6e186d21d079df2802274c9436b87f83c7e865062a70250e8223", func := "loop.example/containerport/laws.FnRowWeights", spec := "fnRowWeights", inPlace := ["internal/bytealg.IndexByteString"], apart := false, narrowed := true }
def FnRowWeightsUptoSaid : Prop := fnRowWeightsUptoRow.holds Try.pinned (OpenSpec.upto fnRowWeightsSpec)

/-- 'laws.FnRowsBear', WHERE WHAT IT READS IS OF BULK AT MOST 1048576: true; the input reads as it did. -/
def fnRowsBearUptoRow : OpenClaim := { program := "ytmgnbkiphdlooab", sum := "f0a0191488ca6e186d21d079df2802274c9436b87f83c7e865062a70250e8223", func := "loop.example/containerport/laws.FnRowsBear", spec := "fnRowsBear", inPlace := ["internal/bytealg.IndexByteString"], apart := false, narrowed := true }
def FnRowsBearUptoSaid : Prop := fnRowsBearUptoRow.holds Try.pinned (OpenSpec.upto fnRowsBearSpec)

/-- 'laws.FnOnLighter', WHERE WHAT IT READS IS OF BULK AT MOST 1048576: true; the input reads as it did. -/
def fnOnLighterUptoRow : OpenClaim := { program := "ytmgnbkiphdlooab", sum := "f0a0191488ca6e186d21d079df2802274c9436b87f83c7e865062a70250e8223", func := "loop.example/containerport/laws.FnOnLighter", spec := "fnOnLighter", inPlace := ["internal/bytealg.IndexByteString"], apart := false, narrowed := true }
def FnOnLighterUptoSaid : Prop := fnOnLighterUptoRow.holds Try.pinned (OpenSpec.upto fnOnLighterSpec)

/-- 'laws.FnSortRows', WHERE WHAT IT READS IS OF BULK AT MOST 1048576: true; the input reads as it did. -/
def fnSortRowsUptoRow : OpenClaim := { program := "ytmgnbkiphdlooab", sum := "f0a0191488ca6e186d21d079df2802274c9436b87f83c7e865062a70250e8223", func := "loop.example/containerport/laws.FnSortRows", spec := "fnSortRows", inPlace := ["internal/bytealg.IndexByteString"], unfollowed := true, recurses := true, apart := false, narrowed := true }
def FnSortRowsUptoSaid : Prop := fnSortRowsUptoRow.holds Try.pinned (OpenSpec.upto fnSortRowsSpec)

/-- 'laws.FnExactRowWeights', WHERE WHAT IT READS IS OF BULK AT MOST 1048576: true; the input reads as it did. -/
def fnExactRowWeightsUptoRow : OpenClaim := { program := "ytmgnbkiphdlooab", sum := "f0a0191488ca6e186d21d079df2802274c9436b87f83c7e865062a70250e8223", func := "loop.example/containerport/laws.FnExactRowWeights", spec := "fnExactRowWeights", apart := false, narrowed := true }
def FnExactRowWeightsUptoSaid : Prop := fnExactRowWeightsUptoRow.holds Try.pinned (OpenSpec.upto fnExactRowWeightsSpec)

/-- 'laws.FnExactRowsBear', WHERE WHAT IT READS IS OF BULK AT MOST 1048576: true; the input reads as it did. -/
def fnExactRowsBearUptoRow : OpenClaim := { program := "ytmgnbkiphdlooab", sum := "f0a0191488ca6e186d21d079df2802274c9436b87f83c7e865062a70250e8223", func := "loop.example/containerport/laws.FnExactRowsBear", spec := "fnExactRowsBear", apart := false, narrowed := true }
def FnExactRowsBearUptoSaid : Prop := fnExactRowsBearUptoRow.holds Try.pinned (OpenSpec.upto fnExactRowsBearSpec)

/-- 'laws.FnExactOnLighter', WHERE WHAT IT READS IS OF BULK AT MOST 1048576: true; the input reads as it did. -/
def fnExactOnLighterUptoRow : OpenClaim := { program := "ytmgnbkiphdlooab", sum := "f0a0191488ca6e186d21d079df2802274c9436b87f83c7e865062a70250e8223", func := "loop.example/containerport/laws.FnExactOnLighter", spec := "fnExactOnLighter", apart := false, narrowed := true }
def FnExactOnLighterUptoSaid : Prop := fnExactOnLighterUptoRow.holds Try.pinned (OpenSpec.upto fnExactOnLighterSpec)

/-- 'laws.FnExactSortRows', WHERE WHAT IT READS IS OF BULK AT MOST 1048576: true; the input reads as it did. -/
def fnExactSortRowsUptoRow : OpenClaim := { program := "ytmgnbkiphdlooab", sum := "f0a0191488ca6e186d21d079df2802274c9436b87f83c7e865062a70250e8223", func := "loop.example/containerport/laws.FnExactSortRows", spec := "fnExactSortRows", unfollowed := true, recurses := true, apart := false, narrowed := true }
def FnExactSortRowsUptoSaid : Prop := fnExactSortRowsUptoRow.holds Try.pinned (OpenSpec.upto fnExactSortRowsSpec)

end Rows
end Go.Proofs.Ytmgnbkiphdlooab
