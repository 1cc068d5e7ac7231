/-
  DERIVED. GIVEN WITH THE SEED: THE CARDS: each row of YtjnoekhdkmgagaaDoorRows.lean that lists a variable, with what it lists TIED to the program's text (the seventh form; the later family's looks); each row that meets fmt, with fmt's text TOLD by the authors' own Lean function (tested against real Go, not proved from fmt's source: count such statements apart). THE CARD IS WHAT COUNTS. Prove the row's statement (the work); the ties are given (YtjnoekhdkmgagaaDoorTie.lean); close each card by the builder's one call (the guide's Derived/Test/ToyasCard.lean, 'card_holds'). Laid BY PROGRAM, IN A SANDBOX (cutbox-door.mjs). By AI agents, Wed Nov 11 2026. No macro, syntax, notation, axiom, sorry.
-/
import Derived.Test.YtjnoekhdkmgagaaDoorRows
import GoSem.ClaimSeven
namespace Go.Proofs.YtjnoekhdkmgagaaDoor
namespace Rows

/-- THE TIED CARD OF 'laws.FnBoxText'. -/
def fnBoxTextCard : Claim7 := { stood := { row := fnBoxTextRow, standIns := [], harness := (true, "e6576ab22bb25048d7213d423a82a6c1a3cd4a0c1fa0aac73b50ee16969e5b38"), looks := false }, kinds := [], alts := [], laidByText := true, laidKinds := [.data, .data, .data], laidTests := true, laidLooks := .later }
def FnBoxTextCardSaid : Prop := Claim7.holds Tryd.pinned (.plain (OpenSpec.ofChange fnBoxTextSpec)) fnBoxTextCard

/-- THE TIED CARD OF 'laws.FnReadBox'. -/
def fnReadBoxCard : Claim7 := { stood := { row := fnReadBoxRow, standIns := [], harness := (true, "e6576ab22bb25048d7213d423a82a6c1a3cd4a0c1fa0aac73b50ee16969e5b38"), looks := false }, kinds := [], alts := [], laidByText := true, laidKinds := [.data, .data, .data], laidTests := true, laidLooks := .later }
def FnReadBoxCardSaid : Prop := Claim7.holds Tryd.pinned (.plain (OpenSpec.ofChange fnReadBoxSpec)) fnReadBoxCard

/-- THE TIED CARD OF 'laws.FnExactBoxText'. -/
def fnExactBoxTextCard : Claim7 := { stood := { row := fnExactBoxTextRow, standIns := [], harness := (true, "e6576ab22bb25048d7213d423a82a6c1a3cd4a0c1fa0aac73b50ee16969e5b38"), looks := false }, kinds := [], alts := [], laidByText := true, laidKinds := [.data, .data, .data], laidTests := true, laidLooks := .later }
def FnExactBoxTextCardSaid : Prop := Claim7.holds Tryd.pinned (.plain (OpenSpec.ofChange fnExactBoxTextSpec)) fnExactBoxTextCard

/-- THE SECOND FORM's CARD OF 'laws.FnBoxText'. -/
def fnBoxTextUptoCard : Claim7 := { stood := { row := fnBoxTextUptoRow, standIns := [], harness := (true, "e6576ab22bb25048d7213d423a82a6c1a3cd4a0c1fa0aac73b50ee16969e5b38"), looks := false }, kinds := [], alts := [], laidByText := true, laidKinds := [.data, .data, .data], laidTests := true, laidLooks := .later }
def FnBoxTextUptoCardSaid : Prop := Claim7.holds Tryd.pinned (.plain (OpenSpec.upto fnBoxTextSpec)) fnBoxTextUptoCard

/-- THE SECOND FORM's CARD OF 'laws.FnReadBox'. -/
def fnReadBoxUptoCard : Claim7 := { stood := { row := fnReadBoxUptoRow, standIns := [], harness := (true, "e6576ab22bb25048d7213d423a82a6c1a3cd4a0c1fa0aac73b50ee16969e5b38"), looks := false }, kinds := [], alts := [], laidByText := true, laidKinds := [.data, .data, .data], laidTests := true, laidLooks := .later }
def FnReadBoxUptoCardSaid : Prop := Claim7.holds Tryd.pinned (.plain (OpenSpec.upto fnReadBoxSpec)) fnReadBoxUptoCard

/-- THE SECOND FORM's CARD OF 'laws.FnExactBoxText'. -/
def fnExactBoxTextUptoCard : Claim7 := { stood := { row := fnExactBoxTextUptoRow, standIns := [], harness := (true, "e6576ab22bb25048d7213d423a82a6c1a3cd4a0c1fa0aac73b50ee16969e5b38"), looks := false }, kinds := [], alts := [], laidByText := true, laidKinds := [.data, .data, .data], laidTests := true, laidLooks := .later }
def FnExactBoxTextUptoCardSaid : Prop := Claim7.holds Tryd.pinned (.plain (OpenSpec.upto fnExactBoxTextSpec)) fnExactBoxTextUptoCard
end Rows
end Go.Proofs.YtjnoekhdkmgagaaDoor
