/-
  DERIVED. GIVEN WITH THE SEED: THE CARDS: each row of YtlccmgdmfchmnaaDoorRows.lean that lists a variable, with what it lists TIED to the program's text (the seventh form; the later family's looks); each row that meets fmt, with fmt's text TOLD by the authors' own Lean function (tested against real Go, not proved from fmt's source: count such statements apart). THE CARD IS WHAT COUNTS. Prove the row's statement (the work); the ties are given (YtlccmgdmfchmnaaDoorTie.lean); close each card by the builder's one call (the guide's Derived/Test/ToyasCard.lean, 'card_holds'). Laid BY PROGRAM, IN A SANDBOX (cutbox-door.mjs). By AI agents, Wed Nov 11 2026. No macro, syntax, notation, axiom, sorry.
-/
import Derived.Test.YtlccmgdmfchmnaaDoorRows
import GoSem.ClaimSeven
namespace Go.Proofs.YtlccmgdmfchmnaaDoor
namespace Rows

/-- THE TIED CARD OF 'laws.FnApartNeed'. -/
def fnApartNeedCard : Claim7 := { stood := { row := fnApartNeedRow, standIns := [], harness := (true, "b54b4fa1c119479bb1d590f82f95b98dfb7c08de77ecde12422e3ee80dea564d"), looks := false }, kinds := [], alts := [], laidByText := true, laidKinds := [.data], laidTests := true, laidLooks := .later }
def FnApartNeedCardSaid : Prop := Claim7.holds Tryd.pinned (.plain (OpenSpec.ofChange fnApartNeedSpec)) fnApartNeedCard

/-- THE TIED CARD OF 'laws.FnTooNear'. -/
def fnTooNearCard : Claim7 := { stood := { row := fnTooNearRow, standIns := [], harness := (true, "b54b4fa1c119479bb1d590f82f95b98dfb7c08de77ecde12422e3ee80dea564d"), looks := false }, kinds := [], alts := [], laidByText := true, laidKinds := [.data], laidTests := true, laidLooks := .later }
def FnTooNearCardSaid : Prop := Claim7.holds Tryd.pinned (.plain (OpenSpec.ofChange fnTooNearSpec)) fnTooNearCard

/-- THE TIED CARD OF 'laws.FnSafeSlots'. -/
def fnSafeSlotsCard : Claim7 := { stood := { row := fnSafeSlotsRow, standIns := [], harness := (true, "b54b4fa1c119479bb1d590f82f95b98dfb7c08de77ecde12422e3ee80dea564d"), looks := false }, kinds := [], alts := [], laidByText := true, laidKinds := [.data], laidTests := true, laidLooks := .later }
def FnSafeSlotsCardSaid : Prop := Claim7.holds Tryd.pinned (.plain (OpenSpec.ofChange fnSafeSlotsSpec)) fnSafeSlotsCard

/-- THE TIED CARD OF 'laws.FnExactApartNeed'. -/
def fnExactApartNeedCard : Claim7 := { stood := { row := fnExactApartNeedRow, standIns := [], harness := (true, "b54b4fa1c119479bb1d590f82f95b98dfb7c08de77ecde12422e3ee80dea564d"), looks := false }, kinds := [], alts := [], laidByText := true, laidKinds := [.data], laidTests := true, laidLooks := .later }
def FnExactApartNeedCardSaid : Prop := Claim7.holds Tryd.pinned (.plain (OpenSpec.ofChange fnExactApartNeedSpec)) fnExactApartNeedCard

/-- THE TIED CARD OF 'laws.FnExactTooNear'. -/
def fnExactTooNearCard : Claim7 := { stood := { row := fnExactTooNearRow, standIns := [], harness := (true, "b54b4fa1c119479bb1d590f82f95b98dfb7c08de77ecde12422e3ee80dea564d"), looks := false }, kinds := [], alts := [], laidByText := true, laidKinds := [.data], laidTests := true, laidLooks := .later }
def FnExactTooNearCardSaid : Prop := Claim7.holds Tryd.pinned (.plain (OpenSpec.ofChange fnExactTooNearSpec)) fnExactTooNearCard

/-- THE TIED CARD OF 'laws.FnExactSafeSlots'. -/
def fnExactSafeSlotsCard : Claim7 := { stood := { row := fnExactSafeSlotsRow, standIns := [], harness := (true, "b54b4fa1c119479bb1d590f82f95b98dfb7c08de77ecde12422e3ee80dea564d"), looks := false }, kinds := [], alts := [], laidByText := true, laidKinds := [.data], laidTests := true, laidLooks := .later }
def FnExactSafeSlotsCardSaid : Prop := Claim7.holds Tryd.pinned (.plain (OpenSpec.ofChange fnExactSafeSlotsSpec)) fnExactSafeSlotsCard

/-- THE SECOND FORM's CARD OF 'laws.FnApartNeed'. -/
def fnApartNeedUptoCard : Claim7 := { stood := { row := fnApartNeedUptoRow, standIns := [], harness := (true, "b54b4fa1c119479bb1d590f82f95b98dfb7c08de77ecde12422e3ee80dea564d"), looks := false }, kinds := [], alts := [], laidByText := true, laidKinds := [.data], laidTests := true, laidLooks := .later }
def FnApartNeedUptoCardSaid : Prop := Claim7.holds Tryd.pinned (.plain (OpenSpec.upto fnApartNeedSpec)) fnApartNeedUptoCard

/-- THE SECOND FORM's CARD OF 'laws.FnTooNear'. -/
def fnTooNearUptoCard : Claim7 := { stood := { row := fnTooNearUptoRow, standIns := [], harness := (true, "b54b4fa1c119479bb1d590f82f95b98dfb7c08de77ecde12422e3ee80dea564d"), looks := false }, kinds := [], alts := [], laidByText := true, laidKinds := [.data], laidTests := true, laidLooks := .later }
def FnTooNearUptoCardSaid : Prop := Claim7.holds Tryd.pinned (.plain (OpenSpec.upto fnTooNearSpec)) fnTooNearUptoCard

/-- THE SECOND FORM's CARD OF 'laws.FnSafeSlots'. -/
def fnSafeSlotsUptoCard : Claim7 := { stood := { row := fnSafeSlotsUptoRow, standIns := [], harness := (true, "b54b4fa1c119479bb1d590f82f95b98dfb7c08de77ecde12422e3ee80dea564d"), looks := false }, kinds := [], alts := [], laidByText := true, laidKinds := [.data], laidTests := true, laidLooks := .later }
def FnSafeSlotsUptoCardSaid : Prop := Claim7.holds Tryd.pinned (.plain (OpenSpec.upto fnSafeSlotsSpec)) fnSafeSlotsUptoCard

/-- THE SECOND FORM's CARD OF 'laws.FnExactApartNeed'. -/
def fnExactApartNeedUptoCard : Claim7 := { stood := { row := fnExactApartNeedUptoRow, standIns := [], harness := (true, "b54b4fa1c119479bb1d590f82f95b98dfb7c08de77ecde12422e3ee80dea564d"), looks := false }, kinds := [], alts := [], laidByText := true, laidKinds := [.data], laidTests := true, laidLooks := .later }
def FnExactApartNeedUptoCardSaid : Prop := Claim7.holds Tryd.pinned (.plain (OpenSpec.upto fnExactApartNeedSpec)) fnExactApartNeedUptoCard

/-- THE SECOND FORM's CARD OF 'laws.FnExactTooNear'. -/
def fnExactTooNearUptoCard : Claim7 := { stood := { row := fnExactTooNearUptoRow, standIns := [], harness := (true, "b54b4fa1c119479bb1d590f82f95b98dfb7c08de77ecde12422e3ee80dea564d"), looks := false }, kinds := [], alts := [], laidByText := true, laidKinds := [.data], laidTests := true, laidLooks := .later }
def FnExactTooNearUptoCardSaid : Prop := Claim7.holds Tryd.pinned (.plain (OpenSpec.upto fnExactTooNearSpec)) fnExactTooNearUptoCard

/-- THE SECOND FORM's CARD OF 'laws.FnExactSafeSlots'. -/
def fnExactSafeSlotsUptoCard : Claim7 := { stood := { row := fnExactSafeSlotsUptoRow, standIns := [], harness := (true, "b54b4fa1c119479bb1d590f82f95b98dfb7c08de77ecde12422e3ee80dea564d"), looks := false }, kinds := [], alts := [], laidByText := true, laidKinds := [.data], laidTests := true, laidLooks := .later }
def FnExactSafeSlotsUptoCardSaid : Prop := Claim7.holds Tryd.pinned (.plain (OpenSpec.upto fnExactSafeSlotsSpec)) fnExactSafeSlotsUptoCard
end Rows
end Go.Proofs.YtlccmgdmfchmnaaDoor
