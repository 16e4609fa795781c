/-
  DERIVED. GIVEN WITH THE SEED: THE CARDS: each row of YtibkbhhenlgkeaaGreatDoorRows.lean that lists a variable, with what it lists TIED to the program's text (the seventh form; the later family's looks); each row that meets fmt, with fmt's text TOLD by the authors' own Lean function (tested against real Go, not proved from fmt's source: count such statements apart). THE CARD IS WHAT COUNTS. Prove the row's statement (the work); the ties are given (YtibkbhhenlgkeaaGreatDoorTie.lean); close each card by the builder's one call (the guide's Derived/Test/ToyasCard.lean, 'card_holds'). Laid BY PROGRAM, IN A SANDBOX (cutbox-door.mjs). By AI agents, Wed Nov 11 2026. No macro, syntax, notation, axiom, sorry.
-/
import Derived.Test.YtibkbhhenlgkeaaGreatDoorRows
import GoSem.ClaimSeven
namespace Go.Proofs.YtibkbhhenlgkeaaGreatDoor
namespace Rows

/-- THE TIED CARD OF 'cofferlaw.VaultTells'. -/
def vaultTellsCard : Claim7 := { stood := { row := vaultTellsRow, standIns := [], harness := (true, "63bf548f952cb512b69262fe1751ff2660e0384dfedb96760441eca82b8fc163"), looks := true }, kinds := [], alts := [], laidByText := true, laidKinds := [.handle, .data], laidTests := true, laidLooks := .later }
def VaultTellsCardSaid : Prop := Claim7.holds Tryz.pinned (.plain (OpenSpec.ofChange vaultTellsSpec)) vaultTellsCard

/-- THE TIED CARD OF 'cofferlaw.VaultRefuses'. -/
def vaultRefusesCard : Claim7 := { stood := { row := vaultRefusesRow, standIns := [], harness := (true, "63bf548f952cb512b69262fe1751ff2660e0384dfedb96760441eca82b8fc163"), looks := true }, kinds := [], alts := [], laidByText := true, laidKinds := [.handle, .data], laidTests := true, laidLooks := .later }
def VaultRefusesCardSaid : Prop := Claim7.holds Tryz.pinned (.plain (OpenSpec.ofChange vaultRefusesSpec)) vaultRefusesCard

/-- THE SECOND FORM's CARD OF 'cofferlaw.VaultTells'. -/
def vaultTellsUptoCard : Claim7 := { stood := { row := vaultTellsUptoRow, standIns := [], harness := (true, "63bf548f952cb512b69262fe1751ff2660e0384dfedb96760441eca82b8fc163"), looks := true }, kinds := [], alts := [], laidByText := true, laidKinds := [.handle, .data], laidTests := true, laidLooks := .later }
def VaultTellsUptoCardSaid : Prop := Claim7.holds Tryz.pinned (.plain (OpenSpec.upto vaultTellsSpec)) vaultTellsUptoCard

/-- THE SECOND FORM's CARD OF 'cofferlaw.VaultRefuses'. -/
def vaultRefusesUptoCard : Claim7 := { stood := { row := vaultRefusesUptoRow, standIns := [], harness := (true, "63bf548f952cb512b69262fe1751ff2660e0384dfedb96760441eca82b8fc163"), looks := true }, kinds := [], alts := [], laidByText := true, laidKinds := [.handle, .data], laidTests := true, laidLooks := .later }
def VaultRefusesUptoCardSaid : Prop := Claim7.holds Tryz.pinned (.plain (OpenSpec.upto vaultRefusesSpec)) vaultRefusesUptoCard
end Rows
end Go.Proofs.YtibkbhhenlgkeaaGreatDoor
