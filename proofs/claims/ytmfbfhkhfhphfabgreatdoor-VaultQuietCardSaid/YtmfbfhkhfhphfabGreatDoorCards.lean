/-
  DERIVED. GIVEN WITH THE SEED: THE CARDS: each row of YtmfbfhkhfhphfabGreatDoorRows.lean that lists a variable, with what it lists TIED to the program's text (the seventh form; the later family's looks); each row that meets fmt, with fmt's text TOLD by the authors' own Lean function (tested against real Go, not proved from fmt's source: count such statements apart). THE CARD IS WHAT COUNTS. Prove the row's statement (the work); the ties are given (YtmfbfhkhfhphfabGreatDoorTie.lean); close each card by the builder's one call (the guide's Derived/Test/ToyasCard.lean, 'card_holds'). Laid BY PROGRAM, IN A SANDBOX (cutbox-door.mjs). By AI agents, Wed Nov 11 2026. No macro, syntax, notation, axiom, sorry.
-/
import Derived.Test.YtmfbfhkhfhphfabGreatDoorRows
import GoSem.ClaimSeven
namespace Go.Proofs.YtmfbfhkhfhphfabGreatDoor
namespace Rows

/-- THE TIED CARD OF 'cofferkeep.VaultHolds'. -/
def vaultHoldsCard : Claim7 := { stood := { row := vaultHoldsRow, standIns := [], harness := (true, "e03ac75f0c45c4242ff34d7cd1f272549acdecd2654b79e654be89783f7a011a"), looks := true }, kinds := [], alts := [], laidByText := true, laidKinds := [.handle, .data], laidTests := true, laidLooks := .later }
def VaultHoldsCardSaid : Prop := Claim7.holds Tryz.pinned (.plain (OpenSpec.ofChange vaultHoldsSpec)) vaultHoldsCard

/-- THE TIED CARD OF 'cofferkeep.VaultWhole'. -/
def vaultWholeCard : Claim7 := { stood := { row := vaultWholeRow, standIns := [], harness := (true, "e03ac75f0c45c4242ff34d7cd1f272549acdecd2654b79e654be89783f7a011a"), looks := true }, kinds := [], alts := [], laidByText := true, laidKinds := [.handle, .data], laidTests := true, laidLooks := .later }
def VaultWholeCardSaid : Prop := Claim7.holds Tryz.pinned (.plain (OpenSpec.ofChange vaultWholeSpec)) vaultWholeCard

/-- THE TIED CARD OF 'cofferkeep.VaultQuiet'. -/
def vaultQuietCard : Claim7 := { stood := { row := vaultQuietRow, standIns := [], harness := (true, "e03ac75f0c45c4242ff34d7cd1f272549acdecd2654b79e654be89783f7a011a"), looks := true }, kinds := [], alts := [], laidByText := true, laidKinds := [.data], laidTests := true, laidLooks := .later }
def VaultQuietCardSaid : Prop := Claim7.holds Tryz.pinned (.plain (OpenSpec.ofChange vaultQuietSpec)) vaultQuietCard

/-- THE TIED CARD OF 'cofferkeep.VaultOld'. -/
def vaultOldCard : Claim7 := { stood := { row := vaultOldRow, standIns := [], harness := (true, "e03ac75f0c45c4242ff34d7cd1f272549acdecd2654b79e654be89783f7a011a"), looks := true }, kinds := [], alts := [], laidByText := true, laidKinds := [.handle, .data], laidTests := true, laidLooks := .later }
def VaultOldCardSaid : Prop := Claim7.holds Tryz.pinned (.plain (OpenSpec.ofChange vaultOldSpec)) vaultOldCard

/-- THE TIED CARD OF 'cofferlaw.ItemReads'. -/
def itemReadsCard : Claim7 := { stood := { row := itemReadsRow, standIns := [], harness := (true, "e03ac75f0c45c4242ff34d7cd1f272549acdecd2654b79e654be89783f7a011a"), looks := true }, kinds := [], alts := [], laidByText := true, laidKinds := [.data, .data, .data, .data, .handle, .sentinel, .sentinel, .pinned], laidTests := true, laidLooks := .later }
def ItemReadsCardSaid : Prop := Claim7.holds Tryz.pinned (.plain (OpenSpec.ofChange itemReadsSpec)) itemReadsCard

/-- THE SECOND FORM's CARD OF 'cofferkeep.VaultHolds'. -/
def vaultHoldsUptoCard : Claim7 := { stood := { row := vaultHoldsUptoRow, standIns := [], harness := (true, "e03ac75f0c45c4242ff34d7cd1f272549acdecd2654b79e654be89783f7a011a"), looks := true }, kinds := [], alts := [], laidByText := true, laidKinds := [.handle, .data], laidTests := true, laidLooks := .later }
def VaultHoldsUptoCardSaid : Prop := Claim7.holds Tryz.pinned (.plain (OpenSpec.upto vaultHoldsSpec)) vaultHoldsUptoCard

/-- THE SECOND FORM's CARD OF 'cofferkeep.VaultWhole'. -/
def vaultWholeUptoCard : Claim7 := { stood := { row := vaultWholeUptoRow, standIns := [], harness := (true, "e03ac75f0c45c4242ff34d7cd1f272549acdecd2654b79e654be89783f7a011a"), looks := true }, kinds := [], alts := [], laidByText := true, laidKinds := [.handle, .data], laidTests := true, laidLooks := .later }
def VaultWholeUptoCardSaid : Prop := Claim7.holds Tryz.pinned (.plain (OpenSpec.upto vaultWholeSpec)) vaultWholeUptoCard

/-- THE SECOND FORM's CARD OF 'cofferkeep.VaultQuiet'. -/
def vaultQuietUptoCard : Claim7 := { stood := { row := vaultQuietUptoRow, standIns := [], harness := (true, "e03ac75f0c45c4242ff34d7cd1f272549acdecd2654b79e654be89783f7a011a"), looks := true }, kinds := [], alts := [], laidByText := true, laidKinds := [.data], laidTests := true, laidLooks := .later }
def VaultQuietUptoCardSaid : Prop := Claim7.holds Tryz.pinned (.plain (OpenSpec.upto vaultQuietSpec)) vaultQuietUptoCard

/-- THE SECOND FORM's CARD OF 'cofferkeep.VaultOld'. -/
def vaultOldUptoCard : Claim7 := { stood := { row := vaultOldUptoRow, standIns := [], harness := (true, "e03ac75f0c45c4242ff34d7cd1f272549acdecd2654b79e654be89783f7a011a"), looks := true }, kinds := [], alts := [], laidByText := true, laidKinds := [.handle, .data], laidTests := true, laidLooks := .later }
def VaultOldUptoCardSaid : Prop := Claim7.holds Tryz.pinned (.plain (OpenSpec.upto vaultOldSpec)) vaultOldUptoCard

/-- THE SECOND FORM's CARD OF 'cofferlaw.ItemReads'. -/
def itemReadsUptoCard : Claim7 := { stood := { row := itemReadsUptoRow, standIns := [], harness := (true, "e03ac75f0c45c4242ff34d7cd1f272549acdecd2654b79e654be89783f7a011a"), looks := true }, kinds := [], alts := [], laidByText := true, laidKinds := [.data, .data, .data, .data, .handle, .sentinel, .sentinel, .pinned], laidTests := true, laidLooks := .later }
def ItemReadsUptoCardSaid : Prop := Claim7.holds Tryz.pinned (.plain (OpenSpec.upto itemReadsSpec)) itemReadsUptoCard
end Rows
end Go.Proofs.YtmfbfhkhfhphfabGreatDoor
