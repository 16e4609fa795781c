/-
  DERIVED. GIVEN WITH THE SEED: THE CARDS: each row of YtfkgfakjhjbidaaDoorRows.lean that lists a variable, with what it lists TIED to the program's text (the seventh form; the later family's looks); each row that meets fmt, with fmt's text TOLD by the authors' own Lean function (tested against real Go, not proved from fmt's source: count such statements apart). THE CARD IS WHAT COUNTS. Prove the row's statement (the work); the ties are given (YtfkgfakjhjbidaaDoorTie.lean); close each card by the builder's one call (the guide's Derived/Test/ToyasCard.lean, 'card_holds'). Laid BY PROGRAM, IN A SANDBOX (cutbox-door.mjs). By AI agents, Wed Nov 11 2026. No macro, syntax, notation, axiom, sorry.
-/
import Derived.Test.YtfkgfakjhjbidaaDoorRows
import GoSem.ClaimSeven
namespace Go.Proofs.YtfkgfakjhjbidaaDoor
namespace Rows

/-- THE TIED CARD OF 'cofferlaw.SumTells'. -/
def sumTellsCard : Claim7 := { stood := { row := sumTellsRow, standIns := [], harness := (true, "75e4702e2c693ef28756459a9edf60cbe1dfcfdbee26f2e23e08fbf2e616d9aa"), looks := true }, kinds := [], alts := [], laidByText := true, laidKinds := [.data, .data, .data, .data], laidTests := true, laidLooks := .later }
def SumTellsCardSaid : Prop := Claim7.holds Tryd.pinned (.plain (OpenSpec.ofChange sumTellsSpec)) sumTellsCard

/-- THE TIED CARD OF 'cofferlaw.StreamBlocks'. -/
def streamBlocksCard : Claim7 := { stood := { row := streamBlocksRow, standIns := [], harness := (true, "75e4702e2c693ef28756459a9edf60cbe1dfcfdbee26f2e23e08fbf2e616d9aa"), looks := true }, kinds := [], alts := [], laidByText := true, laidKinds := [.handle], laidTests := true, laidLooks := .later }
def StreamBlocksCardSaid : Prop := Claim7.holds Tryd.pinned (.plain (OpenSpec.ofChange streamBlocksSpec)) streamBlocksCard

/-- THE TIED CARD OF 'cofferkeep.DeviceCounts'. -/
def deviceCountsCard : Claim7 := { stood := { row := deviceCountsRow, standIns := [], harness := (true, "75e4702e2c693ef28756459a9edf60cbe1dfcfdbee26f2e23e08fbf2e616d9aa"), looks := true }, kinds := [], alts := [], laidByText := true, laidKinds := [.handle], laidTests := true, laidLooks := .later }
def DeviceCountsCardSaid : Prop := Claim7.holds Tryd.pinned (.plain (OpenSpec.ofChange deviceCountsSpec)) deviceCountsCard

/-- THE TIED CARD OF 'cofferlaw.DeviceKeeps'. -/
def deviceKeepsCard : Claim7 := { stood := { row := deviceKeepsRow, standIns := [], harness := (true, "75e4702e2c693ef28756459a9edf60cbe1dfcfdbee26f2e23e08fbf2e616d9aa"), looks := true }, kinds := [], alts := [], laidByText := true, laidKinds := [.handle], laidTests := true, laidLooks := .later }
def DeviceKeepsCardSaid : Prop := Claim7.holds Tryd.pinned (.plain (OpenSpec.ofChange deviceKeepsSpec)) deviceKeepsCard

/-- THE TIED CARD OF 'cofferkeep.DeviceRests'. -/
def deviceRestsCard : Claim7 := { stood := { row := deviceRestsRow, standIns := [], harness := (true, "75e4702e2c693ef28756459a9edf60cbe1dfcfdbee26f2e23e08fbf2e616d9aa"), looks := true }, kinds := [], alts := [], laidByText := true, laidKinds := [.handle], laidTests := true, laidLooks := .later }
def DeviceRestsCardSaid : Prop := Claim7.holds Tryd.pinned (.plain (OpenSpec.ofChange deviceRestsSpec)) deviceRestsCard

/-- THE TIED CARD OF 'cofferkeep.DeviceSure'. -/
def deviceSureCard : Claim7 := { stood := { row := deviceSureRow, standIns := [], harness := (true, "75e4702e2c693ef28756459a9edf60cbe1dfcfdbee26f2e23e08fbf2e616d9aa"), looks := true }, kinds := [], alts := [], laidByText := true, laidKinds := [.handle], laidTests := true, laidLooks := .later }
def DeviceSureCardSaid : Prop := Claim7.holds Tryd.pinned (.plain (OpenSpec.ofChange deviceSureSpec)) deviceSureCard

/-- THE TIED CARD OF 'cofferlaw.PageSeals'. -/
def pageSealsCard : Claim7 := { stood := { row := pageSealsRow, standIns := [], harness := (true, "75e4702e2c693ef28756459a9edf60cbe1dfcfdbee26f2e23e08fbf2e616d9aa"), looks := true }, kinds := [], alts := [], laidByText := true, laidKinds := [.handle, .data], laidTests := true, laidLooks := .later }
def PageSealsCardSaid : Prop := Claim7.holds Tryd.pinned (.plain (OpenSpec.ofChange pageSealsSpec)) pageSealsCard

/-- THE TIED CARD OF 'cofferlaw.TreeBinds'. -/
def treeBindsCard : Claim7 := { stood := { row := treeBindsRow, standIns := [], harness := (true, "75e4702e2c693ef28756459a9edf60cbe1dfcfdbee26f2e23e08fbf2e616d9aa"), looks := true }, kinds := [], alts := [], laidByText := true, laidKinds := [.handle, .data], laidTests := true, laidLooks := .later }
def TreeBindsCardSaid : Prop := Claim7.holds Tryd.pinned (.plain (OpenSpec.ofChange treeBindsSpec)) treeBindsCard

/-- THE TIED CARD OF 'cofferlaw.SuperWrites'. -/
def superWritesCard : Claim7 := { stood := { row := superWritesRow, standIns := [], harness := (true, "75e4702e2c693ef28756459a9edf60cbe1dfcfdbee26f2e23e08fbf2e616d9aa"), looks := true }, kinds := [], alts := [], laidByText := true, laidKinds := [.handle, .data], laidTests := true, laidLooks := .later }
def SuperWritesCardSaid : Prop := Claim7.holds Tryd.pinned (.plain (OpenSpec.ofChange superWritesSpec)) superWritesCard

/-- THE SECOND FORM's CARD OF 'cofferlaw.SumTells'. -/
def sumTellsUptoCard : Claim7 := { stood := { row := sumTellsUptoRow, standIns := [], harness := (true, "75e4702e2c693ef28756459a9edf60cbe1dfcfdbee26f2e23e08fbf2e616d9aa"), looks := true }, kinds := [], alts := [], laidByText := true, laidKinds := [.data, .data, .data, .data], laidTests := true, laidLooks := .later }
def SumTellsUptoCardSaid : Prop := Claim7.holds Tryd.pinned (.plain (OpenSpec.upto sumTellsSpec)) sumTellsUptoCard

/-- THE SECOND FORM's CARD OF 'cofferlaw.StreamBlocks'. -/
def streamBlocksUptoCard : Claim7 := { stood := { row := streamBlocksUptoRow, standIns := [], harness := (true, "75e4702e2c693ef28756459a9edf60cbe1dfcfdbee26f2e23e08fbf2e616d9aa"), looks := true }, kinds := [], alts := [], laidByText := true, laidKinds := [.handle], laidTests := true, laidLooks := .later }
def StreamBlocksUptoCardSaid : Prop := Claim7.holds Tryd.pinned (.plain (OpenSpec.upto streamBlocksSpec)) streamBlocksUptoCard

/-- THE SECOND FORM's CARD OF 'cofferkeep.DeviceCounts'. -/
def deviceCountsUptoCard : Claim7 := { stood := { row := deviceCountsUptoRow, standIns := [], harness := (true, "75e4702e2c693ef28756459a9edf60cbe1dfcfdbee26f2e23e08fbf2e616d9aa"), looks := true }, kinds := [], alts := [], laidByText := true, laidKinds := [.handle], laidTests := true, laidLooks := .later }
def DeviceCountsUptoCardSaid : Prop := Claim7.holds Tryd.pinned (.plain (OpenSpec.upto deviceCountsSpec)) deviceCountsUptoCard

/-- THE SECOND FORM's CARD OF 'cofferlaw.DeviceKeeps'. -/
def deviceKeepsUptoCard : Claim7 := { stood := { row := deviceKeepsUptoRow, standIns := [], harness := (true, "75e4702e2c693ef28756459a9edf60cbe1dfcfdbee26f2e23e08fbf2e616d9aa"), looks := true }, kinds := [], alts := [], laidByText := true, laidKinds := [.handle], laidTests := true, laidLooks := .later }
def DeviceKeepsUptoCardSaid : Prop := Claim7.holds Tryd.pinned (.plain (OpenSpec.upto deviceKeepsSpec)) deviceKeepsUptoCard

/-- THE SECOND FORM's CARD OF 'cofferkeep.DeviceRests'. -/
def deviceRestsUptoCard : Claim7 := { stood := { row := deviceRestsUptoRow, standIns := [], harness := (true, "75e4702e2c693ef28756459a9edf60cbe1dfcfdbee26f2e23e08fbf2e616d9aa"), looks := true }, kinds := [], alts := [], laidByText := true, laidKinds := [.handle], laidTests := true, laidLooks := .later }
def DeviceRestsUptoCardSaid : Prop := Claim7.holds Tryd.pinned (.plain (OpenSpec.upto deviceRestsSpec)) deviceRestsUptoCard

/-- THE SECOND FORM's CARD OF 'cofferkeep.DeviceSure'. -/
def deviceSureUptoCard : Claim7 := { stood := { row := deviceSureUptoRow, standIns := [], harness := (true, "75e4702e2c693ef28756459a9edf60cbe1dfcfdbee26f2e23e08fbf2e616d9aa"), looks := true }, kinds := [], alts := [], laidByText := true, laidKinds := [.handle], laidTests := true, laidLooks := .later }
def DeviceSureUptoCardSaid : Prop := Claim7.holds Tryd.pinned (.plain (OpenSpec.upto deviceSureSpec)) deviceSureUptoCard

/-- THE SECOND FORM's CARD OF 'cofferlaw.PageSeals'. -/
def pageSealsUptoCard : Claim7 := { stood := { row := pageSealsUptoRow, standIns := [], harness := (true, "75e4702e2c693ef28756459a9edf60cbe1dfcfdbee26f2e23e08fbf2e616d9aa"), looks := true }, kinds := [], alts := [], laidByText := true, laidKinds := [.handle, .data], laidTests := true, laidLooks := .later }
def PageSealsUptoCardSaid : Prop := Claim7.holds Tryd.pinned (.plain (OpenSpec.upto pageSealsSpec)) pageSealsUptoCard

/-- THE SECOND FORM's CARD OF 'cofferlaw.TreeBinds'. -/
def treeBindsUptoCard : Claim7 := { stood := { row := treeBindsUptoRow, standIns := [], harness := (true, "75e4702e2c693ef28756459a9edf60cbe1dfcfdbee26f2e23e08fbf2e616d9aa"), looks := true }, kinds := [], alts := [], laidByText := true, laidKinds := [.handle, .data], laidTests := true, laidLooks := .later }
def TreeBindsUptoCardSaid : Prop := Claim7.holds Tryd.pinned (.plain (OpenSpec.upto treeBindsSpec)) treeBindsUptoCard

/-- THE SECOND FORM's CARD OF 'cofferlaw.SuperWrites'. -/
def superWritesUptoCard : Claim7 := { stood := { row := superWritesUptoRow, standIns := [], harness := (true, "75e4702e2c693ef28756459a9edf60cbe1dfcfdbee26f2e23e08fbf2e616d9aa"), looks := true }, kinds := [], alts := [], laidByText := true, laidKinds := [.handle, .data], laidTests := true, laidLooks := .later }
def SuperWritesUptoCardSaid : Prop := Claim7.holds Tryd.pinned (.plain (OpenSpec.upto superWritesSpec)) superWritesUptoCard
end Rows
end Go.Proofs.YtfkgfakjhjbidaaDoor
