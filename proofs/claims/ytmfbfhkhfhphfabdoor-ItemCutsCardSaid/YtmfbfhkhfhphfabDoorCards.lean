/-
  DERIVED. GIVEN WITH THE SEED: THE CARDS: each row of YtmfbfhkhfhphfabDoorRows.lean that lists a variable, with what it lists TIED to the program's text (the seventh form; the later family's looks); each row that meets fmt, with fmt's text TOLD by the authors' own Lean function (tested against real Go, not proved from fmt's source: count such statements apart). THE CARD IS WHAT COUNTS. Prove the row's statement (the work); the ties are given (YtmfbfhkhfhphfabDoorTie.lean); close each card by the builder's one call (the guide's Derived/Test/ToyasCard.lean, 'card_holds'). Laid BY PROGRAM, IN A SANDBOX (cutbox-door.mjs). By AI agents, Wed Nov 11 2026. No macro, syntax, notation, axiom, sorry.
-/
import Derived.Test.YtmfbfhkhfhphfabDoorRows
import GoSem.ClaimSeven
namespace Go.Proofs.YtmfbfhkhfhphfabDoor
namespace Rows

/-- THE TIED CARD OF 'cofferkeep.ItemBack'. -/
def itemBackCard : Claim7 := { stood := { row := itemBackRow, standIns := [], harness := (true, "3e99722e08c8e138dc124299f84ffc472d0442f0d5eba59b5ed2d106dadc975e"), looks := true }, kinds := [], alts := [], laidByText := true, laidKinds := [.data, .data, .data, .data, .sentinel, .sentinel, .pinned], laidTests := true, laidLooks := .later }
def ItemBackCardSaid : Prop := Claim7.holds Tryd.pinned (.plain (OpenSpec.ofChange itemBackSpec)) itemBackCard

/-- THE TIED CARD OF 'cofferkeep.ItemCuts'. -/
def itemCutsCard : Claim7 := { stood := { row := itemCutsRow, standIns := [], harness := (true, "3e99722e08c8e138dc124299f84ffc472d0442f0d5eba59b5ed2d106dadc975e"), looks := true }, kinds := [], alts := [], laidByText := true, laidKinds := [.data, .data, .data, .data, .sentinel, .sentinel, .pinned], laidTests := true, laidLooks := .later }
def ItemCutsCardSaid : Prop := Claim7.holds Tryd.pinned (.plain (OpenSpec.ofChange itemCutsSpec)) itemCutsCard

/-- THE SECOND FORM's CARD OF 'cofferkeep.ItemBack'. -/
def itemBackUptoCard : Claim7 := { stood := { row := itemBackUptoRow, standIns := [], harness := (true, "3e99722e08c8e138dc124299f84ffc472d0442f0d5eba59b5ed2d106dadc975e"), looks := true }, kinds := [], alts := [], laidByText := true, laidKinds := [.data, .data, .data, .data, .sentinel, .sentinel, .pinned], laidTests := true, laidLooks := .later }
def ItemBackUptoCardSaid : Prop := Claim7.holds Tryd.pinned (.plain (OpenSpec.upto itemBackSpec)) itemBackUptoCard

/-- THE SECOND FORM's CARD OF 'cofferkeep.ItemCuts'. -/
def itemCutsUptoCard : Claim7 := { stood := { row := itemCutsUptoRow, standIns := [], harness := (true, "3e99722e08c8e138dc124299f84ffc472d0442f0d5eba59b5ed2d106dadc975e"), looks := true }, kinds := [], alts := [], laidByText := true, laidKinds := [.data, .data, .data, .data, .sentinel, .sentinel, .pinned], laidTests := true, laidLooks := .later }
def ItemCutsUptoCardSaid : Prop := Claim7.holds Tryd.pinned (.plain (OpenSpec.upto itemCutsSpec)) itemCutsUptoCard
end Rows
end Go.Proofs.YtmfbfhkhfhphfabDoor
