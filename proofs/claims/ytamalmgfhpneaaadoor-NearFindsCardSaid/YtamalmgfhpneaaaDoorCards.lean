/-
  DERIVED. GIVEN WITH THE SEED: THE CARDS: each row of YtamalmgfhpneaaaDoorRows.lean that lists a variable, with what it lists TIED to the program's text (the seventh form; the later family's looks); each row that meets fmt, with fmt's text TOLD by the authors' own Lean function (tested against real Go, not proved from fmt's source: count such statements apart). THE CARD IS WHAT COUNTS. Prove the row's statement (the work); the ties are given (YtamalmgfhpneaaaDoorTie.lean); close each card by the builder's one call (the guide's Derived/Test/ToyasCard.lean, 'card_holds'). Laid BY PROGRAM, IN A SANDBOX (cutbox-door.mjs). By AI agents, Wed Nov 11 2026. No macro, syntax, notation, axiom, sorry.
-/
import Derived.Test.YtamalmgfhpneaaaDoorRows
import GoSem.ClaimSeven
namespace Go.Proofs.YtamalmgfhpneaaaDoor
namespace Rows

/-- THE TIED CARD OF 'cofferlaw.NearFinds'. -/
def nearFindsCard : Claim7 := { stood := { row := nearFindsRow, standIns := [], harness := (true, "1fa063d1b96003180b436287190fc7068efe988f15458a4938faddb892f5dcaf"), looks := true }, kinds := [], alts := [], laidByText := true, laidKinds := [.handle], laidTests := true, laidLooks := .later }
def NearFindsCardSaid : Prop := Claim7.holds Tryd.pinned (.plain (OpenSpec.ofChange nearFindsSpec)) nearFindsCard

/-- THE TIED CARD OF 'cofferkeep.CellsSame'. -/
def cellsSameCard : Claim7 := { stood := { row := cellsSameRow, standIns := [], harness := (true, "1fa063d1b96003180b436287190fc7068efe988f15458a4938faddb892f5dcaf"), looks := true }, kinds := [], alts := [], laidByText := true, laidKinds := [.handle], laidTests := true, laidLooks := .later }
def CellsSameCardSaid : Prop := Claim7.holds Tryd.pinned (.plain (OpenSpec.ofChange cellsSameSpec)) cellsSameCard

/-- THE SECOND FORM's CARD OF 'cofferlaw.NearFinds'. -/
def nearFindsUptoCard : Claim7 := { stood := { row := nearFindsUptoRow, standIns := [], harness := (true, "1fa063d1b96003180b436287190fc7068efe988f15458a4938faddb892f5dcaf"), looks := true }, kinds := [], alts := [], laidByText := true, laidKinds := [.handle], laidTests := true, laidLooks := .later }
def NearFindsUptoCardSaid : Prop := Claim7.holds Tryd.pinned (.plain (OpenSpec.upto nearFindsSpec)) nearFindsUptoCard

/-- THE SECOND FORM's CARD OF 'cofferkeep.CellsSame'. -/
def cellsSameUptoCard : Claim7 := { stood := { row := cellsSameUptoRow, standIns := [], harness := (true, "1fa063d1b96003180b436287190fc7068efe988f15458a4938faddb892f5dcaf"), looks := true }, kinds := [], alts := [], laidByText := true, laidKinds := [.handle], laidTests := true, laidLooks := .later }
def CellsSameUptoCardSaid : Prop := Claim7.holds Tryd.pinned (.plain (OpenSpec.upto cellsSameSpec)) cellsSameUptoCard
end Rows
end Go.Proofs.YtamalmgfhpneaaaDoor
