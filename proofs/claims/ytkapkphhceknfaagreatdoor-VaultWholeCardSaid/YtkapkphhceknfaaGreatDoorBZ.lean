/-
  The tied card of 'coffer/cofferkeep.VaultWhole' holds: the law returns true at every input and each argument reads behind the call as it read before, where the two variables that the row lists are what the program's own text lays. No other condition.
-/
import Derived.Test.YtkapkphhceknfaaGreatDoorB34
import Derived.Test.YtkapkphhceknfaaGreatDoorTie
import Derived.Test.YtkapkphhceknfaaGreatDoorCards
import Derived.SevenTiedAt
namespace Go.Proofs.YtkapkphhceknfaaGreatDoor
open Go
theorem vaultWhole_card : Rows.VaultWholeCardSaid :=
  Claim7.holds_tied_plain_at .later [] [.handle, .data] true (true, "124732c5099ba0748b1532bc84756c2b438bc4bed9b0a628acbeb1d1f2e72707") true
    Vt.vaultWhole_holds (fun _ h => by cases h) (by kernel_rfl) (fun _ h => by cases h) vaultWhole_row_tie rfl ⟨rfl, rfl⟩ (by kernel_rfl) rfl
    (fun f fn hf hfn => by
      obtain rfl : f = 3 := Option.some.inj ((show Tryz.prog.funcNamed Rows.vaultWholeRow.func = some 3 by kernel_rfl).symm.trans hf) |>.symm
      obtain rfl : fn = Tryz.f3 := (Option.some.inj (Tryz.func3.symm.trans hfn)).symm
      exact ⟨by kernel_rfl, fun j t ht => by
        rw [Tryz.params3] at ht
        have hm : t ∈ [22, 23, 4, 3, 24] := by simpa using Array.mem_of_getElem? ht
        have hall : ([22, 23, 4, 3, 24].all fun u => !Tryz.prog.wantsStandIn u) = true := by kernel_rfl
        exact (show Tryz.prog.wantsStandIn t = false by simpa using List.all_eq_true.1 hall t hm)⟩)
    (by kernel_rfl)
#print axioms vaultWhole_card
end Go.Proofs.YtkapkphhceknfaaGreatDoor
