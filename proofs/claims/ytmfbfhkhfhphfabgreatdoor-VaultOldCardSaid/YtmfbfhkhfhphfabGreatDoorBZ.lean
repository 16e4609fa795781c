/-
  The tied card of 'coffer/cofferkeep.VaultOld' holds: the law returns true at every input and each argument reads behind the call as it read before, where the two variables that the row lists are what the program's own text lays. No other condition.
-/
import Derived.Test.YtmfbfhkhfhphfabGreatDoorB51
import Derived.Test.YtmfbfhkhfhphfabGreatDoorTie
import Derived.Test.YtmfbfhkhfhphfabGreatDoorCards
import Derived.SevenTiedAt
namespace Go.Proofs.YtmfbfhkhfhphfabGreatDoor
open Go
theorem vaultOld_card : Rows.VaultOldCardSaid :=
  Claim7.holds_tied_plain_at .later [] [.handle, .data] true (true, "e03ac75f0c45c4242ff34d7cd1f272549acdecd2654b79e654be89783f7a011a") true
    Vt.vaultOld_holds (fun _ h => by cases h) (by kernel_rfl) (fun _ h => by cases h) vaultOld_row_tie rfl ⟨rfl, rfl⟩ (by kernel_rfl) rfl
    (fun f fn hf hfn => by
      obtain rfl : f = 6 := Option.some.inj ((show Tryz.prog.funcNamed Rows.vaultOldRow.func = some 6 by kernel_rfl).symm.trans hf) |>.symm
      obtain rfl : fn = Tryz.f6 := (Option.some.inj (Tryz.func6.symm.trans hfn)).symm
      exact ⟨by kernel_rfl, fun j t ht => by
        rw [Tryz.params6] at ht
        have hm : t ∈ [22, 3] := by simpa using Array.mem_of_getElem? ht
        have hall : ([22, 3].all fun u => !Tryz.prog.wantsStandIn u) = true := by kernel_rfl
        exact (show Tryz.prog.wantsStandIn t = false by simpa using List.all_eq_true.1 hall t hm)⟩)
    (by kernel_rfl)
#print axioms vaultOld_card
end Go.Proofs.YtmfbfhkhfhphfabGreatDoor
