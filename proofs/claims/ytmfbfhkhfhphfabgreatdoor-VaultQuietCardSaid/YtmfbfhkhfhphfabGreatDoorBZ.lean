/-
  The tied card of 'coffer/cofferkeep.VaultQuiet' holds: the law returns true at every input and each argument reads behind the call as it read before, where the one table that the row lists is what the program's own text lays. No other condition.
-/
import Derived.Test.YtmfbfhkhfhphfabGreatDoorB46
import Derived.Test.YtmfbfhkhfhphfabGreatDoorTie
import Derived.Test.YtmfbfhkhfhphfabGreatDoorCards
import Derived.SevenTiedAt
namespace Go.Proofs.YtmfbfhkhfhphfabGreatDoor
open Go
theorem vaultQuiet_card : Rows.VaultQuietCardSaid :=
  Claim7.holds_tied_plain_at .later [] [.data] true (true, "e03ac75f0c45c4242ff34d7cd1f272549acdecd2654b79e654be89783f7a011a") true
    Vt.vaultQuiet_holds (fun _ h => by cases h) (by kernel_rfl) (fun _ h => by cases h) vaultQuiet_row_tie rfl ⟨rfl, rfl⟩ (by kernel_rfl) rfl
    (fun f fn hf hfn => by
      obtain rfl : f = 5 := Option.some.inj ((show Tryz.prog.funcNamed Rows.vaultQuietRow.func = some 5 by kernel_rfl).symm.trans hf) |>.symm
      obtain rfl : fn = Tryz.f5 := (Option.some.inj (Tryz.func5.symm.trans hfn)).symm
      exact ⟨by kernel_rfl, fun j t ht => by
        rw [Tryz.params5] at ht
        have hm : t ∈ [22, 30] := by simpa using Array.mem_of_getElem? ht
        have hall : ([22, 30].all fun u => !Tryz.prog.wantsStandIn u) = true := by kernel_rfl
        exact (show Tryz.prog.wantsStandIn t = false by simpa using List.all_eq_true.1 hall t hm)⟩)
    (by kernel_rfl)
#print axioms vaultQuiet_card
end Go.Proofs.YtmfbfhkhfhphfabGreatDoor
