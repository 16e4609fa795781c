/-
  The tied card of 'coffer/cofferlaw.VaultRefuses' holds: the law returns true at every input and each argument reads behind the call as it read before, where the two variables that the row lists are what the program's own text lays. No other condition.
-/
import Derived.Test.YtibkbhhenlgkeaaGreatDoorB44
import Derived.Test.YtibkbhhenlgkeaaGreatDoorTie
import Derived.Test.YtibkbhhenlgkeaaGreatDoorCards
import Derived.SevenTiedAt
namespace Go.Proofs.YtibkbhhenlgkeaaGreatDoor
open Go
theorem vaultRefuses_card : Rows.VaultRefusesCardSaid :=
  Claim7.holds_tied_plain_at .later [] [.handle, .data] true (true, "63bf548f952cb512b69262fe1751ff2660e0384dfedb96760441eca82b8fc163") true
    Vt.vaultRefuses_holds (fun _ h => by cases h) (by kernel_rfl) (fun _ h => by cases h) vaultRefuses_row_tie rfl ⟨rfl, rfl⟩ (by kernel_rfl) rfl
    (fun f fn hf hfn => by
      obtain rfl : f = 4 := Option.some.inj ((show Tryz.prog.funcNamed Rows.vaultRefusesRow.func = some 4 by kernel_rfl).symm.trans hf) |>.symm
      obtain rfl : fn = Tryz.f4 := (Option.some.inj (Tryz.func4.symm.trans hfn)).symm
      exact ⟨by kernel_rfl, fun j t ht => by
        rw [Tryz.params4] at ht
        have hm : t ∈ [45, 3] := by simpa using Array.mem_of_getElem? ht
        have hall : ([45, 3].all fun u => !Tryz.prog.wantsStandIn u) = true := by kernel_rfl
        exact (show Tryz.prog.wantsStandIn t = false by simpa using List.all_eq_true.1 hall t hm)⟩)
    (by kernel_rfl)
#print axioms vaultRefuses_card
end Go.Proofs.YtibkbhhenlgkeaaGreatDoor
