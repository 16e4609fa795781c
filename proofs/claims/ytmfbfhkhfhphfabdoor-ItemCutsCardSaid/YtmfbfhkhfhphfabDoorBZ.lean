/-
  The tied card of 'coffer/cofferkeep.ItemCuts' holds: the law returns true at every input and each argument reads behind the call as it read before, where the seven variables that the row lists are what the program's own text lays (one of them is pinned by the form). No other condition.
-/
import Derived.Test.YtmfbfhkhfhphfabDoorB08
import Derived.Test.YtmfbfhkhfhphfabDoorTie
import Derived.Test.YtmfbfhkhfhphfabDoorCards
import Derived.SevenTiedAt
namespace Go.Proofs.YtmfbfhkhfhphfabDoor
open Go
theorem itemCuts_card : Rows.ItemCutsCardSaid :=
  Claim7.holds_tied_plain_at .later [] [.data, .data, .data, .data, .sentinel, .sentinel, .pinned] true (true, "3e99722e08c8e138dc124299f84ffc472d0442f0d5eba59b5ed2d106dadc975e") true
    It.itemCuts_holds (fun _ h => by cases h) (by kernel_rfl) (fun _ h => by cases h) itemCuts_row_tie rfl ⟨rfl, rfl⟩ (by kernel_rfl) rfl
    (fun f fn hf hfn => by
      obtain rfl : f = 4 := Option.some.inj ((show Tryd.prog.funcNamed Rows.itemCutsRow.func = some 4 by kernel_rfl).symm.trans hf) |>.symm
      obtain rfl : fn = Tryd.f4 := (Option.some.inj (Tryd.func4.symm.trans hfn)).symm
      exact ⟨by kernel_rfl, fun j t ht => by
        rw [Tryd.params4] at ht
        have hm : t ∈ [3, 22, 3] := by simpa using Array.mem_of_getElem? ht
        have hall : ([3, 22, 3].all fun u => !Tryd.prog.wantsStandIn u) = true := by kernel_rfl
        exact (show Tryd.prog.wantsStandIn t = false by simpa using List.all_eq_true.1 hall t hm)⟩)
    (by kernel_rfl)
#print axioms itemCuts_card
end Go.Proofs.YtmfbfhkhfhphfabDoor
