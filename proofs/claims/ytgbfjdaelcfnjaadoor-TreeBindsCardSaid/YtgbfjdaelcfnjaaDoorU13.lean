/-
  The tied card of 'coffer/cofferlaw.TreeBinds' holds: the law returns true at every input and each argument reads behind the call as it read before, where the two variables that the row lists are what the program's own text lays. No other condition.
-/
import Derived.Test.YtgbfjdaelcfnjaaDoorU12
import Derived.Test.YtgbfjdaelcfnjaaDoorTie
import Derived.Test.YtgbfjdaelcfnjaaDoorCards
import Derived.SevenTiedAt
namespace Go.Proofs.YtgbfjdaelcfnjaaDoor
open Go
theorem treeBinds_card : Rows.TreeBindsCardSaid :=
  Claim7.holds_tied_plain_at .later [] [.handle, .data] true (true, "13f63245227ea6f41a1b1035dcd954536743a2b77501d3181a75c896f25f4773") true
    Tr.treeBinds_holds (fun _ h => by cases h) (by kernel_rfl) (fun _ h => by cases h) treeBinds_row_tie rfl ⟨rfl, rfl⟩ (by kernel_rfl) rfl
    (fun f fn hf hfn => by
      obtain rfl : f = 10 := Option.some.inj ((show Tryd.prog.funcNamed Rows.treeBindsRow.func = some 10 by kernel_rfl).symm.trans hf) |>.symm
      obtain rfl : fn = Tryd.f10 := (Option.some.inj (Tryd.func10.symm.trans hfn)).symm
      exact ⟨by kernel_rfl, fun j t ht => by
        rw [Tryd.params10] at ht
        have hm : t ∈ [22, 3, 9, 9, 22] := by simpa using Array.mem_of_getElem? ht
        have hall : ([22, 3, 9, 9, 22].all fun u => !Tryd.prog.wantsStandIn u) = true := by kernel_rfl
        exact (show Tryd.prog.wantsStandIn t = false by simpa using List.all_eq_true.1 hall t hm)⟩)
    (by kernel_rfl)
#print axioms treeBinds_card
end Go.Proofs.YtgbfjdaelcfnjaaDoor
