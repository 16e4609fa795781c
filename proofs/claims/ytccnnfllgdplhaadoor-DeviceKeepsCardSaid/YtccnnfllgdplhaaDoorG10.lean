/-
  The tied card of 'coffer/cofferlaw.DeviceKeeps' holds: the law returns true at every input and each argument reads behind the call as it read before, where the one variable that the row lists is what the program's own text lays. No other condition.
-/
import Derived.Test.YtccnnfllgdplhaaDoorG9
import Derived.Test.YtccnnfllgdplhaaDoorTie
import Derived.Test.YtccnnfllgdplhaaDoorCards
import Derived.SevenTiedAt
namespace Go.Proofs.YtccnnfllgdplhaaDoor
open Go
theorem deviceKeeps_card : Rows.DeviceKeepsCardSaid :=
  Claim7.holds_tied_plain_at .later [] [.handle] true (true, "c06649190b3fc75945217698901a0f7b923603f39e46faf9fd3e718bf91b9038") true
    deviceKeeps_holds (fun _ h => by cases h) (by kernel_rfl) (fun _ h => by cases h) deviceKeeps_row_tie rfl ⟨rfl, rfl⟩ (by kernel_rfl) rfl
    (fun f fn hf hfn => by
      obtain rfl : f = 6 := Option.some.inj ((show Tryd.prog.funcNamed Rows.deviceKeepsRow.func = some 6 by kernel_rfl).symm.trans hf) |>.symm
      obtain rfl : fn = Tryd.f6 := (Option.some.inj (Tryd.func6.symm.trans hfn)).symm
      exact ⟨by kernel_rfl, fun j t ht => by
        rw [Tryd.params6] at ht
        have hm : t ∈ [49, 22] := by simpa using Array.mem_of_getElem? ht
        have hall : ([49, 22].all fun u => !Tryd.prog.wantsStandIn u) = true := by kernel_rfl
        exact (show Tryd.prog.wantsStandIn t = false by simpa using List.all_eq_true.1 hall t hm)⟩)
    (by kernel_rfl)
#print axioms deviceKeeps_card
end Go.Proofs.YtccnnfllgdplhaaDoor
