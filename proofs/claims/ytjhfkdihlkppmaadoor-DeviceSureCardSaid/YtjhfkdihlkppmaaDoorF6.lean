/-
  The tied card of 'coffer/cofferkeep.DeviceSure' holds: the law returns true at every input and each argument reads behind the call as it read before, where the one variable that the row lists is what the program's own text lays. No other condition.
-/
import Derived.Test.YtjhfkdihlkppmaaDoorF5
import Derived.Test.YtjhfkdihlkppmaaDoorTie
import Derived.Test.YtjhfkdihlkppmaaDoorCards
import Derived.SevenTiedAt
namespace Go.Proofs.YtjhfkdihlkppmaaDoor
open Go
theorem deviceSure_card : Rows.DeviceSureCardSaid :=
  Claim7.holds_tied_plain_at .later [] [.handle] true (true, "0b6c8a38829daaaf1c2cce66b54a4ce5e7dbee6cfabfec9b8e42ce08cfcd5485") true
    deviceSure_holds (fun _ h => by cases h) (by kernel_rfl) (fun _ h => by cases h) deviceSure_row_tie rfl ⟨rfl, rfl⟩ (by kernel_rfl) rfl
    (fun f fn hf hfn => by
      obtain rfl : f = 8 := Option.some.inj ((show Tryd.prog.funcNamed Rows.deviceSureRow.func = some 8 by kernel_rfl).symm.trans hf) |>.symm
      obtain rfl : fn = Tryd.f8 := (Option.some.inj (Tryd.func8.symm.trans hfn)).symm
      exact ⟨by kernel_rfl, fun j t ht => by
        rw [Tryd.params8] at ht
        have hm : t ∈ [22, 22, 41, 54] := by simpa using Array.mem_of_getElem? ht
        have hall : ([22, 22, 41, 54].all fun u => !Tryd.prog.wantsStandIn u) = true := by kernel_rfl
        exact (show Tryd.prog.wantsStandIn t = false by simpa using List.all_eq_true.1 hall t hm)⟩)
    (by kernel_rfl)
#print axioms deviceSure_card
end Go.Proofs.YtjhfkdihlkppmaaDoor
