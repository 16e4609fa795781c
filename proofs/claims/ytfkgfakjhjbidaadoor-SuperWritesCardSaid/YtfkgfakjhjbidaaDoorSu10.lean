/-
  The tied card of 'coffer/cofferlaw.SuperWrites' holds: the law returns true at every input and each argument reads behind the call as it read before, where the two variables that the row lists are what the program's own text lays. No other condition.
-/
import Derived.Test.YtfkgfakjhjbidaaDoorSu9
import Derived.Test.YtfkgfakjhjbidaaDoorTie
import Derived.Test.YtfkgfakjhjbidaaDoorCards
import Derived.SevenTiedAt
namespace Go.Proofs.YtfkgfakjhjbidaaDoor
open Go
theorem superWrites_card : Rows.SuperWritesCardSaid :=
  Claim7.holds_tied_plain_at .later [] [.handle, .data] true (true, "75e4702e2c693ef28756459a9edf60cbe1dfcfdbee26f2e23e08fbf2e616d9aa") true
    Su.superWrites_holds (fun _ h => by cases h) (by kernel_rfl) (fun _ h => by cases h) superWrites_row_tie rfl ⟨rfl, rfl⟩ (by kernel_rfl) rfl
    (fun f fn hf hfn => by
      obtain rfl : f = 11 := Option.some.inj ((show Tryd.prog.funcNamed Rows.superWritesRow.func = some 11 by kernel_rfl).symm.trans hf) |>.symm
      obtain rfl : fn = Tryd.f11 := (Option.some.inj (Tryd.func11.symm.trans hfn)).symm
      exact ⟨by kernel_rfl, fun j t ht => by
        rw [Tryd.params11] at ht
        have hm : t ∈ [9, 93, 9] := by simpa using Array.mem_of_getElem? ht
        have hall : ([9, 93, 9].all fun u => !Tryd.prog.wantsStandIn u) = true := by kernel_rfl
        exact (show Tryd.prog.wantsStandIn t = false by simpa using List.all_eq_true.1 hall t hm)⟩)
    (by kernel_rfl)
#print axioms superWrites_card
end Go.Proofs.YtfkgfakjhjbidaaDoor
