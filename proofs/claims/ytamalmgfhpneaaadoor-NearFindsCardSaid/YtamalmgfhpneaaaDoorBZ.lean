/-
  The tied card of 'coffer/cofferlaw.NearFinds' holds: the law returns true at every input and each argument reads behind the call as it read before, where the one variable that the row lists is what the program's own text lays. No other condition.
-/
import Derived.Test.YtamalmgfhpneaaaDoorB26
import Derived.Test.YtamalmgfhpneaaaDoorTie
import Derived.Test.YtamalmgfhpneaaaDoorCards
import Derived.SevenTiedAt
namespace Go.Proofs.YtamalmgfhpneaaaDoor
open Go
theorem nearFinds_card : Rows.NearFindsCardSaid :=
  Claim7.holds_tied_plain_at .later [] [.handle] true (true, "1fa063d1b96003180b436287190fc7068efe988f15458a4938faddb892f5dcaf") true
    Nf.nearFinds_holds (fun _ h => by cases h) (by kernel_rfl) (fun _ h => by cases h) nearFinds_row_tie rfl ⟨rfl, rfl⟩ (by kernel_rfl) rfl
    (fun f fn hf hfn => by
      obtain rfl : f = 3 := Option.some.inj ((show Tryd.prog.funcNamed Rows.nearFindsRow.func = some 3 by kernel_rfl).symm.trans hf) |>.symm
      obtain rfl : fn = Tryd.f3 := (Option.some.inj (Tryd.func3.symm.trans hfn)).symm
      exact ⟨by kernel_rfl, fun j t ht => by
        rw [Tryd.params3] at ht
        have hm : t ∈ [3, 22, 23, 3, 9, 25, 25] := by simpa using Array.mem_of_getElem? ht
        have hall : ([3, 22, 23, 3, 9, 25, 25].all fun u => !Tryd.prog.wantsStandIn u) = true := by kernel_rfl
        exact (show Tryd.prog.wantsStandIn t = false by simpa using List.all_eq_true.1 hall t hm)⟩)
    (by kernel_rfl)
#print axioms nearFinds_card
end Go.Proofs.YtamalmgfhpneaaaDoor
