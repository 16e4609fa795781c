/-
  The tied card of 'coffer/cofferlaw.SumTells' holds: the law returns true at every input and each argument reads behind the call as it read before, where the four tables that the row lists are those that the program's own text lays. No other condition.
-/
import Derived.Test.YtcfndjalfaajjaaDoorSmX5
import Derived.Test.YtcfndjalfaajjaaDoorTie
import Derived.Test.YtcfndjalfaajjaaDoorCards
import Derived.SevenTiedAt
namespace Go.Proofs.YtcfndjalfaajjaaDoor
open Go
theorem sumTells_card : Rows.SumTellsCardSaid :=
  Claim7.holds_tied_plain_at .later [] [.data, .data, .data, .data] true (true, "53d39637394e79c229609db60291a16f7bdfdf3fd1916a39f24adc496b36c37f") true
    Sm.sumTells_holds (fun _ h => by cases h) (by kernel_rfl) (fun _ h => by cases h) sumTells_row_tie rfl ⟨rfl, rfl⟩ (by kernel_rfl) rfl
    (fun f fn hf hfn => by
      obtain rfl : f = 3 := Option.some.inj ((show Tryd.prog.funcNamed Rows.sumTellsRow.func = some 3 by kernel_rfl).symm.trans hf) |>.symm
      obtain rfl : fn = Tryd.f3 := (Option.some.inj (Tryd.func3.symm.trans hfn)).symm
      exact ⟨by kernel_rfl, fun j t ht => by
        rw [Tryd.params3] at ht
        have hm : t ∈ [9, 3, 5, 22] := by simpa using Array.mem_of_getElem? ht
        have hall : ([9, 3, 5, 22].all fun u => !Tryd.prog.wantsStandIn u) = true := by kernel_rfl
        exact (show Tryd.prog.wantsStandIn t = false by simpa using List.all_eq_true.1 hall t hm)⟩)
    (by kernel_rfl)
#print axioms sumTells_card
end Go.Proofs.YtcfndjalfaajjaaDoor
