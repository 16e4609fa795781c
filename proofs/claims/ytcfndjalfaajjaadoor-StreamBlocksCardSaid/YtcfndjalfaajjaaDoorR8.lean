/-
  The tied card of 'coffer/cofferlaw.StreamBlocks' holds: the law returns true at every input and each argument reads behind the call as it read before, where the one variable that the row lists is what the program's own text lays. No other condition.
-/
import Derived.Test.YtcfndjalfaajjaaDoorR7
import Derived.Test.YtcfndjalfaajjaaDoorTie
import Derived.Test.YtcfndjalfaajjaaDoorCards
import Derived.SevenTiedAt
namespace Go.Proofs.YtcfndjalfaajjaaDoor
open Go
theorem streamBlocks_card : Rows.StreamBlocksCardSaid :=
  Claim7.holds_tied_plain_at .later [] [.handle] true (true, "53d39637394e79c229609db60291a16f7bdfdf3fd1916a39f24adc496b36c37f") true
    streamBlocks_holds (fun _ h => by cases h) (by kernel_rfl) (fun _ h => by cases h) streamBlocks_row_tie rfl ⟨rfl, rfl⟩ (by kernel_rfl) rfl
    (fun f fn hf hfn => by
      obtain rfl : f = 4 := Option.some.inj ((show Tryd.prog.funcNamed Rows.streamBlocksRow.func = some 4 by kernel_rfl).symm.trans hf) |>.symm
      obtain rfl : fn = Tryd.f4 := (Option.some.inj (Tryd.func4.symm.trans hfn)).symm
      exact ⟨by kernel_rfl, fun j t ht => by
        rw [Tryd.params4] at ht
        have hm : t ∈ [9, 3, 9, 9] := by simpa using Array.mem_of_getElem? ht
        have hall : ([9, 3, 9, 9].all fun u => !Tryd.prog.wantsStandIn u) = true := by kernel_rfl
        exact (show Tryd.prog.wantsStandIn t = false by simpa using List.all_eq_true.1 hall t hm)⟩)
    (by kernel_rfl)
#print axioms streamBlocks_card
end Go.Proofs.YtcfndjalfaajjaaDoor
