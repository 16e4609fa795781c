/-
  The tied card of 'coffer/cofferlaw.PageSeals' holds: the law returns true at every input and each argument reads behind the call as it read before, where the two variables that the row lists are what the program's own text lays. No other condition.
-/
import Derived.Test.YtccnnfllgdplhaaDoorP8
import Derived.Test.YtccnnfllgdplhaaDoorTie
import Derived.Test.YtccnnfllgdplhaaDoorCards
import Derived.SevenTiedAt
namespace Go.Proofs.YtccnnfllgdplhaaDoor
open Go
theorem pageSeals_card : Rows.PageSealsCardSaid :=
  Claim7.holds_tied_plain_at .later [] [.handle, .data] true (true, "c06649190b3fc75945217698901a0f7b923603f39e46faf9fd3e718bf91b9038") true
    Pg.pageSeals_holds (fun _ h => by cases h) (by kernel_rfl) (fun _ h => by cases h) pageSeals_row_tie rfl ⟨rfl, rfl⟩ (by kernel_rfl) rfl
    (fun f fn hf hfn => by
      obtain rfl : f = 9 := Option.some.inj ((show Tryd.prog.funcNamed Rows.pageSealsRow.func = some 9 by kernel_rfl).symm.trans hf) |>.symm
      obtain rfl : fn = Tryd.f9 := (Option.some.inj (Tryd.func9.symm.trans hfn)).symm
      exact ⟨by kernel_rfl, fun j t ht => by
        rw [Tryd.params9] at ht
        have hm : t ∈ [9, 3, 3, 9, 9] := by simpa using Array.mem_of_getElem? ht
        have hall : ([9, 3, 3, 9, 9].all fun u => !Tryd.prog.wantsStandIn u) = true := by kernel_rfl
        exact (show Tryd.prog.wantsStandIn t = false by simpa using List.all_eq_true.1 hall t hm)⟩)
    (by kernel_rfl)
#print axioms pageSeals_card
end Go.Proofs.YtccnnfllgdplhaaDoor
