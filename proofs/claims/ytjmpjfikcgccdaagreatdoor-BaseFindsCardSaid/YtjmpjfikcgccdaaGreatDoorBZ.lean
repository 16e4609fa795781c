/-
  BaseFinds, for all arguments: what the law drawn from it asks of the base's Find holds; no condition but the law's own first lines.
-/
import Derived.Test.YtjmpjfikcgccdaaGreatDoorB41
import Derived.Test.YtjmpjfikcgccdaaGreatDoorTie
import Derived.Test.YtjmpjfikcgccdaaGreatDoorCards
import Derived.SevenTiedAt
namespace Go.Proofs.YtjmpjfikcgccdaaGreatDoor
open Go
theorem Bs.cardF_main : Tryz.prog.mainIs = some (true, ("0ff8c0bc7cd7097ebde50c5829b72e2dae464c0baa32611b203cab75df7d1e5a" : String).toList) := by kernel_rfl
theorem Bs.cardF_looks:true = Tryz.prog.looks []:=by kernel_rfl
theorem Bs.finds_wf:Rows.baseFindsRow.wfByText (OpenSpec.ofChange Rows.baseFindsSpec) = true:=by kernel_rfl
theorem Bs.finds_named:Tryz.prog.funcNamed Rows.baseFindsRow.func = some 5:=by kernel_rfl
theorem Bs.finds_types:([80,23,3,9].all fun u => !Tryz.prog.wantsStandIn u) = true:=by kernel_rfl
theorem Bs.finds_goes:false = Rows.baseFindsRow.goesBy Tryz.prog:=by kernel_rfl
theorem baseFinds_card:Rows.BaseFindsCardSaid:=
  Claim7.holds_tied_plain_at .later [] [.data, .data, .data, .data, .handle, .sentinel, .sentinel, .data, .pinned] true (true, "0ff8c0bc7cd7097ebde50c5829b72e2dae464c0baa32611b203cab75df7d1e5a") true
    Bs.baseFinds_holds (fun _ h => by cases h) Bs.finds_wf (fun _ h => by cases h) baseFinds_row_tie rfl ⟨rfl,rfl⟩ Bs.cardF_main rfl
    (fun f fn hf hfn => by
      obtain rfl:f = 5:=Option.some.inj (Bs.finds_named.symm.trans hf) |>.symm
      obtain rfl:fn = Tryz.f5:=(Option.some.inj (Tryz.func5.symm.trans hfn)).symm
      exact ⟨Bs.cardF_looks,fun j t ht => by
        rw [Tryz.params5] at ht
        have hm:t ∈ [80,23,3,9]:=by simpa using Array.mem_of_getElem? ht
        exact (show Tryz.prog.wantsStandIn t = false by simpa using List.all_eq_true.1 Bs.finds_types t hm)⟩)
    Bs.finds_goes
#print axioms baseFinds_card
end Go.Proofs.YtjmpjfikcgccdaaGreatDoor
