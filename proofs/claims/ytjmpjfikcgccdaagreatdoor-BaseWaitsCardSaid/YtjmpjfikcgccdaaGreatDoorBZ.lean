/-
  BaseWaits, for all arguments: what the law drawn from it asks of the base's waiting deeds holds; no condition but the law's own first lines.
-/
import Derived.Test.YtjmpjfikcgccdaaGreatDoorB43
import Derived.Test.YtjmpjfikcgccdaaGreatDoorTie
import Derived.Test.YtjmpjfikcgccdaaGreatDoorCards
import Derived.SevenTiedAt
namespace Go.Proofs.YtjmpjfikcgccdaaGreatDoor
open Go
theorem Bs.card_main : Tryz.prog.mainIs = some (true, ("0ff8c0bc7cd7097ebde50c5829b72e2dae464c0baa32611b203cab75df7d1e5a" : String).toList) := by kernel_rfl
theorem Bs.card_looks:true = Tryz.prog.looks []:=by kernel_rfl
theorem Bs.waits_wf:Rows.baseWaitsRow.wfByText (OpenSpec.ofChange Rows.baseWaitsSpec) = true:=by kernel_rfl
theorem Bs.waits_named:Tryz.prog.funcNamed Rows.baseWaitsRow.func = some 4:=by kernel_rfl
theorem Bs.waits_types:([80].all fun u => !Tryz.prog.wantsStandIn u) = true:=by kernel_rfl
theorem Bs.waits_goes:false = Rows.baseWaitsRow.goesBy Tryz.prog:=by kernel_rfl
theorem baseWaits_card:Rows.BaseWaitsCardSaid:=
  Claim7.holds_tied_plain_at .later [] [.data, .data, .data, .data, .handle, .sentinel, .sentinel, .data, .pinned] true (true, "0ff8c0bc7cd7097ebde50c5829b72e2dae464c0baa32611b203cab75df7d1e5a") true
    Bs.baseWaits_holds (fun _ h => by cases h) Bs.waits_wf (fun _ h => by cases h) baseWaits_row_tie rfl ⟨rfl,rfl⟩ Bs.card_main rfl
    (fun f fn hf hfn => by
      obtain rfl:f = 4:=Option.some.inj (Bs.waits_named.symm.trans hf) |>.symm
      obtain rfl:fn = Tryz.f4:=(Option.some.inj (Tryz.func4.symm.trans hfn)).symm
      exact ⟨Bs.card_looks,fun j t ht => by
        rw [Tryz.params4] at ht
        have hm:t ∈ [80]:=by simpa using Array.mem_of_getElem? ht
        exact (show Tryz.prog.wantsStandIn t = false by simpa using List.all_eq_true.1 Bs.waits_types t hm)⟩)
    Bs.waits_goes
#print axioms baseWaits_card
end Go.Proofs.YtjmpjfikcgccdaaGreatDoor
