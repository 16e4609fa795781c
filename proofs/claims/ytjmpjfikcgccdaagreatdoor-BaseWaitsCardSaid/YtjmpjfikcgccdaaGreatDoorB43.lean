/-
  Part of the proof of BaseWaitsCard (BA35 and on).
-/
import Derived.Test.YtjmpjfikcgccdaaGreatDoorB42
namespace Go.Proofs.YtjmpjfikcgccdaaGreatDoor.Bs
open Go.ChangeShapes Go.WideShapes Go.ChangeAt Go.ChangeMaps Go.RowKit
open It Nr Vt
theorem baseWaits_holds:Rows.BaseWaitsSaid:=
  OpenClaim.holds_of_wide 4 Tryz.f4 rfl rfl rfl rfl rfl rfl rfl ⟨rfl,rfl,rfl,rfl,rfl⟩ rfl rfl rfl rfl rfl (by kernel_rfl) Tryz.func4 waits_facts
    (of_decide_eq_true (by kernel_rfl)) (by unfold Func.isWrapper;first | (rw [if_pos (by decide +kernel)];kernel_rfl) | (rw [if_neg (by decide +kernel)];exact ⟨rfl,rfl⟩))
    (fun os started H enc _ => baseWaits_lifted os started H enc)
end Go.Proofs.YtjmpjfikcgccdaaGreatDoor.Bs
