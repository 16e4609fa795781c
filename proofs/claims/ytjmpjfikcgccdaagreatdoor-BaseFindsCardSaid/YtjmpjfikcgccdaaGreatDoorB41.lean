/-
  Part of the proof of BaseFindsCard (BA41 and on).
-/
import Derived.Test.YtjmpjfikcgccdaaGreatDoorB39
import Derived.Test.YtjmpjfikcgccdaaGreatDoorB40
namespace Go.Proofs.YtjmpjfikcgccdaaGreatDoor.Bs
open Go.ChangeShapes Go.WideShapes Go.ChangeAt Go.ChangeMaps Go.RowKit
open It Nr Vt
theorem baseFinds_holds:Rows.BaseFindsSaid:=
  OpenClaim.holds_of_wide 5 Tryz.f5 rfl rfl rfl rfl rfl rfl rfl ⟨rfl,rfl,rfl,rfl,rfl⟩ rfl rfl rfl rfl rfl (by kernel_rfl) Tryz.func5 finds_facts
    (of_decide_eq_true (by kernel_rfl)) (by unfold Func.isWrapper;first | (rw [if_pos (by decide +kernel)];kernel_rfl) | (rw [if_neg (by decide +kernel)];exact ⟨rfl,rfl⟩))
    (fun os started H enc _ => baseFinds_lifted os started H enc)
end Go.Proofs.YtjmpjfikcgccdaaGreatDoor.Bs
