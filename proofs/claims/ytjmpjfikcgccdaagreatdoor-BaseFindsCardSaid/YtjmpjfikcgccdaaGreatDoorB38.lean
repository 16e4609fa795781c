/-
  Part of the proof of BaseFindsCard (BA33 and on).
-/
import Derived.Test.YtjmpjfikcgccdaaGreatDoorB37
namespace Go.Proofs.YtjmpjfikcgccdaaGreatDoor.Bs
open Go.ChangeShapes Go.WideShapes Go.ChangeAt Go.ChangeMaps Go.RowKit
open It Nr Vt
theorem wit_laid (os:Os) (args:Array Value):laidMetH Tryz.prog laidW ((wit os).forCall (fun _ _ => 0) ⟨#[],args,[]⟩).memory:=
  laidMetH_of_parts (laidMet_of_run' 8 (by kernel_rfl) (by kernel_rfl)) (by kernel_rfl)
end Go.Proofs.YtjmpjfikcgccdaaGreatDoor.Bs
