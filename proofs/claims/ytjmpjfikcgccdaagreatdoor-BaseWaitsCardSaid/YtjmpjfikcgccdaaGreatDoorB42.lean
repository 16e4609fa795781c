/-
  Part of the proof of BaseWaitsCard (BA34 and on).
-/
import Derived.Test.YtjmpjfikcgccdaaGreatDoorB41
namespace Go.Proofs.YtjmpjfikcgccdaaGreatDoor.Bs
open Go.ChangeShapes Go.WideShapes Go.ChangeAt Go.ChangeMaps Go.RowKit
set_option maxHeartbeats 80000000 in
theorem waits_facts:joinedFacts Tryz.checked.prog 4 Tryz.f4 Rows.baseWaitsSpec Rows.baseWaitsRow = true:=by
  unfold joinedFacts
  simp only [Bool.and_eq_true]
  repeat' apply And.intro
  all_goals (as_aux_lemma => kernel_rfl)
end Go.Proofs.YtjmpjfikcgccdaaGreatDoor.Bs
