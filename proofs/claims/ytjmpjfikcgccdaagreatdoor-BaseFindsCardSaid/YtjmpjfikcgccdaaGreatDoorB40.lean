/-
  Part of the proof of BaseFindsCard (BA40 and on).
-/
import Derived.Test.YtjmpjfikcgccdaaGreatDoorB37
namespace Go.Proofs.YtjmpjfikcgccdaaGreatDoor.Bs
open Go.ChangeShapes Go.WideShapes Go.ChangeAt Go.ChangeMaps Go.RowKit
set_option maxHeartbeats 80000000 in
theorem finds_facts:joinedFacts Tryz.checked.prog 5 Tryz.f5 Rows.baseFindsSpec Rows.baseFindsRow = true:=by
  unfold joinedFacts
  simp only [Bool.and_eq_true]
  repeat' apply And.intro
  all_goals (as_aux_lemma => kernel_rfl)
end Go.Proofs.YtjmpjfikcgccdaaGreatDoor.Bs
