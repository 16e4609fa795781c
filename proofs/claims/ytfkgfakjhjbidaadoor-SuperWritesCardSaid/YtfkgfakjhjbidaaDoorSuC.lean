/-
  Part of the proof: strings.Clone tells the text itself.
-/
import Derived.Shelf.Pu.Clone
import Derived.Test.YtfkgfakjhjbidaaDoorProg
import Derived.Test.YtfkgfakjhjbidaaDoorBlk
namespace Go.Proofs.YtfkgfakjhjbidaaDoor.Su
open Go.Shelf Go.RowKit
def lr : Go.Shelf.Ren := ⟨fun | 25 => 156 | n => n, fun | 37 => 112 | 47 => 166 | n => n, fun | n => n⟩
theorem lays25 : Go.Proofs.LaysPu.n25 Tryd.prog lr := {
  mixed := by kernel_rfl
  f25 := Tryd.func156.trans (congrArg some (by kernel_rfl))
  t0 := Tryd.underlying0
  a0 := Tryd.isAgg0
  z0 := Tryd.sizeOf0
  v0 := Tryd.zeroValue0
  i0 := by kernel_rfl
  t3 := Tryd.underlying3
  a3 := Tryd.isAgg3
  z3 := Tryd.sizeOf3
  v3 := Tryd.zeroValue3
  i3 := by kernel_rfl
  t4 := Tryd.underlying4
  a4 := Tryd.isAgg4
  z4 := Tryd.sizeOf4
  v4 := Tryd.zeroValue4
  i4 := by kernel_rfl
  t5 := Tryd.underlying5
  a5 := Tryd.isAgg5
  z5 := Tryd.sizeOf5
  v5 := Tryd.zeroValue5
  i5 := by kernel_rfl
  t9 := Tryd.underlying9
  a9 := Tryd.isAgg9
  z9 := Tryd.sizeOf9
  v9 := Tryd.zeroValue9
  i9 := by kernel_rfl
  t37 := Tryd.underlying112
  a37 := Tryd.isAgg112
  z37 := Tryd.sizeOf112
  v37 := Tryd.zeroValue112
  i37 := by kernel_rfl
  t47 := Tryd.underlying166
  a47 := Tryd.isAgg166
  z47 := Tryd.sizeOf166
  v47 := Tryd.zeroValue166
  i47 := by kernel_rfl }
theorem slClone_any (s : ByteArray) (w : World) (h : s.size ≤ 10000) : Calls Tryd.prog 156 #[.string s] w fun e w' => e = .returned (.string s) ∧ Below w.heap.size w w' := AnyPu.stringslite_Clone lays25 s w (by omega)
theorem clone_any (s : ByteArray) (w : World) (h : s.size ≤ 10000) : Calls Tryd.prog 142 #[.string s] w fun e w' => e = .returned (.string s) ∧ Below w.heap.size w w' := by
  go_enter Tryd.func142, Tryd.ntmps142
  go_wp2_with (go_at_call 156; refine (slClone_any s _ h).mono ?_; rintro e w1 ⟨rfl, g1⟩)
  go_ret
  exact ⟨rfl, g1⟩
end Go.Proofs.YtfkgfakjhjbidaaDoor.Su
