/-
  Part of the proof: where the library's functions lie in this program: Join and the Builder, Itoa, Cut, Count, TrimPrefix, SplitN, Equal.
  Part of the proof: where strconv.Atoi and what it calls lie in this program.
  Part of the proof: plain words: items, as text, and what a text's lines tell; no program in it.
-/
import Derived.Shelf.Strings.OnBuilder
import Derived.Shelf.Strings.BuilderK
import Derived.Shelf.Strconv.Itoa3
import Derived.Shelf.Strings.SplitShaped
import Derived.Shelf.Strings.Shaped
import Derived.Shelf.Strings.Cut
import Derived.Shelf.Strings.Count
import Derived.Shelf.Strings.Prefix
import Derived.Shelf.Slices.Empties2
import Derived.Test.YtmfbfhkhfhphfabDoorProg
import Derived.Shelf.Strconv.AtoiAll
import Derived.Lib.SplitLaws
import Derived.Lib.ItoaLen
import Derived.Lib.AtoiTie
import Derived.Lib.AtoiAll
import Derived.Lib.Join
import Derived.Below
namespace Go.Proofs.YtmfbfhkhfhphfabDoor.It
open Go.Shelf Go.RowKit
def lays156_ren : Go.Shelf.Ren := ⟨fun | 156 => 37 | 165 => 49 | 166 => 17 | 169 => 20 | 240 => 35 | 241 => 63 | 276 => 47 | 277 => 77 | n => n, fun | 31 => 71 | 9 => 9 | 3 => 3 | 4 => 4 | 0 => 0 | 20 => 20 | 72 => 49 | 76 => 50 | 70 => 46 | 37 => 47 | 75 => 26 | 127 => 73 | 164 => 78 | 5 => 5 | 80 => 54 | n => n, fun | n => n⟩
theorem lays156 : Go.Proofs.Lays.n156 Tryd.prog lays156_ren := {
  mixed := by kernel_rfl
  f156 := Tryd.func37.trans (congrArg some (by kernel_rfl))
  f165 := Tryd.func49.trans (congrArg some (by kernel_rfl))
  f166 := Tryd.func17.trans (congrArg some (by kernel_rfl))
  f169 := Tryd.func20.trans (congrArg some (by kernel_rfl))
  f240 := Tryd.func35.trans (congrArg some (by kernel_rfl))
  f241 := Tryd.func63.trans (congrArg some (by kernel_rfl))
  f276 := Tryd.func47.trans (congrArg some (by kernel_rfl))
  f277 := Tryd.func77.trans (congrArg some (by kernel_rfl))
  t0 := Tryd.underlying0
  a0 := Tryd.isAgg0
  z0 := Tryd.sizeOf0
  v0 := Tryd.zeroValue0
  t3 := Tryd.underlying3
  a3 := Tryd.isAgg3
  z3 := Tryd.sizeOf3
  v3 := Tryd.zeroValue3
  t4 := Tryd.underlying4
  a4 := Tryd.isAgg4
  z4 := Tryd.sizeOf4
  v4 := Tryd.zeroValue4
  t9 := Tryd.underlying9
  a9 := Tryd.isAgg9
  z9 := Tryd.sizeOf9
  v9 := Tryd.zeroValue9
  t20 := Tryd.underlying20
  a20 := Tryd.isAgg20
  z20 := Tryd.sizeOf20
  v20 := Tryd.zeroValue20
  t31 := Tryd.underlying71
  a31 := Tryd.isAgg71
  z31 := Tryd.sizeOf71
  v31 := Tryd.zeroValue71
  t37 := Tryd.underlying47
  a37 := Tryd.isAgg47
  z37 := Tryd.sizeOf47
  v37 := Tryd.zeroValue47
  t70 := Tryd.underlying46
  a70 := Tryd.isAgg46
  z70 := Tryd.sizeOf46
  v70 := Tryd.zeroValue46
  t72 := Tryd.underlying49
  a72 := Tryd.isAgg49
  z72 := Tryd.sizeOf49
  v72 := Tryd.zeroValue49
  t75 := Tryd.underlying26
  a75 := Tryd.isAgg26
  z75 := Tryd.sizeOf26
  v75 := Tryd.zeroValue26
  t76 := Tryd.underlying50
  a76 := Tryd.isAgg50
  z76 := Tryd.sizeOf50
  v76 := Tryd.zeroValue50
  t127 := Tryd.underlying73
  a127 := Tryd.isAgg73
  z127 := Tryd.sizeOf73
  v127 := Tryd.zeroValue73
  t164 := Tryd.underlying78
  a164 := Tryd.isAgg78
  z164 := Tryd.sizeOf78
  v164 := Tryd.zeroValue78 }
theorem Builder_Extra_156 : Builder.Extra Tryd.prog lays156_ren := {
  sizeBuilder := by kernel_rfl
  liesBuilder := by kernel_rfl
  t5 := Tryd.underlying5
  a5 := Tryd.isAgg5
  z5 := Tryd.sizeOf5
  v5 := Tryd.zeroValue5
  infoByte := by kernel_rfl
  cellsByte := by kernel_rfl
  sizeByte := by kernel_rfl
  neB5 := by decide }
def laysM171_ren : Go.Shelf.Ren := ⟨fun | 171 => 18 | 243 => 36 | 246 => 48 | 283 => 59 | 284 => 60 | 285 => 61 | 286 => 62 | 129 => 73 | 317 => 72 | 318 => 74 | 319 => 75 | 320 => 76 | 337 => 81 | 338 => 82 | n => n, fun | 3 => 3 | 9 => 9 | 2 => 2 | 4 => 4 | 171 => 86 | 0 => 0 | 53 => 87 | 37 => 47 | 5 => 5 | 173 => 90 | 212 => 103 | 51 => 92 | 20 => 20 | 213 => 104 | 46 => 58 | 232 => 119 | 233 => 120 | n => n, fun | 17 => 1 | 18 => 4 | 19 => 5 | n => n⟩
theorem laysM171 : Go.Proofs.LaysM.n171 Tryd.prog laysM171_ren := {
  mixed := by kernel_rfl
  f129 := Tryd.func73.trans (congrArg some (by kernel_rfl))
  f171 := Tryd.func18.trans (congrArg some (by kernel_rfl))
  f243 := Tryd.func36.trans (congrArg some (by kernel_rfl))
  f246 := Tryd.func48.trans (congrArg some (by kernel_rfl))
  f283 := Tryd.func59.trans (congrArg some (by kernel_rfl))
  f284 := Tryd.func60.trans (congrArg some (by kernel_rfl))
  f285 := Tryd.func61.trans (congrArg some (by kernel_rfl))
  f286 := Tryd.func62.trans (congrArg some (by kernel_rfl))
  f317 := Tryd.func72.trans (congrArg some (by kernel_rfl))
  f318 := Tryd.func74.trans (congrArg some (by kernel_rfl))
  f319 := Tryd.func75.trans (congrArg some (by kernel_rfl))
  f320 := Tryd.func76.trans (congrArg some (by kernel_rfl))
  f337 := Tryd.func81.trans (congrArg some (by kernel_rfl))
  f338 := Tryd.func82.trans (congrArg some (by kernel_rfl))
  t0 := Tryd.underlying0
  a0 := Tryd.isAgg0
  z0 := Tryd.sizeOf0
  v0 := Tryd.zeroValue0
  t2 := Tryd.underlying2
  a2 := Tryd.isAgg2
  z2 := Tryd.sizeOf2
  v2 := Tryd.zeroValue2
  t3 := Tryd.underlying3
  a3 := Tryd.isAgg3
  z3 := Tryd.sizeOf3
  v3 := Tryd.zeroValue3
  t4 := Tryd.underlying4
  a4 := Tryd.isAgg4
  z4 := Tryd.sizeOf4
  v4 := Tryd.zeroValue4
  t5 := Tryd.underlying5
  a5 := Tryd.isAgg5
  z5 := Tryd.sizeOf5
  v5 := Tryd.zeroValue5
  t9 := Tryd.underlying9
  a9 := Tryd.isAgg9
  z9 := Tryd.sizeOf9
  v9 := Tryd.zeroValue9
  t20 := Tryd.underlying20
  a20 := Tryd.isAgg20
  z20 := Tryd.sizeOf20
  v20 := Tryd.zeroValue20
  t37 := Tryd.underlying47
  a37 := Tryd.isAgg47
  z37 := Tryd.sizeOf47
  v37 := Tryd.zeroValue47
  t46 := Tryd.underlying58
  a46 := Tryd.isAgg58
  z46 := Tryd.sizeOf58
  v46 := Tryd.zeroValue58
  t51 := Tryd.underlying92
  a51 := Tryd.isAgg92
  z51 := Tryd.sizeOf92
  v51 := Tryd.zeroValue92
  t53 := Tryd.underlying87
  a53 := Tryd.isAgg87
  z53 := Tryd.sizeOf87
  v53 := Tryd.zeroValue87
  t171 := Tryd.underlying86
  a171 := Tryd.isAgg86
  z171 := Tryd.sizeOf86
  v171 := Tryd.zeroValue86
  t173 := Tryd.underlying90
  a173 := Tryd.isAgg90
  z173 := Tryd.sizeOf90
  v173 := Tryd.zeroValue90
  t212 := Tryd.underlying103
  a212 := Tryd.isAgg103
  z212 := Tryd.sizeOf103
  v212 := Tryd.zeroValue103
  t213 := Tryd.underlying104
  a213 := Tryd.isAgg104
  z213 := Tryd.sizeOf104
  t232 := Tryd.underlying119
  a232 := Tryd.isAgg119
  z232 := Tryd.sizeOf119
  v232 := Tryd.zeroValue119
  t233 := Tryd.underlying120
  a233 := Tryd.isAgg120
  z233 := Tryd.sizeOf120
  v233 := Tryd.zeroValue120
  g17 := by kernel_rfl
  g18 := by kernel_rfl
  g19 := by kernel_rfl
  i0 := by kernel_rfl
  i2 := by kernel_rfl
  i3 := by kernel_rfl
  i4 := by kernel_rfl
  i5 := by kernel_rfl
  i9 := by kernel_rfl
  i20 := by kernel_rfl
  i37 := by kernel_rfl
  i46 := by kernel_rfl
  i51 := by kernel_rfl
  i53 := by kernel_rfl
  i171 := by kernel_rfl
  i173 := by kernel_rfl
  i212 := by kernel_rfl
  i232 := by kernel_rfl
  i233 := by kernel_rfl
  m17 := by kernel_rfl
  m18 := by kernel_rfl
  m19 := by kernel_rfl }
def lays145_ren : Go.Shelf.Ren := ⟨fun | 145 => 28 | 220 => 39 | 219 => 38 | 217 => 50 | 225 => 51 | 224 => 52 | 267 => 53 | 266 => 64 | 314 => 65 | n => n, fun | 9 => 9 | 4 => 4 | 59 => 62 | 3 => 3 | 5 => 5 | 46 => 58 | 146 => 93 | 51 => 92 | n => n, fun | 1 => 0 | n => n⟩
theorem lays145 : Go.Proofs.Lays.n145 Tryd.prog lays145_ren := {
  mixed := by kernel_rfl
  f145 := Tryd.func28.trans (congrArg some (by kernel_rfl))
  f217 := Tryd.func50.trans (congrArg some (by kernel_rfl))
  f219 := Tryd.func38.trans (congrArg some (by kernel_rfl))
  f220 := Tryd.func39.trans (congrArg some (by kernel_rfl))
  f224 := Tryd.func52.trans (congrArg some (by kernel_rfl))
  f225 := Tryd.func51.trans (congrArg some (by kernel_rfl))
  f266 := Tryd.func64.trans (congrArg some (by kernel_rfl))
  f267 := Tryd.func53.trans (congrArg some (by kernel_rfl))
  f314 := Tryd.func65.trans (congrArg some (by kernel_rfl))
  t3 := Tryd.underlying3
  a3 := Tryd.isAgg3
  z3 := Tryd.sizeOf3
  v3 := Tryd.zeroValue3
  t4 := Tryd.underlying4
  a4 := Tryd.isAgg4
  z4 := Tryd.sizeOf4
  v4 := Tryd.zeroValue4
  t5 := Tryd.underlying5
  a5 := Tryd.isAgg5
  z5 := Tryd.sizeOf5
  v5 := Tryd.zeroValue5
  t9 := Tryd.underlying9
  a9 := Tryd.isAgg9
  z9 := Tryd.sizeOf9
  v9 := Tryd.zeroValue9
  t46 := Tryd.underlying58
  a46 := Tryd.isAgg58
  z46 := Tryd.sizeOf58
  v46 := Tryd.zeroValue58
  t51 := Tryd.underlying92
  a51 := Tryd.isAgg92
  z51 := Tryd.sizeOf92
  v51 := Tryd.zeroValue92
  t59 := Tryd.underlying62
  a59 := Tryd.isAgg62
  z59 := Tryd.sizeOf62
  v59 := Tryd.zeroValue62
  t146 := Tryd.underlying93
  a146 := Tryd.isAgg93
  z146 := Tryd.sizeOf93
  v146 := Tryd.zeroValue93
  g1 := by kernel_rfl }
def laysM145_ren : Go.Shelf.Ren := ⟨fun | 145 => 28 | 220 => 39 | 219 => 38 | 217 => 50 | 225 => 51 | 224 => 52 | 267 => 53 | 266 => 64 | 314 => 65 | n => n, fun | 9 => 9 | 4 => 4 | 59 => 62 | 3 => 3 | 5 => 5 | 46 => 58 | 146 => 93 | 51 => 92 | n => n, fun | 1 => 0 | n => n⟩
theorem laysM145 : Go.Proofs.LaysM.n145 Tryd.prog laysM145_ren := {
  mixed := by kernel_rfl
  f145 := Tryd.func28.trans (congrArg some (by kernel_rfl))
  f217 := Tryd.func50.trans (congrArg some (by kernel_rfl))
  f219 := Tryd.func38.trans (congrArg some (by kernel_rfl))
  f220 := Tryd.func39.trans (congrArg some (by kernel_rfl))
  f224 := Tryd.func52.trans (congrArg some (by kernel_rfl))
  f225 := Tryd.func51.trans (congrArg some (by kernel_rfl))
  f266 := Tryd.func64.trans (congrArg some (by kernel_rfl))
  f267 := Tryd.func53.trans (congrArg some (by kernel_rfl))
  f314 := Tryd.func65.trans (congrArg some (by kernel_rfl))
  t3 := Tryd.underlying3
  a3 := Tryd.isAgg3
  z3 := Tryd.sizeOf3
  v3 := Tryd.zeroValue3
  t4 := Tryd.underlying4
  a4 := Tryd.isAgg4
  z4 := Tryd.sizeOf4
  v4 := Tryd.zeroValue4
  t5 := Tryd.underlying5
  a5 := Tryd.isAgg5
  z5 := Tryd.sizeOf5
  v5 := Tryd.zeroValue5
  t9 := Tryd.underlying9
  a9 := Tryd.isAgg9
  z9 := Tryd.sizeOf9
  v9 := Tryd.zeroValue9
  t46 := Tryd.underlying58
  a46 := Tryd.isAgg58
  z46 := Tryd.sizeOf58
  v46 := Tryd.zeroValue58
  t51 := Tryd.underlying92
  a51 := Tryd.isAgg92
  z51 := Tryd.sizeOf92
  v51 := Tryd.zeroValue92
  t59 := Tryd.underlying62
  a59 := Tryd.isAgg62
  z59 := Tryd.sizeOf62
  v59 := Tryd.zeroValue62
  t146 := Tryd.underlying93
  a146 := Tryd.isAgg93
  z146 := Tryd.sizeOf93
  v146 := Tryd.zeroValue93
  g1 := by kernel_rfl
  i3 := by kernel_rfl
  i4 := by kernel_rfl
  i5 := by kernel_rfl
  i9 := by kernel_rfl
  i46 := by kernel_rfl
  i51 := by kernel_rfl
  i59 := by kernel_rfl
  i146 := by kernel_rfl
  m1 := by kernel_rfl
  s1_3 := fun w h => Go.Proofs.cell_of_shapedOpen_int (zero := #[.int .i64 0]) (t := 3) h (of_decide_eq_true (by kernel_rfl)) (by kernel_rfl) rfl (by kernel_rfl) (by kernel_rfl) Tryd.underlying3 }
def lays138_ren : Go.Shelf.Ren := ⟨fun | 138 => 11 | 195 => 24 | 218 => 25 | 143 => 26 | 219 => 38 | 217 => 50 | 225 => 51 | 224 => 52 | 267 => 53 | 266 => 64 | 314 => 65 | n => n, fun | 9 => 9 | 3 => 3 | 4 => 4 | 5 => 5 | 0 => 0 | 46 => 58 | 146 => 93 | 51 => 92 | n => n, fun | 1 => 0 | n => n⟩
theorem lays138 : Go.Proofs.Lays.n138 Tryd.prog lays138_ren := {
  mixed := by kernel_rfl
  f138 := Tryd.func11.trans (congrArg some (by kernel_rfl))
  f143 := Tryd.func26.trans (congrArg some (by kernel_rfl))
  f195 := Tryd.func24.trans (congrArg some (by kernel_rfl))
  f217 := Tryd.func50.trans (congrArg some (by kernel_rfl))
  f218 := Tryd.func25.trans (congrArg some (by kernel_rfl))
  f219 := Tryd.func38.trans (congrArg some (by kernel_rfl))
  f224 := Tryd.func52.trans (congrArg some (by kernel_rfl))
  f225 := Tryd.func51.trans (congrArg some (by kernel_rfl))
  f266 := Tryd.func64.trans (congrArg some (by kernel_rfl))
  f267 := Tryd.func53.trans (congrArg some (by kernel_rfl))
  f314 := Tryd.func65.trans (congrArg some (by kernel_rfl))
  t0 := Tryd.underlying0
  a0 := Tryd.isAgg0
  z0 := Tryd.sizeOf0
  v0 := Tryd.zeroValue0
  t3 := Tryd.underlying3
  a3 := Tryd.isAgg3
  z3 := Tryd.sizeOf3
  v3 := Tryd.zeroValue3
  t4 := Tryd.underlying4
  a4 := Tryd.isAgg4
  z4 := Tryd.sizeOf4
  v4 := Tryd.zeroValue4
  t5 := Tryd.underlying5
  a5 := Tryd.isAgg5
  z5 := Tryd.sizeOf5
  v5 := Tryd.zeroValue5
  t9 := Tryd.underlying9
  a9 := Tryd.isAgg9
  z9 := Tryd.sizeOf9
  v9 := Tryd.zeroValue9
  t46 := Tryd.underlying58
  a46 := Tryd.isAgg58
  z46 := Tryd.sizeOf58
  v46 := Tryd.zeroValue58
  t51 := Tryd.underlying92
  a51 := Tryd.isAgg92
  z51 := Tryd.sizeOf92
  v51 := Tryd.zeroValue92
  t146 := Tryd.underlying93
  a146 := Tryd.isAgg93
  z146 := Tryd.sizeOf93
  v146 := Tryd.zeroValue93
  g1 := by kernel_rfl }
def lays101_ren : Go.Shelf.Ren := ⟨fun | 101 => 30 | 208 => 41 | 206 => 56 | n => n, fun | 9 => 9 | 4 => 4 | 3 => 3 | n => n, fun | n => n⟩
theorem lays101 : Go.Proofs.Lays.n101 Tryd.prog lays101_ren := {
  mixed := by kernel_rfl
  f101 := Tryd.func30.trans (congrArg some (by kernel_rfl))
  f206 := Tryd.func56.trans (congrArg some (by kernel_rfl))
  f208 := Tryd.func41.trans (congrArg some (by kernel_rfl))
  t3 := Tryd.underlying3
  a3 := Tryd.isAgg3
  z3 := Tryd.sizeOf3
  v3 := Tryd.zeroValue3
  t4 := Tryd.underlying4
  a4 := Tryd.isAgg4
  z4 := Tryd.sizeOf4
  v4 := Tryd.zeroValue4
  t9 := Tryd.underlying9
  a9 := Tryd.isAgg9
  z9 := Tryd.sizeOf9
  v9 := Tryd.zeroValue9 }
def lays147_ren : Go.Shelf.Ren := ⟨fun | 147 => 42 | 221 => 57 | 268 => 71 | 138 => 11 | 143 => 26 | 195 => 24 | 197 => 80 | 218 => 25 | 219 => 38 | 260 => 85 | 217 => 50 | 225 => 51 | 224 => 52 | 267 => 53 | 266 => 64 | 314 => 65 | n => n, fun | 9 => 9 | 3 => 3 | 31 => 71 | 4 => 4 | 0 => 0 | 105 => 112 | 21 => 21 | 5 => 5 | 46 => 58 | 119 => 121 | 139 => 124 | 138 => 123 | 146 => 93 | 51 => 92 | n => n, fun | 1 => 0 | 3 => 6 | 4 => 7 | n => n⟩
theorem lays147 : Go.Proofs.Lays.n147 Tryd.prog lays147_ren := {
  mixed := by kernel_rfl
  f138 := Tryd.func11.trans (congrArg some (by kernel_rfl))
  f143 := Tryd.func26.trans (congrArg some (by kernel_rfl))
  f147 := Tryd.func42.trans (congrArg some (by kernel_rfl))
  f195 := Tryd.func24.trans (congrArg some (by kernel_rfl))
  f197 := Tryd.func80.trans (congrArg some (by kernel_rfl))
  f217 := Tryd.func50.trans (congrArg some (by kernel_rfl))
  f218 := Tryd.func25.trans (congrArg some (by kernel_rfl))
  f219 := Tryd.func38.trans (congrArg some (by kernel_rfl))
  f221 := Tryd.func57.trans (congrArg some (by kernel_rfl))
  f224 := Tryd.func52.trans (congrArg some (by kernel_rfl))
  f225 := Tryd.func51.trans (congrArg some (by kernel_rfl))
  f260 := Tryd.func85.trans (congrArg some (by kernel_rfl))
  f266 := Tryd.func64.trans (congrArg some (by kernel_rfl))
  f267 := Tryd.func53.trans (congrArg some (by kernel_rfl))
  f268 := Tryd.func71.trans (congrArg some (by kernel_rfl))
  f314 := Tryd.func65.trans (congrArg some (by kernel_rfl))
  t0 := Tryd.underlying0
  a0 := Tryd.isAgg0
  z0 := Tryd.sizeOf0
  v0 := Tryd.zeroValue0
  t3 := Tryd.underlying3
  a3 := Tryd.isAgg3
  z3 := Tryd.sizeOf3
  v3 := Tryd.zeroValue3
  t4 := Tryd.underlying4
  a4 := Tryd.isAgg4
  z4 := Tryd.sizeOf4
  v4 := Tryd.zeroValue4
  t5 := Tryd.underlying5
  a5 := Tryd.isAgg5
  z5 := Tryd.sizeOf5
  v5 := Tryd.zeroValue5
  t9 := Tryd.underlying9
  a9 := Tryd.isAgg9
  z9 := Tryd.sizeOf9
  v9 := Tryd.zeroValue9
  t21 := Tryd.underlying21
  a21 := Tryd.isAgg21
  z21 := Tryd.sizeOf21
  v21 := Tryd.zeroValue21
  t31 := Tryd.underlying71
  a31 := Tryd.isAgg71
  z31 := Tryd.sizeOf71
  v31 := Tryd.zeroValue71
  t46 := Tryd.underlying58
  a46 := Tryd.isAgg58
  z46 := Tryd.sizeOf58
  v46 := Tryd.zeroValue58
  t51 := Tryd.underlying92
  a51 := Tryd.isAgg92
  z51 := Tryd.sizeOf92
  v51 := Tryd.zeroValue92
  t105 := Tryd.underlying112
  a105 := Tryd.isAgg112
  z105 := Tryd.sizeOf112
  v105 := Tryd.zeroValue112
  t119 := Tryd.underlying121
  a119 := Tryd.isAgg121
  z119 := Tryd.sizeOf121
  t138 := Tryd.underlying123
  a138 := Tryd.isAgg123
  z138 := Tryd.sizeOf123
  v138 := Tryd.zeroValue123
  t139 := Tryd.underlying124
  a139 := Tryd.isAgg124
  z139 := Tryd.sizeOf124
  v139 := Tryd.zeroValue124
  t146 := Tryd.underlying93
  a146 := Tryd.isAgg93
  z146 := Tryd.sizeOf93
  v146 := Tryd.zeroValue93
  g1 := by kernel_rfl
  g3 := by kernel_rfl
  g4 := by kernel_rfl }
def lays111_ren : Go.Shelf.Ren := ⟨fun | 111 => 23 | n => n, fun | 28 => 37 | 3 => 3 | 4 => 4 | 0 => 0 | n => n, fun | n => n⟩
theorem lays111 : Go.Proofs.Lays.n111 Tryd.prog lays111_ren := {
  mixed := by kernel_rfl
  f111 := Tryd.func23.trans (congrArg some (by kernel_rfl))
  t0 := Tryd.underlying0
  a0 := Tryd.isAgg0
  z0 := Tryd.sizeOf0
  v0 := Tryd.zeroValue0
  t3 := Tryd.underlying3
  a3 := Tryd.isAgg3
  z3 := Tryd.sizeOf3
  v3 := Tryd.zeroValue3
  t4 := Tryd.underlying4
  a4 := Tryd.isAgg4
  z4 := Tryd.sizeOf4
  v4 := Tryd.zeroValue4
  t28 := Tryd.underlying37
  a28 := Tryd.isAgg37
  z28 := Tryd.sizeOf37
  v28 := Tryd.zeroValue37 }
end Go.Proofs.YtmfbfhkhfhphfabDoor.It
namespace Go.Proofs.YtmfbfhkhfhphfabDoor.It
open Go.Shelf Go.RowKit
def laysC172_ren : Go.Shelf.Ren := ⟨fun | 172 => 40 | 244 => 54 | 245 => 55 | 247 => 66 | 279 => 67 | 280 => 68 | 281 => 69 | 282 => 70 | 287 => 78 | 316 => 58 | 171 => 18 | 205 => 79 | 321 => 83 | 322 => 84 | 243 => 36 | 246 => 48 | 283 => 59 | 284 => 60 | 285 => 61 | 286 => 62 | 129 => 73 | 317 => 72 | 318 => 74 | 319 => 75 | 320 => 76 | 337 => 81 | 338 => 82 | n => n, fun | 9 => 9 | 3 => 3 | 75 => 26 | 76 => 50 | 4 => 4 | 5 => 5 | 167 => 95 | 37 => 47 | 0 => 0 | 85 => 96 | 2 => 2 | 168 => 98 | 53 => 87 | 175 => 107 | 46 => 58 | 210 => 110 | 127 => 73 | 145 => 118 | 143 => 116 | 21 => 21 | 171 => 86 | 173 => 90 | 212 => 103 | 51 => 92 | 20 => 20 | 213 => 104 | 232 => 119 | 233 => 120 | 80 => 54 | n => n, fun | 15 => 2 | 16 => 3 | 17 => 1 | 18 => 4 | 19 => 5 | n => n⟩
theorem laysC172 : Go.Proofs.LaysC.n172 Tryd.prog laysC172_ren := {
  mixed := by kernel_rfl
  f129 := Tryd.func73.trans (congrArg some (by kernel_rfl))
  f171 := Tryd.func18.trans (congrArg some (by kernel_rfl))
  f172 := Tryd.func40.trans (congrArg some (by kernel_rfl))
  f205 := Tryd.func79.trans (congrArg some (by kernel_rfl))
  f243 := Tryd.func36.trans (congrArg some (by kernel_rfl))
  f244 := Tryd.func54.trans (congrArg some (by kernel_rfl))
  f245 := Tryd.func55.trans (congrArg some (by kernel_rfl))
  f246 := Tryd.func48.trans (congrArg some (by kernel_rfl))
  f247 := Tryd.func66.trans (congrArg some (by kernel_rfl))
  f279 := Tryd.func67.trans (congrArg some (by kernel_rfl))
  f280 := Tryd.func68.trans (congrArg some (by kernel_rfl))
  f281 := Tryd.func69.trans (congrArg some (by kernel_rfl))
  f282 := Tryd.func70.trans (congrArg some (by kernel_rfl))
  f283 := Tryd.func59.trans (congrArg some (by kernel_rfl))
  f284 := Tryd.func60.trans (congrArg some (by kernel_rfl))
  f285 := Tryd.func61.trans (congrArg some (by kernel_rfl))
  f286 := Tryd.func62.trans (congrArg some (by kernel_rfl))
  f287 := Tryd.func78.trans (congrArg some (by kernel_rfl))
  f316 := Tryd.func58.trans (congrArg some (by kernel_rfl))
  f317 := Tryd.func72.trans (congrArg some (by kernel_rfl))
  f318 := Tryd.func74.trans (congrArg some (by kernel_rfl))
  f319 := Tryd.func75.trans (congrArg some (by kernel_rfl))
  f320 := Tryd.func76.trans (congrArg some (by kernel_rfl))
  f321 := Tryd.func83.trans (congrArg some (by kernel_rfl))
  f322 := Tryd.func84.trans (congrArg some (by kernel_rfl))
  f337 := Tryd.func81.trans (congrArg some (by kernel_rfl))
  f338 := Tryd.func82.trans (congrArg some (by kernel_rfl))
  t0 := Tryd.underlying0
  a0 := Tryd.isAgg0
  z0 := Tryd.sizeOf0
  v0 := Tryd.zeroValue0
  t2 := Tryd.underlying2
  a2 := Tryd.isAgg2
  z2 := Tryd.sizeOf2
  v2 := Tryd.zeroValue2
  t3 := Tryd.underlying3
  a3 := Tryd.isAgg3
  z3 := Tryd.sizeOf3
  v3 := Tryd.zeroValue3
  t4 := Tryd.underlying4
  a4 := Tryd.isAgg4
  z4 := Tryd.sizeOf4
  v4 := Tryd.zeroValue4
  t5 := Tryd.underlying5
  a5 := Tryd.isAgg5
  z5 := Tryd.sizeOf5
  v5 := Tryd.zeroValue5
  t9 := Tryd.underlying9
  a9 := Tryd.isAgg9
  z9 := Tryd.sizeOf9
  v9 := Tryd.zeroValue9
  t20 := Tryd.underlying20
  a20 := Tryd.isAgg20
  z20 := Tryd.sizeOf20
  v20 := Tryd.zeroValue20
  t21 := Tryd.underlying21
  a21 := Tryd.isAgg21
  z21 := Tryd.sizeOf21
  v21 := Tryd.zeroValue21
  t37 := Tryd.underlying47
  a37 := Tryd.isAgg47
  z37 := Tryd.sizeOf47
  v37 := Tryd.zeroValue47
  t46 := Tryd.underlying58
  a46 := Tryd.isAgg58
  z46 := Tryd.sizeOf58
  v46 := Tryd.zeroValue58
  t51 := Tryd.underlying92
  a51 := Tryd.isAgg92
  z51 := Tryd.sizeOf92
  v51 := Tryd.zeroValue92
  t53 := Tryd.underlying87
  a53 := Tryd.isAgg87
  z53 := Tryd.sizeOf87
  v53 := Tryd.zeroValue87
  t75 := Tryd.underlying26
  a75 := Tryd.isAgg26
  z75 := Tryd.sizeOf26
  v75 := Tryd.zeroValue26
  t76 := Tryd.underlying50
  a76 := Tryd.isAgg50
  z76 := Tryd.sizeOf50
  v76 := Tryd.zeroValue50
  t85 := Tryd.underlying96
  a85 := Tryd.isAgg96
  z85 := Tryd.sizeOf96
  v85 := Tryd.zeroValue96
  t127 := Tryd.underlying73
  a127 := Tryd.isAgg73
  z127 := Tryd.sizeOf73
  v127 := Tryd.zeroValue73
  t143 := Tryd.underlying116
  a143 := Tryd.isAgg116
  z143 := Tryd.sizeOf116
  v143 := Tryd.zeroValue116
  t145 := Tryd.underlying118
  a145 := Tryd.isAgg118
  z145 := Tryd.sizeOf118
  v145 := Tryd.zeroValue118
  t167 := Tryd.underlying95
  a167 := Tryd.isAgg95
  z167 := Tryd.sizeOf95
  v167 := Tryd.zeroValue95
  t168 := Tryd.underlying98
  a168 := Tryd.isAgg98
  z168 := Tryd.sizeOf98
  v168 := Tryd.zeroValue98
  t171 := Tryd.underlying86
  a171 := Tryd.isAgg86
  z171 := Tryd.sizeOf86
  v171 := Tryd.zeroValue86
  t173 := Tryd.underlying90
  a173 := Tryd.isAgg90
  z173 := Tryd.sizeOf90
  v173 := Tryd.zeroValue90
  t175 := Tryd.underlying107
  a175 := Tryd.isAgg107
  z175 := Tryd.sizeOf107
  v175 := Tryd.zeroValue107
  t210 := Tryd.underlying110
  a210 := Tryd.isAgg110
  z210 := Tryd.sizeOf110
  v210 := Tryd.zeroValue110
  t212 := Tryd.underlying103
  a212 := Tryd.isAgg103
  z212 := Tryd.sizeOf103
  v212 := Tryd.zeroValue103
  t213 := Tryd.underlying104
  a213 := Tryd.isAgg104
  z213 := Tryd.sizeOf104
  t232 := Tryd.underlying119
  a232 := Tryd.isAgg119
  z232 := Tryd.sizeOf119
  v232 := Tryd.zeroValue119
  t233 := Tryd.underlying120
  a233 := Tryd.isAgg120
  z233 := Tryd.sizeOf120
  v233 := Tryd.zeroValue120
  g15 := by kernel_rfl
  g16 := by kernel_rfl
  g17 := by kernel_rfl
  g18 := by kernel_rfl
  g19 := by kernel_rfl
  t80 := Tryd.underlying54
  a80 := Tryd.isAgg54
  z80 := Tryd.sizeOf54
  v80 := Tryd.zeroValue54
  i0 := by kernel_rfl
  i2 := by kernel_rfl
  i3 := by kernel_rfl
  i4 := by kernel_rfl
  i5 := by kernel_rfl
  i9 := by kernel_rfl
  i20 := by kernel_rfl
  i21 := by kernel_rfl
  i37 := by kernel_rfl
  i46 := by kernel_rfl
  i51 := by kernel_rfl
  i53 := by kernel_rfl
  i75 := by kernel_rfl
  i76 := by kernel_rfl
  i80 := by kernel_rfl
  i85 := by kernel_rfl
  i127 := by kernel_rfl
  i143 := by kernel_rfl
  i145 := by kernel_rfl
  i167 := by kernel_rfl
  i168 := by kernel_rfl
  i171 := by kernel_rfl
  i173 := by kernel_rfl
  i175 := by kernel_rfl
  i210 := by kernel_rfl
  i212 := by kernel_rfl
  i232 := by kernel_rfl
  i233 := by kernel_rfl
  m15 := by kernel_rfl
  m16 := by kernel_rfl
  m17 := by kernel_rfl
  m18 := by kernel_rfl
  m19 := by kernel_rfl
  c0 := by kernel_rfl
  c2 := by kernel_rfl
  c3 := by kernel_rfl
  c4 := by kernel_rfl
  c5 := by kernel_rfl
  c9 := by kernel_rfl
  c20 := by kernel_rfl
  c21 := by kernel_rfl
  c37 := by kernel_rfl
  c46 := by kernel_rfl
  c51 := by kernel_rfl
  c53 := by kernel_rfl
  c75 := by kernel_rfl
  c76 := by kernel_rfl
  c80 := by kernel_rfl
  c85 := by kernel_rfl
  c127 := by kernel_rfl
  c143 := by kernel_rfl
  c145 := by kernel_rfl
  c167 := by kernel_rfl
  c168 := by kernel_rfl
  c171 := by kernel_rfl
  c173 := by kernel_rfl
  c175 := by kernel_rfl
  c210 := by kernel_rfl
  c212 := by kernel_rfl
  c213 := by kernel_rfl
  c232 := by kernel_rfl
  c233 := by kernel_rfl }
end Go.Proofs.YtmfbfhkhfhphfabDoor.It
namespace Go.Proofs.YtmfbfhkhfhphfabDoor.It
open Go.Lib
/-- An item. -/
structure Itm where
  name : ByteArray
  tag : ByteArray
  nums : List Int
/-- A small letter; a digit. -/
def isLet (c : UInt8) : Bool := decide (97 ≤ c.toNat) && decide (c.toNat ≤ 122)
def isDig (c : UInt8) : Bool := decide (48 ≤ c.toNat) && decide (c.toNat ≤ 57)
/-- Something may be called so. -/
def nameB (s : ByteArray) : Bool := decide (1 ≤ s.size) && decide (s.size ≤ 10) && isLet (s.data.toList.getD 0 0) && s.data.toList.all fun c => isLet c || isDig c
def dimB (d : Int) : Bool := decide (1 ≤ d) && decide (d ≤ 8)
def numB (n : Int) : Bool := decide (-1000 ≤ n) && decide (n ≤ 1000)
def tagB (s : ByteArray) : Bool := decide (s.size = 0) || nameB s
def rightB (x : Itm) (d : Int) : Bool := dimB d && decide ((x.nums.length : Int) = d) && nameB x.name && tagB x.tag && x.nums.all numB
/-- A line. -/
def lineS (x : Itm) : List UInt8 := join (x.name.data.toList :: x.tag.data.toList :: x.nums.map itoa) [32]
def headS (d : Int) : List UInt8 := [100, 105, 109, 32] ++ itoa d
/-- Lines, one behind the other. -/
def linesS (L : List (List UInt8)) : List UInt8 := (L.map (· ++ [10])).flatten
def textS (d : Int) (xs : List Itm) : List UInt8 := linesS (headS d :: xs.map lineS)
/-- What a word tells. -/
def numP (l : List UInt8) : Option Int := match atoiAll l with
  | .ok v => some v
  | _ => none
def numsP : List (List UInt8) → Option (List Int)
  | [] => some []
  | w :: r => match numP w with
    | none => none
    | some n => (numsP r).map (n :: ·)
/-- What a line tells. -/
def itemP (l : List UInt8) : Option Itm := match splitN l [32] 10 with
  | a :: b :: r => (numsP r).map fun ns => ⟨⟨a.toArray⟩, ⟨b.toArray⟩, ns⟩
  | _ => none
/-- What lines tell, at most m of them. -/
def itemsP : Nat → List UInt8 → Option (List Itm)
  | _, [] => some []
  | 0, _ :: _ => none
  | m + 1, c :: l => match itemP (cut (c :: l) [10]).1 with
    | none => none
    | some x => (itemsP m (cut (c :: l) [10]).2.1).map (x :: ·)
def trimP (l : List UInt8) : List UInt8 := if [100, 105, 109, 32].isPrefixOf l then l.drop 4 else l
def fieldsP (l : List UInt8) : Option (Int × List Itm) := match numP (trimP (cut l [10]).1) with
  | none => none
  | some d => (itemsP 60 (cut l [10]).2.1).map fun xs => (d, xs)
/- Numerals. -/
theorem decFrom_snoc (b : UInt8) (d : Nat) (hd : digitVal b = some d) : ∀ (l : List UInt8) (acc n : Nat), decFrom acc l = some n → decFrom acc (l ++ [b]) = some (n * 10 + d)
  | [], acc, n, h => by simp only [decFrom, Option.some.injEq] at h; subst h; simp [decFrom, hd]
  | a :: t, acc, n, h => by
    simp only [List.cons_append, decFrom] at h ⊢
    cases ha : digitVal a with
    | none => simp [ha] at h
    | some e => simp only [ha] at h ⊢; exact decFrom_snoc b d hd t _ n h
theorem digitVal_of (u : Nat) (h : u < 10) : digitVal (UInt8.ofNat (48 + u)) = some u := by
  unfold digitVal
  rw [UInt8.toNat_ofNat', Nat.mod_eq_of_lt (by omega), if_pos (by omega)]
  congr 1; omega
theorem decFrom_digits (u : Nat) : decFrom 0 (decDigits u) = some u := by
  induction u using Nat.strongRecOn with
  | _ u ih =>
    rw [decDigits]
    by_cases h : u < 10
    · rw [dif_pos h]; simp only [decFrom, digitVal_of u h, Nat.zero_mul, Nat.zero_add]
    · rw [dif_neg h, decFrom_snoc _ (u % 10) (digitVal_of _ (Nat.mod_lt _ (by decide))) _ _ _ (ih (u / 10) (by omega))]
      congr 1; omega
theorem digits_byte (u : Nat) : ∀ b ∈ decDigits u, 48 ≤ b.toNat ∧ b.toNat ≤ 57 := by
  induction u using Nat.strongRecOn with
  | _ u ih =>
    rw [decDigits]
    by_cases h : u < 10
    · rw [dif_pos h]
      intro b hb
      rw [List.mem_singleton] at hb; subst hb
      rw [UInt8.toNat_ofNat', Nat.mod_eq_of_lt (by omega)]; omega
    · rw [dif_neg h]
      intro b hb
      rcases List.mem_append.1 hb with hb | hb
      · exact ih (u / 10) (by omega) b hb
      · rw [List.mem_singleton] at hb; subst hb
        have := Nat.mod_lt u (show 0 < 10 by decide)
        rw [UInt8.toNat_ofNat', Nat.mod_eq_of_lt (by omega)]; omega
theorem digits_ne (u : Nat) : decDigits u ≠ [] := by
  rw [decDigits]; split <;> simp
theorem digits_len : ∀ (k u : Nat), u < 10 ^ (k + 1) → (decDigits u).length ≤ k + 1
  | 0, u, h => by rw [decDigits, dif_pos (by simpa using h)]; simp
  | k + 1, u, h => by
    rw [decDigits]
    split
    · simp
    · have := digits_len k (u / 10) (by rw [Nat.pow_succ] at h; omega)
      simp; omega
theorem itoa_len (n : Int) (h0 : -1000 ≤ n) (h1 : n ≤ 1000) : (itoa n).length ≤ 5 := by
  unfold itoa
  split
  · have := digits_len 3 n.natAbs (by omega)
    simp; omega
  · have := digits_len 3 n.toNat (by omega)
    omega
theorem decNat_digits (u : Nat) : decNat (decDigits u) = some u := by
  unfold decNat
  have := digits_ne u
  rw [if_neg (by simpa using this), decFrom_digits]
theorem atoi_itoa (n : Int) : atoi (itoa n) = some n := by
  unfold itoa
  by_cases h : n < 0
  · rw [if_pos h]
    simp only [atoi, beq_self_eq_true, if_true, decNat_digits, Option.map_some]
    congr 1; omega
  · rw [if_neg h]
    have hn := decNat_digits n.toNat
    cases e : decDigits n.toNat with
    | nil => exact absurd e (digits_ne _)
    | cons b r =>
      have hb := digits_byte n.toNat b (by rw [e]; simp)
      have h1 : ¬ (b == 45) = true := by intro h'; rw [beq_iff_eq] at h'; subst h'; revert hb; decide
      have h2 : ¬ (b == 43) = true := by intro h'; rw [beq_iff_eq] at h'; subst h'; revert hb; decide
      rw [e] at hn
      simp only [atoi]
      rw [if_neg h1, if_neg h2, hn]
      simp; omega
theorem numP_itoa (n : Int) (h0 : -1000 ≤ n) (h1 : n ≤ 1000) : numP (itoa n) = some n := by
  unfold numP
  rw [atoiAll_short _ (by have := itoa_len n h0 h1; omega), atoi_itoa]; rfl
theorem itoa_byte (n : Int) : ∀ b ∈ itoa n, b.toNat = 45 ∨ (48 ≤ b.toNat ∧ b.toNat ≤ 57) := by
  intro b hb
  unfold itoa at hb
  split at hb
  · rcases List.mem_cons.1 hb with rfl | hb
    · left; decide
    · exact Or.inr (digits_byte _ b hb)
  · exact Or.inr (digits_byte _ b hb)
theorem numsP_itoa : ∀ (ns : List Int), ns.all numB = true → numsP (ns.map itoa) = some ns
  | [], _ => rfl
  | n :: r, h => by
    simp only [List.all_cons, Bool.and_eq_true] at h
    have hn : -1000 ≤ n ∧ n ≤ 1000 := by simpa [numB] using h.1
    simp only [List.map_cons, numsP, numP_itoa n hn.1 hn.2, numsP_itoa r h.2, Option.map_some]
/- Cuts. -/
theorem occ_byte (c : UInt8) (l : List UInt8) (j : Nat) : occAt l [c] j = (l[j]? == some c) := by
  unfold occAt
  rw [← List.head?_drop]
  cases l.drop j with
  | nil => rfl
  | cons b t =>
    simp only [List.isPrefixOf, List.head?_cons, Bool.and_true]
    rw [Bool.eq_iff_iff]; simp; exact eq_comm
theorem index_at (c : UInt8) (a b : List UInt8) (h : c ∉ a) : index (a ++ c :: b) [c] = (a.length : Int) := by
  refine index_first (by simp) ?_ fun j hj => ?_
  · rw [occ_byte]; simp
  · rw [occ_byte, List.getElem?_append_left hj, beq_eq_false_iff_ne]
    intro e; exact h (List.mem_of_getElem? e)
theorem index_no (c : UInt8) (a : List UInt8) (h : c ∉ a) : index a [c] = -1 := by
  refine index_none fun j _ => ?_
  rw [occ_byte, beq_eq_false_iff_ne]
  intro e; exact h (List.mem_of_getElem? e)
theorem cut_at (c : UInt8) (a b : List UInt8) (h : c ∉ a) : cut (a ++ c :: b) [c] = (a, b, true) := by
  unfold cut
  rw [index_at c a b h, if_pos (by omega)]
  simp
theorem join_two (x y : List UInt8) (r : List (List UInt8)) (c : UInt8) : join (x :: y :: r) [c] = x ++ c :: join (y :: r) [c] := by
  rw [join_cons, join_cons]; simp [joinTail]
theorem join_len (c : UInt8) : ∀ (x : List UInt8) (r : List (List UInt8)), r.length ≤ (join (x :: r) [c]).length
  | x, [] => by simp
  | x, y :: r => by have := join_len c y r; rw [join_two]; simp at this ⊢; omega
theorem splitK_join (c : UInt8) : ∀ (x : List UInt8) (r : List (List UInt8)) (k : Nat), r.length ≤ k → (∀ w ∈ x :: r, c ∉ w) → splitK [c] 0 k (join (x :: r) [c]) = x :: r
  | x, [], k, _, h => by
    rw [join_one]
    cases k with
    | zero => rfl
    | succ k => unfold splitK; rw [index_no c x (h x (by simp)), if_pos (by decide)]
  | x, y :: r, 0, hk, _ => by simp at hk
  | x, y :: r, k + 1, hk, h => by
    rw [join_two]
    unfold splitK
    rw [index_at c x _ (h x (by simp)), if_neg (by rw [beq_iff_eq]; omega)]
    have := splitK_join c y r k (by simpa using hk) (fun w hw => h w (by simp at hw ⊢; exact Or.inr hw))
    simp [this]
theorem splitN_join (c : UInt8) (x : List UInt8) (r : List (List UInt8)) (h1 : r.length ≤ 9) (h : ∀ w ∈ x :: r, c ∉ w) : splitN (join (x :: r) [c]) [c] 10 = x :: r := by
  have := join_len c x r
  exact splitK_join c x r _ (by omega) h
/- Names. -/
theorem nameB_byte {s : ByteArray} (h : nameB s = true) : ∀ b ∈ s.data.toList, 48 ≤ b.toNat := by
  intro b hb
  simp only [nameB, Bool.and_eq_true, List.all_eq_true] at h
  have := h.2 b hb
  simp [isLet, isDig] at this; omega
theorem nameB_size {s : ByteArray} (h : nameB s = true) : s.size ≤ 10 := by
  simp only [nameB, Bool.and_eq_true, decide_eq_true_eq] at h
  exact h.1.1.2
theorem tagB_byte {s : ByteArray} (h : tagB s = true) : ∀ b ∈ s.data.toList, 48 ≤ b.toNat := by
  unfold tagB at h
  rcases Bool.or_eq_true_iff.1 h with h | h
  · have h' : s.data.toList = [] := by
      have : s.size = 0 := by simpa using h
      exact List.eq_nil_of_length_eq_zero (by rw [← Lib.size_eq]; exact this)
    rw [h']; intro b hb; cases hb
  · exact nameB_byte h
theorem tagB_size {s : ByteArray} (h : tagB s = true) : s.size ≤ 10 := by
  unfold tagB at h
  rcases Bool.or_eq_true_iff.1 h with h | h
  · have : s.size = 0 := by simpa using h
    omega
  · exact nameB_size h
theorem right_parts {x : Itm} {d : Int} (h : rightB x d = true) : (1 ≤ d ∧ d ≤ 8) ∧ (x.nums.length : Int) = d ∧ nameB x.name = true ∧ tagB x.tag = true ∧ x.nums.all numB = true := by
  simp only [rightB, dimB, Bool.and_eq_true, decide_eq_true_eq] at h
  exact ⟨h.1.1.1.1, h.1.1.1.2, h.1.1.2, h.1.2, h.2⟩
set_option maxRecDepth 4000 in
theorem words_byte {x : Itm} {d : Int} (h : rightB x d = true) : ∀ w ∈ x.name.data.toList :: x.tag.data.toList :: x.nums.map itoa, ∀ b ∈ w, 45 ≤ b.toNat := by
  obtain ⟨_, _, hn, ht, _⟩ := right_parts h
  intro w hw b hb
  rcases List.mem_cons.1 hw with rfl | hw
  · have := nameB_byte hn b hb; omega
  · rcases List.mem_cons.1 hw with rfl | hw
    · have := tagB_byte ht b hb; omega
    · obtain ⟨n, _, rfl⟩ := List.mem_map.1 hw
      rcases itoa_byte n b hb with h | h <;> omega
theorem join_mem (c : UInt8) : ∀ (x : List UInt8) (r : List (List UInt8)) (b : UInt8), b ∈ join (x :: r) [c] → b = c ∨ ∃ w ∈ x :: r, b ∈ w
  | x, [], b, h => by rw [join_one] at h; exact Or.inr ⟨x, by simp, h⟩
  | x, y :: r, b, h => by
    rw [join_two] at h
    rcases List.mem_append.1 h with h | h
    · exact Or.inr ⟨x, by simp, h⟩
    · rcases List.mem_cons.1 h with h | h
      · exact Or.inl h
      · rcases join_mem c y r b h with h | ⟨w, hw, h⟩
        · exact Or.inl h
        · exact Or.inr ⟨w, by simp at hw ⊢; exact Or.inr hw, h⟩
theorem line_byte {x : Itm} {d : Int} (h : rightB x d = true) : (10 : UInt8) ∉ lineS x := by
  intro hb
  rcases join_mem _ _ _ _ hb with e | ⟨w, hw, e⟩
  · exact absurd e (by decide)
  · have := words_byte h w hw _ e; exact absurd this (by decide)
theorem head_byte (d : Int) : (10 : UInt8) ∉ headS d := by
  intro hb
  rcases List.mem_append.1 hb with hb | hb
  · exact absurd hb (by decide)
  · rcases itoa_byte d _ hb with h | h <;> revert h <;> decide
theorem itemP_line {x : Itm} {d : Int} (h : rightB x d = true) : itemP (lineS x) = some x := by
  obtain ⟨hd, hl, _, _, hn⟩ := right_parts h
  have hw := words_byte h
  unfold itemP lineS
  rw [splitN_join 32 _ _ (by simp; omega) (fun w h' hb => by have := hw w h' 32 hb; exact absurd this (by decide))]
  simp only [numsP_itoa _ hn, Option.map_some]
theorem lines_cons (a : List UInt8) (L : List (List UInt8)) : linesS (a :: L) = a ++ 10 :: linesS L := by simp [linesS]
theorem itemsP_lines (d : Int) : ∀ (m : Nat) (xs : List Itm), xs.length ≤ m → (∀ x ∈ xs, rightB x d = true) → itemsP m (linesS (xs.map lineS)) = some xs
  | m, [], _, _ => by cases m <;> rfl
  | 0, x :: xs, h, _ => by simp at h
  | m + 1, x :: xs, h, hr => by
    have hc := cut_at 10 (lineS x) (linesS (xs.map lineS)) (line_byte (hr x (by simp)))
    rw [List.map_cons, lines_cons]
    have ih := itemsP_lines d m xs (by simpa using h) (fun y hy => hr y (by simp [hy]))
    cases e : lineS x ++ 10 :: linesS (xs.map lineS) with
    | nil => simp at e
    | cons c l =>
      rw [e] at hc
      simp only [itemsP, hc, itemP_line (hr x (by simp)), ih, Option.map_some]
theorem trimP_head (d : Int) : trimP (headS d) = itoa d := by
  unfold trimP headS
  rw [if_pos (by simp [List.isPrefixOf])]; simp
/-- What items are written as tells these items. -/
theorem fields_text (d : Int) (xs : List Itm) (hd : 1 ≤ d ∧ d ≤ 8) (hl : xs.length ≤ 60) (hr : ∀ x ∈ xs, rightB x d = true) : fieldsP (textS d xs) = some (d, xs) := by
  unfold fieldsP textS
  rw [lines_cons, cut_at 10 _ _ (head_byte d)]
  simp only [trimP_head, numP_itoa d (by omega) (by omega), itemsP_lines d 60 xs hl hr, Option.map_some]
/- The first lines. -/
theorem lines_pre : ∀ (L : List (List UInt8)) (t u : List UInt8), (∀ a ∈ L, (10 : UInt8) ∉ a) → linesS L = t ++ u → (t = [] ∨ t.getLast? = some 10) → t = linesS (L.take (t.count 10))
  | [], t, u, _, h, _ => by
    have : t = [] := by simp [linesS] at h; exact h.1
    subst this; rfl
  | a :: L, t, u, ha, h, he => by
    rcases he with rfl | he
    · simp [linesS]
    · rw [lines_cons] at h
      rcases List.append_eq_append_iff.1 h with ⟨v, h1, h2⟩ | ⟨v, h1, h2⟩
      · -- t = a ++ v
        cases v with
        | nil =>
          simp only [List.append_nil] at h1
          subst h1
          exact absurd (List.mem_of_getLast? he) (ha t (by simp))
        | cons c v =>
          simp only [List.cons_append, List.cons.injEq] at h2
          obtain ⟨rfl, h2⟩ := h2
          have e : (a ++ 10 :: v).count 10 = v.count 10 + 1 := by
            rw [List.count_append, List.count_eq_zero_of_not_mem (ha a (by simp)), List.count_cons_self]; omega
          have hv : v = [] ∨ v.getLast? = some 10 := by
            cases v with
            | nil => exact Or.inl rfl
            | cons b r =>
              right
              rw [h1] at he
              simpa using he
          have ih := lines_pre L v u (fun b hb => ha b (by simp [hb])) h2 hv
          rw [h1, e, List.take_succ_cons, lines_cons, ← ih]
      · -- a = t ++ v
        exact absurd (List.mem_of_getLast? he) (fun hm => ha a (by simp) (by rw [h1]; simp [hm]))
theorem lines_last (a : List UInt8) (L : List (List UInt8)) : (linesS (a :: L)).getLast? = some 10 := by
  have : ∃ v, linesS (a :: L) = v ++ [10] := by
    induction L generalizing a with
    | nil => exact ⟨a, by simp [linesS]⟩
    | cons b L ih =>
      obtain ⟨v, hv⟩ := ih b
      exact ⟨a ++ 10 :: v, by rw [lines_cons, hv]; simp⟩
  obtain ⟨v, hv⟩ := this
  rw [hv]; simp
theorem lines_count (L : List (List UInt8)) (h : ∀ a ∈ L, (10 : UInt8) ∉ a) : (linesS L).count 10 = L.length := by
  induction L with
  | nil => rfl
  | cons a L ih =>
    rw [lines_cons, List.count_append, List.count_eq_zero_of_not_mem (h a (by simp)), List.count_cons_self, ih (fun b hb => h b (by simp [hb]))]
    simp
end Go.Proofs.YtmfbfhkhfhphfabDoor.It
