/-
  Part of the proof of BaseWaitsCard (I0 and on).
-/
import Derived.Shelf.Strings.OnBuilder
import Derived.Shelf.Strings.BuilderK
import Derived.Shelf.Strconv.Itoa3
import Derived.Shelf.Strings.SplitShaped
import Derived.Shelf.Strings.Shaped
import Derived.Shelf.Strings.Cut
import Derived.Shelf.Strings.Count
import Derived.Shelf.Strings.Prefix
import Derived.Shelf.Slices.Empties2
import Derived.Test.YtjmpjfikcgccdaaGreatDoorProg
import Derived.Shelf.Strconv.AtoiAll
import Derived.Lib.SplitLaws
import Derived.Lib.ItoaLen
import Derived.Lib.AtoiTie
import Derived.Lib.AtoiAll
import Derived.Lib.Join
import Derived.Below
import Derived.Shelf.Pu.Clone
import Derived.Test.YtjmpjfikcgccdaaGreatDoorB01
namespace Go.Proofs.YtjmpjfikcgccdaaGreatDoor.It
open Go.Shelf Go.RowKit
def lays156_ren:Go.Shelf.Ren:=⟨fun | 156 => 50 | 165 => 106 | 166 => 107 | 169 => 108 | 240 => 165 | 241 => 166 | 276 => 239 | 277 => 240 | n => n,fun | 31 => 108 | 9 => 9 | 3 => 3 | 4 => 4 | 0 => 0 | 20 => 20 | 72 => 182 | 76 => 183 | 70 => 179 | 37 => 180 | 75 => 40 | 127 => 266 | 164 => 207 | 5 => 5 | 80 => 159 | n => n,fun | n => n⟩
theorem lays156:Go.Proofs.Lays.n156 Tryz.prog lays156_ren:={
  mixed:=by kernel_rfl
  f156:=Tryz.func50.trans (congrArg some (by kernel_rfl))
  f165:=Tryz.func106.trans (congrArg some (by kernel_rfl))
  f166:=Tryz.func107.trans (congrArg some (by kernel_rfl))
  f169:=Tryz.func108.trans (congrArg some (by kernel_rfl))
  f240:=Tryz.func165.trans (congrArg some (by kernel_rfl))
  f241:=Tryz.func166.trans (congrArg some (by kernel_rfl))
  f276:=Tryz.func239.trans (congrArg some (by kernel_rfl))
  f277:=Tryz.func240.trans (congrArg some (by kernel_rfl))
  t0:=Tryz.underlying0
  a0:=Tryz.isAgg0
  z0:=Tryz.sizeOf0
  v0:=Tryz.zeroValue0
  t3:=Tryz.underlying3
  a3:=Tryz.isAgg3
  z3:=Tryz.sizeOf3
  v3:=Tryz.zeroValue3
  t4:=Tryz.underlying4
  a4:=Tryz.isAgg4
  z4:=Tryz.sizeOf4
  v4:=Tryz.zeroValue4
  t9:=Tryz.underlying9
  a9:=Tryz.isAgg9
  z9:=Tryz.sizeOf9
  v9:=Tryz.zeroValue9
  t20:=Tryz.underlying20
  a20:=Tryz.isAgg20
  z20:=Tryz.sizeOf20
  v20:=Tryz.zeroValue20
  t31:=Tryz.underlying108
  a31:=Tryz.isAgg108
  z31:=Tryz.sizeOf108
  v31:=Tryz.zeroValue108
  t37:=Tryz.underlying180
  a37:=Tryz.isAgg180
  z37:=Tryz.sizeOf180
  v37:=Tryz.zeroValue180
  t70:=Tryz.underlying179
  a70:=Tryz.isAgg179
  z70:=Tryz.sizeOf179
  v70:=Tryz.zeroValue179
  t72:=Tryz.underlying182
  a72:=Tryz.isAgg182
  z72:=Tryz.sizeOf182
  v72:=Tryz.zeroValue182
  t75:=Tryz.underlying40
  a75:=Tryz.isAgg40
  z75:=Tryz.sizeOf40
  v75:=Tryz.zeroValue40
  t76:=Tryz.underlying183
  a76:=Tryz.isAgg183
  z76:=Tryz.sizeOf183
  v76:=Tryz.zeroValue183
  t127:=Tryz.underlying266
  a127:=Tryz.isAgg266
  z127:=Tryz.sizeOf266
  v127:=Tryz.zeroValue266
  t164:=Tryz.underlying207
  a164:=Tryz.isAgg207
  z164:=Tryz.sizeOf207
  v164:=Tryz.zeroValue207 }
theorem Builder_Extra_156:Builder.Extra Tryz.prog lays156_ren:={
  sizeBuilder:=by kernel_rfl
  liesBuilder:=by kernel_rfl
  t5:=Tryz.underlying5
  a5:=Tryz.isAgg5
  z5:=Tryz.sizeOf5
  v5:=Tryz.zeroValue5
  infoByte:=by kernel_rfl
  cellsByte:=by kernel_rfl
  sizeByte:=by kernel_rfl
  neB5:=by decide }
def laysM171_ren:Go.Shelf.Ren:=⟨fun | 171 => 129 | 243 => 205 | 246 => 264 | 283 => 304 | 284 => 305 | 285 => 306 | 286 => 307 | 129 => 196 | 317 => 346 | 318 => 347 | 319 => 348 | 320 => 349 | 337 => 367 | 338 => 368 | n => n,fun | 3 => 3 | 9 => 9 | 2 => 2 | 4 => 4 | 171 => 389 | 0 => 0 | 53 => 107 | 37 => 180 | 5 => 5 | 173 => 391 | 212 => 418 | 51 => 100 | 20 => 20 | 213 => 419 | 46 => 175 | 232 => 401 | 233 => 424 | n => n,fun | 17 => 4 | 18 => 8 | 19 => 9 | n => n⟩
theorem laysM171:Go.Proofs.LaysM.n171 Tryz.prog laysM171_ren:={
  mixed:=by kernel_rfl
  f129:=Tryz.func196.trans (congrArg some (by kernel_rfl))
  f171:=Tryz.func129.trans (congrArg some (by kernel_rfl))
  f243:=Tryz.func205.trans (congrArg some (by kernel_rfl))
  f246:=Tryz.func264.trans (congrArg some (by kernel_rfl))
  f283:=Tryz.func304.trans (congrArg some (by kernel_rfl))
  f284:=Tryz.func305.trans (congrArg some (by kernel_rfl))
  f285:=Tryz.func306.trans (congrArg some (by kernel_rfl))
  f286:=Tryz.func307.trans (congrArg some (by kernel_rfl))
  f317:=Tryz.func346.trans (congrArg some (by kernel_rfl))
  f318:=Tryz.func347.trans (congrArg some (by kernel_rfl))
  f319:=Tryz.func348.trans (congrArg some (by kernel_rfl))
  f320:=Tryz.func349.trans (congrArg some (by kernel_rfl))
  f337:=Tryz.func367.trans (congrArg some (by kernel_rfl))
  f338:=Tryz.func368.trans (congrArg some (by kernel_rfl))
  t0:=Tryz.underlying0
  a0:=Tryz.isAgg0
  z0:=Tryz.sizeOf0
  v0:=Tryz.zeroValue0
  t2:=Tryz.underlying2
  a2:=Tryz.isAgg2
  z2:=Tryz.sizeOf2
  v2:=Tryz.zeroValue2
  t3:=Tryz.underlying3
  a3:=Tryz.isAgg3
  z3:=Tryz.sizeOf3
  v3:=Tryz.zeroValue3
  t4:=Tryz.underlying4
  a4:=Tryz.isAgg4
  z4:=Tryz.sizeOf4
  v4:=Tryz.zeroValue4
  t5:=Tryz.underlying5
  a5:=Tryz.isAgg5
  z5:=Tryz.sizeOf5
  v5:=Tryz.zeroValue5
  t9:=Tryz.underlying9
  a9:=Tryz.isAgg9
  z9:=Tryz.sizeOf9
  v9:=Tryz.zeroValue9
  t20:=Tryz.underlying20
  a20:=Tryz.isAgg20
  z20:=Tryz.sizeOf20
  v20:=Tryz.zeroValue20
  t37:=Tryz.underlying180
  a37:=Tryz.isAgg180
  z37:=Tryz.sizeOf180
  v37:=Tryz.zeroValue180
  t46:=Tryz.underlying175
  a46:=Tryz.isAgg175
  z46:=Tryz.sizeOf175
  v46:=Tryz.zeroValue175
  t51:=Tryz.underlying100
  a51:=Tryz.isAgg100
  z51:=Tryz.sizeOf100
  v51:=Tryz.zeroValue100
  t53:=Tryz.underlying107
  a53:=Tryz.isAgg107
  z53:=Tryz.sizeOf107
  v53:=Tryz.zeroValue107
  t171:=Tryz.underlying389
  a171:=Tryz.isAgg389
  z171:=Tryz.sizeOf389
  v171:=Tryz.zeroValue389
  t173:=Tryz.underlying391
  a173:=Tryz.isAgg391
  z173:=Tryz.sizeOf391
  v173:=Tryz.zeroValue391
  t212:=Tryz.underlying418
  a212:=Tryz.isAgg418
  z212:=Tryz.sizeOf418
  v212:=Tryz.zeroValue418
  t213:=Tryz.underlying419
  a213:=Tryz.isAgg419
  z213:=Tryz.sizeOf419
  t232:=Tryz.underlying401
  a232:=Tryz.isAgg401
  z232:=Tryz.sizeOf401
  v232:=Tryz.zeroValue401
  t233:=Tryz.underlying424
  a233:=Tryz.isAgg424
  z233:=Tryz.sizeOf424
  v233:=Tryz.zeroValue424
  g17:=by kernel_rfl
  g18:=by kernel_rfl
  g19:=by kernel_rfl
  i0:=by kernel_rfl
  i2:=by kernel_rfl
  i3:=by kernel_rfl
  i4:=by kernel_rfl
  i5:=by kernel_rfl
  i9:=by kernel_rfl
  i20:=by kernel_rfl
  i37:=by kernel_rfl
  i46:=by kernel_rfl
  i51:=by kernel_rfl
  i53:=by kernel_rfl
  i171:=by kernel_rfl
  i173:=by kernel_rfl
  i212:=by kernel_rfl
  i232:=by kernel_rfl
  i233:=by kernel_rfl
  m17:=by kernel_rfl
  m18:=by kernel_rfl
  m19:=by kernel_rfl }
def lays145_ren:Go.Shelf.Ren:=⟨fun | 145 => 180 | 220 => 256 | 219 => 292 | 217 => 332 | 225 => 333 | 224 => 334 | 267 => 335 | 266 => 358 | 314 => 359 | n => n,fun | 9 => 9 | 4 => 4 | 59 => 274 | 3 => 3 | 5 => 5 | 46 => 175 | 146 => 329 | 51 => 100 | n => n,fun | 1 => 1 | n => n⟩
theorem lays145:Go.Proofs.Lays.n145 Tryz.prog lays145_ren:={
  mixed:=by kernel_rfl
  f145:=Tryz.func180.trans (congrArg some (by kernel_rfl))
  f217:=Tryz.func332.trans (congrArg some (by kernel_rfl))
  f219:=Tryz.func292.trans (congrArg some (by kernel_rfl))
  f220:=Tryz.func256.trans (congrArg some (by kernel_rfl))
  f224:=Tryz.func334.trans (congrArg some (by kernel_rfl))
  f225:=Tryz.func333.trans (congrArg some (by kernel_rfl))
  f266:=Tryz.func358.trans (congrArg some (by kernel_rfl))
  f267:=Tryz.func335.trans (congrArg some (by kernel_rfl))
  f314:=Tryz.func359.trans (congrArg some (by kernel_rfl))
  t3:=Tryz.underlying3
  a3:=Tryz.isAgg3
  z3:=Tryz.sizeOf3
  v3:=Tryz.zeroValue3
  t4:=Tryz.underlying4
  a4:=Tryz.isAgg4
  z4:=Tryz.sizeOf4
  v4:=Tryz.zeroValue4
  t5:=Tryz.underlying5
  a5:=Tryz.isAgg5
  z5:=Tryz.sizeOf5
  v5:=Tryz.zeroValue5
  t9:=Tryz.underlying9
  a9:=Tryz.isAgg9
  z9:=Tryz.sizeOf9
  v9:=Tryz.zeroValue9
  t46:=Tryz.underlying175
  a46:=Tryz.isAgg175
  z46:=Tryz.sizeOf175
  v46:=Tryz.zeroValue175
  t51:=Tryz.underlying100
  a51:=Tryz.isAgg100
  z51:=Tryz.sizeOf100
  v51:=Tryz.zeroValue100
  t59:=Tryz.underlying274
  a59:=Tryz.isAgg274
  z59:=Tryz.sizeOf274
  v59:=Tryz.zeroValue274
  t146:=Tryz.underlying329
  a146:=Tryz.isAgg329
  z146:=Tryz.sizeOf329
  v146:=Tryz.zeroValue329
  g1:=by kernel_rfl }
def laysM145_ren:Go.Shelf.Ren:=⟨fun | 145 => 180 | 220 => 256 | 219 => 292 | 217 => 332 | 225 => 333 | 224 => 334 | 267 => 335 | 266 => 358 | 314 => 359 | n => n,fun | 9 => 9 | 4 => 4 | 59 => 274 | 3 => 3 | 5 => 5 | 46 => 175 | 146 => 329 | 51 => 100 | n => n,fun | 1 => 1 | n => n⟩
theorem laysM145:Go.Proofs.LaysM.n145 Tryz.prog laysM145_ren:={
  mixed:=by kernel_rfl
  f145:=Tryz.func180.trans (congrArg some (by kernel_rfl))
  f217:=Tryz.func332.trans (congrArg some (by kernel_rfl))
  f219:=Tryz.func292.trans (congrArg some (by kernel_rfl))
  f220:=Tryz.func256.trans (congrArg some (by kernel_rfl))
  f224:=Tryz.func334.trans (congrArg some (by kernel_rfl))
  f225:=Tryz.func333.trans (congrArg some (by kernel_rfl))
  f266:=Tryz.func358.trans (congrArg some (by kernel_rfl))
  f267:=Tryz.func335.trans (congrArg some (by kernel_rfl))
  f314:=Tryz.func359.trans (congrArg some (by kernel_rfl))
  t3:=Tryz.underlying3
  a3:=Tryz.isAgg3
  z3:=Tryz.sizeOf3
  v3:=Tryz.zeroValue3
  t4:=Tryz.underlying4
  a4:=Tryz.isAgg4
  z4:=Tryz.sizeOf4
  v4:=Tryz.zeroValue4
  t5:=Tryz.underlying5
  a5:=Tryz.isAgg5
  z5:=Tryz.sizeOf5
  v5:=Tryz.zeroValue5
  t9:=Tryz.underlying9
  a9:=Tryz.isAgg9
  z9:=Tryz.sizeOf9
  v9:=Tryz.zeroValue9
  t46:=Tryz.underlying175
  a46:=Tryz.isAgg175
  z46:=Tryz.sizeOf175
  v46:=Tryz.zeroValue175
  t51:=Tryz.underlying100
  a51:=Tryz.isAgg100
  z51:=Tryz.sizeOf100
  v51:=Tryz.zeroValue100
  t59:=Tryz.underlying274
  a59:=Tryz.isAgg274
  z59:=Tryz.sizeOf274
  v59:=Tryz.zeroValue274
  t146:=Tryz.underlying329
  a146:=Tryz.isAgg329
  z146:=Tryz.sizeOf329
  v146:=Tryz.zeroValue329
  g1:=by kernel_rfl
  i3:=by kernel_rfl
  i4:=by kernel_rfl
  i5:=by kernel_rfl
  i9:=by kernel_rfl
  i46:=by kernel_rfl
  i51:=by kernel_rfl
  i59:=by kernel_rfl
  i146:=by kernel_rfl
  m1:=by kernel_rfl
  s1_3:=fun w h => Go.Proofs.cell_of_shapedOpen_int (zero:=#[.int .i64 0]) (t:=3) h (of_decide_eq_true (by kernel_rfl)) (by kernel_rfl) rfl (by kernel_rfl) (by kernel_rfl) Tryz.underlying3 }
def lays138_ren:Go.Shelf.Ren:=⟨fun | 138 => 242 | 195 => 289 | 218 => 291 | 143 => 243 | 219 => 292 | 217 => 332 | 225 => 333 | 224 => 334 | 267 => 335 | 266 => 358 | 314 => 359 | n => n,fun | 9 => 9 | 3 => 3 | 4 => 4 | 5 => 5 | 0 => 0 | 46 => 175 | 146 => 329 | 51 => 100 | n => n,fun | 1 => 1 | n => n⟩
theorem lays138:Go.Proofs.Lays.n138 Tryz.prog lays138_ren:={
  mixed:=by kernel_rfl
  f138:=Tryz.func242.trans (congrArg some (by kernel_rfl))
  f143:=Tryz.func243.trans (congrArg some (by kernel_rfl))
  f195:=Tryz.func289.trans (congrArg some (by kernel_rfl))
  f217:=Tryz.func332.trans (congrArg some (by kernel_rfl))
  f218:=Tryz.func291.trans (congrArg some (by kernel_rfl))
  f219:=Tryz.func292.trans (congrArg some (by kernel_rfl))
  f224:=Tryz.func334.trans (congrArg some (by kernel_rfl))
  f225:=Tryz.func333.trans (congrArg some (by kernel_rfl))
  f266:=Tryz.func358.trans (congrArg some (by kernel_rfl))
  f267:=Tryz.func335.trans (congrArg some (by kernel_rfl))
  f314:=Tryz.func359.trans (congrArg some (by kernel_rfl))
  t0:=Tryz.underlying0
  a0:=Tryz.isAgg0
  z0:=Tryz.sizeOf0
  v0:=Tryz.zeroValue0
  t3:=Tryz.underlying3
  a3:=Tryz.isAgg3
  z3:=Tryz.sizeOf3
  v3:=Tryz.zeroValue3
  t4:=Tryz.underlying4
  a4:=Tryz.isAgg4
  z4:=Tryz.sizeOf4
  v4:=Tryz.zeroValue4
  t5:=Tryz.underlying5
  a5:=Tryz.isAgg5
  z5:=Tryz.sizeOf5
  v5:=Tryz.zeroValue5
  t9:=Tryz.underlying9
  a9:=Tryz.isAgg9
  z9:=Tryz.sizeOf9
  v9:=Tryz.zeroValue9
  t46:=Tryz.underlying175
  a46:=Tryz.isAgg175
  z46:=Tryz.sizeOf175
  v46:=Tryz.zeroValue175
  t51:=Tryz.underlying100
  a51:=Tryz.isAgg100
  z51:=Tryz.sizeOf100
  v51:=Tryz.zeroValue100
  t146:=Tryz.underlying329
  a146:=Tryz.isAgg329
  z146:=Tryz.sizeOf329
  v146:=Tryz.zeroValue329
  g1:=by kernel_rfl }
def lays101_ren:Go.Shelf.Ren:=⟨fun | 101 => 111 | 208 => 170 | 206 => 237 | n => n,fun | 9 => 9 | 4 => 4 | 3 => 3 | n => n,fun | n => n⟩
theorem lays101:Go.Proofs.Lays.n101 Tryz.prog lays101_ren:={
  mixed:=by kernel_rfl
  f101:=Tryz.func111.trans (congrArg some (by kernel_rfl))
  f206:=Tryz.func237.trans (congrArg some (by kernel_rfl))
  f208:=Tryz.func170.trans (congrArg some (by kernel_rfl))
  t3:=Tryz.underlying3
  a3:=Tryz.isAgg3
  z3:=Tryz.sizeOf3
  v3:=Tryz.zeroValue3
  t4:=Tryz.underlying4
  a4:=Tryz.isAgg4
  z4:=Tryz.sizeOf4
  v4:=Tryz.zeroValue4
  t9:=Tryz.underlying9
  a9:=Tryz.isAgg9
  z9:=Tryz.sizeOf9
  v9:=Tryz.zeroValue9 }
def lays147_ren:Go.Shelf.Ren:=⟨fun | 147 => 257 | 221 => 167 | 268 => 241 | 138 => 242 | 143 => 243 | 195 => 289 | 197 => 290 | 218 => 291 | 219 => 292 | 260 => 331 | 217 => 332 | 225 => 333 | 224 => 334 | 267 => 335 | 266 => 358 | 314 => 359 | n => n,fun | 9 => 9 | 3 => 3 | 31 => 108 | 4 => 4 | 0 => 0 | 105 => 372 | 21 => 21 | 5 => 5 | 46 => 175 | 119 => 112 | 139 => 429 | 138 => 428 | 146 => 329 | 51 => 100 | n => n,fun | 1 => 1 | 3 => 5 | 4 => 6 | n => n⟩
theorem lays147:Go.Proofs.Lays.n147 Tryz.prog lays147_ren:={
  mixed:=by kernel_rfl
  f138:=Tryz.func242.trans (congrArg some (by kernel_rfl))
  f143:=Tryz.func243.trans (congrArg some (by kernel_rfl))
  f147:=Tryz.func257.trans (congrArg some (by kernel_rfl))
  f195:=Tryz.func289.trans (congrArg some (by kernel_rfl))
  f197:=Tryz.func290.trans (congrArg some (by kernel_rfl))
  f217:=Tryz.func332.trans (congrArg some (by kernel_rfl))
  f218:=Tryz.func291.trans (congrArg some (by kernel_rfl))
  f219:=Tryz.func292.trans (congrArg some (by kernel_rfl))
  f221:=Tryz.func167.trans (congrArg some (by kernel_rfl))
  f224:=Tryz.func334.trans (congrArg some (by kernel_rfl))
  f225:=Tryz.func333.trans (congrArg some (by kernel_rfl))
  f260:=Tryz.func331.trans (congrArg some (by kernel_rfl))
  f266:=Tryz.func358.trans (congrArg some (by kernel_rfl))
  f267:=Tryz.func335.trans (congrArg some (by kernel_rfl))
  f268:=Tryz.func241.trans (congrArg some (by kernel_rfl))
  f314:=Tryz.func359.trans (congrArg some (by kernel_rfl))
  t0:=Tryz.underlying0
  a0:=Tryz.isAgg0
  z0:=Tryz.sizeOf0
  v0:=Tryz.zeroValue0
  t3:=Tryz.underlying3
  a3:=Tryz.isAgg3
  z3:=Tryz.sizeOf3
  v3:=Tryz.zeroValue3
  t4:=Tryz.underlying4
  a4:=Tryz.isAgg4
  z4:=Tryz.sizeOf4
  v4:=Tryz.zeroValue4
  t5:=Tryz.underlying5
  a5:=Tryz.isAgg5
  z5:=Tryz.sizeOf5
  v5:=Tryz.zeroValue5
  t9:=Tryz.underlying9
  a9:=Tryz.isAgg9
  z9:=Tryz.sizeOf9
  v9:=Tryz.zeroValue9
  t21:=Tryz.underlying21
  a21:=Tryz.isAgg21
  z21:=Tryz.sizeOf21
  v21:=Tryz.zeroValue21
  t31:=Tryz.underlying108
  a31:=Tryz.isAgg108
  z31:=Tryz.sizeOf108
  v31:=Tryz.zeroValue108
  t46:=Tryz.underlying175
  a46:=Tryz.isAgg175
  z46:=Tryz.sizeOf175
  v46:=Tryz.zeroValue175
  t51:=Tryz.underlying100
  a51:=Tryz.isAgg100
  z51:=Tryz.sizeOf100
  v51:=Tryz.zeroValue100
  t105:=Tryz.underlying372
  a105:=Tryz.isAgg372
  z105:=Tryz.sizeOf372
  v105:=Tryz.zeroValue372
  t119:=Tryz.underlying112
  a119:=Tryz.isAgg112
  z119:=Tryz.sizeOf112
  t138:=Tryz.underlying428
  a138:=Tryz.isAgg428
  z138:=Tryz.sizeOf428
  v138:=Tryz.zeroValue428
  t139:=Tryz.underlying429
  a139:=Tryz.isAgg429
  z139:=Tryz.sizeOf429
  v139:=Tryz.zeroValue429
  t146:=Tryz.underlying329
  a146:=Tryz.isAgg329
  z146:=Tryz.sizeOf329
  v146:=Tryz.zeroValue329
  g1:=by kernel_rfl
  g3:=by kernel_rfl
  g4:=by kernel_rfl }
def lays111_ren:Go.Shelf.Ren:=⟨fun | 111 => 94 | n => n,fun | 28 => 23 | 3 => 3 | 4 => 4 | 0 => 0 | n => n,fun | n => n⟩
theorem lays111:Go.Proofs.Lays.n111 Tryz.prog lays111_ren:={
  mixed:=by kernel_rfl
  f111:=Tryz.func94.trans (congrArg some (by kernel_rfl))
  t0:=Tryz.underlying0
  a0:=Tryz.isAgg0
  z0:=Tryz.sizeOf0
  v0:=Tryz.zeroValue0
  t3:=Tryz.underlying3
  a3:=Tryz.isAgg3
  z3:=Tryz.sizeOf3
  v3:=Tryz.zeroValue3
  t4:=Tryz.underlying4
  a4:=Tryz.isAgg4
  z4:=Tryz.sizeOf4
  v4:=Tryz.zeroValue4
  t28:=Tryz.underlying23
  a28:=Tryz.isAgg23
  z28:=Tryz.sizeOf23
  v28:=Tryz.zeroValue23 }
def laysC172_ren:Go.Shelf.Ren:=⟨fun | 172 => 110 | 244 => 168 | 245 => 169 | 247 => 244 | 279 => 245 | 280 => 246 | 281 => 247 | 282 => 248 | 287 => 293 | 316 => 294 | 171 => 129 | 205 => 295 | 321 => 336 | 322 => 337 | 243 => 205 | 246 => 264 | 283 => 304 | 284 => 305 | 285 => 306 | 286 => 307 | 129 => 196 | 317 => 346 | 318 => 347 | 319 => 348 | 320 => 349 | 337 => 367 | 338 => 368 | n => n,fun | 9 => 9 | 3 => 3 | 75 => 40 | 76 => 183 | 4 => 4 | 5 => 5 | 167 => 337 | 37 => 180 | 0 => 0 | 85 => 338 | 2 => 2 | 168 => 340 | 53 => 107 | 175 => 375 | 46 => 175 | 210 => 378 | 127 => 266 | 145 => 414 | 143 => 412 | 21 => 21 | 171 => 389 | 173 => 391 | 212 => 418 | 51 => 100 | 20 => 20 | 213 => 419 | 232 => 401 | 233 => 424 | 80 => 159 | n => n,fun | 15 => 2 | 16 => 3 | 17 => 4 | 18 => 8 | 19 => 9 | n => n⟩
theorem laysC172:Go.Proofs.LaysC.n172 Tryz.prog laysC172_ren:={
  mixed:=by kernel_rfl
  f129:=Tryz.func196.trans (congrArg some (by kernel_rfl))
  f171:=Tryz.func129.trans (congrArg some (by kernel_rfl))
  f172:=Tryz.func110.trans (congrArg some (by kernel_rfl))
  f205:=Tryz.func295.trans (congrArg some (by kernel_rfl))
  f243:=Tryz.func205.trans (congrArg some (by kernel_rfl))
  f244:=Tryz.func168.trans (congrArg some (by kernel_rfl))
  f245:=Tryz.func169.trans (congrArg some (by kernel_rfl))
  f246:=Tryz.func264.trans (congrArg some (by kernel_rfl))
  f247:=Tryz.func244.trans (congrArg some (by kernel_rfl))
  f279:=Tryz.func245.trans (congrArg some (by kernel_rfl))
  f280:=Tryz.func246.trans (congrArg some (by kernel_rfl))
  f281:=Tryz.func247.trans (congrArg some (by kernel_rfl))
  f282:=Tryz.func248.trans (congrArg some (by kernel_rfl))
  f283:=Tryz.func304.trans (congrArg some (by kernel_rfl))
  f284:=Tryz.func305.trans (congrArg some (by kernel_rfl))
  f285:=Tryz.func306.trans (congrArg some (by kernel_rfl))
  f286:=Tryz.func307.trans (congrArg some (by kernel_rfl))
  f287:=Tryz.func293.trans (congrArg some (by kernel_rfl))
  f316:=Tryz.func294.trans (congrArg some (by kernel_rfl))
  f317:=Tryz.func346.trans (congrArg some (by kernel_rfl))
  f318:=Tryz.func347.trans (congrArg some (by kernel_rfl))
  f319:=Tryz.func348.trans (congrArg some (by kernel_rfl))
  f320:=Tryz.func349.trans (congrArg some (by kernel_rfl))
  f321:=Tryz.func336.trans (congrArg some (by kernel_rfl))
  f322:=Tryz.func337.trans (congrArg some (by kernel_rfl))
  f337:=Tryz.func367.trans (congrArg some (by kernel_rfl))
  f338:=Tryz.func368.trans (congrArg some (by kernel_rfl))
  t0:=Tryz.underlying0
  a0:=Tryz.isAgg0
  z0:=Tryz.sizeOf0
  v0:=Tryz.zeroValue0
  t2:=Tryz.underlying2
  a2:=Tryz.isAgg2
  z2:=Tryz.sizeOf2
  v2:=Tryz.zeroValue2
  t3:=Tryz.underlying3
  a3:=Tryz.isAgg3
  z3:=Tryz.sizeOf3
  v3:=Tryz.zeroValue3
  t4:=Tryz.underlying4
  a4:=Tryz.isAgg4
  z4:=Tryz.sizeOf4
  v4:=Tryz.zeroValue4
  t5:=Tryz.underlying5
  a5:=Tryz.isAgg5
  z5:=Tryz.sizeOf5
  v5:=Tryz.zeroValue5
  t9:=Tryz.underlying9
  a9:=Tryz.isAgg9
  z9:=Tryz.sizeOf9
  v9:=Tryz.zeroValue9
  t20:=Tryz.underlying20
  a20:=Tryz.isAgg20
  z20:=Tryz.sizeOf20
  v20:=Tryz.zeroValue20
  t21:=Tryz.underlying21
  a21:=Tryz.isAgg21
  z21:=Tryz.sizeOf21
  v21:=Tryz.zeroValue21
  t37:=Tryz.underlying180
  a37:=Tryz.isAgg180
  z37:=Tryz.sizeOf180
  v37:=Tryz.zeroValue180
  t46:=Tryz.underlying175
  a46:=Tryz.isAgg175
  z46:=Tryz.sizeOf175
  v46:=Tryz.zeroValue175
  t51:=Tryz.underlying100
  a51:=Tryz.isAgg100
  z51:=Tryz.sizeOf100
  v51:=Tryz.zeroValue100
  t53:=Tryz.underlying107
  a53:=Tryz.isAgg107
  z53:=Tryz.sizeOf107
  v53:=Tryz.zeroValue107
  t75:=Tryz.underlying40
  a75:=Tryz.isAgg40
  z75:=Tryz.sizeOf40
  v75:=Tryz.zeroValue40
  t76:=Tryz.underlying183
  a76:=Tryz.isAgg183
  z76:=Tryz.sizeOf183
  v76:=Tryz.zeroValue183
  t85:=Tryz.underlying338
  a85:=Tryz.isAgg338
  z85:=Tryz.sizeOf338
  v85:=Tryz.zeroValue338
  t127:=Tryz.underlying266
  a127:=Tryz.isAgg266
  z127:=Tryz.sizeOf266
  v127:=Tryz.zeroValue266
  t143:=Tryz.underlying412
  a143:=Tryz.isAgg412
  z143:=Tryz.sizeOf412
  v143:=Tryz.zeroValue412
  t145:=Tryz.underlying414
  a145:=Tryz.isAgg414
  z145:=Tryz.sizeOf414
  v145:=Tryz.zeroValue414
  t167:=Tryz.underlying337
  a167:=Tryz.isAgg337
  z167:=Tryz.sizeOf337
  v167:=Tryz.zeroValue337
  t168:=Tryz.underlying340
  a168:=Tryz.isAgg340
  z168:=Tryz.sizeOf340
  v168:=Tryz.zeroValue340
  t171:=Tryz.underlying389
  a171:=Tryz.isAgg389
  z171:=Tryz.sizeOf389
  v171:=Tryz.zeroValue389
  t173:=Tryz.underlying391
  a173:=Tryz.isAgg391
  z173:=Tryz.sizeOf391
  v173:=Tryz.zeroValue391
  t175:=Tryz.underlying375
  a175:=Tryz.isAgg375
  z175:=Tryz.sizeOf375
  v175:=Tryz.zeroValue375
  t210:=Tryz.underlying378
  a210:=Tryz.isAgg378
  z210:=Tryz.sizeOf378
  v210:=Tryz.zeroValue378
  t212:=Tryz.underlying418
  a212:=Tryz.isAgg418
  z212:=Tryz.sizeOf418
  v212:=Tryz.zeroValue418
  t213:=Tryz.underlying419
  a213:=Tryz.isAgg419
  z213:=Tryz.sizeOf419
  t232:=Tryz.underlying401
  a232:=Tryz.isAgg401
  z232:=Tryz.sizeOf401
  v232:=Tryz.zeroValue401
  t233:=Tryz.underlying424
  a233:=Tryz.isAgg424
  z233:=Tryz.sizeOf424
  v233:=Tryz.zeroValue424
  g15:=by kernel_rfl
  g16:=by kernel_rfl
  g17:=by kernel_rfl
  g18:=by kernel_rfl
  g19:=by kernel_rfl
  t80:=Tryz.underlying159
  a80:=Tryz.isAgg159
  z80:=Tryz.sizeOf159
  v80:=Tryz.zeroValue159
  i0:=by kernel_rfl
  i2:=by kernel_rfl
  i3:=by kernel_rfl
  i4:=by kernel_rfl
  i5:=by kernel_rfl
  i9:=by kernel_rfl
  i20:=by kernel_rfl
  i21:=by kernel_rfl
  i37:=by kernel_rfl
  i46:=by kernel_rfl
  i51:=by kernel_rfl
  i53:=by kernel_rfl
  i75:=by kernel_rfl
  i76:=by kernel_rfl
  i80:=by kernel_rfl
  i85:=by kernel_rfl
  i127:=by kernel_rfl
  i143:=by kernel_rfl
  i145:=by kernel_rfl
  i167:=by kernel_rfl
  i168:=by kernel_rfl
  i171:=by kernel_rfl
  i173:=by kernel_rfl
  i175:=by kernel_rfl
  i210:=by kernel_rfl
  i212:=by kernel_rfl
  i232:=by kernel_rfl
  i233:=by kernel_rfl
  m15:=by kernel_rfl
  m16:=by kernel_rfl
  m17:=by kernel_rfl
  m18:=by kernel_rfl
  m19:=by kernel_rfl
  c0:=by kernel_rfl
  c2:=by kernel_rfl
  c3:=by kernel_rfl
  c4:=by kernel_rfl
  c5:=by kernel_rfl
  c9:=by kernel_rfl
  c20:=by kernel_rfl
  c21:=by kernel_rfl
  c37:=by kernel_rfl
  c46:=by kernel_rfl
  c51:=by kernel_rfl
  c53:=by kernel_rfl
  c75:=by kernel_rfl
  c76:=by kernel_rfl
  c80:=by kernel_rfl
  c85:=by kernel_rfl
  c127:=by kernel_rfl
  c143:=by kernel_rfl
  c145:=by kernel_rfl
  c167:=by kernel_rfl
  c168:=by kernel_rfl
  c171:=by kernel_rfl
  c173:=by kernel_rfl
  c175:=by kernel_rfl
  c210:=by kernel_rfl
  c212:=by kernel_rfl
  c213:=by kernel_rfl
  c232:=by kernel_rfl
  c233:=by kernel_rfl }
end Go.Proofs.YtjmpjfikcgccdaaGreatDoor.It
namespace Go.Proofs.YtjmpjfikcgccdaaGreatDoor.It
open Go.Lib
structure Itm where
  name:ByteArray
  tag:ByteArray
  nums:List Int
def isLet (c:UInt8):Bool:=decide (97 <= c.toNat) && decide (c.toNat <= 122)
def isDig (c:UInt8):Bool:=decide (48 <= c.toNat) && decide (c.toNat <= 57)
def nameB (s:ByteArray):Bool:=decide (1 <= s.size) && decide (s.size <= 10) && isLet (s.data.toList.getD 0 0) && s.data.toList.all fun c => isLet c || isDig c
def dimB (d:Int):Bool:=decide (1 <= d) && decide (d <= 8)
def numB (n:Int):Bool:=decide (-1000 <= n) && decide (n <= 1000)
def tagB (s:ByteArray):Bool:=decide (s.size = 0) || nameB s
def rightB (x:Itm) (d:Int):Bool:=dimB d && decide ((x.nums.length:Int) = d) && nameB x.name && tagB x.tag && x.nums.all numB
def lineS (x:Itm):List UInt8:=join (x.name.data.toList :: x.tag.data.toList :: x.nums.map itoa) [32]
def headS (d:Int):List UInt8:=[100,105,109,32] ++ itoa d
def linesS (L:List (List UInt8)):List UInt8:=(L.map (· ++ [10])).flatten
def textS (d:Int) (xs:List Itm):List UInt8:=linesS (headS d :: xs.map lineS)
def numP (l:List UInt8):Option Int:=match atoiAll l with
  | .ok v => some v
  | _ => none
def numsP:List (List UInt8) -> Option (List Int)
  | [] => some []
  | w :: r => match numP w with
    | none => none
    | some n => (numsP r).map (n :: ·)
def itemP (l:List UInt8):Option Itm:=match splitN l [32] 10 with
  | a :: b :: r => (numsP r).map fun ns => ⟨⟨a.toArray⟩,⟨b.toArray⟩,ns⟩
  | _ => none
def itemsP:Nat -> List UInt8 -> Option (List Itm)
  | _,[] => some []
  | 0,_ :: _ => none
  | m + 1,c :: l => match itemP (cut (c :: l) [10]).1 with
    | none => none
    | some x => (itemsP m (cut (c :: l) [10]).2.1).map (x :: ·)
def trimP (l:List UInt8):List UInt8:=if [100,105,109,32].isPrefixOf l then l.drop 4 else l
def fieldsP (l:List UInt8):Option (Int × List Itm):=match numP (trimP (cut l [10]).1) with
  | none => none
  | some d => (itemsP 60 (cut l [10]).2.1).map fun xs => (d,xs)
theorem decFrom_snoc (b:UInt8) (d:Nat) (hd:digitVal b = some d):∀ (l:List UInt8) (acc n:Nat),decFrom acc l = some n -> decFrom acc (l ++ [b]) = some (n * 10 + d)
  | [],acc,n,h => by simp only [decFrom,Option.some.injEq] at h;subst h;simp [decFrom,hd]
  | a :: t,acc,n,h => by
    simp only [List.cons_append,decFrom] at h ⊢
    cases ha:digitVal a with
    | none => simp [ha] at h
    | some e => simp only [ha] at h ⊢;exact decFrom_snoc b d hd t _ n h
theorem digitVal_of (u:Nat) (h:u < 10):digitVal (UInt8.ofNat (48 + u)) = some u:=by
  unfold digitVal
  rw [UInt8.toNat_ofNat',Nat.mod_eq_of_lt (by omega),if_pos (by omega)]
  congr 1;omega
theorem decFrom_digits (u:Nat):decFrom 0 (decDigits u) = some u:=by
  induction u using Nat.strongRecOn with
  | _ u ih =>
    rw [decDigits]
    by_cases h:u < 10
    · rw [dif_pos h];simp only [decFrom,digitVal_of u h,Nat.zero_mul,Nat.zero_add]
    · rw [dif_neg h,decFrom_snoc _ (u % 10) (digitVal_of _ (Nat.mod_lt _ (by decide))) _ _ _ (ih (u / 10) (by omega))]
      congr 1;omega
theorem digits_byte (u:Nat):∀ b ∈ decDigits u,48 <= b.toNat ∧ b.toNat <= 57:=by
  induction u using Nat.strongRecOn with
  | _ u ih =>
    rw [decDigits]
    by_cases h:u < 10
    · rw [dif_pos h]
      intro b hb
      rw [List.mem_singleton] at hb;subst hb
      rw [UInt8.toNat_ofNat',Nat.mod_eq_of_lt (by omega)];omega
    · rw [dif_neg h]
      intro b hb
      rcases List.mem_append.1 hb with hb | hb
      · exact ih (u / 10) (by omega) b hb
      · rw [List.mem_singleton] at hb;subst hb
        have:=Nat.mod_lt u (show 0 < 10 by decide)
        rw [UInt8.toNat_ofNat',Nat.mod_eq_of_lt (by omega)];omega
theorem digits_ne (u:Nat):decDigits u ≠ []:=by
  rw [decDigits];split <;> simp
theorem digits_len:∀ (k u:Nat),u < 10 ^ (k + 1) -> (decDigits u).length <= k + 1
  | 0,u,h => by rw [decDigits,dif_pos (by simpa using h)];simp
  | k + 1,u,h => by
    rw [decDigits]
    split
    · simp
    · have:=digits_len k (u / 10) (by rw [Nat.pow_succ] at h;omega)
      simp;omega
theorem itoa_len (n:Int) (h0:-1000 <= n) (h1:n <= 1000):(itoa n).length <= 5:=by
  unfold itoa
  split
  · have:=digits_len 3 n.natAbs (by omega)
    simp;omega
  · have:=digits_len 3 n.toNat (by omega)
    omega
theorem decNat_digits (u:Nat):decNat (decDigits u) = some u:=by
  unfold decNat
  have:=digits_ne u
  rw [if_neg (by simpa using this),decFrom_digits]
theorem atoi_itoa (n:Int):atoi (itoa n) = some n:=by
  unfold itoa
  by_cases h:n < 0
  · rw [if_pos h]
    simp only [atoi,beq_self_eq_true,if_true,decNat_digits,Option.map_some]
    congr 1;omega
  · rw [if_neg h]
    have hn:=decNat_digits n.toNat
    cases e:decDigits n.toNat with
    | nil => exact absurd e (digits_ne _)
    | cons b r =>
      have hb:=digits_byte n.toNat b (by rw [e];simp)
      have h1:¬ (b == 45) = true:=by intro h';rw [beq_iff_eq] at h';subst h';revert hb;decide
      have h2:¬ (b == 43) = true:=by intro h';rw [beq_iff_eq] at h';subst h';revert hb;decide
      rw [e] at hn
      simp only [atoi]
      rw [if_neg h1,if_neg h2,hn]
      simp;omega
theorem numP_itoa (n:Int) (h0:-1000 <= n) (h1:n <= 1000):numP (itoa n) = some n:=by
  unfold numP
  rw [atoiAll_short _ (by have:=itoa_len n h0 h1;omega),atoi_itoa];rfl
theorem itoa_byte (n:Int):∀ b ∈ itoa n,b.toNat = 45 ∨ (48 <= b.toNat ∧ b.toNat <= 57):=by
  intro b hb
  unfold itoa at hb
  split at hb
  · rcases List.mem_cons.1 hb with rfl | hb
    · left;decide
    · exact Or.inr (digits_byte _ b hb)
  · exact Or.inr (digits_byte _ b hb)
theorem numsP_itoa:∀ (ns:List Int),ns.all numB = true -> numsP (ns.map itoa) = some ns
  | [],_ => rfl
  | n :: r,h => by
    simp only [List.all_cons,Bool.and_eq_true] at h
    have hn:-1000 <= n ∧ n <= 1000:=by simpa [numB] using h.1
    simp only [List.map_cons,numsP,numP_itoa n hn.1 hn.2,numsP_itoa r h.2,Option.map_some]
theorem occ_byte (c:UInt8) (l:List UInt8) (j:Nat):occAt l [c] j = (l[j]? == some c):=by
  unfold occAt
  rw [<- List.head?_drop]
  cases l.drop j with
  | nil => rfl
  | cons b t =>
    simp only [List.isPrefixOf,List.head?_cons,Bool.and_true]
    rw [Bool.eq_iff_iff];simp;exact eq_comm
theorem index_at (c:UInt8) (a b:List UInt8) (h:c ∉ a):index (a ++ c :: b) [c] = (a.length:Int):=by
  refine index_first (by simp) ?_ fun j hj => ?_
  · rw [occ_byte];simp
  · rw [occ_byte,List.getElem?_append_left hj,beq_eq_false_iff_ne]
    intro e;exact h (List.mem_of_getElem? e)
theorem index_no (c:UInt8) (a:List UInt8) (h:c ∉ a):index a [c] = -1:=by
  refine index_none fun j _ => ?_
  rw [occ_byte,beq_eq_false_iff_ne]
  intro e;exact h (List.mem_of_getElem? e)
theorem cut_at (c:UInt8) (a b:List UInt8) (h:c ∉ a):cut (a ++ c :: b) [c] = (a,b,true):=by
  unfold cut
  rw [index_at c a b h,if_pos (by omega)]
  simp
theorem join_two (x y:List UInt8) (r:List (List UInt8)) (c:UInt8):join (x :: y :: r) [c] = x ++ c :: join (y :: r) [c]:=by
  rw [join_cons,join_cons];simp [joinTail]
theorem join_len (c:UInt8):∀ (x:List UInt8) (r:List (List UInt8)),r.length <= (join (x :: r) [c]).length
  | x,[] => by simp
  | x,y :: r => by have:=join_len c y r;rw [join_two];simp at this ⊢;omega
theorem splitK_join (c:UInt8):∀ (x:List UInt8) (r:List (List UInt8)) (k:Nat),r.length <= k -> (∀ w ∈ x :: r,c ∉ w) -> splitK [c] 0 k (join (x :: r) [c]) = x :: r
  | x,[],k,_,h => by
    rw [join_one]
    cases k with
    | zero => rfl
    | succ k => unfold splitK;rw [index_no c x (h x (by simp)),if_pos (by decide)]
  | x,y :: r,0,hk,_ => by simp at hk
  | x,y :: r,k + 1,hk,h => by
    rw [join_two]
    unfold splitK
    rw [index_at c x _ (h x (by simp)),if_neg (by rw [beq_iff_eq];omega)]
    have:=splitK_join c y r k (by simpa using hk) (fun w hw => h w (by simp at hw ⊢;exact Or.inr hw))
    simp [this]
theorem splitN_join (c:UInt8) (x:List UInt8) (r:List (List UInt8)) (h1:r.length <= 9) (h:∀ w ∈ x :: r,c ∉ w):splitN (join (x :: r) [c]) [c] 10 = x :: r:=by
  have:=join_len c x r
  exact splitK_join c x r _ (by omega) h
theorem nameB_byte {s:ByteArray} (h:nameB s = true):∀ b ∈ s.data.toList,48 <= b.toNat:=by
  intro b hb
  simp only [nameB,Bool.and_eq_true,List.all_eq_true] at h
  have:=h.2 b hb
  simp [isLet,isDig] at this;omega
theorem nameB_size {s:ByteArray} (h:nameB s = true):s.size <= 10:=by
  simp only [nameB,Bool.and_eq_true,decide_eq_true_eq] at h
  exact h.1.1.2
theorem tagB_byte {s:ByteArray} (h:tagB s = true):∀ b ∈ s.data.toList,48 <= b.toNat:=by
  unfold tagB at h
  rcases Bool.or_eq_true_iff.1 h with h | h
  · have h':s.data.toList = []:=by
      have:s.size = 0:=by simpa using h
      exact List.eq_nil_of_length_eq_zero (by rw [<- Lib.size_eq];exact this)
    rw [h'];intro b hb;cases hb
  · exact nameB_byte h
theorem tagB_size {s:ByteArray} (h:tagB s = true):s.size <= 10:=by
  unfold tagB at h
  rcases Bool.or_eq_true_iff.1 h with h | h
  · have:s.size = 0:=by simpa using h
    omega
  · exact nameB_size h
theorem right_parts {x:Itm} {d:Int} (h:rightB x d = true):(1 <= d ∧ d <= 8) ∧ (x.nums.length:Int) = d ∧ nameB x.name = true ∧ tagB x.tag = true ∧ x.nums.all numB = true:=by
  simp only [rightB,dimB,Bool.and_eq_true,decide_eq_true_eq] at h
  exact ⟨h.1.1.1.1,h.1.1.1.2,h.1.1.2,h.1.2,h.2⟩
set_option maxRecDepth 4000 in
theorem words_byte {x:Itm} {d:Int} (h:rightB x d = true):∀ w ∈ x.name.data.toList :: x.tag.data.toList :: x.nums.map itoa,∀ b ∈ w,45 <= b.toNat:=by
  obtain ⟨_,_,hn,ht,_⟩:=right_parts h
  intro w hw b hb
  rcases List.mem_cons.1 hw with rfl | hw
  · have:=nameB_byte hn b hb;omega
  · rcases List.mem_cons.1 hw with rfl | hw
    · have:=tagB_byte ht b hb;omega
    · obtain ⟨n,_,rfl⟩:=List.mem_map.1 hw
      rcases itoa_byte n b hb with h | h <;> omega
theorem join_mem (c:UInt8):∀ (x:List UInt8) (r:List (List UInt8)) (b:UInt8),b ∈ join (x :: r) [c] -> b = c ∨ ∃ w ∈ x :: r,b ∈ w
  | x,[],b,h => by rw [join_one] at h;exact Or.inr ⟨x,by simp,h⟩
  | x,y :: r,b,h => by
    rw [join_two] at h
    rcases List.mem_append.1 h with h | h
    · exact Or.inr ⟨x,by simp,h⟩
    · rcases List.mem_cons.1 h with h | h
      · exact Or.inl h
      · rcases join_mem c y r b h with h | ⟨w,hw,h⟩
        · exact Or.inl h
        · exact Or.inr ⟨w,by simp at hw ⊢;exact Or.inr hw,h⟩
theorem line_byte {x:Itm} {d:Int} (h:rightB x d = true):(10:UInt8) ∉ lineS x:=by
  intro hb
  rcases join_mem _ _ _ _ hb with e | ⟨w,hw,e⟩
  · exact absurd e (by decide)
  · have:=words_byte h w hw _ e;exact absurd this (by decide)
theorem head_byte (d:Int):(10:UInt8) ∉ headS d:=by
  intro hb
  rcases List.mem_append.1 hb with hb | hb
  · exact absurd hb (by decide)
  · rcases itoa_byte d _ hb with h | h <;> revert h <;> decide
theorem itemP_line {x:Itm} {d:Int} (h:rightB x d = true):itemP (lineS x) = some x:=by
  obtain ⟨hd,hl,_,_,hn⟩:=right_parts h
  have hw:=words_byte h
  unfold itemP lineS
  rw [splitN_join 32 _ _ (by simp;omega) (fun w h' hb => by have:=hw w h' 32 hb;exact absurd this (by decide))]
  simp only [numsP_itoa _ hn,Option.map_some]
theorem lines_cons (a:List UInt8) (L:List (List UInt8)):linesS (a :: L) = a ++ 10 :: linesS L:=by simp [linesS]
theorem itemsP_lines (d:Int):∀ (m:Nat) (xs:List Itm),xs.length <= m -> (∀ x ∈ xs,rightB x d = true) -> itemsP m (linesS (xs.map lineS)) = some xs
  | m,[],_,_ => by cases m <;> rfl
  | 0,x :: xs,h,_ => by simp at h
  | m + 1,x :: xs,h,hr => by
    have hc:=cut_at 10 (lineS x) (linesS (xs.map lineS)) (line_byte (hr x (by simp)))
    rw [List.map_cons,lines_cons]
    have ih:=itemsP_lines d m xs (by simpa using h) (fun y hy => hr y (by simp [hy]))
    cases e:lineS x ++ 10 :: linesS (xs.map lineS) with
    | nil => simp at e
    | cons c l =>
      rw [e] at hc
      simp only [itemsP,hc,itemP_line (hr x (by simp)),ih,Option.map_some]
theorem trimP_head (d:Int):trimP (headS d) = itoa d:=by
  unfold trimP headS
  rw [if_pos (by simp [List.isPrefixOf])];simp
theorem fields_text (d:Int) (xs:List Itm) (hd:1 <= d ∧ d <= 8) (hl:xs.length <= 60) (hr:∀ x ∈ xs,rightB x d = true):fieldsP (textS d xs) = some (d,xs):=by
  unfold fieldsP textS
  rw [lines_cons,cut_at 10 _ _ (head_byte d)]
  simp only [trimP_head,numP_itoa d (by omega) (by omega),itemsP_lines d 60 xs hl hr,Option.map_some]
end Go.Proofs.YtjmpjfikcgccdaaGreatDoor.It
namespace Go.Proofs.YtjmpjfikcgccdaaGreatDoor.Su
open Go.Shelf Go.RowKit
def lr:Go.Shelf.Ren:=⟨fun | 25 => 294 | n => n,fun | 37 => 180 | 47 => 266 | n => n,fun | n => n⟩
theorem lays25:Go.Proofs.LaysPu.n25 Tryz.prog lr:={
  mixed:=by kernel_rfl
  f25:=Tryz.func294.trans (congrArg some (by kernel_rfl))
  t0:=Tryz.underlying0
  a0:=Tryz.isAgg0
  z0:=Tryz.sizeOf0
  v0:=Tryz.zeroValue0
  i0:=by kernel_rfl
  t3:=Tryz.underlying3
  a3:=Tryz.isAgg3
  z3:=Tryz.sizeOf3
  v3:=Tryz.zeroValue3
  i3:=by kernel_rfl
  t4:=Tryz.underlying4
  a4:=Tryz.isAgg4
  z4:=Tryz.sizeOf4
  v4:=Tryz.zeroValue4
  i4:=by kernel_rfl
  t5:=Tryz.underlying5
  a5:=Tryz.isAgg5
  z5:=Tryz.sizeOf5
  v5:=Tryz.zeroValue5
  i5:=by kernel_rfl
  t9:=Tryz.underlying9
  a9:=Tryz.isAgg9
  z9:=Tryz.sizeOf9
  v9:=Tryz.zeroValue9
  i9:=by kernel_rfl
  t37:=Tryz.underlying180
  a37:=Tryz.isAgg180
  z37:=Tryz.sizeOf180
  v37:=Tryz.zeroValue180
  i37:=by kernel_rfl
  t47:=Tryz.underlying266
  a47:=Tryz.isAgg266
  z47:=Tryz.sizeOf266
  v47:=Tryz.zeroValue266
  i47:=by kernel_rfl }
theorem slClone_any (s:ByteArray) (w:World) (h:s.size <= 10000):Calls Tryz.prog 294 #[.string s] w fun e w' => e = .returned (.string s) ∧ Below w.heap.size w w':=AnyPu.stringslite_Clone lays25 s w (by omega)
theorem clone_any (s:ByteArray) (w:World) (h:s.size <= 10000):Calls Tryz.prog 258 #[.string s] w fun e w' => e = .returned (.string s) ∧ Below w.heap.size w w':=by
  go_enter Tryz.func258,Tryz.ntmps258
  go_wp2_with (go_at_call 294;refine (slClone_any s _ h).mono ?_;rintro e w1 ⟨rfl,g1⟩)
  go_ret
  exact ⟨rfl,g1⟩
end Go.Proofs.YtjmpjfikcgccdaaGreatDoor.Su
