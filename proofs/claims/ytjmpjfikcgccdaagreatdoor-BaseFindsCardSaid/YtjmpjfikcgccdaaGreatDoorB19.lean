/-
  Part of the proof of BaseFindsCard (SmShelf and on).
-/
import Derived.Shelf.Strings.Builder1
import Derived.Shelf.Strings.Builder2
import Derived.Shelf.Strings.Repeat
import Derived.Test.YtjmpjfikcgccdaaGreatDoorProg
import Derived.Test.YtjmpjfikcgccdaaGreatDoorB01
import Derived.Test.YtjmpjfikcgccdaaGreatDoorB02
import Derived.Test.YtjmpjfikcgccdaaGreatDoorB04
import Derived.Lib.ConvBytes
namespace Go.Proofs.YtjmpjfikcgccdaaGreatDoor.Sm
open Go.Shelf Go.RowKit
def lr:Go.Shelf.Ren:=⟨fun | 105 => 103 | 212 => 159 | 99 => 160 | 165 => 106 | 166 => 107 | 170 => 161 | 169 => 108 | 263 => 235 | 264 => 236 | 206 => 237 | 240 => 165 | 241 => 166 | 276 => 239 | 277 => 240 | 167 => 320 | n => n,fun | 46 => 175 | 109 => 258 | 72 => 182 | 76 => 183 | 51 => 100 | 146 => 329 | 53 => 107 | 148 => 331 | 70 => 179 | 37 => 180 | 75 => 40 | 127 => 266 | 164 => 207 | 80 => 159 | n => n,fun | n => n⟩
theorem lays105:Go.Proofs.Lays.n105 Tryz.prog lr:={
  mixed:=by kernel_rfl
  f99:=Tryz.func160.trans (congrArg some (by kernel_rfl))
  f105:=Tryz.func103.trans (congrArg some (by kernel_rfl))
  f165:=Tryz.func106.trans (congrArg some (by kernel_rfl))
  f166:=Tryz.func107.trans (congrArg some (by kernel_rfl))
  f169:=Tryz.func108.trans (congrArg some (by kernel_rfl))
  f170:=Tryz.func161.trans (congrArg some (by kernel_rfl))
  f206:=Tryz.func237.trans (congrArg some (by kernel_rfl))
  f212:=Tryz.func159.trans (congrArg some (by kernel_rfl))
  f240:=Tryz.func165.trans (congrArg some (by kernel_rfl))
  f241:=Tryz.func166.trans (congrArg some (by kernel_rfl))
  f263:=Tryz.func235.trans (congrArg some (by kernel_rfl))
  f264:=Tryz.func236.trans (congrArg some (by kernel_rfl))
  f276:=Tryz.func239.trans (congrArg some (by kernel_rfl))
  f277:=Tryz.func240.trans (congrArg some (by kernel_rfl))
  t0:=Tryz.underlying0
  a0:=Tryz.isAgg0
  z0:=Tryz.sizeOf0
  v0:=Tryz.zeroValue0
  t3:=Tryz.underlying3
  a3:=Tryz.isAgg3
  z3:=Tryz.sizeOf3
  v3:=Tryz.zeroValue3
  t4:=Tryz.underlying4
  a4:=Tryz.isAgg4
  z4:=Tryz.sizeOf4
  v4:=Tryz.zeroValue4
  t5:=Tryz.underlying5
  a5:=Tryz.isAgg5
  z5:=Tryz.sizeOf5
  v5:=Tryz.zeroValue5
  t9:=Tryz.underlying9
  a9:=Tryz.isAgg9
  z9:=Tryz.sizeOf9
  v9:=Tryz.zeroValue9
  t20:=Tryz.underlying20
  a20:=Tryz.isAgg20
  z20:=Tryz.sizeOf20
  v20:=Tryz.zeroValue20
  t37:=Tryz.underlying180
  a37:=Tryz.isAgg180
  z37:=Tryz.sizeOf180
  v37:=Tryz.zeroValue180
  t46:=Tryz.underlying175
  a46:=Tryz.isAgg175
  z46:=Tryz.sizeOf175
  v46:=Tryz.zeroValue175
  t51:=Tryz.underlying100
  a51:=Tryz.isAgg100
  z51:=Tryz.sizeOf100
  v51:=Tryz.zeroValue100
  t53:=Tryz.underlying107
  a53:=Tryz.isAgg107
  z53:=Tryz.sizeOf107
  v53:=Tryz.zeroValue107
  t70:=Tryz.underlying179
  a70:=Tryz.isAgg179
  z70:=Tryz.sizeOf179
  v70:=Tryz.zeroValue179
  t72:=Tryz.underlying182
  a72:=Tryz.isAgg182
  z72:=Tryz.sizeOf182
  v72:=Tryz.zeroValue182
  t75:=Tryz.underlying40
  a75:=Tryz.isAgg40
  z75:=Tryz.sizeOf40
  v75:=Tryz.zeroValue40
  t76:=Tryz.underlying183
  a76:=Tryz.isAgg183
  z76:=Tryz.sizeOf183
  v76:=Tryz.zeroValue183
  t109:=Tryz.underlying258
  a109:=Tryz.isAgg258
  z109:=Tryz.sizeOf258
  v109:=Tryz.zeroValue258
  t127:=Tryz.underlying266
  a127:=Tryz.isAgg266
  z127:=Tryz.sizeOf266
  v127:=Tryz.zeroValue266
  t146:=Tryz.underlying329
  a146:=Tryz.isAgg329
  z146:=Tryz.sizeOf329
  v146:=Tryz.zeroValue329
  t148:=Tryz.underlying331
  a148:=Tryz.isAgg331
  z148:=Tryz.sizeOf331
  v148:=Tryz.zeroValue331
  t164:=Tryz.underlying207
  a164:=Tryz.isAgg207
  z164:=Tryz.sizeOf207
  v164:=Tryz.zeroValue207 }
theorem lays167:Go.Proofs.Lays.n167 Tryz.prog lr:={
  mixed:=by kernel_rfl
  f167:=Tryz.func320.trans (congrArg some (by kernel_rfl))
  f240:=Tryz.func165.trans (congrArg some (by kernel_rfl))
  f276:=Tryz.func239.trans (congrArg some (by kernel_rfl))
  t0:=Tryz.underlying0
  a0:=Tryz.isAgg0
  z0:=Tryz.sizeOf0
  v0:=Tryz.zeroValue0
  t4:=Tryz.underlying4
  a4:=Tryz.isAgg4
  z4:=Tryz.sizeOf4
  v4:=Tryz.zeroValue4
  t5:=Tryz.underlying5
  a5:=Tryz.isAgg5
  z5:=Tryz.sizeOf5
  v5:=Tryz.zeroValue5
  t9:=Tryz.underlying9
  a9:=Tryz.isAgg9
  z9:=Tryz.sizeOf9
  v9:=Tryz.zeroValue9
  t20:=Tryz.underlying20
  a20:=Tryz.isAgg20
  z20:=Tryz.sizeOf20
  v20:=Tryz.zeroValue20
  t37:=Tryz.underlying180
  a37:=Tryz.isAgg180
  z37:=Tryz.sizeOf180
  v37:=Tryz.zeroValue180
  t70:=Tryz.underlying179
  a70:=Tryz.isAgg179
  z70:=Tryz.sizeOf179
  v70:=Tryz.zeroValue179
  t72:=Tryz.underlying182
  a72:=Tryz.isAgg182
  z72:=Tryz.sizeOf182
  v72:=Tryz.zeroValue182
  t75:=Tryz.underlying40
  a75:=Tryz.isAgg40
  z75:=Tryz.sizeOf40
  v75:=Tryz.zeroValue40
  t164:=Tryz.underlying207
  a164:=Tryz.isAgg207
  z164:=Tryz.sizeOf207
  v164:=Tryz.zeroValue207 }
theorem lays166:Go.Proofs.Lays.n166 Tryz.prog lr:={
  mixed:=by kernel_rfl
  f166:=Tryz.func107.trans (congrArg some (by kernel_rfl))
  f240:=Tryz.func165.trans (congrArg some (by kernel_rfl))
  f276:=Tryz.func239.trans (congrArg some (by kernel_rfl))
  t0:=Tryz.underlying0
  a0:=Tryz.isAgg0
  z0:=Tryz.sizeOf0
  v0:=Tryz.zeroValue0
  t3:=Tryz.underlying3
  a3:=Tryz.isAgg3
  z3:=Tryz.sizeOf3
  v3:=Tryz.zeroValue3
  t4:=Tryz.underlying4
  a4:=Tryz.isAgg4
  z4:=Tryz.sizeOf4
  v4:=Tryz.zeroValue4
  t9:=Tryz.underlying9
  a9:=Tryz.isAgg9
  z9:=Tryz.sizeOf9
  v9:=Tryz.zeroValue9
  t20:=Tryz.underlying20
  a20:=Tryz.isAgg20
  z20:=Tryz.sizeOf20
  v20:=Tryz.zeroValue20
  t37:=Tryz.underlying180
  a37:=Tryz.isAgg180
  z37:=Tryz.sizeOf180
  v37:=Tryz.zeroValue180
  t70:=Tryz.underlying179
  a70:=Tryz.isAgg179
  z70:=Tryz.sizeOf179
  v70:=Tryz.zeroValue179
  t72:=Tryz.underlying182
  a72:=Tryz.isAgg182
  z72:=Tryz.sizeOf182
  v72:=Tryz.zeroValue182
  t75:=Tryz.underlying40
  a75:=Tryz.isAgg40
  z75:=Tryz.sizeOf40
  v75:=Tryz.zeroValue40
  t164:=Tryz.underlying207
  a164:=Tryz.isAgg207
  z164:=Tryz.sizeOf207
  v164:=Tryz.zeroValue207 }
theorem lays165:Go.Proofs.Lays.n165 Tryz.prog lr:={
  mixed:=by kernel_rfl
  f165:=Tryz.func106.trans (congrArg some (by kernel_rfl))
  f240:=Tryz.func165.trans (congrArg some (by kernel_rfl))
  f241:=Tryz.func166.trans (congrArg some (by kernel_rfl))
  f276:=Tryz.func239.trans (congrArg some (by kernel_rfl))
  f277:=Tryz.func240.trans (congrArg some (by kernel_rfl))
  t0:=Tryz.underlying0
  a0:=Tryz.isAgg0
  z0:=Tryz.sizeOf0
  v0:=Tryz.zeroValue0
  t3:=Tryz.underlying3
  a3:=Tryz.isAgg3
  z3:=Tryz.sizeOf3
  v3:=Tryz.zeroValue3
  t4:=Tryz.underlying4
  a4:=Tryz.isAgg4
  z4:=Tryz.sizeOf4
  v4:=Tryz.zeroValue4
  t9:=Tryz.underlying9
  a9:=Tryz.isAgg9
  z9:=Tryz.sizeOf9
  v9:=Tryz.zeroValue9
  t20:=Tryz.underlying20
  a20:=Tryz.isAgg20
  z20:=Tryz.sizeOf20
  v20:=Tryz.zeroValue20
  t37:=Tryz.underlying180
  a37:=Tryz.isAgg180
  z37:=Tryz.sizeOf180
  v37:=Tryz.zeroValue180
  t70:=Tryz.underlying179
  a70:=Tryz.isAgg179
  z70:=Tryz.sizeOf179
  v70:=Tryz.zeroValue179
  t72:=Tryz.underlying182
  a72:=Tryz.isAgg182
  z72:=Tryz.sizeOf182
  v72:=Tryz.zeroValue182
  t164:=Tryz.underlying207
  a164:=Tryz.isAgg207
  z164:=Tryz.sizeOf207
  v164:=Tryz.zeroValue207 }
theorem lays169:Go.Proofs.Lays.n169 Tryz.prog lr:={
  mixed:=by kernel_rfl
  f169:=Tryz.func108.trans (congrArg some (by kernel_rfl))
  t0:=Tryz.underlying0
  a0:=Tryz.isAgg0
  z0:=Tryz.sizeOf0
  v0:=Tryz.zeroValue0
  t3:=Tryz.underlying3
  a3:=Tryz.isAgg3
  z3:=Tryz.sizeOf3
  v3:=Tryz.zeroValue3
  t9:=Tryz.underlying9
  a9:=Tryz.isAgg9
  z9:=Tryz.sizeOf9
  v9:=Tryz.zeroValue9
  t37:=Tryz.underlying180
  a37:=Tryz.isAgg180
  z37:=Tryz.sizeOf180
  v37:=Tryz.zeroValue180
  t70:=Tryz.underlying179
  a70:=Tryz.isAgg179
  z70:=Tryz.sizeOf179
  v70:=Tryz.zeroValue179
  t72:=Tryz.underlying182
  a72:=Tryz.isAgg182
  z72:=Tryz.sizeOf182
  v72:=Tryz.zeroValue182
  t127:=Tryz.underlying266
  a127:=Tryz.isAgg266
  z127:=Tryz.sizeOf266
  v127:=Tryz.zeroValue266 }
theorem extra:Builder.Extra Tryz.prog lr:={
  sizeBuilder:=by kernel_rfl
  liesBuilder:=by kernel_rfl
  t5:=Tryz.underlying5
  a5:=Tryz.isAgg5
  z5:=Tryz.sizeOf5
  v5:=Tryz.zeroValue5
  infoByte:=by kernel_rfl
  cellsByte:=by kernel_rfl
  sizeByte:=by kernel_rfl
  neB5:=by decide }
theorem c_repeat (s:ByteArray) (c:Nat) (w:World) (hc:c <= 9223372036854775807) (hlen:s.size * c <= 140737488355328) :
    Calls Tryz.prog 103 #[.string s,.int .i64 c] w fun e w' => e = .returned (.string ⟨(Lib.repeatL s.data.toList c).toArray⟩) ∧ Below w.heap.size w w':=Any.strings_Repeat lays105 extra s c w hc hlen
theorem c_grow (B b n:Nat) (w:World) (hB:B <= b) (hbk:w.heap[b]? = some (.cells #[.pointer none,.slice none 0 0] 182 (0,0))) (hBw:B <= w.heap.size) (hn:n <= 281474976710656) :
    Calls Tryz.prog 106 #[.pointer (some ⟨b,0,none⟩),.int .i64 n] w fun e w' => e = .returned (.tuple #[]) ∧ (Lib.BuilderAt 182 5 B b (.pointer (some ⟨b,0,none⟩)) [] w' ∧ Below B w w'):=Any.Builder_Grow_fresh lays165 extra B b n w hB hbk hBw hn
theorem c_writeByte (B b:Nat) (bs:List Value) (c:Int) (w:World) (h:Lib.IsBuilder 182 5 B b bs w) (hlen:bs.length + 1 <= 140737488355328) (hBw:B <= w.heap.size) :
    Calls Tryz.prog 320 #[.pointer (some ⟨b,0,none⟩),.int .u8 c] w fun e w' => e = .returned .nilIface ∧ (Lib.BuilderAt 182 5 B b (.pointer (some ⟨b,0,none⟩)) (bs ++ [.int .u8 c]) w' ∧ Below B w w'):=Any.Builder_WriteByte lays167 extra B b bs c w h hlen hBw
theorem c_writeString (B b:Nat) (bs:List Value) (s:ByteArray) (w:World) (h:Lib.IsBuilder 182 5 B b bs w) (hlen:bs.length + s.size <= 140737488355328) (hBw:B <= w.heap.size) :
    Calls Tryz.prog 107 #[.pointer (some ⟨b,0,none⟩),.string s] w fun e w' => e = .returned (.tuple #[.int .i64 s.size,.nilIface]) ∧ (Lib.BuilderAt 182 5 B b (.pointer (some ⟨b,0,none⟩)) (bs ++ Lib.strCells s) w' ∧ Below B w w'):=Any.Builder_WriteString lays166 extra B b bs s w h hlen hBw
theorem c_string (B b:Nat) (l:List UInt8) (w:World) (h:Lib.IsBuilder 182 5 B b (Lib.byteCells l) w) (hBw:B <= w.heap.size) :
    Calls Tryz.prog 108 #[.pointer (some ⟨b,0,none⟩)] w fun e w' => e = .returned (.string ⟨l.toArray⟩) ∧ Below B w w':=Any.Builder_String_any lays169 extra B b l w h hBw
end Go.Proofs.YtjmpjfikcgccdaaGreatDoor.Sm
namespace Go.Proofs.YtjmpjfikcgccdaaGreatDoor.Pg
open Go.RowKit
theorem mixed:Tryz.prog.follows .mixedOrders = true:=by kernel_rfl
theorem repeat_zero (n:Nat):Lib.repeatL [(0:UInt8)] n = List.replicate n 0:=by
  induction n with
  | zero => rfl
  | succ n ih => simp [Lib.repeatL,ih,List.replicate_succ]
def zs (n:Nat):ByteArray:=⟨(List.replicate n 0).toArray⟩
theorem zs_size (n:Nat):(zs n).size = n:=by simp [zs,ByteArray.size]
theorem repeat_any (n:Nat) (c:Int) (w:World) (hc:c = (n:Int)) (hn:n <= 10000):Calls Tryz.prog 103 #[.string ⟨#[0]⟩,.int .i64 c] w fun e w' => e = .returned (.string (zs n)) ∧ Below w.heap.size w w':=by
  subst hc
  have:=Sm.c_repeat ⟨#[0]⟩ n w (by omega) (by have:ByteArray.size ⟨#[0]⟩ = 1:=rfl;rw [this];omega)
  refine this.mono fun e w' ⟨he,hb⟩ => ⟨?_,hb⟩
  rw [he]
  have:(⟨#[0]⟩:ByteArray).data.toList = [0]:=rfl
  rw [this,repeat_zero]
  rfl
section
variable {P:Program} {Q:Exit -> Act -> World -> Prop} {K:Act -> World -> Prop} {a:Act} {w:World} {o:Oper}
theorem op_string (src dst e:TypeId) (x:Operand) (ho:o.op = .convert src dst x) (hs:P.underlying src = some (.slice e)) (he:P.underlying e = some (.int .u8)) (hd:P.underlying dst = some .string)
    (b n cap:Nat) (arr:Array Value) (T:TypeId) (hx:a.eval x = .slice (some ⟨b,0,none⟩) n cap) (hb:Blk w b arr T) (hn:0 + n <= arr.size) (l:List UInt8) (hl:arr.extract 0 (0 + n) = (Lib.byteCells l).toArray)
    (h:K (a.put o.dst (.string ⟨l.toArray⟩)) w):o.wp P a w K Q:=by
  have:=bytes_run P w b 0 n cap arr T hb hn l hl
  unfold Oper.wp execOp
  simp only [ho,hx,Sem.run_bind,Sem.run_pure,Result.andThen_ok,run_convert_bytes_string w src dst e _ _ _ hs he hd,this]
  exact h
end
def padT (s:ByteArray):ByteArray:=⟨#[UInt8.ofNat s.size]⟩ ++ s ++ zs (200 - s.size)
theorem padT_size (s:ByteArray) (h:s.size <= 200):(padT s).size = 201:=by
  unfold padT;rw [ByteArray.size_append,ByteArray.size_append,zs_size]
  have:ByteArray.size ⟨#[UInt8.ofNat s.size]⟩ = 1:=rfl
  omega
theorem lenB (s:ByteArray) (h:s.size <= 200):(#[Value.int .u8 (s.size:Int)]:Array Value).extract 0 (0 + 1) = (Lib.byteCells [UInt8.ofNat s.size]).toArray:=by
  have:(UInt8.ofNat s.size).toNat = s.size:=by rw [UInt8.toNat_ofNat',Nat.mod_eq_of_lt (by omega)]
  simp [Lib.byteCells,this]
set_option maxRecDepth 100000 in
set_option maxHeartbeats 1000000 in
theorem padded_any (s:ByteArray) (w:World) (hs:s.size <= 200) :
    Calls Tryz.prog 317 #[.string s] w fun e w' => e = .returned (.string (padT s)) ∧ Below w.heap.size w w':=by
  have hs':(s.size:Int) <= 200:=by omega
  obtain ⟨nn,hnn⟩:∃ nn,Hid (nn = 200 - s.size):=⟨_,rfl⟩
  have hnI:(200:Int) - (s.size:Int) = (nn:Int):=by rw [hnn.out];omega
  have hn1:nn <= 200:=by rw [hnn.out];omega
  have hwn:IntKind.i64.wrap (nn:Int) = (nn:Int):=by rw [IntKind.wrap_i64];omega
  have hwb:IntKind.u8.wrap (s.size:Int) = (s.size:Int):=by simp [IntKind.wrap,IntKind.bits,IntKind.signed];omega
  have hlB:=lenB s hs
  have HF:Hid ((⟨[UInt8.ofNat s.size].toArray⟩:ByteArray) ++ s ++ zs nn = padT s):=by unfold Hid padT;rw [hnn.out]
  have hz1:(⟨[UInt8.ofNat s.size].toArray⟩:ByteArray).size = 1:=rfl
  have hz2:=zs_size nn
  obtain ⟨B1,hB1⟩:∃ B1:ByteArray,B1 = ⟨[UInt8.ofNat s.size].toArray⟩:=⟨_,rfl⟩
  rw [<- hB1] at HF hz1
  have hz3:(B1 ++ s).size = 1 + s.size:=by rw [ByteArray.size_append,hz1]
  have g0:Below w.heap.size w w.drew:=below_drewN (Below.refl _ _) 1
  go_enter Tryz.func317,Tryz.ntmps317
  go_wp2_with fail
  refine reg_in 13 mixed rfl ?_
  refine reg_take 0 3 (.string s) rfl rfl (by kernel_rfl) (fun _ _ _ h => h) rfl (fun w => by go_simp) ?_
  refine reg_take 1 4 (.int .i64 s.size) rfl rfl (by kernel_rfl) (fun _ _ _ h => h) rfl (fun w => by go_simp) ?_
  refine reg_take 2 5 (.int .u8 s.size) rfl rfl (by kernel_rfl) (fun _ _ _ h => h) rfl (fun w => by go_simp) ?_
  refine reg_take 5 8 (.string s) rfl rfl (by kernel_rfl) (fun _ _ _ h => h) rfl (fun w => by go_simp) ?_
  refine reg_take 7 10 (.string s) rfl rfl (by kernel_rfl) (fun _ _ _ h => h) rfl (fun w => by go_simp) ?_
  refine reg_take 8 11 (.int .i64 s.size) rfl rfl (by kernel_rfl) (fun _ _ _ h => h) rfl (fun w => by go_simp) ?_
  refine reg_take 9 12 (.int .i64 nn) rfl rfl (by kernel_rfl) (fun _ _ _ h => h) rfl (fun w => by go_simp) ?_
  simp only [Act.put,List.setIfInBounds_toArray,List.set_cons_succ,List.set_cons_zero]
  clear hnI hwn hwb
  refine reg_two 3 10 rfl rfl (by kernel_rfl) rfl rfl (fun K hK => ?_) (fun K hK => ?_)
  · go_wp2_with fail
    have b1:Blk (w.alloc (.cells #[.int .u8 (s.size:Int)] 5)).drew w.heap.size #[.int .u8 (s.size:Int)] 5:=(Blk.new w _ 5).drew
    have g1:Below w.heap.size w (w.alloc (.cells #[.int .u8 (s.size:Int)] 5)).drew:=below_drewN ((Below.refl w.heap.size w).alloc (Nat.le_refl _) _) 1
    generalize (w.alloc (.cells #[.int .u8 (s.size:Int)] 5)).drew = w1 at *
    refine reg_two 4 10 rfl rfl (by kernel_rfl) rfl rfl (fun K hK => ?_) (fun K hK => ?_)
    · refine op_string 180 9 5 _ rfl Tryz.underlying180 Tryz.underlying5 Tryz.underlying9 _ 1 1 _ 5 rfl b1 (by simp) _ hlB ?_
      refine hK _ _ ?_
      clear hK K
      rw [<- hB1]
      refine reg_take 6 9 (.string (B1 ++ s)) rfl rfl (by kernel_rfl) (fun _ _ _ h => h) rfl (fun w => by go_simp;omega) ?_
      simp only [Act.put,List.setIfInBounds_toArray,List.set_cons_succ,List.set_cons_zero]
      refine reg_one 10 rfl (by kernel_rfl) rfl (fun K hK => ?_)
      go_wp2_with (go_at_call 103;refine (repeat_any nn _ _ rfl (by omega)).mono ?_;rintro e w2 ⟨rfl,g2⟩)
      have g3:=g1.trans (g2.mono g1.size)
      refine reg_take 11 14 (.string (B1 ++ s ++ zs nn)) rfl rfl (by kernel_rfl) (fun _ _ _ h => h) rfl (fun w => by go_simp;omega) ?_
      refine reg_take 12 2 (.string (B1 ++ s ++ zs nn)) rfl rfl (by kernel_rfl) (fun _ _ _ h => h) rfl (fun w => by go_simp) ?_
      simp only [Act.put,List.setIfInBounds_toArray,List.set_cons_succ,List.set_cons_zero]
      rw [HF.out]
      refine reg_end (by kernel_rfl) ?_
      go_wp2_with fail
      go_ret
      exact ⟨rfl,g3⟩
    · go_wp2_with (go_at_call 103;refine (repeat_any nn _ _ rfl (by omega)).mono ?_;rintro e w2 ⟨rfl,g2⟩)
      have b2:=b1.below g2 b1.lt
      have g3:=g1.trans (g2.mono g1.size)
      refine reg_one 4 rfl (by kernel_rfl) rfl (fun K hK => ?_)
      refine op_string 180 9 5 _ rfl Tryz.underlying180 Tryz.underlying5 Tryz.underlying9 _ 1 1 _ 5 rfl b2 (by simp) _ hlB ?_
      refine hK _ _ ?_
      clear hK K
      rw [<- hB1]
      refine reg_take 6 9 (.string (B1 ++ s)) rfl rfl (by kernel_rfl) (fun _ _ _ h => h) rfl (fun w => by go_simp;omega) ?_
      simp only [Act.put,List.setIfInBounds_toArray,List.set_cons_succ,List.set_cons_zero]
      refine reg_take 11 14 (.string (B1 ++ s ++ zs nn)) rfl rfl (by kernel_rfl) (fun _ _ _ h => h) rfl (fun w => by go_simp;omega) ?_
      refine reg_take 12 2 (.string (B1 ++ s ++ zs nn)) rfl rfl (by kernel_rfl) (fun _ _ _ h => h) rfl (fun w => by go_simp) ?_
      simp only [Act.put,List.setIfInBounds_toArray,List.set_cons_succ,List.set_cons_zero]
      rw [HF.out]
      refine reg_end (by kernel_rfl) ?_
      go_wp2_with fail
      go_ret
      exact ⟨rfl,g3⟩
  · go_wp2_with (go_at_call 103;refine (repeat_any nn _ _ rfl (by omega)).mono ?_;rintro e w2 ⟨rfl,g2⟩)
    have g3:=g0.trans g2
    refine reg_one 3 rfl (by kernel_rfl) rfl (fun K hK => ?_)
    go_wp2_with fail
    have b4:=Blk.new w2 #[.int .u8 (s.size:Int)] 5
    have g4:=g3.alloc g3.size (.cells #[.int .u8 (s.size:Int)] 5)
    refine reg_one 4 rfl (by kernel_rfl) rfl (fun K hK => ?_)
    refine op_string 180 9 5 _ rfl Tryz.underlying180 Tryz.underlying5 Tryz.underlying9 _ 1 1 _ 5 rfl b4 (by simp) _ hlB ?_
    refine hK _ _ ?_
    clear hK K
    rw [<- hB1]
    refine reg_take 6 9 (.string (B1 ++ s)) rfl rfl (by kernel_rfl) (fun _ _ _ h => h) rfl (fun w => by go_simp;omega) ?_
    simp only [Act.put,List.setIfInBounds_toArray,List.set_cons_succ,List.set_cons_zero]
    refine reg_take 11 14 (.string (B1 ++ s ++ zs nn)) rfl rfl (by kernel_rfl) (fun _ _ _ h => h) rfl (fun w => by go_simp;omega) ?_
    refine reg_take 12 2 (.string (B1 ++ s ++ zs nn)) rfl rfl (by kernel_rfl) (fun _ _ _ h => h) rfl (fun w => by go_simp) ?_
    simp only [Act.put,List.setIfInBounds_toArray,List.set_cons_succ,List.set_cons_zero]
    rw [HF.out]
    refine reg_end (by kernel_rfl) ?_
    go_wp2_with fail
    go_ret
    exact ⟨rfl,g4⟩
end Go.Proofs.YtjmpjfikcgccdaaGreatDoor.Pg
namespace Go.Proofs.YtjmpjfikcgccdaaGreatDoor.Sm
open Go.RowKit
structure MRow (w:World) (B g cap:Nat) (l:List UInt8):Prop where
  ge:B <= g
  le:l.length <= cap
  cur:∃ (cur:Array Value) (fz:Nat × Nat),w.heap[g]? = some (.cells cur 5 fz) ∧ cur.size = cap ∧ (∀ j,j < cap -> (decide (fz.1 <= j) && decide (j < fz.2)) = false) ∧ cur.toList.take l.length = Lib.byteCells l
theorem MRow.lt {w:World} {B g cap:Nat} {l:List UInt8} (h:MRow w B g cap l):g < w.heap.size:=by
  obtain ⟨cur,fz,hh,_⟩:=h.cur
  rcases Nat.lt_or_ge g w.heap.size with h' | h'
  · exact h'
  · simp [Array.getElem?_eq_none h'] at hh
theorem MRow.below {w w':World} {B g cap:Nat} {l:List UInt8} (h:MRow w B g cap l) (hb:Below w.heap.size w w'):MRow w' B g cap l:=by
  have lt:=h.lt
  obtain ⟨cur,fz,hh,r⟩:=h.cur
  exact ⟨h.ge,h.le,cur,fz,by rw [hb.block _ lt];exact hh,r⟩
theorem MRow.cell {w:World} {B g cap:Nat} {l:List UInt8} (h:MRow w B g cap l) (j:Nat) (b:UInt8) (hj:l[j]? = some b):w.cell? ⟨g,j,none⟩ = some (.int .u8 (b.toNat:Int)):=by
  obtain ⟨cur,fz,hh,_,_,ht⟩:=h.cur
  have hj':(Lib.byteCells l)[j]? = some (.int .u8 (b.toNat:Int)):=by simp [Lib.byteCells,hj]
  rw [<- ht,List.getElem?_take] at hj'
  simp only [World.cell?,hh]
  split at hj'
  · simpa using hj'
  · cases hj'
section
variable {ops:Array Oper} {Q:Exit -> Act -> World -> Prop} {a:Act} {w:World} {rest:List Oper} {o:Oper}
end
end Go.Proofs.YtjmpjfikcgccdaaGreatDoor.Sm
namespace Go.Proofs.YtjmpjfikcgccdaaGreatDoor.Sm
open Go.RowKit
section
variable {P:Program} {ops:Array Oper} {Q:Exit -> Act -> World -> Prop} {a:Act} {w:World} {rest:List Oper} {o:Oper}
end
end Go.Proofs.YtjmpjfikcgccdaaGreatDoor.Sm
namespace Go.Proofs.YtjmpjfikcgccdaaGreatDoor.Sm
open Go.RowKit
def wordN (a b c d:Nat):BitVec 32:=BitVec.ofNat 32 (((a * 256 + b) * 256 + c) * 256 + d)
theorem or_add (x y k:Nat) (h:y < 2 ^ k):x * 2 ^ k ||| y = x * 2 ^ k + y:=by
  rw [Nat.mul_comm,<- Nat.two_pow_add_eq_or_of_lt h]
theorem word_eq (a b c d:Nat) (ha:a < 256) (hb:b < 256) (hc:c < 256) (hd:d < 256) :
    bits BinOp.or IntKind.u32 (bits BinOp.or IntKind.u32 (bits BinOp.or IntKind.u32 ((a:Int) % 4294967296 * 16777216 % 4294967296) ((b:Int) % 4294967296 * 65536 % 4294967296))
      ((c:Int) % 4294967296 * 256 % 4294967296)) ((d:Int) % 4294967296) = I (wordN a b c d):=by
  rw [show (a:Int) % 4294967296 * 16777216 % 4294967296 = ((a * 16777216:Nat):Int) from by omega,show (b:Int) % 4294967296 * 65536 % 4294967296 = ((b * 65536:Nat):Int) from by omega,
    show (c:Int) % 4294967296 * 256 % 4294967296 = ((c * 256:Nat):Int) from by omega,show (d:Int) % 4294967296 = ((d:Nat):Int) from by omega]
  have e1:a * 16777216 ||| b * 65536 = a * 16777216 + b * 65536:=or_add a (b * 65536) 24 (by omega)
  have e2:(a * 16777216 + b * 65536) ||| c * 256 = a * 16777216 + b * 65536 + c * 256:=by
    have:=or_add (a * 256 + b) (c * 256) 16 (by omega)
    rw [show (a * 256 + b) * 2 ^ 16 = a * 16777216 + b * 65536 from by omega] at this;exact this
  have e3:(a * 16777216 + b * 65536 + c * 256) ||| d = a * 16777216 + b * 65536 + c * 256 + d:=by
    have:=or_add ((a * 256 + b) * 256 + c) d 8 (by omega)
    rw [show ((a * 256 + b) * 256 + c) * 2 ^ 8 = a * 16777216 + b * 65536 + c * 256 from by omega] at this;exact this
  rw [u32_or_nat _ _ (by omega) (by omega),e1,u32_or_nat _ _ (by omega) (by omega),e2,u32_or_nat _ _ (by omega) (by omega),e3]
  unfold I wordN;rw [BitVec.toNat_ofNat,Nat.mod_eq_of_lt (by omega)];omega
def byteAt (s:ByteArray) (i:Nat):Nat:=(s.data.toList.getD i 0).toNat
theorem byteAt_eq (s:ByteArray) (i:Nat) (h:i < s.size):s[i].toNat = byteAt s i:=by
  have h':i < s.data.toList.length:=by simpa using h
  unfold byteAt;rw [List.getD_eq_getElem?_getD,List.getElem?_eq_getElem h',Option.getD_some];rfl
theorem byteAt_extract (s:ByteArray) (a b i:Nat) (h:a + i < b):byteAt (s.extract a b) i = byteAt s (a + i):=by
  unfold byteAt;simp only [ByteArray.data_extract,Array.toList_extract,List.extract_eq_take_drop,List.getD_eq_getElem?_getD,List.getElem?_take,List.getElem?_drop]
  rw [if_pos (by omega)]
set_option maxHeartbeats 400000 in
theorem word_any (s:ByteArray) (w:World) (h0:s.size = 4) :
    Calls Tryz.prog 377 #[.string s] w fun e w' => e = .returned (.int .u32 (I (wordN (byteAt s 0) (byteAt s 1) (byteAt s 2) (byteAt s 3)))) ∧ ∃ n,w' = w.drewN n:=by
  rw [<- byteAt_eq s 0 (by omega),<- byteAt_eq s 1 (by omega),<- byteAt_eq s 2 (by omega),<- byteAt_eq s 3 (by omega)]
  go_enter Tryz.func377,Tryz.ntmps377
  go_wp2
  go_quiet (fail)
  go_wp2
  go_ret
  exact ⟨ret_int (word_eq _ _ _ _ s[0].toNat_lt s[1].toNat_lt s[2].toNat_lt s[3].toNat_lt),_,rfl⟩
theorem rot_any (x:BitVec 32) (k:Int) (w:World) (h0:-31 <= k) (h1:k <= -1) :
    Calls Tryz.prog 373 #[.int .u32 (I x),.int .i64 k] w fun e w' => e = .returned (.int .u32 (I (x.rotateRight (-k).toNat))) ∧ w' = w:=by
  have ha:=and31 k h0 h1
  go_enter Tryz.func373,Tryz.ntmps373
  go_wp2
  go_ret
  refine ⟨ret_int ?_,rfl⟩
  rw [I_shlm,I_shr,I_or,<- rot_eq x _ (by omega) (by omega)]
  rw [show (32 + k).toNat = 32 - (-k).toNat from by omega,show (32 - (32 + k)).toNat = (-k).toNat from by omega]
attribute [local go_sem] I_xor I_and I_or I_addm I_not I_shr3 I_shr10
def sg0 (x:BitVec 32):BitVec 32:=x.rotateRight 7 ^^^ x.rotateRight 18 ^^^ x >>> 3
def sg1 (x:BitVec 32):BitVec 32:=x.rotateRight 17 ^^^ x.rotateRight 19 ^^^ x >>> 10
def sw (m:Nat -> BitVec 32) (t:Nat):BitVec 32:=
  if t < 16 then m t else sw m (t - 16) + sg0 (sw m (t - 15)) + sw m (t - 7) + sg1 (sw m (t - 2))
theorem sw_lo (m:Nat -> BitVec 32) (t:Nat) (h:t < 16):sw m t = m t:=by rw [sw,if_pos h]
theorem sw_hi (m:Nat -> BitVec 32) (t:Nat) (h:¬ t < 16):sw m t = sw m (t - 16) + sg0 (sw m (t - 15)) + sw m (t - 7) + sg1 (sw m (t - 2)):=by rw [sw,if_neg h]
def mOf (s:ByteArray) (t:Nat):BitVec 32:=wordN (byteAt s (4 * t)) (byteAt s (4 * t + 1)) (byteAt s (4 * t + 2)) (byteAt s (4 * t + 3))
def upto (f:Nat -> BitVec 32) (k:Nat) (j:Nat):BitVec 32:=if j < k then f j else 0
theorem sz32:(Tryz.prog.info? 102).map (·.size) = some 64:=by kernel_rfl
theorem sz31:(Tryz.prog.info? 101).map (·.size) = some 8:=by kernel_rfl
theorem tab_upto_succ (n k:Nat) (f:Nat -> BitVec 32) (v:BitVec 32) (h:v = f k):(tab n (upto f k)).setIfInBounds k (.int .u32 (I v)) = tab n (upto f (k + 1)):=by
  rw [tab_set,h];apply tab_congr;intro j _;unfold upto
  by_cases e:j = k
  · subst e;simp
  · simp [e];congr 1;apply propext;omega
set_option maxHeartbeats 1000000 in
theorem sched_any (s:ByteArray) (w:World) (h0:s.size = 64) :
    Calls Tryz.prog 372 #[.string s] w fun e w' => e = .returned (.agg (tab 64 (sw (mOf s)))) ∧ Below w.heap.size w w':=by
  go_enter Tryz.func372,Tryz.ntmps372
  go_wp2_with fail
  go_loopw [9] (fun i wr => ∃ k:Nat,k <= 64 ∧ i = .int .i64 k ∧ Blk wr (w.heap.size + 1) (tab 64 (upto (sw (mOf s)) k)) 102 ∧ Blk wr w.heap.size (tab 64 (fun _ => 0)) 102 ∧ Below w.heap.size w wr) (fun i _ => 64 - (intOf i).toNat)
  case atStart =>
    refine ⟨0,by omega,rfl,Blk.new' _ (tab 64 (upto (sw (mOf s)) 0)) 102 (by simp),(Blk.new w (tab 64 (fun _ => 0)) 102).alloc _,((Below.refl _ _).alloc (Nat.le_refl _) _).alloc (by simp) _⟩
  case round =>
    obtain ⟨k,hk,rfl,hb1,hb0,hbel⟩:=hrel
    have hc:=fun j (hj:j < 64) => hb1.tcell j hj
    have hf:=fun j => hb1.frozen j
    by_cases hlt:k < 16
    · have hx:(s.extract (4 * k) (4 * k + 4)).size = 4:=by simp;omega
      have hk64:k < 64:=by omega
      go_wp2_with (go_at_call 377;refine (word_any _ _ hx).mono ?_;rintro e w' ⟨rfl,n,rfl⟩)
      go_roundw
      case rel =>
        refine ⟨k + 1,by omega,by go_num,?_,?_,?_⟩
        · have hb:=(hb1.set k (.int .u32 (I (wordN (byteAt (s.extract (4 * k) (4 * k + 4)) 0) (byteAt (s.extract (4 * k) (4 * k + 4)) 1) (byteAt (s.extract (4 * k) (4 * k + 4)) 2) (byteAt (s.extract (4 * k) (4 * k + 4)) 3))))).drewN n
          rw [tab_upto_succ] at hb
          · exact hb
          · rw [sw_lo _ _ hlt,mOf,byteAt_extract _ _ _ _ (by omega),byteAt_extract _ _ _ _ (by omega),byteAt_extract _ _ _ _ (by omega),byteAt_extract _ _ _ _ (by omega)];rfl
        · exact (hb0.drewN n).setOther _ (by simp) _
        · exact (below_drewN hbel n).setCell (by simp) _
      case measure => simp [intOf];omega
    · by_cases hlt2:k < 64
      · obtain ⟨a15,e15⟩:∃ a,Hid (a = k - 15):=⟨_,rfl⟩
        obtain ⟨a2,e2⟩:∃ a,Hid (a = k - 2):=⟨_,rfl⟩
        obtain ⟨a16,e16⟩:∃ a,Hid (a = k - 16):=⟨_,rfl⟩
        obtain ⟨a7,e7⟩:∃ a,Hid (a = k - 7):=⟨_,rfl⟩
        have q15:IntKind.i64.wrap ((k:Int) - 15) = (a15:Int):=by rw [e15.out,IntWalk.i64_in _ (by omega)];omega
        have q2:IntKind.i64.wrap ((k:Int) - 2) = (a2:Int):=by rw [e2.out,IntWalk.i64_in _ (by omega)];omega
        have q16:IntKind.i64.wrap ((k:Int) - 16) = (a16:Int):=by rw [e16.out,IntWalk.i64_in _ (by omega)];omega
        have q7:IntKind.i64.wrap ((k:Int) - 7) = (a7:Int):=by rw [e7.out,IntWalk.i64_in _ (by omega)];omega
        have l15:a15 < 64:=by rw [e15.out];omega
        have l2:a2 < 64:=by rw [e2.out];omega
        have l16:a16 < 64:=by rw [e16.out];omega
        have l7:a7 < 64:=by rw [e7.out];omega
        go_wp2_with fail
        go_quiet (fail)
        go_wp2_with (go_at_call 373;refine (rot_any _ _ _ (by omega) (by omega)).mono ?_;rintro e w' ⟨rfl,rfl⟩)
        go_region
        go_wp2
        go_roundw
        case rel =>
          refine ⟨k + 1,by omega,by go_num,?_,?_,?_⟩
          · have hb:=(hb1.drewN (nq + 1)).set k (.int .u32 (I (upto (sw (mOf s)) k a16 + sg0 (upto (sw (mOf s)) k a15) + upto (sw (mOf s)) k a7 + sg1 (upto (sw (mOf s)) k a2))))
            rw [tab_upto_succ] at hb
            · exact hb
            · rw [sw_hi _ _ hlt,e15.out,e2.out,e7.out,e16.out];unfold upto
              rw [if_pos (by omega),if_pos (by omega),if_pos (by omega),if_pos (by omega)]
          · exact (hb0.drewN (nq + 1)).setOther _ (by simp) _
          · exact (below_drewN hbel _).setCell (by simp) _
        case measure => simp [intOf];omega
      · have hk':k = 64:=by omega
        subst hk'
        go_wp2_with (first
          | (refine wpl_load rfl 102 _ rfl 64 100 Tryz.underlying102 sz32 _ _ _ _ rfl hb1 (by simp [tab_size]) ?_;rw [tab_all _ _ _ (Nat.zero_add _)])
          | (refine wpl_store rfl rfl 102 _ _ rfl 64 sz32 _ _ _ _ rfl rfl hb0 (by simp [tab_size]) ?_))
        refine ret_cell 2 102 rfl 64 100 Tryz.underlying102 sz32 _ _ _ rfl (putBlk_blk hb0) rfl ⟨?_,below_put hbel (Nat.le_refl _) _⟩
        rw [tab_congr 64 (upto (sw (mOf s)) 64) (sw (mOf s)) (fun j hj => by unfold upto;rw [if_pos hj])]
end Go.Proofs.YtjmpjfikcgccdaaGreatDoor.Sm
namespace Go.Proofs.YtjmpjfikcgccdaaGreatDoor.Sm
open Go.RowKit
attribute [local go_sem] I_xor I_and I_or I_addm I_add3 I_add4 I_add5 I_not
def kList:List Nat:=[1116352408,1899447441,3049323471,3921009573,961987163,1508970993,2453635748,2870763221,3624381080,310598401,607225278,1426881987,1925078388,2162078206,2614888103,3248222580,3835390401,4022224774,264347078,604807628,770255983,1249150122,1555081692,1996064986,2554220882,2821834349,2952996808,3210313671,3336571891,3584528711,113926993,338241895,666307205,773529912,1294757372,1396182291,1695183700,1986661051,2177026350,2456956037,2730485921,2820302411,3259730800,3345764771,3516065817,3600352804,4094571909,275423344,430227734,506948616,659060556,883997877,958139571,1322822218,1537002063,1747873779,1955562222,2024104815,2227730452,2361852424,2428436474,2756734187,3204031479,3329325298]
def kF (i:Nat):BitVec 32:=BitVec.ofNat 32 (kList.getD i 0)
def KB (w:World):Prop:=7 < w.heap.size ∧ ∀ i,i < 64 -> w.cell? ⟨7,i,none⟩ = some (.int .u32 (I (kF i)))
theorem KB.below {w w':World} (h:KB w) (hb:Below w.heap.size w w'):KB w':=
  ⟨Nat.lt_of_lt_of_le h.1 hb.size,fun i hi => by rw [hb.cell h.1];exact h.2 i hi⟩
structure St where
  a:BitVec 32
  b:BitVec 32
  c:BitVec 32
  d:BitVec 32
  e:BitVec 32
  f:BitVec 32
  g:BitVec 32
  h:BitVec 32
def bs1 (x:BitVec 32):BitVec 32:=x.rotateRight 6 ^^^ x.rotateRight 11 ^^^ x.rotateRight 25
def bs0 (x:BitVec 32):BitVec 32:=x.rotateRight 2 ^^^ x.rotateRight 13 ^^^ x.rotateRight 22
def ch (e f g:BitVec 32):BitVec 32:=e &&& f ^^^ ~~~e &&& g
def maj (a b c:BitVec 32):BitVec 32:=a &&& b ^^^ a &&& c ^^^ b &&& c
def St.step (s:St) (k w:BitVec 32):St:=
  let t:=s.h + bs1 s.e + ch s.e s.f s.g + k + w
  ⟨t + bs0 s.a + maj s.a s.b s.c,s.a,s.b,s.c,s.d + t,s.e,s.f,s.g⟩
def St.at (s:St):Nat -> BitVec 32
  | 0 => s.a | 1 => s.b | 2 => s.c | 3 => s.d | 4 => s.e | 5 => s.f | 6 => s.g | _ => s.h
def St.of (f:Nat -> BitVec 32):St:=⟨f 0,f 1,f 2,f 3,f 4,f 5,f 6,f 7⟩
def St.rounds (s:St) (m:Nat -> BitVec 32):Nat -> St
  | 0 => s
  | i + 1 => (s.rounds m i).step (kF i) (sw m i)
def stirF (f m:Nat -> BitVec 32) (j:Nat):BitVec 32:=f j + ((St.of f).rounds m 64).at j
set_option maxHeartbeats 1000000 in
set_option maxRecDepth 100000 in
theorem stir_any (f:Nat -> BitVec 32) (s:ByteArray) (w:World) (h0:s.size = 64) (hK:KB w) :
    Calls Tryz.prog 356 #[.agg (tab 8 f),.string s] w fun e w' => e = .returned (.agg (tab 8 (stirF f (mOf s)))) ∧ Below w.heap.size w w':=by
  go_enter Tryz.func356,Tryz.ntmps356
  go_wp2_with fail
  refine (sched_any s _ h0).mono ?_
  rintro e w1 ⟨rfl,hb1⟩
  have g1:Blk w1 w.heap.size (tab 8 f) 101:=Blk.below ((Blk.new w (tab 8 f) 101).alloc _) hb1 (by simp;omega)
  have g2:Blk w1 (w.heap.size + 1) (tab 8 (fun _ => 0)) 101:=Blk.below (Blk.new' _ _ 101 (by simp)) hb1 (by simp)
  have hbel:Below w.heap.size w w1:=(((Below.refl _ _).alloc (Nat.le_refl _) _).alloc (by simp) _).trans (hb1.mono (by simp;omega))
  clear hb1
  have hsz:w.heap.size + 1 < w1.heap.size:=g2.lt
  have g3:=fun (arr:Array Value) => Blk.new w1 arr 102
  go_wp2_with (first | (refine wpl_store_u rfl rfl 102 _ _ rfl 64 sz32 _ _ _ _ rfl rfl (g3 _) rfl ?_;intro w2 hu j3) | fail)
  have j1:=(g1.alloc _).upd hu (by omega)
  have j2:=(g2.alloc _).upd hu (by omega)
  have j4:=below_upd (hbel.alloc (by omega) _) hu (by omega)
  clear hu g1 g2 g3 hbel
  have c1:=fun j (hj:j < 8) => j1.tcell j hj
  have c3:=fun j (hj:j < 64) => j3.tcell j hj
  have cK:=(hK.below j4).2
  go_quiet (fail)
  go_wp2_with fail
  go_quiet (fail)
  go_wp2_with fail
  go_loopw [6,7,8,9,10,11,12,13,37] (fun a b c d e f' g h i wr => ∃ k n:Nat,k <= 64 ∧ i = .int .i64 k ∧ wr = w2.drewN n ∧
      a = .int .u32 (I ((St.of f).rounds (mOf s) k).a) ∧ b = .int .u32 (I ((St.of f).rounds (mOf s) k).b) ∧ c = .int .u32 (I ((St.of f).rounds (mOf s) k).c) ∧ d = .int .u32 (I ((St.of f).rounds (mOf s) k).d) ∧
      e = .int .u32 (I ((St.of f).rounds (mOf s) k).e) ∧ f' = .int .u32 (I ((St.of f).rounds (mOf s) k).f) ∧ g = .int .u32 (I ((St.of f).rounds (mOf s) k).g) ∧ h = .int .u32 (I ((St.of f).rounds (mOf s) k).h)) (fun _ _ _ _ _ _ _ _ i _ => 64 - (intOf i).toNat)
  case atStart => exact ⟨0,_,by omega,rfl,World.drewN_drewN _ _ _,rfl,rfl,rfl,rfl,rfl,rfl,rfl,rfl⟩
  case round =>
    obtain ⟨k,n,hk,rfl,rfl,rfl,rfl,rfl,rfl,rfl,rfl,rfl,rfl⟩:=hrel
    by_cases hlt:k < 64
    · have hs:(St.of f).rounds (mOf s) (k + 1) = ((St.of f).rounds (mOf s) k).step (kF k) (sw (mOf s) k):=rfl
      have HS:Hid ((St.of f).rounds (mOf s) (k + 1) = ((St.of f).rounds (mOf s) k).step (kF k) (sw (mOf s) k)):=hs
      clear hs
      generalize (St.of f).rounds (mOf s) k = S at *
      go_wp2_with (go_at_call 373;refine (rot_any _ _ _ (by omega) (by omega)).mono ?_;rintro e w' ⟨rfl,rfl⟩)
      go_quiet (fail)
      go_wp2_with (go_at_call 373;refine (rot_any _ _ _ (by omega) (by omega)).mono ?_;rintro e w' ⟨rfl,rfl⟩)
      go_roundw
      case rel =>
        refine ⟨k + 1,_,by omega,by go_num,rfl,?_⟩
        rw [HS.out]
        exact ⟨rfl,rfl,rfl,rfl,rfl,rfl,rfl,rfl⟩
      case measure => simp [intOf];omega
    · have hk':k = 64:=by omega
      subst hk'
      have hF:Hid (tab 8 (stirF f (mOf s)) = #[.int .u32 (I (f 0 + ((St.of f).rounds (mOf s) 64).a)),.int .u32 (I (f 1 + ((St.of f).rounds (mOf s) 64).b)),.int .u32 (I (f 2 + ((St.of f).rounds (mOf s) 64).c)),.int .u32 (I (f 3 + ((St.of f).rounds (mOf s) 64).d)),
        .int .u32 (I (f 4 + ((St.of f).rounds (mOf s) 64).e)),.int .u32 (I (f 5 + ((St.of f).rounds (mOf s) 64).f)),.int .u32 (I (f 6 + ((St.of f).rounds (mOf s) 64).g)),.int .u32 (I (f 7 + ((St.of f).rounds (mOf s) 64).h))]):=rfl
      generalize (St.of f).rounds (mOf s) 64 = S at *
      go_wp2_with (first | (refine wpl_store_u rfl rfl 101 _ _ rfl 8 sz31 _ _ _ (stirF f (mOf s)) rfl (by rw [hF.out];rfl) (j2.drewN n) rfl ?_;intro w3 hu3 j5) | fail)
      refine ret_cell 4 101 rfl 8 100 Tryz.underlying101 sz31 _ _ _ rfl j5 rfl ⟨rfl,below_upd (below_drewN j4 n) hu3 (by omega)⟩
end Go.Proofs.YtjmpjfikcgccdaaGreatDoor.Sm
namespace Go.Proofs.YtjmpjfikcgccdaaGreatDoor.Sm
open Go.RowKit
theorem mixed:Tryz.prog.follows .mixedOrders = true:=by kernel_rfl
def chunks (f:Nat -> BitVec 32) (s:ByteArray):Nat -> Nat -> BitVec 32
  | 0 => f
  | k + 1 => stirF (chunks f s k) (mOf (s.extract (k * 64) ((k + 1) * 64)))
set_option maxRecDepth 100000 in
set_option maxHeartbeats 1000000 in
theorem stirAll_any (f:Nat -> BitVec 32) (s:ByteArray) (w:World) (h0:s.size < 1000000) (hK:KB w) :
    Calls Tryz.prog 321 #[.agg (tab 8 f),.string s] w fun e w' => e = .returned (.agg (tab 8 (chunks f s (s.size / 64)))) ∧ Below w.heap.size w w':=by
  go_enter Tryz.func321,Tryz.ntmps321
  go_wp2_with fail
  go_loopw [9] (fun i wr => ∃ k:Nat,k <= s.size / 64 ∧ i = .int .i64 k ∧ Blk wr w.heap.size (tab 8 (chunks f s k)) 101 ∧ Blk wr (w.heap.size + 1) (tab 8 (fun _ => 0)) 101 ∧ Below w.heap.size w wr) (fun i _ => s.size / 64 - (intOf i).toNat)
  case atStart =>
    refine ⟨0,by omega,rfl,(Blk.new w (tab 8 f) 101).alloc _,Blk.new' _ (tab 8 (fun _ => 0)) 101 (by simp),((Below.refl _ _).alloc (Nat.le_refl _) _).alloc (by simp) _⟩
  case round =>
    obtain ⟨k,hk,rfl,hb1,hb0,hbel⟩:=hrel
    by_cases hlt:k < s.size / 64
    · have b1:((k:Int) + 1) * 64 <= (s.size:Int):=by omega
      have b2:(k:Int) * 64 <= ((k:Int) + 1) * 64:=by omega
      have b3:(k:Int) * 64 <= (s.size:Int):=by omega
      have b4:0 <= (k:Int) * 64:=by omega
      have b5:0 <= ((k:Int) + 1) * 64:=by omega
      have b6:(k:Int) <= (k:Int) + 1:=by omega
      go_wp2_with fail
      refine region_tail 8 mixed (by kernel_rfl) ?_
      simp only [List.take_succ_cons,List.take_zero,List.drop_succ_cons,List.drop_zero]
      repeat (first | (refine still_load rfl 101 _ rfl 8 100 Tryz.underlying101 sz31 _ _ _ rfl (Blk.drew hb1) ?_) | (refine wpStill_step (fun K hK => ?_);go_simp;(try go_bits);refine hK _ ?_;clear hK K))
      refine wpStill_nil ?_
      go_wp2_with fail
      refine (stir_any _ _ _ (by simp;omega) (KB.below hK (Below.drew hbel))).mono ?_
      rintro e w1 ⟨rfl,hb1'⟩
      have hd:wr.drew.heap.size = wr.heap.size:=rfl
      have l1:=hb1.lt;have l0:=hb0.lt
      have m1:=Blk.below (Blk.drew hb1) hb1' (by omega)
      have m0:=Blk.below (Blk.drew hb0) hb1' (by omega)
      have m2:=(Below.drew hbel).trans (hb1'.mono (by omega))
      clear hb1' hd
      go_wp2_with (first | (refine wpl_store_u rfl rfl 101 _ _ rfl 8 sz31 _ _ _ _ rfl rfl m1 rfl ?_;intro w3 hu3 j5) | fail)
      go_roundw
      case rel => exact ⟨k + 1,by omega,by go_num,j5,m0.upd hu3 (by omega),below_upd m2 hu3 (Nat.le_refl _)⟩
      case measure => simp [intOf];omega
    · have hk':k = s.size / 64:=by omega
      subst hk'
      go_wp2_with (first
        | (refine wpl_load rfl 101 _ rfl 8 100 Tryz.underlying101 sz31 _ _ _ _ rfl hb1 (by simp [tab_size]) ?_;rw [tab_all _ _ _ (Nat.zero_add _)])
        | (refine wpl_store_u rfl rfl 101 _ _ rfl 8 sz31 _ _ _ _ rfl rfl hb0 (by simp [tab_size]) ?_;intro w3 hu3 j5))
      refine ret_cell 4 101 rfl 8 100 Tryz.underlying101 sz31 _ _ _ rfl j5 rfl ⟨rfl,below_upd hbel hu3 (by omega)⟩
def numB (N j:Nat):UInt8:=UInt8.ofNat (N / 256 ^ (7 - j))
theorem numB_eq (N j:Nat) (hj:j < 8):((numB N j).toNat:Int) = (N:Int) / 2 ^ (56 - 8 * j) % 256:=by
  have e:(2:Nat) ^ (56 - 8 * j) = 256 ^ (7 - j):=by
    rw [show (256:Nat) = 2 ^ 8 from rfl,<- Nat.pow_mul];congr 1;omega
  unfold numB
  rw [UInt8.toNat_ofNat',<- e]
  simp
set_option maxRecDepth 100000 in
set_option maxHeartbeats 400000 in
theorem wide_any (N:Nat) (w:World) :
    Calls Tryz.prog 319 #[.int .u64 (N:Int)] w fun e w' => e = .returned (.string (sb 8 (numB N))) ∧ Below w.heap.size w w':=by
  go_enter Tryz.func319,Tryz.ntmps319
  go_wp2_with fail
  go_loopw [5] (fun i wr => ∃ k:Nat,k <= 8 ∧ i = .int .i64 k ∧ Blk wr w.heap.size (tb 8 (uptoB (numB N) k)) 426 ∧ Below w.heap.size w wr) (fun i _ => 8 - (intOf i).toNat)
  case atStart => exact ⟨0,by omega,rfl,Blk.new w (tb 8 (uptoB (numB N) 0)) 426,(Below.refl _ _).alloc (Nat.le_refl _) _⟩
  case round =>
    obtain ⟨k,hk,rfl,hb1,hbel⟩:=hrel
    by_cases hlt:k < 8
    · have hc:=fun j (hj:j < 8) => hb1.bcell j hj
      have hf:=fun j => hb1.frozen j
      have b1:0 <= 56 - 8 * (k:Int):=by omega
      go_wp2
      go_roundw
      case rel =>
        refine ⟨k + 1,by omega,by go_num,?_,hbel.setCell (Nat.le_refl _) _⟩
        rw [<- numB_eq N k hlt]
        have:=hb1.set k (.int .u8 ((numB N k).toNat:Int))
        rw [tb_upto_succ _ _ _ _ rfl] at this
        exact this
      case measure => simp [intOf];omega
    · have hk':k = 8:=by omega
      subst hk'
      rw [tb_full] at hb1
      go_wp2_with (refine wpl_string rfl 180 9 5 _ rfl Tryz.underlying180 Tryz.underlying5 Tryz.underlying9 _ _ _ _ _ _ rfl hb1 (by simp [tb_size]) _ (tb_bytes _ _ _ rfl) ?_)
      go_ret
      exact ⟨rfl,hbel⟩
def stB (f:Nat -> BitVec 32) (j:Nat):UInt8:=UInt8.ofNat ((f (j / 4)).toNat / 256 ^ (3 - j % 4))
theorem stB_eq (f:Nat -> BitVec 32) (j:Nat):((stB f j).toNat:Int) = I (f (j / 4)) / 2 ^ (24 - 8 * (j % 4)) % 256:=by
  have e:(2:Nat) ^ (24 - 8 * (j % 4)) = 256 ^ (3 - j % 4):=by
    rw [show (256:Nat) = 2 ^ 8 from rfl,<- Nat.pow_mul];congr 1;omega
  unfold stB I
  rw [UInt8.toNat_ofNat',<- e]
  simp
set_option maxRecDepth 100000 in
set_option maxHeartbeats 400000 in
theorem stText_any (f:Nat -> BitVec 32) (w:World) :
    Calls Tryz.prog 323 #[.agg (tab 8 f)] w fun e w' => e = .returned (.string (sb 32 (stB f))) ∧ Below w.heap.size w w':=by
  go_enter Tryz.func323,Tryz.ntmps323
  go_wp2_with fail
  go_loopw [5] (fun i wr => ∃ k:Nat,k <= 32 ∧ i = .int .i64 k ∧ Blk wr w.heap.size (tab 8 f) 101 ∧ Blk wr (w.heap.size + 1) (tb 32 (uptoB (stB f) k)) 401 ∧ Below w.heap.size w wr) (fun i _ => 32 - (intOf i).toNat)
  case atStart => exact ⟨0,by omega,rfl,(Blk.new w (tab 8 f) 101).alloc _,Blk.new' _ (tb 32 (uptoB (stB f) 0)) 401 (by simp),((Below.refl _ _).alloc (Nat.le_refl _) _).alloc (by simp) _⟩
  case round =>
    obtain ⟨k,hk,rfl,hb0,hb1,hbel⟩:=hrel
    by_cases hlt:k < 32
    · have hc:=fun j (hj:j < 32) => hb1.bcell j hj
      have hf:=fun j => hb1.frozen j
      have h0:=fun j (hj:j < 8) => hb0.tcell j hj
      have b0:(k:Int) / 4 < 8:=by omega
      have b2:k / 4 < 8:=by omega
      have b1:0 <= 24 - 8 * ((k:Int) % 4):=by omega
      go_wp2
      go_roundw
      case rel =>
        refine ⟨k + 1,by omega,by go_num,hb0.setOther _ (by simp) _,?_,hbel.setCell (by simp) _⟩
        rw [<- stB_eq f k]
        have:=hb1.set k (.int .u8 ((stB f k).toNat:Int))
        rw [tb_upto_succ _ _ _ _ rfl] at this
        exact this
      case measure => simp [intOf];omega
    · have hk':k = 32:=by omega
      subst hk'
      rw [tb_full] at hb1
      go_wp2_with (refine wpl_string rfl 180 9 5 _ rfl Tryz.underlying180 Tryz.underlying5 Tryz.underlying9 _ _ _ _ _ _ rfl hb1 (by simp [tb_size]) _ (tb_bytes _ _ _ rfl) ?_)
      go_ret
      exact ⟨rfl,hbel⟩
end Go.Proofs.YtjmpjfikcgccdaaGreatDoor.Sm
