/-
  Part of the proof of BaseFindsCard (S3 and on).
-/
import Derived.Test.YtjmpjfikcgccdaaGreatDoorB20
import Derived.Test.YtjmpjfikcgccdaaGreatDoorB02
import Derived.Shelf.Strings.Builder1
import Derived.Shelf.Strings.Builder2
import Derived.Test.YtjmpjfikcgccdaaGreatDoorProg
import Derived.Test.YtjmpjfikcgccdaaGreatDoorB04
namespace Go.Proofs.YtjmpjfikcgccdaaGreatDoor
open Go.RowKit
attribute [local go_sem] I_addm
theorem szU:(Tryz.prog.info? 100).map (·.size) = some 1:=by kernel_rfl
theorem quarter_q (a b c d:BitVec 32) (w:World) :
    Calls Tryz.prog 371 #[.int .u32 (I a),.int .u32 (I b),.int .u32 (I c),.int .u32 (I d)] w fun e w' => e = .returned (.tuple #[.int .u32 (I (qr a b c d).a),.int .u32 (I (qr a b c d).b),.int .u32 (I (qr a b c d).c),.int .u32 (I (qr a b c d).d)]) ∧ ∃ n,w' = w.drewN n:=
  (quarter_any a b c d w).mono fun _ _ ⟨h1,h2⟩ => ⟨h1,0,h2⟩
theorem tab_qat (f:Nat -> BitVec 32) (i j k l:Nat):((((tab 16 f).setIfInBounds i (.int .u32 (I (qr (f i) (f j) (f k) (f l)).a))).setIfInBounds j (.int .u32 (I (qr (f i) (f j) (f k) (f l)).b))).setIfInBounds k (.int .u32 (I (qr (f i) (f j) (f k) (f l)).c))).setIfInBounds l (.int .u32 (I (qr (f i) (f j) (f k) (f l)).d)) = tab 16 (qat f i j k l):=by
  rw [tab_set,tab_set,tab_set,tab_set];rfl
set_option maxRecDepth 100000 in
set_option maxHeartbeats 1000000 in
theorem bytes_any (f:Nat -> BitVec 32) (w:World) :
    Calls Tryz.prog 355 #[.agg (tab 16 f)] w fun e w' => e = .returned (.agg (tb 64 (blkB f))) ∧ Below w.heap.size w w':=by
  go_enter Tryz.func355,Tryz.ntmps355
  go_wp2_with (first
    | (refine wpl_load rfl 422 _ rfl 16 100 Tryz.underlying422 szS _ _ _ _ rfl ((Blk.new w (tab 16 f) 422).alloc _) (by simp [tab_size]) ?_;rw [tab_all _ _ _ (Nat.zero_add _)])
    | (refine wpl_store_u rfl rfl 422 _ _ rfl 16 szS _ _ _ f rfl rfl (Blk.new' _ _ _ (by simp)) rfl ?_;intro w1 hu1 j1)
    | fail)
  have j0:Blk w1 w.heap.size (tab 16 f) 422:=(((Blk.new w (tab 16 f) 422).alloc _).alloc _).upd hu1 (by omega)
  have jz:Blk w1 (w.heap.size + 1) (tb 64 (fun _ => 0)) 424:=((Blk.new' _ (tb 64 (fun _ => 0)) 424 (by simp)).alloc _).upd hu1 (by omega)
  have jb:Below w.heap.size w w1:=below_upd ((((Below.refl _ _).alloc (Nat.le_refl _) _).alloc (by simp) _).alloc (by simp;omega) _) hu1 (by omega)
  clear hu1
  go_loopw [16] (fun i wr => ∃ r:Nat,r <= 10 ∧ i = .int .i64 r ∧ Blk wr (w.heap.size + 1 + 1) (tab 16 (dbl f r)) 422 ∧ Blk wr w.heap.size (tab 16 f) 422 ∧ Blk wr (w.heap.size + 1) (tb 64 (fun _ => 0)) 424 ∧ Below w.heap.size w wr) (fun i _ => 10 - (intOf i).toNat)
  case atStart => exact ⟨0,by omega,rfl,j1,j0,jz,jb⟩
  case round =>
    clear j1 j0 jz jb
    obtain ⟨r,hr,rfl,j1,j0,jz,jb⟩:=hrel
    by_cases hlt:r < 10
    · go_wp2_with fail
      go_loopw [18] (fun i wr => ∃ m:Nat,m <= 4 ∧ i = .int .i64 m ∧ Blk wr (w.heap.size + 1 + 1) (tab 16 (col (dbl f r) m)) 422 ∧ Blk wr w.heap.size (tab 16 f) 422 ∧ Blk wr (w.heap.size + 1) (tb 64 (fun _ => 0)) 424 ∧ Below w.heap.size w wr) (fun i _ => 4 - (intOf i).toNat)
      case atStart => exact ⟨0,by omega,rfl,j1,j0,jz,jb⟩
      case round =>
        clear j1 j0 jz jb
        obtain ⟨m,hm,rfl,j1,j0,jz,jb⟩:=hrel
        by_cases hlm:m < 4
        · have c0:=j1.tcell m (by omega)
          have c1:=j1.tcell (4 + m) (by omega)
          have c2:=j1.tcell (8 + m) (by omega)
          have c3:=j1.tcell (12 + m) (by omega)
          go_wp2_with fail
          refine region_h 4 18 22 (fun w' => ∃ n,w' = wr.drewN n) mixed (by kernel_rfl) (fun _ _ _ _ _ h => h) ⟨1,rfl⟩ ?_
          simp only [List.take_succ_cons,List.take_zero,List.drop_succ_cons,List.drop_zero,Nat.reduceSub]
          repeat (refine wpPure_cons _ rfl rfl _ (fun w' => by go_simp;rfl) ?_)
          refine wpPure_nil ?_
          simp only [Act.put,List.setIfInBounds_toArray,List.set_cons_succ,List.set_cons_zero]
          repeat (go_big_quiet_step ((go_at_call 371;refine Calls.quiet_of (quarter_q _ _ _ _ _))))
          refine wpQuiet_nil ?_
          rintro w' ⟨n2,rfl⟩
          repeat (refine wpPure_cons _ rfl rfl _ (fun w' => by go_simp;rfl) ?_)
          refine wpPure_nil ?_
          simp only [Act.put,List.setIfInBounds_toArray,List.set_cons_succ,List.set_cons_zero]
          have hu:=Upd.refl (wr.drewN n2) (w.heap.size + 1 + 1)
          have jj:=j1.drewN n2
          clear j1 c0 c1 c2 c3
          go_wp2_with (refine wpl_putU rfl rfl 100 _ _ rfl szU _ _ _ _ _ _ rfl rfl jj (by simp [tab_size];omega) hu ?_;clear hu jj;intro w' hu jj)
          go_roundw
          case rel =>
            rw [tab_qat] at jj
            exact ⟨m + 1,by omega,by go_num,jj,(j0.drewN n2).upd hu (by omega),(jz.drewN n2).upd hu (by omega),below_upd (below_drewN jb n2) hu (by omega)⟩
          case measure => simp [intOf];omega
        · have hm':m = 4:=by omega
          subst hm'
          go_wp2_with fail
          rw [show (((4:Nat):Int)) = 4 from rfl]
          go_loopw [54] (fun i wr => ∃ m:Nat,m <= 4 ∧ i = .int .i64 m ∧ Blk wr (w.heap.size + 1 + 1) (tab 16 (dia (col (dbl f r) 4) m)) 422 ∧ Blk wr w.heap.size (tab 16 f) 422 ∧ Blk wr (w.heap.size + 1) (tb 64 (fun _ => 0)) 424 ∧ Below w.heap.size w wr) (fun i _ => 4 - (intOf i).toNat)
          case atStart => exact ⟨0,by omega,rfl,j1,j0,jz,jb⟩
          case round =>
            clear j1 j0 jz jb
            obtain ⟨m,hm,rfl,j1,j0,jz,jb⟩:=hrel
            by_cases hlm:m < 4
            · have c0:=fun j (hj:j < 16) => j1.tcell j hj
              have EM:Hid (dia (col (dbl f r) 4) (m + 1) = qat (dia (col (dbl f r) 4) m) m (4 + (m + 1) % 4) (8 + (m + 2) % 4) (12 + (m + 3) % 4)):=rfl
              obtain ⟨m1,em1⟩:∃ m1,Hid (m1 = m + 1):=⟨_,rfl⟩
              generalize dia (col (dbl f r) 4) m = g at *
              obtain rfl | rfl | rfl | rfl:m = 0 ∨ m = 1 ∨ m = 2 ∨ m = 3:=by omega
              all_goals
                go_wp2_with fail
                refine region_h 4 18 22 (fun w' => ∃ n,w' = wr.drewN n) mixed (by kernel_rfl) (fun _ _ _ _ _ h => h) ⟨1,rfl⟩ ?_
                simp only [List.take_succ_cons,List.take_zero,List.drop_succ_cons,List.drop_zero,Nat.reduceSub]
                repeat (refine wpPure_cons _ rfl rfl _ (fun w' => by go_simp;rfl) ?_)
                refine wpPure_nil ?_
                simp only [Act.put,List.setIfInBounds_toArray,List.set_cons_succ,List.set_cons_zero]
                repeat (go_big_quiet_step ((go_at_call 371;refine Calls.quiet_of (quarter_q _ _ _ _ _))))
                refine wpQuiet_nil ?_
                rintro w' ⟨n2,rfl⟩
                repeat (refine wpPure_cons _ rfl rfl _ (fun w' => by go_simp;rfl) ?_)
                refine wpPure_nil ?_
                simp only [Act.put,List.setIfInBounds_toArray,List.set_cons_succ,List.set_cons_zero]
                have hu:=Upd.refl (wr.drewN n2) (w.heap.size + 1 + 1)
                have jj:=j1.drewN n2
                clear j1 c0
                go_wp2_with (refine wpl_putU rfl rfl 100 _ _ rfl szU _ _ _ _ _ _ rfl rfl jj (by simp [tab_size]) hu ?_;clear hu jj;intro w' hu jj)
                go_light
                rw [tab_qat] at jj
                refine ⟨⟨m1,by rw [em1.out];omega,by rw [em1.out];go_num,by rw [em1.out,EM.out];exact jj,(j0.drewN n2).upd hu (by omega),(jz.drewN n2).upd hu (by omega),below_upd (below_drewN jb n2) hu (by omega)⟩,by simp [intOf]⟩
            · have hm':m = 4:=by omega
              subst hm'
              go_wp2_with fail
              go_light
              exact ⟨⟨r + 1,by omega,by go_num,j1,j0,jz,jb⟩,by simp [intOf];omega⟩
    · have hr':r = 10:=by omega
      subst hr'
      go_wp2_with fail
      rw [show (((10:Nat):Int)) = 10 from rfl]
      have l1:=j1.lt
      have k1:=j1.alloc (.cells (tb 64 (uptoB (blkB f) 0)) 424)
      have k0:=j0.alloc (.cells (tb 64 (uptoB (blkB f) 0)) 424)
      have kz:=jz.alloc (.cells (tb 64 (uptoB (blkB f) 0)) 424)
      have kb:=jb.alloc (by omega) (.cells (tb 64 (uptoB (blkB f) 0)) 424)
      have kn:=Blk.new wr (tb 64 (uptoB (blkB f) 0)) 424
      obtain ⟨B,hB⟩:∃ B,Hid (B = wr.heap.size):=⟨_,rfl⟩
      rw [<- hB.out] at kn l1
      rw [<- hB.out]
      clear j1 j0 jz jb
      go_loopw [97] (fun i wr => ∃ k:Nat,k <= 64 ∧ i = .int .i64 k ∧ Blk wr B (tb 64 (uptoB (blkB f) k)) 424 ∧ Blk wr (w.heap.size + 1 + 1) (tab 16 (dbl f 10)) 422 ∧ Blk wr w.heap.size (tab 16 f) 422 ∧ Blk wr (w.heap.size + 1) (tb 64 (fun _ => 0)) 424 ∧ Below w.heap.size w wr) (fun i _ => 64 - (intOf i).toNat)
      case atStart => exact ⟨0,by omega,rfl,kn,k1,k0,kz,kb⟩
      case round =>
        clear kn k1 k0 kz kb
        obtain ⟨k,hk,rfl,kn,k1,k0,kz,kb⟩:=hrel
        by_cases hlk:k < 64
        · have c1:=fun j (hj:j < 16) => k1.tcell j hj
          have c0:=fun j (hj:j < 16) => k0.tcell j hj
          have b0:(k:Int) / 4 < 16:=by omega
          have b2:k / 4 < 16:=by omega
          have b1:0 <= 8 * ((k:Int) % 4):=by omega
          go_wp2_with fail
          go_quiet (fail)
          have jj:=kn.drewN nq
          clear c1 c0
          have hc:=fun j (hj:j < 64) => jj.bcell j hj
          have hf:=fun j => jj.frozen j
          go_wp2
          go_roundw
          case rel =>
            refine ⟨k + 1,by omega,by go_num,?_,(k1.drewN nq).setOther _ (by simp;omega) _,(k0.drewN nq).setOther _ (by simp;omega) _,(kz.drewN nq).setOther _ (by simp;omega) _,(below_drewN kb nq).setCell (by simp;omega) _⟩
            rw [<- blkB_eq f k]
            have:=jj.set k (.int .u8 ((blkB f k).toNat:Int))
            rw [tb_upto_succ _ _ _ _ rfl] at this
            exact this
          case measure => simp [intOf];omega
        · have hk':k = 64:=by omega
          subst hk'
          rw [tb_full] at kn
          go_wp2_with (first
            | (refine wpl_load rfl 424 _ rfl 64 5 Tryz.underlying424 szB _ _ _ _ rfl kn (by simp [tb_size]) ?_;rw [tb_all _ _ _ (Nat.zero_add _)])
            | (refine wpl_storeB rfl rfl 424 _ _ rfl 64 szB _ _ _ _ rfl rfl kz (by simp [tb_size]) ?_;intro w3 hu3 j5))
          refine ret_cellB 2 424 rfl 64 5 Tryz.underlying424 szB _ _ _ rfl j5 rfl ⟨rfl,below_upd kb hu3 (by omega)⟩
end Go.Proofs.YtjmpjfikcgccdaaGreatDoor
namespace Go.Proofs.YtjmpjfikcgccdaaGreatDoor
open Go.Shelf Go.RowKit
def lr:Go.Shelf.Ren:=⟨fun | 165 => 106 | 169 => 108 | 240 => 165 | 241 => 166 | 276 => 239 | 277 => 240 | 167 => 320 | n => n,fun | 72 => 182 | 70 => 179 | 37 => 180 | 75 => 40 | 127 => 266 | 164 => 207 | 80 => 159 | n => n,fun | n => n⟩
theorem lays167:Go.Proofs.Lays.n167 Tryz.prog lr:={
  mixed:=by kernel_rfl
  f167:=Tryz.func320.trans (congrArg some (by kernel_rfl))
  f240:=Tryz.func165.trans (congrArg some (by kernel_rfl))
  f276:=Tryz.func239.trans (congrArg some (by kernel_rfl))
  t0:=Tryz.underlying0
  a0:=Tryz.isAgg0
  z0:=Tryz.sizeOf0
  v0:=Tryz.zeroValue0
  t4:=Tryz.underlying4
  a4:=Tryz.isAgg4
  z4:=Tryz.sizeOf4
  v4:=Tryz.zeroValue4
  t5:=Tryz.underlying5
  a5:=Tryz.isAgg5
  z5:=Tryz.sizeOf5
  v5:=Tryz.zeroValue5
  t9:=Tryz.underlying9
  a9:=Tryz.isAgg9
  z9:=Tryz.sizeOf9
  v9:=Tryz.zeroValue9
  t20:=Tryz.underlying20
  a20:=Tryz.isAgg20
  z20:=Tryz.sizeOf20
  v20:=Tryz.zeroValue20
  t37:=Tryz.underlying180
  a37:=Tryz.isAgg180
  z37:=Tryz.sizeOf180
  v37:=Tryz.zeroValue180
  t70:=Tryz.underlying179
  a70:=Tryz.isAgg179
  z70:=Tryz.sizeOf179
  v70:=Tryz.zeroValue179
  t72:=Tryz.underlying182
  a72:=Tryz.isAgg182
  z72:=Tryz.sizeOf182
  v72:=Tryz.zeroValue182
  t75:=Tryz.underlying40
  a75:=Tryz.isAgg40
  z75:=Tryz.sizeOf40
  v75:=Tryz.zeroValue40
  t164:=Tryz.underlying207
  a164:=Tryz.isAgg207
  z164:=Tryz.sizeOf207
  v164:=Tryz.zeroValue207 }
theorem lays165:Go.Proofs.Lays.n165 Tryz.prog lr:={
  mixed:=by kernel_rfl
  f165:=Tryz.func106.trans (congrArg some (by kernel_rfl))
  f240:=Tryz.func165.trans (congrArg some (by kernel_rfl))
  f241:=Tryz.func166.trans (congrArg some (by kernel_rfl))
  f276:=Tryz.func239.trans (congrArg some (by kernel_rfl))
  f277:=Tryz.func240.trans (congrArg some (by kernel_rfl))
  t0:=Tryz.underlying0
  a0:=Tryz.isAgg0
  z0:=Tryz.sizeOf0
  v0:=Tryz.zeroValue0
  t3:=Tryz.underlying3
  a3:=Tryz.isAgg3
  z3:=Tryz.sizeOf3
  v3:=Tryz.zeroValue3
  t4:=Tryz.underlying4
  a4:=Tryz.isAgg4
  z4:=Tryz.sizeOf4
  v4:=Tryz.zeroValue4
  t9:=Tryz.underlying9
  a9:=Tryz.isAgg9
  z9:=Tryz.sizeOf9
  v9:=Tryz.zeroValue9
  t20:=Tryz.underlying20
  a20:=Tryz.isAgg20
  z20:=Tryz.sizeOf20
  v20:=Tryz.zeroValue20
  t37:=Tryz.underlying180
  a37:=Tryz.isAgg180
  z37:=Tryz.sizeOf180
  v37:=Tryz.zeroValue180
  t70:=Tryz.underlying179
  a70:=Tryz.isAgg179
  z70:=Tryz.sizeOf179
  v70:=Tryz.zeroValue179
  t72:=Tryz.underlying182
  a72:=Tryz.isAgg182
  z72:=Tryz.sizeOf182
  v72:=Tryz.zeroValue182
  t164:=Tryz.underlying207
  a164:=Tryz.isAgg207
  z164:=Tryz.sizeOf207
  v164:=Tryz.zeroValue207 }
theorem lays169:Go.Proofs.Lays.n169 Tryz.prog lr:={
  mixed:=by kernel_rfl
  f169:=Tryz.func108.trans (congrArg some (by kernel_rfl))
  t0:=Tryz.underlying0
  a0:=Tryz.isAgg0
  z0:=Tryz.sizeOf0
  v0:=Tryz.zeroValue0
  t3:=Tryz.underlying3
  a3:=Tryz.isAgg3
  z3:=Tryz.sizeOf3
  v3:=Tryz.zeroValue3
  t9:=Tryz.underlying9
  a9:=Tryz.isAgg9
  z9:=Tryz.sizeOf9
  v9:=Tryz.zeroValue9
  t37:=Tryz.underlying180
  a37:=Tryz.isAgg180
  z37:=Tryz.sizeOf180
  v37:=Tryz.zeroValue180
  t70:=Tryz.underlying179
  a70:=Tryz.isAgg179
  z70:=Tryz.sizeOf179
  v70:=Tryz.zeroValue179
  t72:=Tryz.underlying182
  a72:=Tryz.isAgg182
  z72:=Tryz.sizeOf182
  v72:=Tryz.zeroValue182
  t127:=Tryz.underlying266
  a127:=Tryz.isAgg266
  z127:=Tryz.sizeOf266
  v127:=Tryz.zeroValue266 }
theorem extra:Builder.Extra Tryz.prog lr:={
  sizeBuilder:=by kernel_rfl
  liesBuilder:=by kernel_rfl
  t5:=Tryz.underlying5
  a5:=Tryz.isAgg5
  z5:=Tryz.sizeOf5
  v5:=Tryz.zeroValue5
  infoByte:=by kernel_rfl
  cellsByte:=by kernel_rfl
  sizeByte:=by kernel_rfl
  neB5:=by decide }
theorem c_grow (B b n:Nat) (w:World) (hB:B <= b) (hbk:w.heap[b]? = some (.cells #[.pointer none,.slice none 0 0] 182 (0,0))) (hBw:B <= w.heap.size) (hn:n <= 281474976710656) :
    Calls Tryz.prog 106 #[.pointer (some ⟨b,0,none⟩),.int .i64 n] w fun e w' => e = .returned (.tuple #[]) ∧ (Lib.BuilderAt 182 5 B b (.pointer (some ⟨b,0,none⟩)) [] w' ∧ Below B w w'):=Any.Builder_Grow_fresh lays165 extra B b n w hB hbk hBw hn
theorem c_writeByte (B b:Nat) (bs:List Value) (c:Int) (w:World) (h:Lib.IsBuilder 182 5 B b bs w) (hlen:bs.length + 1 <= 140737488355328) (hBw:B <= w.heap.size) :
    Calls Tryz.prog 320 #[.pointer (some ⟨b,0,none⟩),.int .u8 c] w fun e w' => e = .returned .nilIface ∧ (Lib.BuilderAt 182 5 B b (.pointer (some ⟨b,0,none⟩)) (bs ++ [.int .u8 c]) w' ∧ Below B w w'):=Any.Builder_WriteByte lays167 extra B b bs c w h hlen hBw
theorem c_string (B b:Nat) (l:List UInt8) (w:World) (h:Lib.IsBuilder 182 5 B b (Lib.byteCells l) w) (hBw:B <= w.heap.size) :
    Calls Tryz.prog 108 #[.pointer (some ⟨b,0,none⟩)] w fun e w' => e = .returned (.string ⟨l.toArray⟩) ∧ Below B w w':=Any.Builder_String_any lays169 extra B b l w h hBw
end Go.Proofs.YtjmpjfikcgccdaaGreatDoor
namespace Go.Proofs.YtjmpjfikcgccdaaGreatDoor
open Go.RowKit
set_option maxHeartbeats 400000 in
theorem holds_any (key nonce:ByteArray) (w:World) (_h1:key.size <= 10000) (_h2:nonce.size <= 10000) :
    Calls Tryz.prog 353 #[.string key,.string nonce] w fun e w' => e = .returned (.bool (decide (key.size = 32 ∧ nonce.size = 12))) ∧ w' = w:=by
  by_cases c1:key.size = 32
  · by_cases c2:nonce.size = 12
    · go_enter Tryz.func353,Tryz.ntmps353
      go_wp2
      go_ret
      simp [c1,c2]
    · have d2:decide ((nonce.size:Int) = 12) = false:=by simp;omega
      go_enter Tryz.func353,Tryz.ntmps353
      go_wp2
      go_ret
      simp [c1,c2];omega
  · have d1:decide ((key.size:Int) = 32) = false:=by simp;omega
    go_enter Tryz.func353,Tryz.ntmps353
    go_wp2
    go_ret
    simp [c1]
def errArg:Value:=.tuple #[.string ByteArray.empty,.iface 34 (.int .i64 1)]
theorem start_any' (key:ByteArray) (z:Int) (n:BitVec 32) (nonce:ByteArray) (w:World) (hz:z = I n) (hk:key.size = 32) (hn:nonce.size = 12) :
    Calls Tryz.prog 354 #[.string key,.int .u32 z,.string nonce] w fun e w' => e = .returned (.agg (tab 16 (stW key n nonce))) ∧ Below w.heap.size w w':=by
  subst hz;exact start_any key n nonce w hk hn
theorem info5:(Tryz.prog.info? 5).map (fun i => (i.zero,i.size,i.bytes)) = some (some (.int .u8 0),1,1):=by kernel_rfl
structure BW (B b:Nat) (v:Value) (bs:List Value) (w:World):Prop where
  ge:B <= b
  blk:w.heap[b]? = some (.cells #[.pointer (some ⟨b,0,none⟩),v] 182 (0,0))
  own:Row w B 5 v bs
  ne:v.ownBlock ≠ some b
theorem BW.of {B b:Nat} {bs:List Value} {w:World} (h:Lib.BuilderAt 182 5 B b (.pointer (some ⟨b,0,none⟩)) bs w):∃ v,BW B b v bs w:=by
  obtain ⟨h1,v,h2,h3,h4⟩:=h
  exact ⟨v,h1,h2,h3,h4⟩
theorem BW.to {B b:Nat} {v:Value} {bs:List Value} {w:World} (h:BW B b v bs w):Lib.BuilderAt 182 5 B b (.pointer (some ⟨b,0,none⟩)) bs w:=⟨h.ge,v,h.blk,h.own,h.ne⟩
theorem BW.lt {B b:Nat} {v:Value} {bs:List Value} {w:World} (h:BW B b v bs w):b < w.heap.size:=by
  rcases Nat.lt_or_ge b w.heap.size with h' | h'
  · exact h'
  · have:=h.blk;simp [Array.getElem?_eq_none h'] at this
theorem Row.own_lt {B:Nat} {e:TypeId} {v:Value} {xs:List Value} {w:World} (h:Row w B e v xs) (k:Nat) (hk:v.ownBlock = some k):B <= k ∧ k < w.heap.size:=by
  rcases h.form with ⟨e1,_⟩ | ⟨g,cap,e1,h1,h2⟩
  · rw [e1] at hk;cases hk
  · rw [e1] at hk;simp only [Value.ownBlock,Option.some.injEq] at hk;subst hk;exact ⟨h1,h2⟩
theorem BW.keep {B b:Nat} {v:Value} {bs:List Value} {w w':World} (h:BW B b v bs w) (h1:w'.heap[b]? = w.heap[b]?) (h2:∀ k,v.ownBlock = some k -> w'.heap[k]? = w.heap[k]?):BW B b v bs w':=by
  refine ⟨h.ge,by rw [h1];exact h.blk,?_,h.ne⟩
  obtain ⟨g1,g2⟩:=h.own
  refine ⟨g1,?_⟩
  rcases g2 with g2 | ⟨g,cap,cur,hv,hg,hh,r⟩
  · exact Or.inl g2
  · exact Or.inr ⟨g,cap,cur,hv,hg,by rw [h2 g (by rw [hv];rfl)];exact hh,r⟩
theorem BW.below {B b:Nat} {v:Value} {bs:List Value} {w w':World} (h:BW B b v bs w) (hb:Below w.heap.size w w'):BW B b v bs w':=
  h.keep (hb.block _ h.lt) fun k hk => hb.block _ (h.own.own_lt k hk).2
theorem BW.upd {B b c:Nat} {v:Value} {bs:List Value} {w w':World} (h:BW B b v bs w) (hu:Upd w w' c) (h1:b ≠ c) (h2:v.ownBlock ≠ some c):BW B b v bs w':=
  h.keep (hu.block _ h1) fun _ hk => hu.block _ fun e => h2 (e ▸ hk)
set_option maxRecDepth 100000 in
set_option maxHeartbeats 400000 in
theorem writeByte_w (B b:Nat) (v:Value) (bs:List Value) (c:Int) (w:World) (h:BW B b v bs w) (hlen:bs.length < 100000) (hBw:B <= w.heap.size) :
    Calls Tryz.prog 320 #[.pointer (some ⟨b,0,none⟩),.int .u8 c] w fun e w' => e = .returned .nilIface ∧ ∃ v',BW B b v' (bs ++ [.int .u8 c]) w' ∧ (v'.ownBlock = v.ownBlock ∨ ∀ k,v'.ownBlock = some k -> w.heap.size <= k) ∧ Below B w w' ∧ ∀ k,k < w.heap.size -> k ≠ b -> v.ownBlock ≠ some k -> w'.heap[k]? = w.heap[k]?:=by
  have hlt:=h.lt
  obtain ⟨hB,hbk,hown,hne⟩:=h
  have c0:w.cell? ⟨b,0,none⟩ = some (.pointer (some ⟨b,0,none⟩)):=by rw [Lib.cell_of_heap hbk];rfl
  have c1:w.cell? ⟨b,1,none⟩ = some v:=by rw [Lib.cell_of_heap hbk];rfl
  go_enter Tryz.func320,Tryz.ntmps320
  go_wp2_with (first
    | (go_at_call 165;refine (Any.Builder_copyCheck_used { lays167 with } extra.toX72 b _ c0).mono ?_;rintro e w1 ⟨rfl,rfl⟩)
    | (refine wpl_push rfl _ _ 180 rfl B 5 (.int .u8 0) 1 Tryz.underlying180 info5 rfl v bs rfl (hown.below ((Below.refl _ _).alloc (Nat.le_refl _) _)) _ _ (.int .u8 c) rfl ?c1 rfl hlen (by decide) (by simp;omega) ?_)
    | fail)
  case c1 => exact (Blk.new w1 #[Value.int .u8 c] 5).cell 0
  intro g cap w2 hrow hgrow hg hgl
  have hbg:b ≠ g:=by
    rcases hg with hg | hg
    · intro e;subst e;exact hne hg
    · omega
  have hb2:w2.heap[b]? = some (.cells #[.pointer (some ⟨b,0,none⟩),v] 182 (0,0)):=by
    rw [hgrow.block b (by simp;omega) (fun e => hne e.symm),Lib.alloc_old w1 _ b hlt];exact hbk
  have d1:w2.cell? ⟨b,1,none⟩ = some v:=by rw [Lib.cell_of_heap hb2];rfl
  have f1:w2.frozen? ⟨b,1,none⟩ = false:=Lib.frozen_of_heap hb2 1
  go_wp2
  go_ret
  refine ⟨rfl,.slice (some ⟨g,0,none⟩) (bs.length + 1) cap,⟨hB,?_,?_,?_⟩,?_,?_,?_⟩
  · exact Blk.set (arr:=#[.pointer (some ⟨b,0,none⟩),v]) hb2 1 (.slice (some ⟨g,0,none⟩) (bs.length + 1) cap)
  · obtain ⟨g1,g2⟩:=hrow
    refine ⟨g1,?_⟩
    rcases g2 with g2 | ⟨g',cap',cur,hv,hgB,hh,r⟩
    · exact Or.inl g2
    · have eg:g = g':=by injection hv with a1;injection a1 with a2;injection a2
      exact Or.inr ⟨g',cap',cur,hv,hgB,by rw [Below.heap_setCell _ _ _ _ (by simp;omega)];exact hh,r⟩
  · intro e;injection e with e;exact hbg e.symm
  · rcases hg with hg | hg
    · exact Or.inl hg.symm
    · refine Or.inr fun k hk => ?_
      have hk':g = k:=by simpa [Value.ownBlock] using hk
      omega
  · exact (((Below.refl B w1).alloc hBw _).grown hgrow (by simp;omega) (fun k hk => (hown.own_lt k hk).1)).setCell (p:=⟨b,1,none⟩) hB _
  · intro k hk hkb hkv
    rw [Below.heap_setCell _ _ _ _ (by simp;exact hkb),hgrow.block k (by simp;omega) (fun e => hkv e.symm),Lib.alloc_old w1 _ k hk]
def ksB (key nonce:ByteArray) (i:Nat):UInt8:=blkB (stW key (BitVec.ofNat 32 (1 + i / 64)) nonce) (i % 64)
def xorF (key nonce s:ByteArray) (i:Nat):UInt8:=s.data.toList.getD i 0 ^^^ ksB key nonce i
def xorV (key nonce s:ByteArray):Value:=if key.size = 32 ∧ nonce.size = 12 then .tuple #[.string (sb s.size (xorF key nonce s)),.nilIface] else errArg
theorem tab_inc (key nonce:ByteArray) (k:Nat):(tab 16 (stW key (BitVec.ofNat 32 k) nonce)).setIfInBounds 12 (.int .u32 (I (BitVec.ofNat 32 (k + 1)))) = tab 16 (stW key (BitVec.ofNat 32 (k + 1)) nonce):=by
  rw [tab_set];apply tab_congr;intro j _
  by_cases e:j = 12
  · subst e;simp [stW]
  · rw [if_neg e];unfold stW;simp [e]
theorem bytes_snoc (f:Nat -> UInt8) (k:Nat):Lib.byteCells ((List.range (k + 1)).map f) = Lib.byteCells ((List.range k).map f) ++ [.int .u8 ((f k).toNat:Int)]:=by
  rw [List.range_succ];simp [Lib.byteCells]
theorem B_xor (a b:UInt8):bits .xor .u8 (a.toNat:Int) (b.toNat:Int) = ((a ^^^ b).toNat:Int):=by
  rw [u8_xor_nat _ _ a.toNat_lt b.toNat_lt];simp
theorem I_inc (m:Nat):(I (BitVec.ofNat 32 m) + 1) % 4294967296 = I (BitVec.ofNat 32 (m + 1)):=by
  unfold I;rw [BitVec.toNat_ofNat,BitVec.toNat_ofNat];omega
attribute [local go_sem] I_addm
set_option maxRecDepth 100000 in
set_option maxHeartbeats 1000000 in
theorem xor_any (key nonce s:ByteArray) (w:World) (hk:key.size <= 10000) (hn:nonce.size <= 10000) (hs:s.size <= 10000) :
    Calls Tryz.prog 316 #[.string key,.string nonce,.string s] w fun e w' => e = .returned (xorV key nonce s) ∧ Below w.heap.size w w':=by
  by_cases c:key.size = 32 ∧ nonce.size = 12
  · rw [show xorV key nonce s = _ from if_pos c]
    obtain ⟨k1,k2⟩:=c
    go_enter Tryz.func316,Tryz.ntmps316
    go_wp2_with (go_at_call 353;refine (holds_any _ _ _ hk hn).mono ?_;rintro e w' ⟨rfl,rfl⟩)
    refine (start_any' key 1 (BitVec.ofNat 32 1) nonce _ rfl k1 k2).mono ?_
    rintro e w1 ⟨rfl,g1⟩
    go_wp2_with (refine wpl_store_u rfl rfl 422 _ _ rfl 16 szS _ _ _ _ rfl rfl (Blk.new _ _ _) rfl ?_;intro w2 hu2 j8)
    have g2:=below_upd (g1.alloc g1.size _) hu2 g1.size
    have e2:w2.heap.size = w1.heap.size + 1:=by rw [hu2.size];simp
    clear hu2
    refine (c_grow w2.heap.size w2.heap.size s.size _ (Nat.le_refl _) (Blk.new w2 _ 182) (by simp) (by omega)).mono ?_
    rintro e w3 ⟨rfl,hB3,h3⟩
    have eA:w1.heap.size < w2.heap.size:=by omega
    obtain ⟨A,hA⟩:∃ A,Hid (A = w1.heap.size):=⟨_,rfl⟩
    rw [<- hA.out] at eA j8
    rw [<- hA.out]
    obtain ⟨Bb,hBb⟩:∃ Bb,Hid (Bb = w2.heap.size):=⟨_,rfl⟩
    obtain ⟨v0,BW0⟩:=BW.of hB3
    have g0:w'.heap.size <= A:=by rw [hA.out];exact g1.size
    have j80:=Blk.below (j8.alloc (.cells #[.pointer none,.slice none 0 0] 182)) h3 eA
    have g3:=(g2.alloc g2.size (.cells #[.pointer none,.slice none 0 0] 182)).trans (h3.mono g2.size)
    rw [<- hBb.out] at BW0 eA
    rw [<- hBb.out]
    have l3:=BW0.lt
    clear h3 hB3 j8 g2 g1 e2
    go_wp2_with fail
    obtain ⟨Cc,hCc⟩:∃ Cc,Hid (Cc = w3.heap.size):=⟨_,rfl⟩
    have JC0:=Blk.new w3 (tb 64 (fun _ => 0)) 424
    have JA0:=j80.alloc (.cells (tb 64 (fun _ => 0)) 424)
    have JW0:=BW0.below ((Below.refl _ _).alloc (Nat.le_refl _) (.cells (tb 64 (fun _ => 0)) 424))
    have JB0:=g3.alloc g3.size (.cells (tb 64 (fun _ => 0)) 424)
    have on0:v0.ownBlock ≠ some w3.heap.size:=fun e => by have:=(BW0.own.own_lt _ e).2;omega
    rw [<- hCc.out] at JC0 on0 l3
    rw [<- hCc.out]
    go_loopw [26] (fun i wr => ∃ (k:Nat) (v:Value) (g:Nat -> UInt8),k <= s.size ∧ i = .int .i64 k ∧ Blk wr A (tab 16 (stW key (BitVec.ofNat 32 (1 + (k + 63) / 64)) nonce)) 422 ∧ Blk wr Cc (tb 64 g) 424 ∧ Hid (k % 64 ≠ 0 -> g = blkB (stW key (BitVec.ofNat 32 (1 + k / 64)) nonce)) ∧
        BW Bb Bb v (Lib.byteCells ((List.range k).map (xorF key nonce s))) wr ∧ v.ownBlock ≠ some Cc ∧ Below w'.heap.size w' wr) (fun i _ => s.size - (intOf i).toNat)
    case atStart => exact ⟨0,v0,_,by omega,rfl,JA0,JC0,fun h => absurd rfl h,JW0,on0,JB0⟩
    case round =>
      clear JC0 JA0 JW0 JB0 on0 BW0 j80 g3
      obtain ⟨k,v,g,hkl,rfl,JA,JC,HG,JW,on,JB⟩:=hrel
      by_cases hlt:k < s.size
      · have m1:(k:Int) % 64 < 64:=by omega
        have m2:k % 64 < 64:=by omega
        by_cases hz:k % 64 = 0
        · have hz':(k:Int) % 64 = 0:=by omega
          have lA:=JA.lt;have lC:=JC.lt;have lW:=JW.lt
          have ek:Hid (1 + (k + 63) / 64 = 1 + k / 64):=by unfold Hid;omega
          rw [ek.out] at JA
          obtain ⟨q,hq⟩:∃ q,Hid (q = 1 + k / 64):=⟨_,rfl⟩
          rw [<- hq.out] at JA
          go_wp2_with (first
            | (refine wpl_load rfl 422 _ rfl 16 100 Tryz.underlying422 szS _ _ _ _ rfl JA (by simp [tab_size]) ?_;rw [tab_all _ _ _ (Nat.zero_add _)])
            | (go_at_call 355;refine (bytes_any _ _).mono ?_;rintro e w5 ⟨rfl,g5⟩)
            | (refine wpl_storeB rfl rfl 424 _ _ rfl 64 szB _ _ _ _ rfl rfl (Blk.below JC g5 lC) (by simp [tb_size]) ?_;intro w6 hu6 JC6;have JA6:=(Blk.below JA g5 lA).upd hu6 (by omega);have c12:=JA6.tcell 12 (by decide);rw [stW_n] at c12)
            | (refine wpl_put rfl rfl 100 _ _ rfl szU _ _ _ _ _ _ rfl rfl JA6 (by simp [tab_size]) ?_;intro w7 hu7 JA7)
            | fail)
          have JC7:=JC6.upd hu7 (by omega)
          have JW7:=((JW.below g5).upd hu6 (by omega) on).upd hu7 (by omega) (fun e => by have:=(JW.own.own_lt _ e).1;omega)
          have JB7:=below_upd (below_upd (JB.trans (g5.mono JB.size)) hu6 (by omega)) hu7 g0
          rw [I_inc,tab_inc] at JA7
          clear c12 JA6 JC6 hu7 hu6 g5
          obtain ⟨qq,hqq⟩:∃ qq,Hid (qq = 1 + k / 64 + 1):=⟨_,rfl⟩
          rw [show q + 1 = qq from by rw [hq.out,hqq.out]] at JA7
          have HQ:Hid (BitVec.ofNat 32 q = BitVec.ofNat 32 (1 + k / 64)):=by unfold Hid;rw [hq.out]
          obtain ⟨GG,hGG⟩:∃ GG,Hid (GG = blkB (stW key (BitVec.ofNat 32 (1 + k / 64)) nonce)):=⟨_,rfl⟩
          rw [HQ.out,<- hGG.out] at JC7
          clear JA JC JW JB lA lC lW
          have cC:=fun j (hj:j < 64) => JC7.bcell j hj
          refine region_qtail 7 (fun w' => ∃ n,w' = w7.drewN n) mixed (by kernel_rfl) ⟨1,rfl⟩ ?_
          simp only [List.take_succ_cons,List.take_zero,List.drop_succ_cons,List.drop_zero]
          repeat (go_big_quiet_step (fail))
          refine wpQuiet_nil ?_
          rintro w' ⟨n2,rfl⟩
          go_wp2_with fail
          rw [B_xor]
          have eX:Hid (xorF key nonce s k = s[k] ^^^ GG (k % 64)):=by
            unfold Hid xorF ksB
            rw [hGG.out]
            rw [List.getD_eq_getElem?_getD,List.getElem?_eq_getElem (by simpa using hlt)];rfl
          refine (writeByte_w Bb Bb v _ _ _ (JW7.below (below_drewN (Below.refl _ _) n2)) (by simp [Lib.byteCells];omega) (by have:=JW7.lt;simp;omega)).mono ?_
          rintro e w8 ⟨rfl,v8,BW8,o8,b8,t8⟩
          have lA7:=JA7.lt
          have lC7:=JC7.lt
          go_wp2
          go_light
          refine ⟨⟨k + 1,v8,GG,by omega,by go_num,?_,?_,?_,?_,?_,?_⟩,by simp [intOf];omega⟩
          · rw [show 1 + (k + 1 + 63) / 64 = qq from by rw [hqq.out];omega]
            unfold Blk
            rw [t8 A lA7 (by omega) (fun e => by have:=(JW7.own.own_lt _ e).1;omega)]
            exact JA7
          · unfold Blk
            rw [t8 Cc lC7 (by omega) on]
            exact JC7
          · intro hne
            rw [show 1 + (k + 1) / 64 = 1 + k / 64 from by omega]
            rw [hGG.out]
          · rw [bytes_snoc,eX.out,hz];exact BW8
          · rcases o8 with o8 | o8
            · rw [o8];exact on
            · intro e;have:=o8 _ e;simp at this;omega
          · exact (below_drewN JB7 n2).trans (b8.mono (by omega))
        · have hz':¬ ((k:Int) % 64 = 0):=by omega
          have hd:decide ((k:Int) % 64 = 0) = false:=by simp only [decide_eq_false_iff_not];exact hz'
          have JA7:=JA
          have JC7:=JC
          have JW7:=JW
          have JB7:=JB
          obtain ⟨qq,hqq⟩:∃ qq,Hid (qq = 1 + (k + 63) / 64):=⟨_,rfl⟩
          rw [<- hqq.out] at JA7
          clear JA JC JW JB
          go_wp2_with fail
          have cC:=fun j (hj:j < 64) => JC7.bcell j hj
          refine region_qtail 7 (fun w' => ∃ n,w' = wr.drewN n) mixed (by kernel_rfl) ⟨1,rfl⟩ ?_
          simp only [List.take_succ_cons,List.take_zero,List.drop_succ_cons,List.drop_zero]
          repeat (go_big_quiet_step (fail))
          refine wpQuiet_nil ?_
          rintro w' ⟨n2,rfl⟩
          go_wp2_with fail
          rw [B_xor]
          have eX:Hid (xorF key nonce s k = s[k] ^^^ g (k % 64)):=by
            unfold Hid xorF ksB
            rw [<- HG.out hz]
            rw [List.getD_eq_getElem?_getD,List.getElem?_eq_getElem (by simpa using hlt)];rfl
          refine (writeByte_w Bb Bb v _ _ _ (JW7.below (below_drewN (Below.refl _ _) n2)) (by simp [Lib.byteCells];omega) (by have:=JW7.lt;simp;omega)).mono ?_
          rintro e w8 ⟨rfl,v8,BW8,o8,b8,t8⟩
          have lA7:=JA7.lt
          have lC7:=JC7.lt
          go_wp2
          go_light
          refine ⟨⟨k + 1,v8,g,by omega,by go_num,?_,?_,?_,?_,?_,?_⟩,by simp [intOf];omega⟩
          · rw [show 1 + (k + 1 + 63) / 64 = qq from by rw [hqq.out];omega]
            unfold Blk
            rw [t8 A lA7 (by omega) (fun e => by have:=(JW7.own.own_lt _ e).1;omega)]
            exact JA7
          · unfold Blk
            rw [t8 Cc lC7 (by omega) on]
            exact JC7
          · intro hne
            rw [show 1 + (k + 1) / 64 = 1 + k / 64 from by omega]
            rw [<- HG.out hz]
          · rw [bytes_snoc,eX.out];exact BW8
          · rcases o8 with o8 | o8
            · rw [o8];exact on
            · intro e;have:=o8 _ e;simp at this;omega
          · exact (below_drewN JB7 n2).trans (b8.mono (by omega))
      · have hk':k = s.size:=by omega
        subst hk'
        go_wp2_with (go_at_call 108;refine (c_string Bb Bb _ _ (Or.inr JW.to) (by have:=JW.lt;omega)).mono ?_;rintro e w9 ⟨rfl,h9⟩)
        go_ret2
        exact ⟨rfl,JB.trans (h9.mono (by omega))⟩
  · rw [show xorV key nonce s = errArg from if_neg c]
    have cf:decide (key.size = 32 ∧ nonce.size = 12) = false:=by simp only [decide_eq_false_iff_not];exact c
    go_enter Tryz.func316,Tryz.ntmps316
    go_wp2_with (go_at_call 353;refine (holds_any _ _ _ hk hn).mono ?_;rintro e w' ⟨rfl,rfl⟩)
    go_ret2
    exact ⟨rfl,Below.refl _ _⟩
end Go.Proofs.YtjmpjfikcgccdaaGreatDoor
namespace Go.Proofs.YtjmpjfikcgccdaaGreatDoor.Pg
open Go.RowKit
def errV (n:Int):Value:=if n = 0 then .nilIface else .iface 34 (.int .i64 n)
def nonceT (key:ByteArray) (id v:Int) (s:ByteArray):ByteArray:=(mk 110 [key,numS id,numS v,s]).extract 0 12
theorem nonceT_size (key:ByteArray) (id v:Int) (s:ByteArray):(nonceT key id v s).size = 12:=by
  unfold nonceT;rw [ByteArray.size_extract,mk_size];rfl
def aheadT (key:ByteArray) (id v:Int) (s:ByteArray):ByteArray:=numS v ++ nonceT key id v s ++ sb 201 (xorF key (nonceT key id v s) (padT s))
theorem aheadT_size (key:ByteArray) (id v:Int) (s:ByteArray):(aheadT key id v s).size = 221:=by
  unfold aheadT;rw [ByteArray.size_append,ByteArray.size_append,numS_size,nonceT_size,sb_size]
def sealT (key:ByteArray) (id v:Int) (s:ByteArray):ByteArray:=aheadT key id v s ++ mk 103 [key,numS id,aheadT key id v s]
theorem sealT_size (key:ByteArray) (id v:Int) (s:ByteArray):(sealT key id v s).size = 237:=by
  unfold sealT;rw [ByteArray.size_append,aheadT_size,mk_size]
def sealOk (key:ByteArray) (id v:Int):Prop:=key.size = 32 ∧ 0 <= id ∧ id <= 31 ∧ 1 <= v ∧ v <= 1099511627776
instance (key:ByteArray) (id v:Int):Decidable (sealOk key id v):=by unfold sealOk;infer_instance
set_option maxRecDepth 100000 in
set_option maxHeartbeats 1000000 in
theorem seal_ok (key:ByteArray) (id v:Int) (s:ByteArray) (w:World) (hk:key.size = 32) (h0:0 <= id) (h1:id <= 31) (h2:1 <= v) (h3:v <= 1099511627776) (hs:s.size <= 200) (hK:Sm.KB w) :
    Calls Tryz.prog 269 #[.string key,.int .i64 id,.int .i64 v,.string s] w fun e w' => e = .returned (.tuple #[.string (sealT key id v s),.nilIface]) ∧ Below w.heap.size w w':=by
  have hn:=numS_size id
  have hv:=numS_size v
  have hs':(s.size:Int) <= 200:=by omega
  have eN:Hid ((mk 110 [key,numS id,numS v,s]).extract 0 12 = nonceT key id v s):=by unfold Hid nonceT;rfl
  have eX:Hid (xorV key (nonceT key id v s) (padT s) = .tuple #[.string (sb 201 (xorF key (nonceT key id v s) (padT s))),.nilIface]):=by
    unfold Hid xorV;rw [if_pos ⟨hk,nonceT_size _ _ _ _⟩,padT_size s hs]
  have eA:Hid (numS v ++ nonceT key id v s ++ sb 201 (xorF key (nonceT key id v s) (padT s)) = aheadT key id v s):=rfl
  have eS:Hid (aheadT key id v s ++ mk 103 [key,numS id,aheadT key id v s] = sealT key id v s):=rfl
  have zN:=nonceT_size key id v s
  have zP:=padT_size s hs
  have zX:=sb_size 201 (xorF key (nonceT key id v s) (padT s))
  have zA:=aheadT_size key id v s
  have zM:=mk_size 110 [key,numS id,numS v,s]
  have zG:=mk_size 103 [key,numS id,aheadT key id v s]
  generalize sealT key id v s = T at *
  generalize aheadT key id v s = A at *
  generalize nonceT key id v s = N at *
  generalize sb 201 (xorF key N (padT s)) = X at *
  have d1:decide (id < 0) = false:=decide_eq_false (by omega)
  have d2:decide (32 <= id) = false:=decide_eq_false (by omega)
  have d3:decide (v < 1) = false:=decide_eq_false (by omega)
  have d4:decide (1099511627776 < v) = false:=decide_eq_false (by omega)
  have d5:decide ((200:Int) < (s.size:Int)) = false:=decide_eq_false (by omega)
  clear hs' h0 h1 h2 h3
  go_enter Tryz.func269,Tryz.ntmps269
  go_wp2_with fail
  refine (num_s id _).mono ?_
  rintro e w1 ⟨rfl,g1⟩
  go_wp2_with fail
  refine (num_s v _).mono ?_
  rintro e w2 ⟨rfl,g2⟩
  have g2':=g1.trans (g2.mono g1.size)
  go_wp2_with fail
  have g3:=below_alloc w2 (.cells #[.string key,.string (numS id),.string (numS v),.string s] 9)
  have g3':=g2'.trans (g3.mono g2'.size)
  refine (mark4 110 _ rfl (Blk.new w2 _ 9) (by omega) (by omega) (by omega) (by omega) (hK.below g3')).mono ?_
  rintro e w3 ⟨rfl,g4⟩
  have g4':=g3'.trans (g4.mono g3'.size)
  clear g1 g2 g2' g3 g3' g4
  go_wp2_with fail
  rw [eN.out]
  refine (padded_any s _ hs).mono ?_
  rintro e w4 ⟨rfl,g5⟩
  have g5':=g4'.trans (g5.mono g4'.size)
  go_wp2_with fail
  refine (xor_any key N (padT s) _ (by omega) (by omega) (by omega)).mono ?_
  rintro e w5 ⟨rfl,g6⟩
  have g6':=g5'.trans (g6.mono g5'.size)
  rw [eX.out]
  clear g4' g5 g5' g6
  go_wp2_with fail
  refine (num_s v _).mono ?_
  rintro e w6 ⟨rfl,g7⟩
  have g7':=g6'.trans (g7.mono g6'.size)
  have zA1:(numS v ++ N).size = 20:=by rw [ByteArray.size_append];omega
  go_wp2_with fail
  rw [eA.out]
  refine (pseal_any key id A _ (by omega) (by omega) (hK.below g7')).mono ?_
  rintro e w7 ⟨rfl,g8⟩
  have g8':=g7'.trans (g8.mono g7'.size)
  go_wp2
  go_ret2
  rw [eS.out]
  exact ⟨rfl,g8'⟩
end Go.Proofs.YtjmpjfikcgccdaaGreatDoor.Pg
