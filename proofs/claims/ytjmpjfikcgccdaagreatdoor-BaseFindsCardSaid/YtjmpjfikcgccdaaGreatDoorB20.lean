/-
  Part of the proof of BaseFindsCard (SmW5 and on).
-/
import Derived.Test.YtjmpjfikcgccdaaGreatDoorB19
import Derived.Test.YtjmpjfikcgccdaaGreatDoorB01
import Derived.Laws.BitsAllLaws
namespace Go.Proofs.YtjmpjfikcgccdaaGreatDoor.Sm
open Go.RowKit
theorem ba_ext {a b:ByteArray} (h:a.data.toList = b.data.toList):a = b:=by
  cases a;cases b;simp at h;subst h;rfl
theorem repeatL_zero (z:Nat):Lib.repeatL [0] z = List.replicate z 0:=by
  induction z with
  | zero => rfl
  | succ z ih => simp [Lib.repeatL,ih,List.replicate_succ]
theorem c_repeat' (c:Int) (z:Nat) (w:World) (hz:c = (z:Int)) (hc:z <= 100) :
    Calls Tryz.prog 103 #[.string ⟨#[0]⟩,.int .i64 c] w fun e w' => ∃ zs:List UInt8,e = .returned (.string ⟨zs.toArray⟩) ∧ Hid (zs = List.replicate z 0) ∧ zs.length <= 100 ∧ Below w.heap.size w w':=by
  subst hz
  refine (c_repeat ⟨#[0]⟩ z w (by omega) (by show 1 * z <= _;omega)).mono ?_
  rintro e w' ⟨rfl,h⟩
  exact ⟨_,rfl,repeatL_zero z,by show (Lib.repeatL [0] z).length <= 100;rw [repeatL_zero];simp;exact hc,h⟩
theorem c_wide (c:Int) (N:Nat) (w:World) (hN:c = (N:Int)) :
    Calls Tryz.prog 319 #[.int .u64 c] w fun e w' => e = .returned (.string (sb 8 (numB N))) ∧ Below w.heap.size w w':=by
  subst hN;exact wide_any N w
def padL (n:Nat):List UInt8:=128 :: (List.replicate ((119 - n % 64) % 64) 0 ++ (List.range 8).map (numB (8 * n)))
set_option maxRecDepth 100000 in
set_option maxHeartbeats 400000 in
theorem pad_any (n:Nat) (w:World) (hn:n < 100000) :
    Calls Tryz.prog 322 #[.int .i64 (n:Int)] w fun e w' => e = .returned (.string ⟨(padL n).toArray⟩) ∧ Below w.heap.size w w':=by
  go_enter Tryz.func322,Tryz.ntmps322
  go_wp2_with fail
  refine (c_repeat' _ ((119 - n % 64) % 64) _ (by omega) (by omega)).mono ?_
  rintro e w1 ⟨zs,rfl,hzs,hlen,h1⟩
  go_wp2_with fail
  refine (c_wide _ (8 * n) _ (by omega)).mono ?_
  rintro e w2 ⟨rfl,h2⟩
  have hs8:=sb_size 8 (numB (8 * n))
  go_wp2_with fail
  go_ret
  refine ⟨?_,h1.trans (h2.mono h1.size)⟩
  refine congrArg (fun x => Ending.returned (Value.string x)) (ba_ext ?_)
  simp [padL,sb,hzs.out]
def hF (j:Nat):BitVec 32:=BitVec.ofNat 32 ([1779033703,3144134277,1013904242,2773480762,1359893119,2600822924,528734635,1541459225].getD j 0)
def sumS (s:ByteArray):ByteArray:=
  let g:=chunks hF (s.extract 0 (s.size - s.size % 64)) ((s.size - s.size % 64) / 64)
  let t:=s.extract (s.size - s.size % 64) s.size ++ ⟨(padL s.size).toArray⟩
  sb 32 (stB (chunks g t ((s.size - (s.size - s.size % 64) + (padL s.size).length) / 64)))
set_option maxRecDepth 100000 in
set_option maxHeartbeats 1000000 in
theorem sum_any (s:ByteArray) (w:World) (hs:s.size <= 10000) (hK:KB w) :
    Calls Tryz.prog 274 #[.string s] w fun e w' => e = .returned (.string (sumS s)) ∧ Below w.heap.size w w':=by
  obtain ⟨m,em⟩:∃ m,Hid (m = s.size - s.size % 64):=⟨_,rfl⟩
  have hm:(s.size:Int) - (s.size:Int) % 64 = (m:Int):=by rw [em.out];omega
  have lm:m <= s.size:=by rw [em.out];omega
  go_enter Tryz.func274,Tryz.ntmps274
  go_wp2_with fail
  have hb:Blk (w.alloc (.cells #[Value.int .u32 1779033703,Value.int .u32 3144134277,Value.int .u32 1013904242,Value.int .u32 2773480762,Value.int .u32 1359893119,Value.int .u32 2600822924,Value.int .u32 528734635,Value.int .u32 1541459225] 101)) w.heap.size (tab 8 hF) 101:=Blk.new w (tab 8 hF) 101
  have hbel:=(Below.refl w.heap.size w).alloc (Nat.le_refl _) (.cells #[Value.int .u32 1779033703,Value.int .u32 3144134277,Value.int .u32 1013904242,Value.int .u32 2773480762,Value.int .u32 1359893119,Value.int .u32 2600822924,Value.int .u32 528734635,Value.int .u32 1541459225] 101)
  generalize w.alloc _ = w1 at *
  refine region_tail 4 mixed (by kernel_rfl) ?_
  simp only [List.take_succ_cons,List.take_zero,List.drop_succ_cons,List.drop_zero]
  repeat (first | (refine still_load rfl 101 _ rfl 8 100 Tryz.underlying101 sz31 _ _ _ rfl (Blk.drew hb) ?_) | (refine wpStill_step (fun K hK => ?_);go_simp;(try go_bits);refine hK _ ?_;clear hK K))
  refine wpStill_nil ?_
  go_wp2_with fail
  refine (stirAll_any _ _ _ (by simp;omega) (KB.below hK (Below.drew hbel))).mono ?_
  rintro e w2 ⟨rfl,h2⟩
  have hd:w1.drew.heap.size = w1.heap.size:=rfl
  have l1:=hb.lt
  have m1:=Blk.below (Blk.drew hb) h2 (by omega)
  have m2:=(Below.drew hbel).trans (h2.mono (by omega))
  clear h2 hd hb hbel
  go_wp2_with (first | (refine wpl_store_u rfl rfl 101 _ _ rfl 8 sz31 _ _ _ _ rfl rfl m1 rfl ?_;intro w3 hu3 j5) | fail)
  have j6:=below_upd m2 hu3 (Nat.le_refl _)
  clear m1 m2 hu3 l1
  obtain ⟨g,HG⟩:∃ g,Hid (g = chunks hF (s.extract 0 m) (m / 64)):=⟨_,rfl⟩
  rw [<- HG.out] at j5
  rw [<- HG.out]
  have l5:=j5.lt
  have hpl:(padL s.size).length <= 100:=by simp [padL];omega
  have hcat:¬ (9223372036854775807 < s.size - m + (padL s.size).length):=by omega
  refine region_qtail 8 (Below w3.heap.size w3) mixed (by kernel_rfl) ((Below.refl _ _).drew) ?_
  simp only [List.take_succ_cons,List.take_zero,List.drop_succ_cons,List.drop_zero]
  refine q_load rfl 101 _ rfl 8 100 Tryz.underlying101 sz31 _ _ _ rfl (fun w' h' => Blk.below j5 h' l5) ?_
  repeat (refine q_pure rfl _ (fun w' => by go_simp;rfl) ?_)
  refine q_call rfl 322 #[.int .i64 (s.size:Int)] (fun w' => by go_simp) _ (fun w' h' => calls_below h' (pad_any s.size w' (by omega))) ?_
  repeat (refine q_pure rfl _ (fun w' => by go_simp;rfl) ?_)
  refine wpQuiet_nil ?_
  intro w4 h4
  simp only [Act.put]
  go_wp2_with fail
  have hps:(⟨(padL s.size).toArray⟩:ByteArray).size = (padL s.size).length:=rfl
  refine (stirAll_any g _ _ (by simp;omega) (KB.below (KB.below hK j6) h4)).mono ?_
  rintro e w5 ⟨rfl,h5⟩
  have n1:=Blk.below (Blk.below j5 h4 l5) h5 (by have:=h4.size;omega)
  have n2:=(j6.trans (h4.mono j6.size)).trans (h5.mono (by have:=h4.size;have:=j6.size;omega))
  clear j5 h4 h5 j6
  go_wp2_with (first
    | (refine wpl_store_u rfl rfl 101 _ _ rfl 8 sz31 _ _ _ _ rfl rfl n1 rfl ?_;intro w6 hu6 n3)
    | (refine wpl_load rfl 101 _ rfl 8 100 Tryz.underlying101 sz31 _ _ _ _ rfl n3 (by simp [tab_size]) ?_;rw [tab_all _ _ _ (Nat.zero_add _)])
    | (go_at_call 323;refine (stText_any _ _).mono ?_;rintro e w7 ⟨rfl,h7⟩))
  have n4:=below_upd n2 hu6 (Nat.le_refl _)
  go_ret
  refine ⟨?_,n4.trans (h7.mono n4.size)⟩
  rw [HG.out,em.out]
  rfl
def numN (n:Int):Nat:=(n % 18446744073709551616).toNat
theorem u64_wrap (n:Int):IntKind.u64.wrap n = (numN n:Int):=by
  simp [IntKind.wrap,IntKind.bits,IntKind.signed,numN];omega
theorem numN_lt (n:Int):numN n < 18446744073709551616:=by unfold numN;omega
set_option maxHeartbeats 400000 in
theorem num_any (n:Int) (w:World):Calls Tryz.prog 271 #[.int .i64 n] w fun e w' => e = .returned (.string (sb 8 (numB (numN n)))) ∧ Below w.heap.size w w':=by
  have hu:=u64_wrap n
  go_enter Tryz.func271,Tryz.ntmps271
  go_wp2_with fail
  refine (c_wide _ (numN n) _ (by omega)).mono ?_
  rintro e w1 ⟨rfl,h1⟩
  go_wp2
  go_ret
  exact ⟨rfl,h1⟩
def hd (n:Nat):UInt8:=([48,49,50,51,52,53,54,55,56,57,97,98,99,100,101,102]:List UInt8).getD n 0
def DB (w:World):Prop:=9 < w.heap.size ∧ w.cell? ⟨9,15,none⟩ = some (.int .u8 4)
theorem DB.below {w w':World} (h:DB w) (hb:Below w.heap.size w w'):DB w':=
  ⟨Nat.lt_of_lt_of_le h.1 hb.size,by rw [hb.cell h.1];exact h.2⟩
structure Parts (w:World) (a:Option Addr) (n:Nat) (ss:List ByteArray):Prop where
  len:ss.length = n
  at':∀ j,j < n -> ∃ b off p,a = some ⟨b,off,none⟩ ∧ b < w.heap.size ∧ w.cell? ⟨b,off + j,none⟩ = some (.string p) ∧ Hid (ss[j]? = some p)
theorem Parts.below {w w':World} {a:Option Addr} {n:Nat} {ss:List ByteArray} (h:Parts w a n ss) (hb:Below w.heap.size w w'):Parts w' a n ss:=
  ⟨h.len,fun j hj => by
    obtain ⟨b,off,p,e,hl,hc,hs⟩:=h.at' j hj
    exact ⟨b,off,p,e,Nat.lt_of_lt_of_le hl hb.size,by rw [hb.cell hl];exact hc,hs⟩⟩
def markPart (p:ByteArray):List UInt8:=(List.range 8).map (numB p.size) ++ p.data.toList
def markTo (kb:UInt8) (ss:List ByteArray) (k:Nat):List UInt8:=kb :: (ss.take k).flatMap markPart
theorem markTo_succ (kb:UInt8) (ss:List ByteArray) (k:Nat) (p:ByteArray) (h:ss[k]? = some p):markTo kb ss (k + 1) = markTo kb ss k ++ (List.range 8).map (numB p.size) ++ p.data.toList:=by
  unfold markTo
  rw [List.take_add_one,h]
  simp [markPart]
theorem markTo_length (kb:UInt8) (ss:List ByteArray) (hs:∀ p ∈ ss,p.size <= 300) (k:Nat):(markTo kb ss k).length <= 1 + 308 * k:=by
  unfold markTo
  have:∀ (l:List ByteArray),(∀ p ∈ l,p.size <= 300) -> (l.flatMap markPart).length <= 308 * l.length:=by
    intro l
    induction l with
    | nil => intro _;simp
    | cons p l ih =>
      intro hl
      have h1:=ih fun q hq => hl q (by simp [hq])
      have h2:=hl p (by simp)
      have h3:p.data.toList.length = p.size:=by simp
      simp only [List.flatMap_cons,List.length_append,markPart,List.length_map,List.length_range,List.length_cons]
      omega
  have h1:=this (ss.take k) fun p hp => hs p (List.mem_of_mem_take hp)
  have h2:(ss.take k).length <= k:=List.length_take_le _ _
  simp only [List.length_cons]
  omega
theorem builder_below {T e:TypeId} {B b:Nat} {p:Value} {bs:List Value} {w w':World} (h:Lib.BuilderAt T e B b p bs w) (hb:Below w.heap.size w w'):Lib.BuilderAt T e B b p bs w':=by
  obtain ⟨hB,v,hbk,hown,hne⟩:=h
  have lt:∀ {k:Nat} {o:Obj},w.heap[k]? = some o -> k < w.heap.size:=fun {k o} hk => by
    rcases Nat.lt_or_ge k w.heap.size with h' | h'
    · exact h'
    · simp [Array.getElem?_eq_none h'] at hk
  refine ⟨hB,v,by rw [hb.block _ (lt hbk)];exact hbk,?_,hne⟩
  obtain ⟨h1,h2⟩:=hown
  refine ⟨h1,?_⟩
  rcases h2 with h2 | ⟨g,cap,cur,hv,hg,hh,r⟩
  · exact Or.inl h2
  · exact Or.inr ⟨g,cap,cur,hv,hg,by rw [hb.block _ (lt hh)];exact hh,r⟩
theorem numN_nat (n:Nat) (h:n < 18446744073709551616):numN (n:Int) = n:=by unfold numN;omega
set_option maxRecDepth 100000 in
set_option maxHeartbeats 1000000 in
theorem mark_any (kb:UInt8) (a:Option Addr) (n cap:Nat) (ss:List ByteArray) (w:World) (hp:Parts w a n ss) (hn:n <= 10) (hs:∀ p ∈ ss,p.size <= 300) (hK:KB w) :
    Calls Tryz.prog 273 #[.int .u8 (kb.toNat:Int),.slice a n cap] w fun e w' => e = .returned (.string ((sumS ⟨(markTo kb ss n).toArray⟩).extract 0 16)) ∧ Below w.heap.size w w':=by
  go_enter Tryz.func273,Tryz.ntmps273
  go_wp2_with fail
  go_loop [5,13] (fun z i => ∃ k q:Nat,k <= n ∧ i = .int .i64 k ∧ z = .int .i64 (q:Int) ∧ q <= 1 + 308 * k) (fun _ i => n - (intOf i).toNat)
  case atStart => exact ⟨0,1,by omega,rfl,rfl,by omega⟩
  case round =>
    obtain ⟨k,q,hk,rfl,rfl,hq⟩:=hrel
    by_cases hlt:k < n
    · obtain ⟨b,off,p,rfl,hbl,hc,hsp⟩:=hp.at' k hlt
      have hz:p.size <= 300:=hs p (List.mem_of_getElem? hsp.out)
      go_wp2
      go_round
      case rel => exact ⟨k + 1,q + (8 + p.size),by omega,by go_num,by go_num,by omega⟩
      case measure => simp [intOf];omega
    · have hk':k = n:=by omega
      subst hk'
      go_wp2_with fail
      refine (c_grow w.heap.size w.heap.size q _ (Nat.le_refl _) (Blk.new w _ 182) (by simp) (by omega)).mono ?_
      rintro e w1 ⟨rfl,hB,h1⟩
      have hbel:=((Below.refl w.heap.size w).alloc (Nat.le_refl _) (.cells #[.pointer none,.slice none 0 0] 182)).trans h1
      clear h1
      go_wp2_with fail
      refine (c_writeByte w.heap.size w.heap.size _ _ _ (Or.inr hB) (by simp) hbel.size).mono ?_
      rintro e w2 ⟨rfl,hB2,h2⟩
      have hbel2:=hbel.trans h2
      clear hB hbel h2
      go_wp2_with fail
      go_loopw [29] (fun i wr => ∃ j:Nat,j <= k ∧ i = .int .i64 j ∧ Lib.BuilderAt 182 5 w.heap.size w.heap.size (.pointer (some ⟨w.heap.size,0,none⟩)) (Lib.byteCells (markTo kb ss j)) wr ∧ Below w.heap.size w wr) (fun i _ => k - (intOf i).toNat)
      case atStart => exact ⟨0,by omega,rfl,by simpa [markTo,Lib.byteCells] using hB2,hbel2⟩
      case round =>
        obtain ⟨j,hj,rfl,hBr,hbr⟩:=hrel
        by_cases hltj:j < k
        · obtain ⟨b,off,p,rfl,hbl,hc,hsp⟩:=hp.at' j hltj
          have hz:p.size <= 300:=hs p (List.mem_of_getElem? hsp.out)
          have hc':wr.cell? ⟨b,off + j,none⟩ = some (.string p):=by rw [hbr.cell hbl];exact hc
          have hml:=markTo_length kb ss hs j
          have hbc:(Lib.byteCells (markTo kb ss j)).length = (markTo kb ss j).length:=by simp [Lib.byteCells]
          have HL:Hid ((Lib.byteCells (markTo kb ss j)).length <= 4000):=by rw [Hid,hbc];omega
          clear hc hml hbc
          go_wp2_with fail
          refine (num_any _ _).mono ?_
          rintro e w3 ⟨rfl,h3⟩
          rw [numN_nat _ (by omega)]
          have hB3:=builder_below hBr h3
          have hbr3:=hbr.trans (h3.mono hbr.size)
          have hc3:w3.cell? ⟨b,off + j,none⟩ = some (.string p):=by rw [hbr3.cell hbl,<- hbr.cell hbl];exact hc'
          go_wp2_with fail
          refine (c_writeString w.heap.size w.heap.size _ _ _ (Or.inr hB3) (by have:=HL.out;rw [sb_size];omega) hbr3.size).mono ?_
          rintro e w4 ⟨rfl,hB4,h4⟩
          have hbr4:=hbr3.trans h4
          go_wp2_with fail
          refine (c_writeString w.heap.size w.heap.size _ _ _ (Or.inr hB4) (by have:=HL.out;simp [Lib.strCells,sb];omega) hbr4.size).mono ?_
          rintro e w5 ⟨rfl,hB5,h5⟩
          have hbr5:=hbr4.trans h5
          clear hBr hB3 hB4 h3 h4 h5 hbr3 hbr4
          go_wp2
          go_roundw
          case rel =>
            refine ⟨j + 1,by omega,by go_num,?_,hbr5⟩
            rw [markTo_succ kb ss j p hsp.out]
            simpa [Lib.byteCells,Lib.strCells,sb] using hB5
          case measure => simp [intOf];omega
        · have hj':j = k:=by omega
          subst hj'
          have hml:=markTo_length kb ss hs j
          go_wp2_with fail
          refine (c_string w.heap.size w.heap.size _ _ (Or.inr hBr) hbr.size).mono ?_
          rintro e w3 ⟨rfl,h3⟩
          have hbr3:=hbr.trans h3
          have hsz:(⟨(markTo kb ss j).toArray⟩:ByteArray).size = (markTo kb ss j).length:=rfl
          go_wp2_with fail
          refine (sum_any _ _ (by rw [hsz];omega) (hK.below hbr3)).mono ?_
          rintro e w4 ⟨rfl,h4⟩
          have h32:(sumS ⟨(markTo kb ss j).toArray⟩).size = 32:=sb_size _ _
          go_wp2
          go_ret
          exact ⟨rfl,hbr3.trans (h4.mono hbr3.size)⟩
end Go.Proofs.YtjmpjfikcgccdaaGreatDoor.Sm
namespace Go.Proofs.YtjmpjfikcgccdaaGreatDoor.Sm
end Go.Proofs.YtjmpjfikcgccdaaGreatDoor.Sm
namespace Go.Proofs.YtjmpjfikcgccdaaGreatDoor.Sm
open Go.RowKit
attribute [local go_sem] I_xor I_and I_or I_addm I_add3 I_add4 I_add5 I_not I_shr3 I_shr10
section
variable {ops:Array Oper} {Q:Exit -> Act -> World -> Prop} {a:Act} {w:World} {rest:List Oper} {o:Oper}
end
end Go.Proofs.YtjmpjfikcgccdaaGreatDoor.Sm
namespace Go.Proofs.YtjmpjfikcgccdaaGreatDoor.Sm
open Go.RowKit
end Go.Proofs.YtjmpjfikcgccdaaGreatDoor.Sm
namespace Go.Proofs.YtjmpjfikcgccdaaGreatDoor.Pg
open Go.RowKit
def bt (s:ByteArray) (i:Nat):Nat:=(s.data.toList.getD i 0).toNat
theorem bt_eq (s:ByteArray) (i:Nat) (h:i < s.size):(s[i]'h).toNat = bt s i:=by
  unfold bt
  rw [List.getD_eq_getElem?_getD,List.getElem?_eq_getElem (by simpa using h)];rfl
theorem bt_lt (s:ByteArray) (i:Nat):bt s i < 256:=UInt8.toNat_lt _
def verF (s:ByteArray):Nat -> Nat
  | 0 => 0
  | k + 1 => verF s k * 256 + bt s k
theorem verF_lt (s:ByteArray):∀ k,verF s k < 256 ^ k
  | 0 => by simp [verF]
  | k + 1 => by have:=verF_lt s k;have:=bt_lt s k;rw [Nat.pow_succ];unfold verF;omega
theorem verF_lt7 (s:ByteArray) (k:Nat) (h:k < 8):verF s k < 72057594037927936:=
  Nat.lt_of_lt_of_le (verF_lt s k) (Nat.le_trans (Nat.pow_le_pow_right (by decide) (show k <= 7 by omega)) (by decide))
theorem or_low (n b:Nat) (hb:b < 256):n * 256 ||| b = n * 256 + b:=by
  have:=Nat.two_pow_add_eq_or_of_lt (i:=8) (b:=b) hb n
  rw [Nat.mul_comm n 256,<- show 2 ^ 8 = 256 from rfl]
  exact this.symm
theorem or_word (n b:Nat) (hn:n < 72057594037927936) (hb:b < 256):bits .or .u64 ((n * 256:Nat):Int) (b:Int) = ((n * 256 + b:Nat):Int):=by
  rw [u64_or_nat _ _ (by omega) (by omega),or_low n b hb]
def verN (s:ByteArray):Int:=wrap64 (verF s 8:Int)
set_option maxRecDepth 100000 in
set_option maxHeartbeats 1000000 in
theorem versionOf_any (s:ByteArray) (w:World) (h8:8 <= s.size) (hs:s.size <= 10000) :
    Calls Tryz.prog 341 #[.string s] w fun e w' => e = .returned (.int .i64 (verN s)) ∧ w' = w:=by
  go_enter Tryz.func341,Tryz.ntmps341
  go_wp2_with fail
  go_loop [3,5] (fun z i => ∃ k:Nat,k <= 8 ∧ i = .int .i64 k ∧ z = .int .u64 (verF s k:Int)) (fun _ i => 8 - (intOf i).toNat)
  case atStart => exact ⟨0,by omega,rfl,rfl⟩
  case round =>
    obtain ⟨k,hk,rfl,rfl⟩:=hrel
    by_cases hlt:k < 8
    · have hv:=verF_lt7 s k hlt
      have hks:k < s.size:=by omega
      have hb:=bt_lt s k
      have hbe:=bt_eq s k hks
      have ho:=or_word (verF s k) (bt s k) hv hb
      rw [Int.natCast_mul] at ho
      go_wp2
      exact ⟨⟨k + 1,by omega,by go_num,congrArg (Value.int .u64) (ho.trans (by simp [verF]))⟩,by simp [intOf];omega⟩
    · have hk':k = 8:=by omega
      subst hk'
      go_wp2
      go_ret
      exact ⟨rfl,rfl⟩
def cutN (s:ByteArray):Nat:=if bt s 0 < 200 then bt s 0 else 200
def cutT (s:ByteArray):ByteArray:=s.extract 1 (1 + cutN s)
set_option maxRecDepth 100000 in
set_option maxHeartbeats 1000000 in
theorem unpadded_any (s:ByteArray) (w:World) (hs:s.size = 201) :
    Calls Tryz.prog 342 #[.string s] w fun e w' => e = .returned (.string (cutT s)) ∧ w' = w:=by
  have hb:=bt_lt s 0
  have hbe:=bt_eq s 0 (by omega)
  have hs0:0 < s.size:=by omega
  have e:((1:Int) + min (bt s 0:Int) 200).toNat = 1 + cutN s:=by unfold cutN;split <;> omega
  go_enter Tryz.func342,Tryz.ntmps342
  go_wp2
  go_ret
  exact ⟨rfl,rfl⟩
def mk (kb:UInt8) (ss:List ByteArray):ByteArray:=(Sm.sumS ⟨(Sm.markTo kb ss ss.length).toArray⟩).extract 0 16
theorem sumS_size (s:ByteArray):(Sm.sumS s).size = 32:=sb_size _ _
theorem mk_size (kb:UInt8) (ss:List ByteArray):(mk kb ss).size = 16:=by
  unfold mk;rw [ByteArray.size_extract,sumS_size];rfl
def numS (n:Int):ByteArray:=sb 8 (Sm.numB (Sm.numN n))
theorem numS_size (n:Int):(numS n).size = 8:=sb_size _ _
theorem parts3 {w:World} {b:Nat} {T:TypeId} {x y z:ByteArray} (h:Blk w b #[.string x,.string y,.string z] T):Sm.Parts w (some ⟨b,0,none⟩) 3 [x,y,z]:=by
  refine ⟨rfl,fun j hj => ?_⟩
  have hc:=h.cell j
  match j,hj with
  | 0,_ => exact ⟨b,0,x,rfl,h.lt,hc,rfl⟩
  | 1,_ => exact ⟨b,0,y,rfl,h.lt,hc,rfl⟩
  | 2,_ => exact ⟨b,0,z,rfl,h.lt,hc,rfl⟩
theorem parts4 {w:World} {b:Nat} {T:TypeId} {x y z u:ByteArray} (h:Blk w b #[.string x,.string y,.string z,.string u] T):Sm.Parts w (some ⟨b,0,none⟩) 4 [x,y,z,u]:=by
  refine ⟨rfl,fun j hj => ?_⟩
  have hc:=h.cell j
  match j,hj with
  | 0,_ => exact ⟨b,0,x,rfl,h.lt,hc,rfl⟩
  | 1,_ => exact ⟨b,0,y,rfl,h.lt,hc,rfl⟩
  | 2,_ => exact ⟨b,0,z,rfl,h.lt,hc,rfl⟩
  | 3,_ => exact ⟨b,0,u,rfl,h.lt,hc,rfl⟩
theorem all3 {x y z:ByteArray} (hx:x.size <= 300) (hy:y.size <= 300) (hz:z.size <= 300):∀ p ∈ [x,y,z],p.size <= 300:=by
  intro p hp
  simp only [List.mem_cons,List.not_mem_nil,or_false] at hp
  rcases hp with rfl | rfl | rfl <;> assumption
theorem all4 {x y z u:ByteArray} (hx:x.size <= 300) (hy:y.size <= 300) (hz:z.size <= 300) (hu:u.size <= 300):∀ p ∈ [x,y,z,u],p.size <= 300:=by
  intro p hp
  simp only [List.mem_cons,List.not_mem_nil,or_false] at hp
  rcases hp with rfl | rfl | rfl | rfl <;> assumption
theorem num_s (n:Int) (w:World):Calls Tryz.prog 271 #[.int .i64 n] w fun e w' => e = .returned (.string (numS n)) ∧ Below w.heap.size w w':=Sm.num_any n w
theorem mark3 (kb:UInt8) (k:Int) (hk:k = (kb.toNat:Int)) {b:Nat} {T:TypeId} {x y z:ByteArray} {w:World} (h:Blk w b #[.string x,.string y,.string z] T) (hx:x.size <= 300) (hy:y.size <= 300) (hz:z.size <= 300) (hK:Sm.KB w) :
    Calls Tryz.prog 273 #[.int .u8 k,.slice (some ⟨b,0,none⟩) 3 3] w fun e w' => e = .returned (.string (mk kb [x,y,z])) ∧ Below w.heap.size w w':=by
  subst hk;exact Sm.mark_any kb _ 3 3 _ w (parts3 h) (by decide) (all3 hx hy hz) hK
theorem mark4 (kb:UInt8) (k:Int) (hk:k = (kb.toNat:Int)) {b:Nat} {T:TypeId} {x y z u:ByteArray} {w:World} (h:Blk w b #[.string x,.string y,.string z,.string u] T) (hx:x.size <= 300) (hy:y.size <= 300) (hz:z.size <= 300) (hu:u.size <= 300) (hK:Sm.KB w) :
    Calls Tryz.prog 273 #[.int .u8 k,.slice (some ⟨b,0,none⟩) 4 4] w fun e w' => e = .returned (.string (mk kb [x,y,z,u])) ∧ Below w.heap.size w w':=by
  subst hk;exact Sm.mark_any kb _ 4 4 _ w (parts4 h) (by decide) (all4 hx hy hz hu) hK
theorem below_alloc (w:World) (o:Obj):Below w.heap.size w (w.alloc o):=(Below.refl _ _).alloc (Nat.le_refl _) o
set_option maxRecDepth 100000 in
set_option maxHeartbeats 1000000 in
theorem pseal_any (key:ByteArray) (id:Int) (s:ByteArray) (w:World) (hk:key.size <= 300) (hs:s.size <= 300) (hK:Sm.KB w) :
    Calls Tryz.prog 318 #[.string key,.int .i64 id,.string s] w fun e w' => e = .returned (.string (mk 103 [key,numS id,s])) ∧ Below w.heap.size w w':=by
  have hn:=numS_size id
  go_enter Tryz.func318,Tryz.ntmps318
  go_wp2_with fail
  refine (num_s id _).mono ?_
  rintro e w1 ⟨rfl,g1⟩
  go_wp2_with fail
  have g2:=below_alloc w1 (.cells #[.string key,.string (numS id),.string s] 9)
  refine (mark3 103 _ rfl (Blk.new w1 _ 9) hk (by omega) hs ((hK.below g1).below g2)).mono ?_
  rintro e w2 ⟨rfl,g3⟩
  go_wp2
  go_ret
  exact ⟨rfl,(g1.trans (g2.mono g1.size)).trans (g3.mono (g1.trans (g2.mono g1.size)).size)⟩
set_option maxRecDepth 100000 in
set_option maxHeartbeats 1000000 in
theorem pmark_any (id v:Int) (s:ByteArray) (w:World) (hs:s.size <= 300) (hK:Sm.KB w) :
    Calls Tryz.prog 299 #[.int .i64 id,.int .i64 v,.string s] w fun e w' => e = .returned (.string (mk 112 [numS id,numS v,s])) ∧ Below w.heap.size w w':=by
  have hn:=numS_size id
  have hv:=numS_size v
  go_enter Tryz.func299,Tryz.ntmps299
  go_wp2_with fail
  refine (num_s id _).mono ?_
  rintro e w1 ⟨rfl,g1⟩
  go_wp2_with fail
  refine (num_s v _).mono ?_
  rintro e w2 ⟨rfl,g2⟩
  have g2':=g1.trans (g2.mono g1.size)
  go_wp2_with fail
  have g3:=below_alloc w2 (.cells #[.string (numS id),.string (numS v),.string s] 9)
  have g3':=g2'.trans (g3.mono g2'.size)
  refine (mark3 112 _ rfl (Blk.new w2 _ 9) (by omega) (by omega) hs (hK.below g3')).mono ?_
  rintro e w3 ⟨rfl,g4⟩
  go_wp2
  go_ret
  exact ⟨rfl,g3'.trans (g4.mono g3'.size)⟩
end Go.Proofs.YtjmpjfikcgccdaaGreatDoor.Pg
namespace Go.Proofs.YtjmpjfikcgccdaaGreatDoor
open Go.RowKit
structure Q4 where
  a:BitVec 32
  b:BitVec 32
  c:BitVec 32
  d:BitVec 32
def qr (a b c d:BitVec 32):Q4:=
  let a1:=a + b
  let d1:=(d ^^^ a1).rotateLeft 16
  let c1:=c + d1
  let b1:=(b ^^^ c1).rotateLeft 12
  let a2:=a1 + b1
  let d2:=(d1 ^^^ a2).rotateLeft 8
  let c2:=c1 + d2
  ⟨a2,(b1 ^^^ c2).rotateLeft 7,c2,d2⟩
def qat (f:Nat -> BitVec 32) (i j k l:Nat) (t:Nat):BitVec 32:=
  if t = l then (qr (f i) (f j) (f k) (f l)).d else if t = k then (qr (f i) (f j) (f k) (f l)).c else if t = j then (qr (f i) (f j) (f k) (f l)).b else if t = i then (qr (f i) (f j) (f k) (f l)).a else f t
def col (f:Nat -> BitVec 32):Nat -> Nat -> BitVec 32
  | 0 => f
  | m + 1 => qat (col f m) m (4 + m) (8 + m) (12 + m)
def dia (f:Nat -> BitVec 32):Nat -> Nat -> BitVec 32
  | 0 => f
  | m + 1 => qat (dia f m) m (4 + (m + 1) % 4) (8 + (m + 2) % 4) (12 + (m + 3) % 4)
def dbl (f:Nat -> BitVec 32):Nat -> Nat -> BitVec 32
  | 0 => f
  | r + 1 => dia (col (dbl f r) 4) 4
def blkB (f:Nat -> BitVec 32) (j:Nat):UInt8:=UInt8.ofNat ((dbl f 10 (j / 4) + f (j / 4)).toNat / 256 ^ (j % 4))
theorem blkB_eq (f:Nat -> BitVec 32) (j:Nat):((blkB f j).toNat:Int) = I (dbl f 10 (j / 4) + f (j / 4)) / 2 ^ (8 * (j % 4)) % 256:=by
  have e:(2:Nat) ^ (8 * (j % 4)) = 256 ^ (j % 4):=by
    rw [show (256:Nat) = 2 ^ 8 from rfl,<- Nat.pow_mul]
  unfold blkB I
  rw [UInt8.toNat_ofNat',<- e]
  simp
def wordL (a b c d:Nat):BitVec 32:=BitVec.ofNat 32 (((d * 256 + c) * 256 + b) * 256 + a)
theorem or_add (x y k:Nat) (h:y < 2 ^ k):x * 2 ^ k ||| y = x * 2 ^ k + y:=by
  rw [Nat.mul_comm,<- Nat.two_pow_add_eq_or_of_lt h]
theorem word_eq (a b c d:Nat) (ha:a < 256) (hb:b < 256) (hc:c < 256) (hd:d < 256) :
    bits BinOp.or IntKind.u32 (bits BinOp.or IntKind.u32 (bits BinOp.or IntKind.u32 ((a:Int) % 4294967296) ((b:Int) % 4294967296 * 256 % 4294967296))
      ((c:Int) % 4294967296 * 65536 % 4294967296)) ((d:Int) % 4294967296 * 16777216 % 4294967296) = I (wordL a b c d):=by
  rw [show (d:Int) % 4294967296 * 16777216 % 4294967296 = ((d * 16777216:Nat):Int) from by omega,show (c:Int) % 4294967296 * 65536 % 4294967296 = ((c * 65536:Nat):Int) from by omega,
    show (b:Int) % 4294967296 * 256 % 4294967296 = ((b * 256:Nat):Int) from by omega,show (a:Int) % 4294967296 = ((a:Nat):Int) from by omega]
  have e1:a ||| b * 256 = b * 256 + a:=by rw [Nat.or_comm];exact or_add b a 8 (by omega)
  have e2:(b * 256 + a) ||| c * 65536 = c * 65536 + (b * 256 + a):=by rw [Nat.or_comm];exact or_add c (b * 256 + a) 16 (by omega)
  have e3:(c * 65536 + (b * 256 + a)) ||| d * 16777216 = d * 16777216 + (c * 65536 + (b * 256 + a)):=by rw [Nat.or_comm];exact or_add d _ 24 (by omega)
  rw [u32_or_nat _ _ (by omega) (by omega),e1,u32_or_nat _ _ (by omega) (by omega),e2,u32_or_nat _ _ (by omega) (by omega),e3]
  unfold I wordL;rw [BitVec.toNat_ofNat,Nat.mod_eq_of_lt (by omega)];omega
def byteAt (s:ByteArray) (i:Nat):Nat:=(s.data.toList.getD i 0).toNat
theorem byteAt_eq (s:ByteArray) (i:Nat) (h:i < s.size):s[i].toNat = byteAt s i:=by
  have h':i < s.data.toList.length:=by simpa using h
  unfold byteAt;rw [List.getD_eq_getElem?_getD,List.getElem?_eq_getElem h',Option.getD_some];rfl
theorem byteAt_extract (s:ByteArray) (a b i:Nat) (h:a + i < b):byteAt (s.extract a b) i = byteAt s (a + i):=by
  unfold byteAt;simp only [ByteArray.data_extract,Array.toList_extract,List.extract_eq_take_drop,List.getD_eq_getElem?_getD,List.getElem?_take,List.getElem?_drop]
  rw [if_pos (by omega)]
def wAt (s:ByteArray) (t:Nat):BitVec 32:=wordL (byteAt s (4 * t)) (byteAt s (4 * t + 1)) (byteAt s (4 * t + 2)) (byteAt s (4 * t + 3))
def stW (key:ByteArray) (n:BitVec 32) (nonce:ByteArray) (t:Nat):BitVec 32:=
  if t < 4 then BitVec.ofNat 32 ([1634760805,857760878,2036477234,1797285236].getD t 0) else if t < 12 then wAt key (t - 4) else if t = 12 then n else wAt nonce (t - 13)
theorem and31p (k:Int) (h0:0 <= k) (h1:k <= 31):bits .and .u64 k 31 = k:=by
  have e:k = (k.toNat:Int):=by omega
  rw [e,show (31:Int) = ((31:Nat):Int) from rfl,bits_and_u64_nat _ _ (by omega) (by omega)]
  rw [show (31:Nat) = 2 ^ 5 - 1 from rfl,Nat.and_two_pow_sub_one_eq_mod];omega
theorem rotl_eq (x:BitVec 32) (n:Nat) (h0:1 <= n) (h1:n <= 31):(x <<< n) ||| (x >>> (32 - n)) = x.rotateLeft n:=by
  rw [BitVec.rotateLeft_def,Nat.mod_eq_of_lt (by omega)]
theorem rot_any (x:BitVec 32) (k:Int) (w:World) (h0:1 <= k) (h1:k <= 31) :
    Calls Tryz.prog 373 #[.int .u32 (I x),.int .i64 k] w fun e w' => e = .returned (.int .u32 (I (x.rotateLeft k.toNat))) ∧ w' = w:=by
  have ha:=and31p k (by omega) h1
  go_enter Tryz.func373,Tryz.ntmps373
  go_wp2
  go_ret
  refine ⟨ret_int ?_,rfl⟩
  rw [I_shlm,I_shr,I_or,<- rotl_eq x _ (by omega) (by omega)]
  rw [show (32 - k).toNat = 32 - k.toNat from by omega]
set_option maxHeartbeats 400000 in
theorem word_any (s:ByteArray) (w:World) (h0:s.size = 4) :
    Calls Tryz.prog 370 #[.string s] w fun e w' => e = .returned (.int .u32 (I (wordL (byteAt s 0) (byteAt s 1) (byteAt s 2) (byteAt s 3)))) ∧ ∃ n,w' = w.drewN n:=by
  rw [<- byteAt_eq s 0 (by omega),<- byteAt_eq s 1 (by omega),<- byteAt_eq s 2 (by omega),<- byteAt_eq s 3 (by omega)]
  go_enter Tryz.func370,Tryz.ntmps370
  go_wp2
  go_quiet (fail)
  go_wp2
  go_ret
  exact ⟨ret_int (word_eq _ _ _ _ s[0].toNat_lt s[1].toNat_lt s[2].toNat_lt s[3].toNat_lt),_,rfl⟩
theorem results_tmp4 {fn:Func} {t u v x:Tmp} (h:fn.results = #[.tmp t,.tmp u,.tmp v,.tmp x]) (tmps:Array Value) (P:Program) (w:World) :
    (results fn tmps).run P w = .ok (.tuple #[tmps.getD t undef,tmps.getD u undef,tmps.getD v undef,tmps.getD x undef]) w:=by
  simp [results,h]
attribute [local go_sem] I_xor I_addm
set_option maxHeartbeats 400000 in
theorem quarter_any (a b c d:BitVec 32) (w:World) :
    Calls Tryz.prog 371 #[.int .u32 (I a),.int .u32 (I b),.int .u32 (I c),.int .u32 (I d)] w fun e w' => e = .returned (.tuple #[.int .u32 (I (qr a b c d).a),.int .u32 (I (qr a b c d).b),.int .u32 (I (qr a b c d).c),.int .u32 (I (qr a b c d).d)]) ∧ w' = w:=by
  go_enter Tryz.func371,Tryz.ntmps371
  go_wp2_with (go_at_call 373;refine (rot_any _ _ _ (by omega) (by omega)).mono ?_;rintro e w' ⟨rfl,rfl⟩)
  (try simp only [Exit.inBlock,Exit.then])
  refine bodyPost_ret (results_tmp4 rfl _ _ _) rfl ?_
  exact ⟨rfl,rfl⟩
end Go.Proofs.YtjmpjfikcgccdaaGreatDoor
namespace Go.Proofs.YtjmpjfikcgccdaaGreatDoor
open Go.RowKit
theorem mixed:Tryz.prog.follows .mixedOrders = true:=by kernel_rfl
theorem szS:(Tryz.prog.info? 422).map (·.size) = some 16:=by kernel_rfl
theorem szB:(Tryz.prog.info? 424).map (·.size) = some 64:=by kernel_rfl
def upto (f:Nat -> BitVec 32) (k:Nat) (j:Nat):BitVec 32:=if j < k then f j else 0
theorem tab_upto_succ (n k:Nat) (f:Nat -> BitVec 32) (v:BitVec 32) (h:v = f k):(tab n (upto f k)).setIfInBounds k (.int .u32 (I v)) = tab n (upto f (k + 1)):=by
  rw [tab_set,h];apply tab_congr;intro j _;unfold upto
  by_cases e:j = k
  · subst e;simp
  · simp [e];congr 1;apply propext;omega
theorem wAt_word (s:ByteArray) (t:Nat):wordL (byteAt (s.extract (4 * t) (4 * (t + 1))) 0) (byteAt (s.extract (4 * t) (4 * (t + 1))) 1) (byteAt (s.extract (4 * t) (4 * (t + 1))) 2) (byteAt (s.extract (4 * t) (4 * (t + 1))) 3) = wAt s t:=by
  rw [byteAt_extract _ _ _ _ (by omega),byteAt_extract _ _ _ _ (by omega),byteAt_extract _ _ _ _ (by omega),byteAt_extract _ _ _ _ (by omega)];rfl
theorem stW_key (key:ByteArray) (n:BitVec 32) (nonce:ByteArray) (k:Nat) (h:k < 8):stW key n nonce (4 + k) = wAt key k:=by
  unfold stW;rw [if_neg (by omega),if_pos (by omega)];congr 1;omega
theorem stW_n (key:ByteArray) (n:BitVec 32) (nonce:ByteArray):stW key n nonce 12 = n:=by
  unfold stW;simp
theorem stW_nonce (key:ByteArray) (n:BitVec 32) (nonce:ByteArray) (k:Nat):stW key n nonce (13 + k) = wAt nonce k:=by
  unfold stW;rw [if_neg (by omega),if_neg (by omega),if_neg (by omega)];congr 1;omega
set_option maxRecDepth 100000 in
set_option maxHeartbeats 1000000 in
theorem start_any (key:ByteArray) (n:BitVec 32) (nonce:ByteArray) (w:World) (hk:key.size = 32) (hn:nonce.size = 12) :
    Calls Tryz.prog 354 #[.string key,.int .u32 (I n),.string nonce] w fun e w' => e = .returned (.agg (tab 16 (stW key n nonce))) ∧ Below w.heap.size w w':=by
  go_enter Tryz.func354,Tryz.ntmps354
  go_wp2_with fail
  go_loopw [11] (fun i wr => ∃ k:Nat,k <= 8 ∧ i = .int .i64 k ∧ Blk wr (w.heap.size + 1) (tab 16 (upto (stW key n nonce) (4 + k))) 422 ∧ Blk wr w.heap.size (tab 16 (fun _ => 0)) 422 ∧ Below w.heap.size w wr) (fun i _ => 8 - (intOf i).toNat)
  case atStart =>
    refine ⟨0,by omega,rfl,Blk.new' _ (tab 16 (upto (stW key n nonce) 4)) 422 (by simp),(Blk.new w (tab 16 (fun _ => 0)) 422).alloc _,((Below.refl _ _).alloc (Nat.le_refl _) _).alloc (by simp) _⟩
  case round =>
    obtain ⟨k,hk8,rfl,hb1,hb0,hbel⟩:=hrel
    have hc:=fun j (hj:j < 16) => hb1.tcell j hj
    have hf:=fun j => hb1.frozen j
    by_cases hlt:k < 8
    · have hx:(key.extract (4 * k) (4 * (k + 1))).size = 4:=by simp;omega
      have h16:4 + k < 16:=by omega
      go_wp2_with (go_at_call 370;refine (word_any _ _ hx).mono ?_;rintro e w' ⟨rfl,m,rfl⟩)
      go_roundw
      case rel =>
        refine ⟨k + 1,by omega,by go_num,?_,(hb0.drewN m).setOther _ (by simp) _,(below_drewN hbel m).setCell (by simp) _⟩
        rw [wAt_word]
        have hb:=(hb1.set (4 + k) (.int .u32 (I (wAt key k)))).drewN m
        rw [tab_upto_succ _ _ _ _ (stW_key key n nonce k hlt).symm] at hb
        exact hb
      case measure => simp [intOf];omega
    · have hk':k = 8:=by omega
      subst hk'
      go_wp2_with fail
      have q1:=hb1.set 12 (.int .u32 (I n))
      rw [tab_upto_succ _ _ _ _ (stW_n key n nonce).symm] at q1
      have q0:=hb0.setOther ⟨w.heap.size + 1,12,none⟩ (by simp) (.int .u32 (I n))
      have q2:=hbel.setCell (p:=⟨w.heap.size + 1,12,none⟩) (by simp) (.int .u32 (I n))
      clear hc hf hb1 hb0 hbel
      rw [show (((8:Nat):Int)) = 8 from rfl]
      go_loopw [28] (fun i wr => ∃ k:Nat,k <= 3 ∧ i = .int .i64 k ∧ Blk wr (w.heap.size + 1) (tab 16 (upto (stW key n nonce) (13 + k))) 422 ∧ Blk wr w.heap.size (tab 16 (fun _ => 0)) 422 ∧ Below w.heap.size w wr) (fun i _ => 3 - (intOf i).toNat)
      case atStart => exact ⟨0,by omega,rfl,q1,q0,q2⟩
      case round =>
        clear q0 q1 q2
        obtain ⟨k,hk3,rfl,hb1,hb0,hbel⟩:=hrel
        have hc:=fun j (hj:j < 16) => hb1.tcell j hj
        have hf:=fun j => hb1.frozen j
        by_cases hlt:k < 3
        · have hx:(nonce.extract (4 * k) (4 * (k + 1))).size = 4:=by simp;omega
          have h16:13 + k < 16:=by omega
          go_wp2_with (go_at_call 370;refine (word_any _ _ hx).mono ?_;rintro e w' ⟨rfl,m,rfl⟩)
          go_roundw
          case rel =>
            refine ⟨k + 1,by omega,by go_num,?_,(hb0.drewN m).setOther _ (by simp) _,(below_drewN hbel m).setCell (by simp) _⟩
            rw [wAt_word]
            have hb:=(hb1.set (13 + k) (.int .u32 (I (wAt nonce k)))).drewN m
            rw [tab_upto_succ _ _ _ _ (stW_nonce key n nonce k).symm] at hb
            exact hb
          case measure => simp [intOf];omega
        · have hk':k = 3:=by omega
          subst hk'
          go_wp2_with (first
            | (refine wpl_load rfl 422 _ rfl 16 100 Tryz.underlying422 szS _ _ _ _ rfl hb1 (by simp [tab_size]) ?_;rw [tab_all _ _ _ (Nat.zero_add _)])
            | (refine wpl_store_u rfl rfl 422 _ _ rfl 16 szS _ _ _ _ rfl rfl hb0 (by simp [tab_size]) ?_;intro w3 hu3 j5))
          refine ret_cell 6 422 rfl 16 100 Tryz.underlying422 szS _ _ _ rfl j5 rfl ⟨?_,below_upd hbel hu3 (Nat.le_refl _)⟩
          rw [tab_congr 16 (upto (stW key n nonce) (13 + 3)) (stW key n nonce) (fun j hj => by unfold upto;rw [if_pos (by omega)])]
end Go.Proofs.YtjmpjfikcgccdaaGreatDoor
