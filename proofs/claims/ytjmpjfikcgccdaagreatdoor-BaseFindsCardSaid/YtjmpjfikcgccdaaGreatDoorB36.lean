/-
  Part of the proof of BaseFindsCard (BA27 and on).
-/
import Derived.Test.YtjmpjfikcgccdaaGreatDoorB35
import Derived.Test.YtjmpjfikcgccdaaGreatDoorB18
import Derived.Test.YtjmpjfikcgccdaaGreatDoorB09
import Derived.Test.YtjmpjfikcgccdaaGreatDoorRows
import Derived.ProofKit
import Derived.OpenShut
import Derived.MakeChecks
import Derived.Lib.SmallJoins
import Derived.Deep.Strs
namespace Go.Proofs.YtjmpjfikcgccdaaGreatDoor.Bs
open Go.RowKit Go.Shelf Go.Maps
open It Nr Ce Vt
section
variable {w0 w:World} {X:Nat -> Prop} {d c bb:Nat} {sec:ByteArray} {n en:Nat} {F:Int} {T:Bool} {L N:List ItD} {m1 m2:Nat} {M1 M2:List ItD}
set_option maxRecDepth 100000 in
set_option maxHeartbeats 4000000 in
theorem does_put_no (h:Wt w0 w X d c bb sec n en F T L N m1 m2 M1 M2) (x:ItD) (hxo:x.Ok w) (hr:rightB x.x 2 = false) :
    Calls Tryz.prog 37 #[.pointer (some ⟨bb,0,none⟩),.agg #[.int .i64 0,.string x.x.name,.string x.x.tag,.slice x.a x.x.nums.length x.c],.map (some m1),.map (some m2)] w fun e w' => e = .returned (.tuple #[.map (some m1),.map (some m2),.iface 34 (.int .i64 1)]) ∧ Wt w0 w' X d c bb sec n en F T L N m1 m2 M1 M2:=by
  obtain ⟨⟨nm,tg,zs⟩,xa,xc⟩:=x
  show Calls Tryz.prog 37 #[.pointer (some ⟨bb,0,none⟩),.agg #[.int .i64 0,.string nm,.string tg,.slice xa zs.length xc],.map (some m1),.map (some m2)] w _
  have sA:=below_alloc w (.cells #[.int .i64 0,.string nm,.string tg,.slice xa zs.length xc] 87)
  have jA:Blk (w.alloc (.cells #[.int .i64 0,.string nm,.string tg,.slice xa zs.length xc] 87)) w.heap.size #[.int .i64 0,.string nm,.string tg,.slice xa zs.length xc] 87:=Blk.new w _ _
  have HA:Hid (Wt w0 (w.alloc (.cells #[.int .i64 0,.string nm,.string tg,.slice xa zs.length xc] 87)) X d c bb sec n en F T L N m1 m2 M1 M2):=h.below sA
  have HXO:Hid (ItD.Ok (w.alloc (.cells #[.int .i64 0,.string nm,.string tg,.slice xa zs.length xc] 87)) ⟨⟨nm,tg,zs⟩,xa,xc⟩):=hxo.below sA
  have hnx:¬ X w.heap.size:=fun hx => by have:=h.bas.lt _ hx;omega
  have hNM:N.length = M2.length:=perm_len h.p2
  have HSW:Hid (w.heap.size <= (w.alloc (.cells #[.int .i64 0,.string nm,.string tg,.slice xa zs.length xc] 87)).heap.size):=sA.size
  clear h hxo
  go_enter Tryz.func37,Tryz.ntmps37
  go_wp2_with fail
  generalize w.alloc (.cells #[.int .i64 0,.string nm,.string tg,.slice xa zs.length xc] 87) = wA at *
  have HP:Hid _:=bas_put_no HA.out.bas ⟨⟨nm,tg,zs⟩,xa,xc⟩ HXO.out (by decide) hr
  refine Calls.mono HP.out ?_
  rintro e w2 ⟨rfl,g2⟩
  have HB2:Hid _:=HA.out.below g2
  clear HP g2
  unfold errA
  go_wp2_with fail
  go_ret3
  exact ⟨rfl,HB2.out⟩
set_option maxRecDepth 100000 in
set_option maxHeartbeats 4000000 in
theorem does_del_no (h:Wt w0 w X d c bb sec n en F T L N m1 m2 M1 M2) (x:ItD) (hxo:x.Ok w) (hN:isN M2 x.x.name = false) :
    Calls Tryz.prog 37 #[.pointer (some ⟨bb,0,none⟩),.agg #[.int .i64 1,.string x.x.name,.string x.x.tag,.slice x.a x.x.nums.length x.c],.map (some m1),.map (some m2)] w fun e w' => e = .returned (.tuple #[.map (some m1),.map (some m2),.iface 34 (.int .i64 7)]) ∧ Wt w0 w' X d c bb sec n en F T L N m1 m2 M1 M2:=by
  obtain ⟨⟨nm,tg,zs⟩,xa,xc⟩:=x
  show Calls Tryz.prog 37 #[.pointer (some ⟨bb,0,none⟩),.agg #[.int .i64 1,.string nm,.string tg,.slice xa zs.length xc],.map (some m1),.map (some m2)] w _
  have sA:=below_alloc w (.cells #[.int .i64 1,.string nm,.string tg,.slice xa zs.length xc] 87)
  have jA:Blk (w.alloc (.cells #[.int .i64 1,.string nm,.string tg,.slice xa zs.length xc] 87)) w.heap.size #[.int .i64 1,.string nm,.string tg,.slice xa zs.length xc] 87:=Blk.new w _ _
  have HA:Hid (Wt w0 (w.alloc (.cells #[.int .i64 1,.string nm,.string tg,.slice xa zs.length xc] 87)) X d c bb sec n en F T L N m1 m2 M1 M2):=h.below sA
  have HXO:Hid (ItD.Ok (w.alloc (.cells #[.int .i64 1,.string nm,.string tg,.slice xa zs.length xc] 87)) ⟨⟨nm,tg,zs⟩,xa,xc⟩):=hxo.below sA
  have hnx:¬ X w.heap.size:=fun hx => by have:=h.bas.lt _ hx;omega
  have hNM:N.length = M2.length:=perm_len h.p2
  have HSW:Hid (w.heap.size <= (w.alloc (.cells #[.int .i64 1,.string nm,.string tg,.slice xa zs.length xc] 87)).heap.size):=sA.size
  clear h hxo
  go_enter Tryz.func37,Tryz.ntmps37
  go_wp2_with fail
  generalize w.alloc (.cells #[.int .i64 1,.string nm,.string tg,.slice xa zs.length xc] 87) = wA at *
  have HP:Hid _:=bas_del_no HA.out.bas nm HXO.out.2.2.1 ((perm_isN HA.out.p2 nm).trans hN)
  refine Calls.mono HP.out ?_
  rintro e w2 ⟨rfl,g2⟩
  have HB2:Hid _:=HA.out.below g2
  clear HP g2
  go_wp2_with fail
  go_ret3
  exact ⟨rfl,HB2.out⟩
set_option maxRecDepth 100000 in
set_option maxHeartbeats 4000000 in
theorem does_del (h:Wt w0 w X d c bb sec n en F T L N m1 m2 M1 M2) (x:ItD) (hxo:x.Ok w) (hN:isN M2 x.x.name = true) (h60:M2.length <= 60) :
    Calls Tryz.prog 37 #[.pointer (some ⟨bb,0,none⟩),.agg #[.int .i64 1,.string x.x.name,.string x.x.tag,.slice x.a x.x.nums.length x.c],.map (some m1),.map (some m2)] w fun e w' => (∃ X' N' m2',e = .returned (.tuple #[.map (some m1),.map (some m2'),.nilIface]) ∧ Wt w0 w' X' d c bb sec n en F T L N' m1 m2' M1 (noI M2 x.x.name)):=by
  obtain ⟨⟨nm,tg,zs⟩,xa,xc⟩:=x
  show Calls Tryz.prog 37 #[.pointer (some ⟨bb,0,none⟩),.agg #[.int .i64 1,.string nm,.string tg,.slice xa zs.length xc],.map (some m1),.map (some m2)] w _
  have sA:=below_alloc w (.cells #[.int .i64 1,.string nm,.string tg,.slice xa zs.length xc] 87)
  have jA:Blk (w.alloc (.cells #[.int .i64 1,.string nm,.string tg,.slice xa zs.length xc] 87)) w.heap.size #[.int .i64 1,.string nm,.string tg,.slice xa zs.length xc] 87:=Blk.new w _ _
  have HA:Hid (Wt w0 (w.alloc (.cells #[.int .i64 1,.string nm,.string tg,.slice xa zs.length xc] 87)) X d c bb sec n en F T L N m1 m2 M1 M2):=h.below sA
  have HXO:Hid (ItD.Ok (w.alloc (.cells #[.int .i64 1,.string nm,.string tg,.slice xa zs.length xc] 87)) ⟨⟨nm,tg,zs⟩,xa,xc⟩):=hxo.below sA
  have hnx:¬ X w.heap.size:=fun hx => by have:=h.bas.lt _ hx;omega
  have hNM:N.length = M2.length:=perm_len h.p2
  have HSW:Hid (w.heap.size <= (w.alloc (.cells #[.int .i64 1,.string nm,.string tg,.slice xa zs.length xc] 87)).heap.size):=sA.size
  clear h hxo
  go_enter Tryz.func37,Tryz.ntmps37
  go_wp2_with fail
  generalize w.alloc (.cells #[.int .i64 1,.string nm,.string tg,.slice xa zs.length xc] 87) = wA at *
  have HP:Hid _:=bas_del HA.out.bas (by decide) nm HXO.out.2.2.1 ((perm_isN HA.out.p2 nm).trans hN)
  have HNS:Hid (nm.size <= maxLen):=HXO.out.2.2.1
  refine Calls.mono HP.out ?_
  rintro e w2 ⟨rfl,hB2,c2⟩
  have HB2:Hid (Bas w2 (more X wA w2) d c bb sec n en F T 2 L (noI N nm)):=hB2
  have HC2:Hid (Dv.Chg wA w2 X):=c2
  have j2:=jA.chg c2 hnx
  have HI2:Hid (IM w2 m2 M2):=HA.out.im2.same (c2.block _ HA.out.im2.lt HA.out.x2)
  have HI1:Hid (IM w2 m1 M1):=HA.out.im1.same (c2.block _ HA.out.im1.lt HA.out.x1)
  have HBL2:Hid (Below w0.heap.size w0 w2):=c2.to HA.out.bel HA.out.bel.size HA.out.xlo
  have HL2:Hid (Lok w2 w0.heap.size M2):=lok_two HA.out.lk2 HA.out.bel HBL2.out
  have HCL:Hid _:=lclone_any m2 M2 w2 HI2.out (by omega) (lok_names HL2.out)
  have HSA:Hid (wA.heap.size <= w2.heap.size):=c2.size
  clear HP hB2 c2 jA sA
  go_wp2_with fail
  refine Calls.mono HCL.out ?_
  rintro e w3 ⟨⟨tm,rfl,hM3,q1,q2⟩,g3⟩
  have j3:=j2.below g3 j2.lt
  obtain ⟨w4,hup,hM4,hu4⟩:=hM3.drop pt83 nm HNS.out 0
  have e1:=j3.cell 1
  have HM4:Hid (IM w4 tm (noI M2 nm)):=hM4
  have HU4:Hid (Upd w3 w4 tm):=hu4
  have HG3:Hid (Below w2.heap.size w2 w3):=g3
  have HQ:Hid (w2.heap.size <= tm ∧ tm < w3.heap.size):=⟨q1,q2⟩
  clear HCL hM3 hM4 hu4 g3 j2 q1 q2
  go_wp2_with fail
  go_ret3
  have hq:=HQ.out
  have c24:Dv.Chg w2 w4 (fun k => k = tm):=(Dv.Chg.of HG3.out _).upd HU4.out (Or.inl rfl)
  have b4:Below w0.heap.size w0 w4:=below_upd (HBL2.out.trans (HG3.out.mono HBL2.out.size)) HU4.out (by have:=HBL2.out.size;omega)
  have n1:=HA.out.im1.lt
  have n2:=HA.out.im2.lt
  have hsa:=HSA.out
  refine ⟨more X wA w2,noI N nm,tm,rfl,⟨HB2.out.chg c24 (fun k hk e => by have:=HB2.out.lt k hk;omega),HI1.out.same (c24.block _ HI1.out.lt (by omega)),HM4.out,more_no HA.out.x1 n1,fun hk => ?_,lok_two HA.out.lk1 HA.out.bel b4,fun z hz => lok_two HA.out.lk2 HA.out.bel b4 z (noI_mem.1 hz).1,HA.out.p1,perm_noI HA.out.p2 nm,more_lo HA.out.xlo HA.out.bel.size,b4⟩⟩
  have:=HB2.out.lt _ hk;omega
set_option maxRecDepth 100000 in
set_option maxHeartbeats 4000000 in
theorem does_undo (h:Wt w0 w X d c bb sec n en F T L N m1 m2 M1 M2) (x:ItD) (hxo:x.Ok w) :
    Calls Tryz.prog 37 #[.pointer (some ⟨bb,0,none⟩),.agg #[.int .i64 2,.string x.x.name,.string x.x.tag,.slice x.a x.x.nums.length x.c],.map (some m1),.map (some m2)] w fun e w' => (∃ X',e = .returned (.tuple #[.map (some m1),.map (some m1),.nilIface]) ∧ Wt w0 w' X' d c bb sec n en F T L L m1 m1 M1 M1):=by
  obtain ⟨⟨nm,tg,zs⟩,xa,xc⟩:=x
  show Calls Tryz.prog 37 #[.pointer (some ⟨bb,0,none⟩),.agg #[.int .i64 2,.string nm,.string tg,.slice xa zs.length xc],.map (some m1),.map (some m2)] w _
  have sA:=below_alloc w (.cells #[.int .i64 2,.string nm,.string tg,.slice xa zs.length xc] 87)
  have jA:Blk (w.alloc (.cells #[.int .i64 2,.string nm,.string tg,.slice xa zs.length xc] 87)) w.heap.size #[.int .i64 2,.string nm,.string tg,.slice xa zs.length xc] 87:=Blk.new w _ _
  have HA:Hid (Wt w0 (w.alloc (.cells #[.int .i64 2,.string nm,.string tg,.slice xa zs.length xc] 87)) X d c bb sec n en F T L N m1 m2 M1 M2):=h.below sA
  have HXO:Hid (ItD.Ok (w.alloc (.cells #[.int .i64 2,.string nm,.string tg,.slice xa zs.length xc] 87)) ⟨⟨nm,tg,zs⟩,xa,xc⟩):=hxo.below sA
  have hnx:¬ X w.heap.size:=fun hx => by have:=h.bas.lt _ hx;omega
  have hNM:N.length = M2.length:=perm_len h.p2
  have HSW:Hid (w.heap.size <= (w.alloc (.cells #[.int .i64 2,.string nm,.string tg,.slice xa zs.length xc] 87)).heap.size):=sA.size
  clear h hxo
  go_enter Tryz.func37,Tryz.ntmps37
  go_wp2_with fail
  generalize w.alloc (.cells #[.int .i64 2,.string nm,.string tg,.slice xa zs.length xc] 87) = wA at *
  have HP:Hid _:=bas_undo HA.out.bas
  refine Calls.mono HP.out ?_
  rintro e w2 ⟨rfl,hB2,c2⟩
  have HB2:Hid (Bas w2 (more X wA w2) d c bb sec n en F T 2 L L):=hB2
  have HI2:Hid (IM w2 m2 M2):=HA.out.im2.same (c2.block _ HA.out.im2.lt HA.out.x2)
  have HI1:Hid (IM w2 m1 M1):=HA.out.im1.same (c2.block _ HA.out.im1.lt HA.out.x1)
  have HBL2:Hid (Below w0.heap.size w0 w2):=c2.to HA.out.bel HA.out.bel.size HA.out.xlo
  have HL1:Hid (Lok w2 w0.heap.size M1):=lok_two HA.out.lk1 HA.out.bel HBL2.out
  have HL2:Hid (Lok w2 w0.heap.size M2):=lok_two HA.out.lk2 HA.out.bel HBL2.out
  have HW2:Hid (∀ X2 n2 e2 T2 L2 N2 k1 k2 K1 K2,(∀ k,X2 k -> more X wA w2 k) -> Bas w2 X2 d c bb sec n2 e2 F T2 2 L2 N2 -> (k1 = m1 ∨ k1 = m2) -> (k2 = m1 ∨ k2 = m2) -> IM w2 k1 K1 -> IM w2 k2 K2 -> Lok w2 w0.heap.size K1 -> Lok w2 w0.heap.size K2 -> (xsOf L2).Perm (xsOf K1) -> (xsOf N2).Perm (xsOf K2) -> Wt w0 w2 X2 d c bb sec n2 e2 F T2 L2 N2 k1 k2 K1 K2):=fun X2 n2 e2 T2 L2 N2 k1 k2 K1 K2 hX hb h1 h2 i1 i2 l1 l2 p1 p2 => by
    have n1:=HA.out.im1.lt
    have n2:=HA.out.im2.lt
    have no:∀ k,(k = m1 ∨ k = m2) -> ¬ X2 k:=fun k hk hx => by
      rcases hk with rfl | rfl
      · exact more_no HA.out.x1 n1 (hX _ hx)
      · exact more_no HA.out.x2 n2 (hX _ hx)
    exact ⟨hb,i1,i2,no _ h1,no _ h2,l1,l2,p1,p2,fun k hk => more_lo HA.out.xlo HA.out.bel.size k (hX k hk),HBL2.out⟩
  clear HP hB2 c2 jA sA
  go_wp2_with fail
  go_ret3
  exact ⟨_,rfl,HW2.out _ _ _ _ _ _ _ _ _ _ (fun _ h => h) HB2.out (Or.inl rfl) (Or.inl rfl) HI1.out HI1.out HL1.out HL1.out HA.out.p1 HA.out.p1⟩
set_option maxRecDepth 100000 in
set_option maxHeartbeats 4000000 in
theorem does_commit (h:Wt w0 w X d c bb sec n en (-1) T L N m1 m2 M1 M2) (x:ItD) (hxo:x.Ok w) (hn:n < 1000) (hsec:sec.size <= 300) (hK:Sm.KB w0) (hL:LB w0) :
    Calls Tryz.prog 37 #[.pointer (some ⟨bb,0,none⟩),.agg #[.int .i64 3,.string x.x.name,.string x.x.tag,.slice x.a x.x.nums.length x.c],.map (some m1),.map (some m2)] w fun e w' => (∃ X',e = .returned (.tuple #[.map (some m2),.map (some m2),.nilIface]) ∧ Wt w0 w' X' d c bb sec (n + 1) en (-1) true N N m2 m2 M2 M2):=by
  obtain ⟨⟨nm,tg,zs⟩,xa,xc⟩:=x
  show Calls Tryz.prog 37 #[.pointer (some ⟨bb,0,none⟩),.agg #[.int .i64 3,.string nm,.string tg,.slice xa zs.length xc],.map (some m1),.map (some m2)] w _
  have sA:=below_alloc w (.cells #[.int .i64 3,.string nm,.string tg,.slice xa zs.length xc] 87)
  have jA:Blk (w.alloc (.cells #[.int .i64 3,.string nm,.string tg,.slice xa zs.length xc] 87)) w.heap.size #[.int .i64 3,.string nm,.string tg,.slice xa zs.length xc] 87:=Blk.new w _ _
  have HA:Hid (Wt w0 (w.alloc (.cells #[.int .i64 3,.string nm,.string tg,.slice xa zs.length xc] 87)) X d c bb sec n en (-1) T L N m1 m2 M1 M2):=h.below sA
  have HXO:Hid (ItD.Ok (w.alloc (.cells #[.int .i64 3,.string nm,.string tg,.slice xa zs.length xc] 87)) ⟨⟨nm,tg,zs⟩,xa,xc⟩):=hxo.below sA
  have hnx:¬ X w.heap.size:=fun hx => by have:=h.bas.lt _ hx;omega
  have hNM:N.length = M2.length:=perm_len h.p2
  have HSW:Hid (w.heap.size <= (w.alloc (.cells #[.int .i64 3,.string nm,.string tg,.slice xa zs.length xc] 87)).heap.size):=sA.size
  clear h hxo
  go_enter Tryz.func37,Tryz.ntmps37
  go_wp2_with fail
  generalize w.alloc (.cells #[.int .i64 3,.string nm,.string tg,.slice xa zs.length xc] 87) = wA at *
  have HP:Hid _:=bas_commit HA.out.bas (by decide) hn hsec (hK.below HA.out.bel) (hL.below HA.out.bel)
  refine Calls.mono HP.out ?_
  rintro e w2 ⟨rfl,hB2,c2⟩
  have HB2:Hid (Bas w2 (more X wA w2) d c bb sec (n + 1) en (-1) true 2 N N):=hB2
  have HI2:Hid (IM w2 m2 M2):=HA.out.im2.same (c2.block _ HA.out.im2.lt HA.out.x2)
  have HI1:Hid (IM w2 m1 M1):=HA.out.im1.same (c2.block _ HA.out.im1.lt HA.out.x1)
  have HBL2:Hid (Below w0.heap.size w0 w2):=c2.to HA.out.bel HA.out.bel.size HA.out.xlo
  have HL1:Hid (Lok w2 w0.heap.size M1):=lok_two HA.out.lk1 HA.out.bel HBL2.out
  have HL2:Hid (Lok w2 w0.heap.size M2):=lok_two HA.out.lk2 HA.out.bel HBL2.out
  have HW2:Hid (∀ X2 n2 e2 T2 L2 N2 k1 k2 K1 K2,(∀ k,X2 k -> more X wA w2 k) -> Bas w2 X2 d c bb sec n2 e2 (-1) T2 2 L2 N2 -> (k1 = m1 ∨ k1 = m2) -> (k2 = m1 ∨ k2 = m2) -> IM w2 k1 K1 -> IM w2 k2 K2 -> Lok w2 w0.heap.size K1 -> Lok w2 w0.heap.size K2 -> (xsOf L2).Perm (xsOf K1) -> (xsOf N2).Perm (xsOf K2) -> Wt w0 w2 X2 d c bb sec n2 e2 (-1) T2 L2 N2 k1 k2 K1 K2):=fun X2 n2 e2 T2 L2 N2 k1 k2 K1 K2 hX hb h1 h2 i1 i2 l1 l2 p1 p2 => by
    have n1:=HA.out.im1.lt
    have n2:=HA.out.im2.lt
    have no:∀ k,(k = m1 ∨ k = m2) -> ¬ X2 k:=fun k hk hx => by
      rcases hk with rfl | rfl
      · exact more_no HA.out.x1 n1 (hX _ hx)
      · exact more_no HA.out.x2 n2 (hX _ hx)
    exact ⟨hb,i1,i2,no _ h1,no _ h2,l1,l2,p1,p2,fun k hk => more_lo HA.out.xlo HA.out.bel.size k (hX k hk),HBL2.out⟩
  clear HP hB2 c2 jA sA hK hL
  go_wp2_with fail
  go_ret3
  exact ⟨_,rfl,HW2.out _ _ _ _ _ _ _ _ _ _ (fun _ h => h) HB2.out (Or.inr rfl) (Or.inr rfl) HI2.out HI2.out HL2.out HL2.out HA.out.p2 HA.out.p2⟩
set_option maxRecDepth 100000 in
set_option maxHeartbeats 4000000 in
theorem does_turn (h:Wt w0 w X d c bb sec n en (-1) T L N m1 m2 M1 M2) (x:ItD) (hxo:x.Ok w) (hn:n < 1000) (he:en < 1000) (hsec:sec.size <= 300) (hK:Sm.KB w0) :
    Calls Tryz.prog 37 #[.pointer (some ⟨bb,0,none⟩),.agg #[.int .i64 4,.string x.x.name,.string x.x.tag,.slice x.a x.x.nums.length x.c],.map (some m1),.map (some m2)] w fun e w' => (∃ X',e = .returned (.tuple #[.map (some m1),.map (some m2),.nilIface]) ∧ Wt w0 w' X' d c bb sec (n + 1) (en + 1) (-1) T L N m1 m2 M1 M2):=by
  obtain ⟨⟨nm,tg,zs⟩,xa,xc⟩:=x
  show Calls Tryz.prog 37 #[.pointer (some ⟨bb,0,none⟩),.agg #[.int .i64 4,.string nm,.string tg,.slice xa zs.length xc],.map (some m1),.map (some m2)] w _
  have sA:=below_alloc w (.cells #[.int .i64 4,.string nm,.string tg,.slice xa zs.length xc] 87)
  have jA:Blk (w.alloc (.cells #[.int .i64 4,.string nm,.string tg,.slice xa zs.length xc] 87)) w.heap.size #[.int .i64 4,.string nm,.string tg,.slice xa zs.length xc] 87:=Blk.new w _ _
  have HA:Hid (Wt w0 (w.alloc (.cells #[.int .i64 4,.string nm,.string tg,.slice xa zs.length xc] 87)) X d c bb sec n en (-1) T L N m1 m2 M1 M2):=h.below sA
  have HXO:Hid (ItD.Ok (w.alloc (.cells #[.int .i64 4,.string nm,.string tg,.slice xa zs.length xc] 87)) ⟨⟨nm,tg,zs⟩,xa,xc⟩):=hxo.below sA
  have hnx:¬ X w.heap.size:=fun hx => by have:=h.bas.lt _ hx;omega
  have hNM:N.length = M2.length:=perm_len h.p2
  have HSW:Hid (w.heap.size <= (w.alloc (.cells #[.int .i64 4,.string nm,.string tg,.slice xa zs.length xc] 87)).heap.size):=sA.size
  clear h hxo
  go_enter Tryz.func37,Tryz.ntmps37
  go_wp2_with fail
  generalize w.alloc (.cells #[.int .i64 4,.string nm,.string tg,.slice xa zs.length xc] 87) = wA at *
  have HP:Hid _:=bas_turn HA.out.bas hn he hsec (hK.below HA.out.bel)
  refine Calls.mono HP.out ?_
  rintro e w2 ⟨rfl,hB2,c2⟩
  have HB2:Hid (Bas w2 (more X wA w2) d c bb sec (n + 1) (en + 1) (-1) T 2 L N):=hB2
  have HI2:Hid (IM w2 m2 M2):=HA.out.im2.same (c2.block _ HA.out.im2.lt HA.out.x2)
  have HI1:Hid (IM w2 m1 M1):=HA.out.im1.same (c2.block _ HA.out.im1.lt HA.out.x1)
  have HBL2:Hid (Below w0.heap.size w0 w2):=c2.to HA.out.bel HA.out.bel.size HA.out.xlo
  have HL1:Hid (Lok w2 w0.heap.size M1):=lok_two HA.out.lk1 HA.out.bel HBL2.out
  have HL2:Hid (Lok w2 w0.heap.size M2):=lok_two HA.out.lk2 HA.out.bel HBL2.out
  have HW2:Hid (∀ X2 n2 e2 T2 L2 N2 k1 k2 K1 K2,(∀ k,X2 k -> more X wA w2 k) -> Bas w2 X2 d c bb sec n2 e2 (-1) T2 2 L2 N2 -> (k1 = m1 ∨ k1 = m2) -> (k2 = m1 ∨ k2 = m2) -> IM w2 k1 K1 -> IM w2 k2 K2 -> Lok w2 w0.heap.size K1 -> Lok w2 w0.heap.size K2 -> (xsOf L2).Perm (xsOf K1) -> (xsOf N2).Perm (xsOf K2) -> Wt w0 w2 X2 d c bb sec n2 e2 (-1) T2 L2 N2 k1 k2 K1 K2):=fun X2 n2 e2 T2 L2 N2 k1 k2 K1 K2 hX hb h1 h2 i1 i2 l1 l2 p1 p2 => by
    have n1:=HA.out.im1.lt
    have n2:=HA.out.im2.lt
    have no:∀ k,(k = m1 ∨ k = m2) -> ¬ X2 k:=fun k hk hx => by
      rcases hk with rfl | rfl
      · exact more_no HA.out.x1 n1 (hX _ hx)
      · exact more_no HA.out.x2 n2 (hX _ hx)
    exact ⟨hb,i1,i2,no _ h1,no _ h2,l1,l2,p1,p2,fun k hk => more_lo HA.out.xlo HA.out.bel.size k (hX k hk),HBL2.out⟩
  clear HP hB2 c2 jA sA hK
  go_wp2_with fail
  go_ret3
  exact ⟨_,rfl,HW2.out _ _ _ _ _ _ _ _ _ _ (fun _ h => h) HB2.out (Or.inl rfl) (Or.inr rfl) HI1.out HI2.out HL1.out HL2.out HA.out.p1 HA.out.p2⟩
set_option maxRecDepth 100000 in
set_option maxHeartbeats 4000000 in
theorem does_other (wh:Int) (h:Wt w0 w X d c bb sec n en F T L N m1 m2 M1 M2) (x:ItD) (hxo:x.Ok w) (h0:(wh == 0) = false) (h1:(wh == 1) = false) (h2:(wh == 2) = false) (h3:(wh == 3) = false) (h4:(wh == 4) = false) :
    Calls Tryz.prog 37 #[.pointer (some ⟨bb,0,none⟩),.agg #[.int .i64 wh,.string x.x.name,.string x.x.tag,.slice x.a x.x.nums.length x.c],.map (some m1),.map (some m2)] w fun e w' => e = .returned (.tuple #[.map (some m1),.map (some m2),.nilIface]) ∧ Wt w0 w' X d c bb sec n en F T L N m1 m2 M1 M2:=by
  obtain ⟨⟨nm,tg,zs⟩,xa,xc⟩:=x
  show Calls Tryz.prog 37 #[.pointer (some ⟨bb,0,none⟩),.agg #[.int .i64 wh,.string nm,.string tg,.slice xa zs.length xc],.map (some m1),.map (some m2)] w _
  have sA:=below_alloc w (.cells #[.int .i64 wh,.string nm,.string tg,.slice xa zs.length xc] 87)
  have jA:Blk (w.alloc (.cells #[.int .i64 wh,.string nm,.string tg,.slice xa zs.length xc] 87)) w.heap.size #[.int .i64 wh,.string nm,.string tg,.slice xa zs.length xc] 87:=Blk.new w _ _
  have HA:Hid (Wt w0 (w.alloc (.cells #[.int .i64 wh,.string nm,.string tg,.slice xa zs.length xc] 87)) X d c bb sec n en F T L N m1 m2 M1 M2):=h.below sA
  have HXO:Hid (ItD.Ok (w.alloc (.cells #[.int .i64 wh,.string nm,.string tg,.slice xa zs.length xc] 87)) ⟨⟨nm,tg,zs⟩,xa,xc⟩):=hxo.below sA
  have hnx:¬ X w.heap.size:=fun hx => by have:=h.bas.lt _ hx;omega
  have hNM:N.length = M2.length:=perm_len h.p2
  have HSW:Hid (w.heap.size <= (w.alloc (.cells #[.int .i64 wh,.string nm,.string tg,.slice xa zs.length xc] 87)).heap.size):=sA.size
  clear h hxo
  go_enter Tryz.func37,Tryz.ntmps37
  go_wp2_with fail
  go_ret3
  exact ⟨rfl,HA.out⟩
end
end Go.Proofs.YtjmpjfikcgccdaaGreatDoor.Bs
namespace Go.Proofs.YtjmpjfikcgccdaaGreatDoor.Bs
open Go.RowKit Go.Shelf Go.Maps
open It Nr Ce Vt
structure DeD where
  wh:Int
  it:ItD
def Dds (w:World) (a:Option Addr) (ds:List DeD):Prop:=∀ (i:Nat) d,ds[i]? = some d -> ∃ g o,a = some ⟨g,o,none⟩ ∧ w.cell? ⟨g,o + i * 4,none⟩ = some (.int .i64 d.wh) ∧ w.cell? ⟨g,o + i * 4 + 1,none⟩ = some (.string d.it.x.name) ∧ w.cell? ⟨g,o + i * 4 + 2,none⟩ = some (.string d.it.x.tag) ∧ w.cell? ⟨g,o + i * 4 + 3,none⟩ = some d.it.val ∧ d.it.Ok w
theorem Dds.below {w w':World} {a:Option Addr} {ds:List DeD} (h:Dds w a ds) (hb:Below w.heap.size w w'):Dds w' a ds:=by
  intro i d hd
  obtain ⟨g,o,h1,h2,h3,h4,h5,h6⟩:=h i d hd
  exact ⟨g,o,h1,It.cell_below hb h2,It.cell_below hb h3,It.cell_below hb h4,It.cell_below hb h5,h6.below hb⟩
def bigD (d:DeD):Bool:=!heldB [d.it.x]
def dedsB (ds:List DeD):Bool:=decide (ds.length <= 40) && !ds.any bigD
theorem ded_any (d:DeD) (w:World) (h:d.it.Ok w):Calls Tryz.prog 91 #[.agg #[.int .i64 d.wh,.string d.it.x.name,.string d.it.x.tag,d.it.val]] w fun e w' => e = .returned (.bool (bigD d)) ∧ Below w.heap.size w w':=by
  obtain ⟨wh,⟨⟨nm,tg,zs⟩,xa,xc⟩⟩:=d
  show Calls Tryz.prog 91 #[.agg #[.int .i64 wh,.string nm,.string tg,.slice xa zs.length xc]] w _
  have s1:=below_alloc w (.cells #[.int .i64 wh,.string nm,.string tg,.slice xa zs.length xc] 87)
  have s2:=below_alloc (w.alloc (.cells #[.int .i64 wh,.string nm,.string tg,.slice xa zs.length xc] 87)) (.cells #[.string nm,.string tg,.slice xa zs.length xc] 45)
  have j2:Blk ((w.alloc (.cells #[.int .i64 wh,.string nm,.string tg,.slice xa zs.length xc] 87)).alloc (.cells #[.string nm,.string tg,.slice xa zs.length xc] 45)) (w.heap.size + 1) #[.string nm,.string tg,.slice xa zs.length xc] 45:=by
    have:=Blk.new (w.alloc (.cells #[.int .i64 wh,.string nm,.string tg,.slice xa zs.length xc] 87)) #[.string nm,.string tg,.slice xa zs.length xc] 45
    rwa [World.size_alloc] at this
  have b2:=s1.trans (s2.mono s1.size)
  have hI:Its ((w.alloc (.cells #[.int .i64 wh,.string nm,.string tg,.slice xa zs.length xc] 87)).alloc (.cells #[.string nm,.string tg,.slice xa zs.length xc] 45)) (some ⟨w.heap.size + 1,0,none⟩) [⟨⟨nm,tg,zs⟩,xa,xc⟩]:=by
    intro i e he
    match i,he with
    | 0,he =>
      simp at he
      subst he
      exact ⟨_,0,rfl,j2.cell 0,j2.cell 1,j2.cell 2,h.below b2⟩
  have HH:Hid _:=held_any (some ⟨w.heap.size + 1,0,none⟩) 1 [⟨⟨nm,tg,zs⟩,xa,xc⟩] _ hI (show 1 <= maxLen by decide)
  obtain ⟨B,hB⟩:∃ B,heldB (xsOf [⟨⟨nm,tg,zs⟩,xa,xc⟩]) = B:=⟨_,rfl⟩
  have HBB:Hid (bigD ⟨wh,⟨⟨nm,tg,zs⟩,xa,xc⟩⟩ = !B):=by unfold Hid;rw [<- hB];rfl
  rw [hB] at HH
  have HB2:Hid _:=b2
  clear hI j2 s1 s2 b2 hB h
  go_enter Tryz.func91,Tryz.ntmps91
  go_wp2_with fail
  refine Calls.mono HH.out ?_
  rintro e w3 ⟨rfl,g3⟩
  go_wp2_with fail
  go_ret
  exact ⟨by rw [HBB.out];rfl,HB2.out.trans (g3.mono HB2.out.size)⟩
set_option maxHeartbeats 1000000 in
theorem indexDed_any (a:Option Addr) (c:Nat) (ds:List DeD) (w:World) (h:Dds w a ds) (hl:ds.length <= 65) :
    Calls Tryz.prog 149 #[.slice a ds.length c,.func (.func 91) #[] #[]] w fun e w' => (∃ j:Int,e = .returned (.int .i64 j) ∧ (decide (0 <= j) = ds.any bigD)) ∧ Below w.heap.size w w':=by
  go_enter Tryz.func149,Tryz.ntmps149
  go_wp2_with fail
  go_loopw [8] (fun i wr => ∃ k:Nat,k <= ds.length ∧ i = .int .i64 k ∧ Hid ((ds.take k).any bigD = false) ∧ Below w.heap.size w wr) (fun i _ => ds.length - (intOf i).toNat)
  case atStart => exact ⟨0,by omega,rfl,rfl,Below.refl _ _⟩
  case round =>
    obtain ⟨k,hk,rfl,HP,hbel⟩:=hrel
    by_cases hlt:k < ds.length
    · have hlt':(k:Int) < (ds.length:Int):=by omega
      have hr:=h.below hbel
      obtain ⟨x,hx⟩:∃ x,ds[k]? = some x:=⟨_,List.getElem?_eq_getElem hlt⟩
      obtain ⟨g,o,rfl,q0,q1,q2,q3,q4⟩:=hr k x hx
      have HXK:Hid (ds[k]? = some x):=hx
      have HD:Hid _:=ded_any x wr q4
      obtain ⟨wh,⟨⟨nm,tg,zs⟩,xa,xc⟩⟩:=x
      simp only [ItD.val] at q0 q1 q2 q3
      clear hr hx q4
      go_wp2_with fail
      refine Calls.mono HD.out ?_
      rintro e w1 ⟨rfl,g1⟩
      have hb1:=hbel.trans (g1.mono hbel.size)
      clear HD
      cases hx:bigD ⟨wh,⟨⟨nm,tg,zs⟩,xa,xc⟩⟩ with
      | true =>
        have HX:Hid (ds.any bigD = true):=List.any_eq_true.2 ⟨_,List.mem_of_getElem? HXK.out,hx⟩
        clear q0 q1 q2 q3 g1 hx
        go_wp2_with fail
        go_ret
        exact ⟨⟨k,rfl,by rw [HX.out];simp⟩,hb1⟩
      | false =>
        have HX:Hid ((ds.take (k + 1)).any bigD = false):=by
          unfold Hid;rw [List.take_add_one,HXK.out,List.any_append,HP.out];simp [hx]
        clear q0 q1 q2 q3 g1 hx
        go_wp2_with fail
        exact ⟨⟨k + 1,by omega,by go_num,HX.out,hb1⟩,by simp [intOf];omega⟩
    · have hk':k = ds.length:=by omega
      subst hk'
      have HX:Hid (ds.any bigD = false):=by
        have:=HP.out
        rw [List.take_length] at this;exact this
      go_wp2_with fail
      go_ret
      exact ⟨⟨-1,rfl,by rw [HX.out];decide⟩,hbel⟩
theorem containsDed_any (a:Option Addr) (c:Nat) (ds:List DeD) (w:World) (h:Dds w a ds) (hl:ds.length <= 65) :
    Calls Tryz.prog 90 #[.slice a ds.length c,.func (.func 91) #[] #[]] w fun e w' => e = .returned (.bool (ds.any bigD)) ∧ Below w.heap.size w w':=by
  go_enter Tryz.func90,Tryz.ntmps90
  go_wp2_with (go_at_call 149;refine (indexDed_any _ _ _ _ h hl).mono ?_;rintro e w' ⟨⟨j,rfl,hj⟩,g1⟩)
  go_ret
  refine ⟨?_,g1⟩
  rw [<- hj];simp
theorem deeds_any (a:Option Addr) (c:Nat) (ds:List DeD) (w:World) (h:Dds w a ds) :
    Calls Tryz.prog 35 #[.slice a ds.length c] w fun e w' => e = .returned (.bool (dedsB ds)) ∧ Below w.heap.size w w':=by
  unfold dedsB
  by_cases c1:ds.length <= 40
  · have c1':(ds.length:Int) <= 40:=by omega
    have c1'':decide (ds.length <= 40) = true:=by simpa using c1
    rw [c1'']
    cases hx:ds.any bigD with
    | true =>
      go_enter Tryz.func35,Tryz.ntmps35
      go_wp2_with (go_at_call 90;refine (containsDed_any _ _ _ _ h (by omega)).mono ?_;rintro e w' ⟨rfl,g1⟩;rw [hx])
      go_ret
      exact ⟨rfl,g1⟩
    | false =>
      go_enter Tryz.func35,Tryz.ntmps35
      go_wp2_with (go_at_call 90;refine (containsDed_any _ _ _ _ h (by omega)).mono ?_;rintro e w' ⟨rfl,g1⟩;rw [hx])
      go_ret
      exact ⟨rfl,g1⟩
  · have c1':¬ (ds.length:Int) <= 40:=by omega
    go_enter Tryz.func35,Tryz.ntmps35
    go_wp2
    go_ret
    exact ⟨by simp,Below.refl _ _⟩
theorem deds_ok {ds:List DeD} (h:dedsB ds = true):ds.length <= 40 ∧ ∀ d ∈ ds,d.it.x.nums.length <= 12:=by
  unfold dedsB at h
  rw [Bool.and_eq_true,decide_eq_true_eq,Bool.not_eq_true'] at h
  refine ⟨h.1,fun d hd => ?_⟩
  have h2:=List.any_eq_false.1 h.2 d hd
  unfold bigD heldB at h2
  simp [bigB] at h2
  omega
def scr:ByteArray:=⟨#[48,49,50,51,52,53,54,55,56,57,97,98,99,100,101,102]⟩
theorem new_dsk {w2:World} {d:Nat} (hD:Dv.Dev w2 (fun k => k = d) d (fun _ _ => 0) [] (-1) (.slice none 0 0) 0) (hz:w2.heap.size = d + 1) :
    Dsk (w2.alloc (.cells #[.int .i64 0] 32)) (fun k => k = d) d w2.heap.size scr 0 1 (fun _ => none) (-1):=by
  have g3:=below_alloc w2 (.cells #[.int .i64 0] 32)
  exact ⟨⟨_,_,_,_,hD.below g3,tldE_new scr⟩,Blk.new w2 _ _,fun k hk => by simp;omega,fun h => by omega⟩
theorem ints_two (w:World) (a b:Int):Ints (w.alloc (.cells #[.int .i64 a,.int .i64 b] 3)) (some ⟨w.heap.size,0,none⟩) [a,b]:=by
  have j:Blk (w.alloc (.cells #[.int .i64 a,.int .i64 b] 3)) w.heap.size #[.int .i64 a,.int .i64 b] 3:=Blk.new w _ _
  intro i z hz
  match i,hz with
  | 0,hz => simp at hz;subst hz;exact ⟨_,0,rfl,j.cell 0⟩
  | 1,hz => simp at hz;subst hz;exact ⟨_,0,rfl,j.cell 1⟩
def ptA (a:Option Addr) (c:Nat):ItD:=⟨⟨⟨#[97]⟩,⟨#[]⟩,[1,2]⟩,a,c⟩
theorem ptA_right (a:Option Addr) (c:Nat):rightB (ptA a c).x 2 = true:=by
  show rightB ⟨⟨#[97]⟩,⟨#[]⟩,[1,2]⟩ 2 = true
  decide +kernel
theorem ask13:askB 2 [1,3] 1 = true:=by decide +kernel
theorem found13 (y:ItD) (a:Option Addr) (c:Nat) (hy:y.x = (ptA a c).x):XK true [1,3] ⟨#[]⟩ 1 [y] = [(⟨#[97]⟩,1)]:=by
  unfold XK
  rw [if_pos rfl]
  have e:xsOf [y] = [⟨⟨#[97]⟩,⟨#[]⟩,[1,2]⟩]:=by unfold xsOf;rw [List.map_cons,hy];rfl
  rw [e]
  decide +kernel
theorem fnds_one (w:World) (s:ByteArray) (n:Int):Fnds (w.alloc (.cells #[.string s,.int .i64 n] 94)) (.slice (some ⟨w.heap.size,0,none⟩) 1 1) [(s,n)]:=by
  have j:Blk (w.alloc (.cells #[.string s,.int .i64 n] 94)) w.heap.size #[.string s,.int .i64 n] 94:=Blk.new w _ _
  refine ⟨some ⟨w.heap.size,0,none⟩,1,rfl,Nat.le_refl _,fun i x hx => ?_⟩
  match i,hx with
  | 0,hx => simp at hx;subst hx;exact ⟨_,0,rfl,j.lt,j.cell 0,j.cell 1⟩
set_option maxRecDepth 100000 in
set_option maxHeartbeats 4000000 in
theorem based_any (w:World) (hK:Sm.KB w) (hL:LB w) (hE:EB w) :
    Calls Tryz.prog 36 #[] w fun e w' => e = .returned (.bool true) ∧ Below w.heap.size w w':=by
  have HK:Hid (Sm.KB w):=hK
  have HL:Hid (LB w):=hL
  have HE:Hid (EB w):=hE
  clear hK hL hE
  go_enter Tryz.func36,Tryz.ntmps36
  go_wp2_with fail
  refine (Dv.dnew_any w).mono ?_
  rintro e w2 ⟨rfl,hD,g2,z2⟩
  have HDK:Hid _:=new_dsk hD z2
  have s3:=below_alloc w2 (.cells #[.int .i64 0] 32)
  have HG3:Hid (Below w.heap.size w (w2.alloc (.cells #[.int .i64 0] 32))):=g2.trans (s3.mono g2.size)
  have HO:Hid _:=fun (s:ByteArray) (h:s = scr) => show Calls Tryz.prog 12 #[.pointer (some ⟨w.heap.size,0,none⟩),.pointer (some ⟨w2.heap.size,0,none⟩),.string s] (w2.alloc (.cells #[.int .i64 0] 32)) _ from h ▸ open_none _ _ w.heap.size w2.heap.size scr 0 1 (fun _ => none) (-1) HDK.out says_none rfl (HK.out.below HG3.out)
  have hz2:w.heap.size <= w2.heap.size:=g2.size
  clear hD g2 z2 s3 HDK
  go_wp2_with fail
  generalize w2.alloc (.cells #[.int .i64 0] 32) = w3 at *
  refine Calls.mono (HO.out _ rfl) ?_
  rintro e w4 ⟨⟨bb,X,rfl,hB,hX⟩,g4⟩
  have HB:Hid (Bas w4 X w.heap.size w2.heap.size bb scr 0 1 (-1) false 0 [] []):=hB
  have HG4:Hid (Below w.heap.size w w4):=HG3.out.trans (g4.mono HG3.out.size)
  have HX:Hid (∀ k,X k -> w.heap.size <= k):=fun k hk => by
    have:=HG3.out.size
    rcases hX k hk with h | h | h <;> omega
  clear HO hB hX g4 HG3
  go_wp2_with fail
  have HCN:Hid _:=bas_commit_no HB.out
  refine Calls.mono HCN.out ?_
  rintro e w5 ⟨rfl,hw⟩
  obtain rfl:w4 = w5:=hw.symm
  clear hw HCN
  go_wp2_with fail
  have HT:Hid _:=tell_some 6 w4 (HE.out.below HG4.out)
  refine Calls.mono HT.out ?_
  rintro e w5 ⟨rfl,g5⟩
  have HB5:Hid (Bas w5 X w.heap.size w2.heap.size bb scr 0 1 (-1) false 0 [] []):=HB.out.below g5
  have HG5:Hid (Below w.heap.size w w5):=HG4.out.trans (g5.mono HG4.out.size)
  clear HT g5 HB HG4
  go_wp2_with fail
  have HM:Hid _:=bas_make HB5.out 2 (by decide) (by decide)
  refine Calls.mono HM.out ?_
  rintro e w6 ⟨rfl,hB6,c6⟩
  have HB6:Hid (Bas w6 (more X w5 w6) w.heap.size w2.heap.size bb scr 0 1 (-1) false 2 [] []):=hB6
  have HG6:Hid (Below w.heap.size w w6):=c6.to HG5.out HG5.out.size HX.out
  have HX6:Hid (∀ k,more X w5 w6 k -> w.heap.size <= k):=more_lo HX.out HG5.out.size
  clear HM hB6 c6 HB5 HG5
  go_wp2_with fail
  have s7:=below_alloc w6 (.cells #[.int .i64 1,.int .i64 2] 3)
  have hxo:(ptA (some ⟨w6.heap.size,0,none⟩) 2).Ok (w6.alloc (.cells #[.int .i64 1,.int .i64 2] 3)):=⟨ints_two w6 1 2,show 2 <= maxLen by decide,show 1 <= maxLen by decide,show 0 <= maxLen by decide,show 2 <= 2 by decide⟩
  have HP:Hid _:=bas_put (HB6.out.below s7) (ptA (some ⟨w6.heap.size,0,none⟩) 2) hxo (by decide) (ptA_right _ _) (Or.inr (by decide))
  have HG7:Hid (Below w.heap.size w (w6.alloc (.cells #[.int .i64 1,.int .i64 2] 3))):=HG6.out.trans (s7.mono HG6.out.size)
  clear s7 hxo HB6 HG6
  generalize hw7:w6.alloc (.cells #[.int .i64 1,.int .i64 2] 3) = w7 at *
  clear hw7
  refine Calls.mono HP.out ?_
  rintro e w8 ⟨rfl,⟨y,hy,hB8⟩,c8⟩
  have HY:Hid (y.x = (ptA (some ⟨w6.heap.size,0,none⟩) 2).x):=hy
  have HB8:Hid (Bas w8 (more (more X w5 w6) w7 w8) w.heap.size w2.heap.size bb scr 0 1 (-1) false 2 [] [y]):=hB8
  have HG8:Hid (Below w.heap.size w w8):=c8.to HG7.out HG7.out.size HX6.out
  have HX8:Hid (∀ k,more (more X w5 w6) w7 w8 k -> w.heap.size <= k):=more_lo HX6.out HG7.out.size
  clear HP hB8 c8 hy HG7
  generalize more (more X w5 w6) w7 w8 = X8 at *
  go_wp2_with fail
  have HI:Hid _:=bas_items HB8.out
  refine Calls.mono HI.out ?_
  rintro e w9 ⟨⟨a,cp,ds,rfl,_,_,_⟩,g9⟩
  have HB9:Hid (Bas w9 X8 w.heap.size w2.heap.size bb scr 0 1 (-1) false 2 [] [y]):=HB8.out.below g9
  have HG9:Hid (Below w.heap.size w w9):=HG8.out.trans (g9.mono HG8.out.size)
  clear HI g9 HB8 HG8
  go_wp2_with fail
  have HC:Hid _:=bas_commit HB9.out (by decide) (by decide) (by decide) (HK.out.below HG9.out) (HL.out.below HG9.out)
  refine Calls.mono HC.out ?_
  rintro e w10 ⟨rfl,hB10,c10⟩
  have HB10:Hid (Bas w10 (more X8 w9 w10) w.heap.size w2.heap.size bb scr 1 1 (-1) true 2 [y] [y]):=hB10
  have HG10:Hid (Below w.heap.size w w10):=c10.to HG9.out HG9.out.size HX8.out
  clear HC hB10 c10 HB9 HG9
  go_wp2_with fail
  have s11:=below_alloc w10 (.cells #[.int .i64 1,.int .i64 3] 3)
  have HF:Hid _:=bas_find (HB10.out.below s11) (by decide) (some ⟨w10.heap.size,0,none⟩) 2 [1,3] 1 ⟨#[]⟩ (ints_two w10 1 3) (by decide)
  have HG11:Hid (Below w.heap.size w (w10.alloc (.cells #[.int .i64 1,.int .i64 3] 3))):=HG10.out.trans (s11.mono HG10.out.size)
  clear s11 HB10 HG10
  generalize hw11:w10.alloc (.cells #[.int .i64 1,.int .i64 3] 3) = w11 at *
  clear hw11
  refine Calls.mono HF.out ?_
  rintro e w12 ⟨⟨v,lk,rfl,hF,_,_⟩,g12⟩
  rw [ask13,found13 y _ _ HY.out] at hF
  have HF12:Hid (Fnds w12 v [(⟨#[97]⟩,1)]):=hF
  have HG12:Hid (Below w.heap.size w w12):=HG11.out.trans (g12.mono HG11.out.size)
  have hev:ev (askB 2 [1,3] 1) = .nilIface:=by rw [ask13];rfl
  rw [hev]
  clear HF hF g12 HG11 hev
  go_wp2_with fail
  have s13:=below_alloc w12 (.cells #[.string ⟨#[97]⟩,.int .i64 1] 94)
  have HQ:Hid _:=feq_any v (.slice (some ⟨w12.heap.size,0,none⟩) 1 1) [(⟨#[97]⟩,1)] _ (Fnds.below HF12.out s13) (fnds_one w12 ⟨#[97]⟩ 1) (by decide)
  have HG13:Hid (Below w.heap.size w (w12.alloc (.cells #[.string ⟨#[97]⟩,.int .i64 1] 94))):=HG12.out.trans (s13.mono HG12.out.size)
  clear s13 HF12 HG12
  refine Calls.mono HQ.out ?_
  rintro e w14 ⟨rfl,nd,hw14⟩
  have HG14:Hid (Below w.heap.size w w14):=by unfold Hid;rw [hw14];exact below_drewN HG13.out nd
  clear HQ hw14
  go_wp2_with fail
  go_ret
  exact ⟨rfl,HG14.out⟩
def DoesPost (w0:World) (d c bb:Nat) (sec:ByteArray) (n en q:Nat) (wh:Int) (e:Ending) (w':World):Prop:=
  ∃ X' n' en' T' L' N' m1' m2' M1' M2' er,e = .returned (.tuple #[.map (some m1'),.map (some m2'),er]) ∧ Wt w0 w' X' d c bb sec n' en' (-1) T' L' N' m1' m2' M1' M2' ∧ M1'.length <= q + 1 ∧ M2'.length <= q + 1 ∧ en' <= en + 1 ∧
    ((er = .nilIface ∧ (wh = 3 ∨ wh = 4) ∧ n' = n + 1) ∨ (er = .nilIface ∧ wh ≠ 3 ∧ wh ≠ 4 ∧ n' = n) ∨ (∃ v,er = .iface 34 v) ∧ n' = n)
theorem noI_le (L:List ItD) (s:ByteArray):(noI L s).length <= L.length:=List.length_filter_le _ _
theorem putI_le (L:List ItD) (x:ItD):(putI L x).length <= L.length + 1:=by
  unfold putI;rw [List.length_cons];have:=noI_le L x.x.name;omega
section
variable {w0 w:World} {X:Nat -> Prop} {d c bb:Nat} {sec:ByteArray} {n en:Nat} {T:Bool} {L N:List ItD} {m1 m2:Nat} {M1 M2:List ItD}
theorem does_any (h:Wt w0 w X d c bb sec n en (-1) T L N m1 m2 M1 M2) (wh:Int) (x:ItD) (hxo:x.Ok w) (hxl:x.x.nums.length <= 100) (hx0:x.Ok w0) (q:Nat) (hq:q < 60) (hM1:M1.length <= q) (hM2:M2.length <= q) (hn:n < 1000) (he:en < 1000) (hsec:sec.size <= 300) (hK:Sm.KB w0) (hL:LB w0) :
    Calls Tryz.prog 37 #[.pointer (some ⟨bb,0,none⟩),.agg #[.int .i64 wh,.string x.x.name,.string x.x.tag,.slice x.a x.x.nums.length x.c],.map (some m1),.map (some m2)] w fun e w' => DoesPost w0 d c bb sec n en q wh e w':=by
  by_cases h0:wh = 0
  · subst h0
    cases hr:rightB x.x 2 with
    | false =>
      refine (does_put_no h x hxo hr).mono ?_
      rintro e w' ⟨rfl,hw⟩
      exact ⟨X,n,en,T,L,N,m1,m2,M1,M2,_,rfl,hw,by omega,by omega,by omega,Or.inr (Or.inr ⟨⟨_,rfl⟩,rfl⟩)⟩
    | true =>
      have hxa:∀ b o,x.a = some ⟨b,o,none⟩ -> b < w0.heap.size:=fun b o e => by
        obtain ⟨_,h2,_⟩:=right_parts hr
        obtain ⟨g,o',e',hc⟩:=hx0.1 0 x.x.nums[0] (List.getElem?_eq_getElem (by omega))
        rw [e] at e'
        injection e' with e'
        injection e' with e1 e2
        subst e1
        exact World.block_lt_of_cell? w0 _ hc
      refine (does_put h x hxo hxl hxa hr (by omega)).mono ?_
      rintro e w' ⟨X',N',m2',rfl,hw⟩
      have:=putI_le M2 x
      exact ⟨X',n,en,T,L,N',m1,m2',M1,_,_,rfl,hw,by omega,by omega,by omega,Or.inr (Or.inl ⟨rfl,by decide,by decide,rfl⟩)⟩
  by_cases h1:wh = 1
  · subst h1
    cases hN:isN M2 x.x.name with
    | false =>
      refine (does_del_no h x hxo hN).mono ?_
      rintro e w' ⟨rfl,hw⟩
      exact ⟨X,n,en,T,L,N,m1,m2,M1,M2,_,rfl,hw,by omega,by omega,by omega,Or.inr (Or.inr ⟨⟨_,rfl⟩,rfl⟩)⟩
    | true =>
      refine (does_del h x hxo hN (by omega)).mono ?_
      rintro e w' ⟨X',N',m2',rfl,hw⟩
      have:=noI_le M2 x.x.name
      exact ⟨X',n,en,T,L,N',m1,m2',M1,_,_,rfl,hw,by omega,by omega,by omega,Or.inr (Or.inl ⟨rfl,by decide,by decide,rfl⟩)⟩
  by_cases h2:wh = 2
  · subst h2
    refine (does_undo h x hxo).mono ?_
    rintro e w' ⟨X',rfl,hw⟩
    exact ⟨X',n,en,T,L,L,m1,m1,M1,M1,_,rfl,hw,by omega,by omega,by omega,Or.inr (Or.inl ⟨rfl,by decide,by decide,rfl⟩)⟩
  by_cases h3:wh = 3
  · subst h3
    refine (does_commit h x hxo hn hsec hK hL).mono ?_
    rintro e w' ⟨X',rfl,hw⟩
    exact ⟨X',n + 1,en,true,N,N,m2,m2,M2,M2,_,rfl,hw,by omega,by omega,by omega,Or.inl ⟨rfl,Or.inl rfl,rfl⟩⟩
  by_cases h4:wh = 4
  · subst h4
    refine (does_turn h x hxo hn he hsec hK).mono ?_
    rintro e w' ⟨X',rfl,hw⟩
    exact ⟨X',n + 1,en + 1,T,L,N,m1,m2,M1,M2,_,rfl,hw,by omega,by omega,by omega,Or.inl ⟨rfl,Or.inr rfl,rfl⟩⟩
  refine (does_other wh h x hxo (beq_eq_false_iff_ne.2 h0) (beq_eq_false_iff_ne.2 h1) (beq_eq_false_iff_ne.2 h2) (beq_eq_false_iff_ne.2 h3) (beq_eq_false_iff_ne.2 h4)).mono ?_
  rintro e w' ⟨rfl,hw⟩
  exact ⟨X,n,en,T,L,N,m1,m2,M1,M2,_,rfl,hw,by omega,by omega,by omega,Or.inr (Or.inl ⟨rfl,h3,h4,rfl⟩)⟩
end
end Go.Proofs.YtjmpjfikcgccdaaGreatDoor.Bs
namespace Go.Proofs.YtjmpjfikcgccdaaGreatDoor.Bs
open Go.RowKit Go.Shelf Go.Maps
open It Nr Ce Vt
theorem wt_new {w0 w:World} {X:Nat -> Prop} {d c bb:Nat} {n en:Nat} {F:Int} {T:Bool} {m1 m2:Nat} (hB:Bas w X d c bb scr n en F T 2 [] []) (h1:IM w m1 []) (h2:IM w m2 []) (x1:¬ X m1) (x2:¬ X m2) (hX:∀ k,X k -> w0.heap.size <= k) (hb:Below w0.heap.size w0 w):Wt w0 w X d c bb scr n en F T [] [] m1 m2 [] []:=
  ⟨hB,h1,h2,x1,x2,fun d hd => (by cases hd),fun d hd => (by cases hd),List.Perm.refl _,List.Perm.refl _,hX,hb⟩
end Go.Proofs.YtjmpjfikcgccdaaGreatDoor.Bs
namespace Go.Proofs.YtjmpjfikcgccdaaGreatDoor.Nr
open Go.ChangeShapes Go.WideShapes Go.ChangeAt Go.ChangeMaps Go.RowKit
open It
theorem own:ownKnob Tryz.prog.godebug = none:=by kernel_rfl
theorem laidOut:laidOutB Tryz.prog = true:=by kernel_rfl
theorem cells3:Tryz.prog.cellsOf 3 = 1:=by kernel_rfl
theorem cells9:Tryz.prog.cellsOf 9 = 1:=by kernel_rfl
theorem cellsIt:Tryz.prog.cellsOf 45 = 3:=by kernel_rfl
theorem cellsIs:Tryz.prog.cellsOf 23 = 1:=by kernel_rfl
section
variable {H:Type} {enc:TypeId × Value -> H} {P:Program} {w:World} {base:Nat} {sp:Nat -> Bool} {held:Bool}
theorem slice_open {t e:TypeId} {fuel:Nat} {a0:Option Addr} {len cap:Nat} {x:DataW H × List MemPlace} (ht:P.underlying t = some (.slice e)) (hp:0 < P.cellsOf e) (h:DataW.trod enc P w base sp held fuel t [.slice a0 len cap] = some x) :
    len <= maxLen ∧ len <= cap ∧ ∀ i,i < len -> ∃ a cs n y,a0 = some a ∧ a.spot = none ∧ w.cells? base (a.add (i * P.cellsOf e)) (P.cellsOf e) = some cs ∧ DataW.trod enc P w base sp held n e cs = some y:=by
  rcases DataW.trod_slice ht h with ⟨h0,_⟩ | ⟨a,len',cap',elems,rest,n,_,hcs,rfl,hb,hl,hm,hlen,hel,hsp,hns⟩
  · simp at h0
    obtain ⟨rfl,rfl,rfl⟩:=h0
    exact ⟨Nat.zero_le _,Nat.zero_le _,fun i hi => absurd hi (Nat.not_lt_zero _)⟩
  · simp at hcs
    obtain ⟨rfl,rfl,rfl⟩:=hcs
    refine ⟨Nat.le_trans hl hm,hl,fun i hi => ?_⟩
    have hE:=hel i hi
    rw [List.getElem?_eq_getElem (by omega),Option.bind_eq_some_iff] at hE
    obtain ⟨cs,h1,h2⟩:=hE
    have hE0:=hel 0 (by omega)
    rw [List.getElem?_eq_getElem (by omega),Option.bind_eq_some_iff] at hE0
    obtain ⟨cs0,h3,_⟩:=hE0
    obtain ⟨_,hl0,hc0⟩:=World.cells?_some h3
    have hc1:=hc0 0 hp
    rw [List.getElem?_eq_getElem (by omega)] at hc1
    have hs:=World.cell?_spot hc1
    simp [Addr.add] at hs
    exact ⟨a,cs,n,_,rfl,hs,h1,h2⟩
end
theorem list_of {α:Type} (p:Nat -> α -> Prop):∀ n:Nat,(∀ i,i < n -> ∃ x,p i x) -> ∃ l:List α,l.length = n ∧ ∀ i x,l[i]? = some x -> p i x
  | 0,_ => ⟨[],rfl,fun i x h => by simp at h⟩
  | n + 1,h => by
    obtain ⟨l,h1,h2⟩:=list_of p n (fun i hi => h i (by omega))
    obtain ⟨x,hx⟩:=h n (by omega)
    refine ⟨l ++ [x],by simp [h1],fun i y hy => ?_⟩
    by_cases hi:i < n
    · rw [List.getElem?_append_left (by omega)] at hy;exact h2 i y hy
    · have:i = n:=by
        have:=(List.getElem?_eq_some_iff.1 hy).1
        simp [h1] at this;omega
      subst this
      rw [List.getElem?_append_right (by omega),h1,Nat.sub_self] at hy
      simp at hy;subst hy;exact hx
section
variable {H:Type} {enc:TypeId × Value -> H} {w:World} {base:Nat} {sp:Nat -> Bool} {held:Bool} {fuel:Nat} {a0:Option Addr} {len cap:Nat} {x:DataW H × List MemPlace}
theorem one_cell {P:Program} {e:TypeId} {a:Addr} {i:Nat} {cs:List Value} (hc:P.cellsOf e = 1) (h:w.cells? base (a.add (i * P.cellsOf e)) (P.cellsOf e) = some cs) (v:Value) (hv:cs = [v]) (hs:a.spot = none):∃ g o,a = ⟨g,o,none⟩ ∧ w.cell? ⟨g,o + i,none⟩ = some v:=by
  subst hv
  rw [hc,Nat.mul_one] at h
  have h1:=cell_of_cells?_one h
  obtain ⟨b,off,spot⟩:=a
  obtain rfl:spot = none:=hs
  rw [addr_addO] at h1
  exact ⟨b,off,rfl,h1⟩
theorem ints_open (h:DataW.trod enc Tryz.prog w base sp held fuel 23 [.slice a0 len cap] = some x):∃ zs:List Int,zs.length = len ∧ len <= maxLen ∧ len <= cap ∧ Ints w a0 zs:=by
  obtain ⟨hl,hl2,hc⟩:=slice_open Tryz.underlying23 (by rw [cells3];decide) h
  obtain ⟨zs,h1,h2⟩:=list_of (fun i (z:Int) => ∃ g o,a0 = some ⟨g,o,none⟩ ∧ w.cell? ⟨g,o + i,none⟩ = some (.int .i64 z)) len (fun i hi => by
    obtain ⟨a,cs,n,y,rfl,hsp,h3,h4⟩:=hc i hi
    obtain ⟨m,rfl,_,hw⟩:=DataW.trod_int Tryz.underlying3 h4
    obtain ⟨g,o,rfl,h6⟩:=one_cell cells3 h3 _ rfl hsp
    exact ⟨m,g,o,rfl,h6⟩)
  exact ⟨zs,h1,hl,hl2,h2⟩
end
end Go.Proofs.YtjmpjfikcgccdaaGreatDoor.Nr
