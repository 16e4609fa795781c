/-
  Part of the proof of BaseFindsCard (CE13 and on).
-/
import Derived.Test.YtjmpjfikcgccdaaGreatDoorB17
import Derived.Test.YtjmpjfikcgccdaaGreatDoorB01
import Derived.LaidEql
import Derived.Stop.Asserts
import Derived.RowKitTokens
namespace Go.Proofs.YtjmpjfikcgccdaaGreatDoor.Ce
open Go.RowKit
open It Nr Sy
theorem top_refuses (p:Nat) (dim:Int) (av:Value) (b:Option Addr) (d:Nat) (ys:List Int) (k:Int) (tag:ByteArray) (w:World) (hp:Blk w p #[.int .i64 dim,av] 238) (hy:Ints w b ys) (hyl:ys.length <= maxLen) (hask:askB dim ys k = false) :
    Calls Tryz.prog 86 #[.pointer (some ⟨p,0,none⟩),.slice b ys.length d,.int .i64 k,.string tag] w fun e w' => e = .returned (.tuple #[.slice none 0 0,.int .i64 0,errA]) ∧ w' = w:=by
  have p0:=hp.cell 0
  have HA:Hid _:=ask_any dim b d ys k w hy hyl
  go_enter Tryz.func86,Tryz.ntmps86
  go_wp2_with fail
  refine Calls.mono HA.out ?_
  rintro e w2 ⟨rfl,hw⟩
  obtain rfl:w = w2:=hw.symm
  rw [hask]
  go_wp2_with fail
  go_ret3
  exact ⟨rfl,rfl⟩
set_option maxRecDepth 100000 in
set_option maxHeartbeats 16000000 in
theorem top_at (p:Nat) (dim:Int) (av:Option Addr) (cv:Nat) (os:List CeD) (C:Nat) (b:Option Addr) (d:Nat) (ys:List Int) (k:Nat) (tag:ByteArray) (w:World) (hp:Blk w p #[.int .i64 dim,.slice av os.length cv] 238)
    (hr:w.ownsRow C 242 2 (.slice av os.length cv) os.length (flatC os)) (hs:CS w C os) (hl:os.length <= 100) (hg:CG os) (hil:(os.flatMap CeD.it).length <= 100) (hok:∀ x ∈ os,∀ y ∈ x.it,y.Ok w ∧ y.x.nums.all numB = true ∧ y.x.nums.length <= 100)
    (hbig:∀ x ∈ os,leastI x.co ys <= 9223372036854775807) (hy:Ints w b ys) (hyl:ys.length <= maxLen) (hask:askB dim ys (k:Int) = true) :
    Calls Tryz.prog 86 #[.pointer (some ⟨p,0,none⟩),.slice b ys.length d,.int .i64 k,.string tag] w fun e w' => (∃ v lk,e = .returned (.tuple #[v,.int .i64 lk,.nilIface]) ∧ w'.ownsRow w.heap.size 94 2 v (tk k (fnd ys tag (xsOf (os.flatMap CeD.it)))).length (flatF (tk k (fnd ys tag (xsOf (os.flatMap CeD.it))))) ∧ 0 <= lk ∧ lk <= ((os.flatMap CeD.it).length:Int)) ∧ Below w.heap.size w w':=by
  have hk:1 <= k ∧ k <= 60:=by simp [askB] at hask;omega
  have HYN:Hid (ys.all numB = true):=by unfold askB at hask;rw [Bool.and_eq_true] at hask;exact hask.2
  obtain ⟨hk1,hk2⟩:=hk
  have p0:=hp.cell 0
  have HA:Hid _:=ask_any dim b d ys (k:Int) w hy hyl
  have HFN:Hid _:=finder_any p dim av cv os C b d ys w hp hr hs hl hg hy HYN.out
  have HS:Hid (CS w C os):=hs
  have HY:Hid (Ints w b ys):=hy
  have HOK:Hid _:=hok
  have HBIG:Hid _:=hbig
  have HIL:Hid ((os.flatMap CeD.it).length <= 100):=hil
  have HP:Hid (∀ W,Below w.heap.size w W -> W.cell? ⟨p,0,none⟩ = some (.int .i64 dim)):=fun W hW => (hp.below hW hp.lt).cell 0
  have HASK:Hid (askB dim ys (k:Int) = true):=hask
  clear hr hs hg hok hbig hil hp hy
  go_enter Tryz.func86,Tryz.ntmps86
  go_wp2_with fail
  refine Calls.mono HA.out ?_
  rintro e w2 ⟨rfl,hw⟩
  obtain rfl:w = w2:=hw.symm
  rw [hask]
  clear HA hask hw
  go_wp2_with fail
  refine Calls.mono HFN.out ?_
  rintro e w4 ⟨⟨lb,g,cap,tl,d',rfl,hlb,hgb,hcap,hperm,hsor,hgw,hlw⟩,b4⟩
  obtain ⟨N,hN⟩:∃ N,os.length = N:=⟨_,rfl⟩
  rw [hN] at hlb hcap hsor hl
  have hds:d'.size = N:=by have:=hperm.length_eq;rw [List.length_map,hN] at this;simpa using this
  have HDS:Hid (d'.size = N):=hds
  have HPERM:Hid _:=hperm
  have HSOR:Hid (Sor cfR (nth d') 0 N):=hsor
  have HAI:Hid (∀ i,(AI d' i).length <= (os.flatMap CeD.it).length):=fun i => by
    have h1:((d'.toList).flatMap fun r => r.c.it).Perm ((os.map (reF ys)).flatMap fun r => r.c.it):=List.Perm.flatMap_right _ hperm
    rw [List.flatMap_map] at h1
    have h2:=h1.length_eq
    have h3:AI d' i ++ (d'.toList.drop i).flatMap (fun r => r.c.it) = (d'.toList).flatMap fun r => r.c.it:=by unfold AI;rw [<- List.flatMap_append,List.take_append_drop]
    have h5:=congrArg List.length h3
    rw [List.length_append] at h5
    have h4:(AI d' i).length <= ((d'.toList).flatMap fun r => r.c.it).length:=Nat.le.intro h5
    rw [h2] at h4
    exact h4
  have HMEM:Hid (∀ i,i < N -> ∃ x ∈ os,nth d' i = reF ys x):=fun i hi => by
    obtain ⟨x,hx,e⟩:=List.mem_map.1 (hperm.mem_iff.1 (List.mem_of_getElem? (nth_some (d:=d') (i:=i) (by rw [hds];exact hi))))
    exact ⟨x,hx,e.symm⟩
  have HLF:Hid (LF w4 lb g N 0):=⟨some ⟨g,0,none⟩,cap,hlb,fun _ => by rw [Nat.zero_mul],by omega⟩
  obtain ⟨H4,hH4⟩:∃ H4,w4.heap.size = H4:=⟨_,rfl⟩
  have HLBT:Hid (lb < H4 ∧ w.heap.size <= lb):=⟨by rw [<- hH4];exact hlb.lt,hlw⟩
  have HW4:Hid (w.heap.size <= H4):=by rw [<- hH4];exact b4.size
  have HGB:Hid _:=hgb
  have HNX:Hid _:=next_step lb g N 0 tl d' 9223372036854775807 w4 hgb HLF.out hds (Nat.zero_le _)
  have hlbg:lb ≠ g:=fun e => by
    have h1:=hlb
    have h2:=hgb
    unfold Blk at h1 h2
    rw [e,h2] at h1
    injection h1 with h1
    injection h1 with _ h3
    cases h3
  have HLG:Hid (lb ≠ g):=hlbg
  clear hlb hgb hcap hperm hsor hds hgw hlw HFN hlbg
  go_wp2_with fail
  refine Calls.mono HNX.out ?_
  rintro e w5 ⟨⟨ok,a1,n1,c1,a2,n2,c2,rfl,hon,hoff⟩,hu⟩
  have g5:=Blk.updG HGB.out hu HLG.out.symm
  have b5:Below w.heap.size w w5:=hu.below b4 b4.size HLBT.out.2
  have z5:H4 <= w5.heap.size:=by rw [<- hH4];exact hu.size
  have a6:=below_alloc w5 (.cells #[.slice a1 n1 c1,.slice a2 n2 c2] 242)
  have j6:Blk (w5.alloc (.cells #[.slice a1 n1 c1,.slice a2 n2 c2] 242)) w5.heap.size #[.slice a1 n1 c1,.slice a2 n2 c2] 242:=Blk.new _ _ _
  have HTI:Hid (TI w H4 lb g N tl d' ys tag k (.slice none 0 0) 0 w5.heap.size ok 9223372036854775807 0 (w5.alloc (.cells #[.slice a1 n1 c1,.slice a2 n2 c2] 242))):=by
    have hX0:XF ys tag k d' 0 = []:=by unfold XF AI;simp [xsOf,fnd,tk,srt]
    refine ⟨b5.trans (a6.mono b5.size),Nat.le_trans z5 a6.size,by rw [hX0];exact ⟨rfl,Or.inl ⟨rfl,rfl⟩⟩,fun _ => rfl,?_,by unfold AI;simp,g5.below a6 g5.lt,fun h => ?_,fun h => ?_⟩
    · rw [hX0]
      exact ⟨fun h => by simp at h;omega,fun _ => rfl⟩
    · obtain ⟨h1,h2,h3,_,h5⟩:=hon h
      refine ⟨h1,?_,h5.below a6⟩
      rw [h2,h3] at j6
      rw [h2,h3]
      exact j6
    · exact ⟨Nat.zero_le _,(hoff h).1⟩
  clear hon hoff hu HNX HLF HGB g5 b5 j6
  go_wp2_with fail
  go_loopw [11,12,13,15,16,17,18] (fun v vl vF vx vok _ _ wr => ∃ (i xb:Nat) (ok:Bool) (F:Int) (lk:Nat),vl = .int .i64 lk ∧ vF = .int .i64 F ∧ vx = .pointer (some ⟨xb,0,none⟩) ∧ vok = .bool ok ∧ Hid (TI w H4 lb g N tl d' ys tag k v i xb ok F lk wr)) (fun _ vl _ _ _ _ _ _ => 1000 - (intOf vl).toNat)
  case atStart => exact ⟨0,w5.heap.size,ok,9223372036854775807,0,rfl,rfl,rfl,rfl,HTI.out⟩
  case round =>
    clear HTI a6
    obtain ⟨i,xb,ok,F,lk,rfl,rfl,rfl,rfl,HT⟩:=hrel
    obtain ⟨av1,cv1,hv1⟩:=own_slice HT.out.row
    subst hv1
    cases ok with
    | false =>
      go_wp2_with fail
      go_ret3
      obtain ⟨h1,h2⟩:=HT.out.off rfl
      have hd:=top_done HDS.out HPERM.out HSOR.out (fun x hx => (HS.out.cor x hx).2) HBIG.out HT.out.far h1 h2
      have hf:=own_base HT.out.row HW4.out
      refine ⟨⟨_,_,rfl,?_,?_,?_⟩,HT.out.bel⟩
      · rw [<- hd];exact hf
      · omega
      · have h3:=HT.out.lk
        have h4:=HAI.out i
        show (lk:Int) <= _
        omega
    | true =>
      obtain ⟨hiN,hxb,hlf⟩:=HT.out.on rfl
      obtain ⟨x,hxo,hxe⟩:=HMEM.out i hiN
      rw [hxe] at hxb
      obtain ⟨X,hX⟩:∃ X,XF ys tag k d' i = X:=⟨_,rfl⟩
      have HX:Hid (XF ys tag k d' i = X):=hX
      have HXE:Hid (nth d' i = reF ys x):=hxe
      have hXl:X.length <= 60:=by rw [<- hX];unfold XF;rw [tk_len];omega
      have HROW:Hid (wr.ownsRow H4 94 2 (.slice av1 X.length cv1) X.length (flatF X)):=by have h0:=HT.out.row;rw [hX] at h0;exact h0
      have HNIL:Hid (X = [] -> Value.slice av1 X.length cv1 = .slice none 0 0):=by have h0:=HT.out.nil;rw [hX] at h0;exact h0
      rw [hX]
      have HLF:Hid (LF wr lb g N (i + 1)):=hlf
      have HLK:Hid (lk = (AI d' i).length):=HT.out.lk
      have HFAR:Hid (FarOk k X F):=by have h0:=HT.out.far;rw [hX] at h0;exact h0
      have HBG:Hid (Blk wr g (fl encR tl d') 309):=HT.out.bg
      have HSZ:Hid (H4 <= wr.heap.size):=HT.out.size
      have HBEL:Hid (Below w.heap.size w wr):=HT.out.bel
      have hlk:lk <= 100:=by have:=HLK.out;have:=HAI.out i;have:=HIL.out;omega
      have HSW:Hid (CS wr C os):=CS.below HS.out HBEL.out
      have hokx:∀ y ∈ x.it,y.Ok wr:=fun y hy => ((HOK.out x hxo y hy).1).below HBEL.out
      have hnum:∀ y ∈ x.it,y.x.nums.all numB = true ∧ y.x.nums.length <= 100:=fun y hy => (HOK.out x hxo y hy).2
      obtain ⟨ai,ci,hve,hIt⟩:=its_own (HSW.out.it x hxo) hokx
      have hxil:x.it.length <= 100:=Nat.le_trans (flatMap_len_le x hxo) HIL.out
      have hxip:0 < x.it.length:=List.length_pos_iff.2 (HSW.out.cor x hxo).1
      have hxb':Blk wr xb #[.slice x.ca x.co.length x.cc,.slice x.ia x.it.length x.ic] 242:=hxb
      unfold CeD.e1 at hve
      injection hve with hve1 hve2 hve3
      rw [<- hve1] at hIt
      have HIT:Hid (Its wr x.ia x.it):=hIt
      have HXB:Hid (Blk wr xb #[.slice x.ca x.co.length x.cc,.slice x.ia x.it.length x.ic] 242):=hxb'
      have HPC:Hid (∀ W,Below wr.heap.size wr W -> W.cell? ⟨p,0,none⟩ = some (.int .i64 dim)):=fun W hW => HP.out W (HBEL.out.trans (hW.mono HBEL.out.size))
      have HXC:Hid (∀ W,Below wr.heap.size wr W -> W.cell? ⟨xb,1,none⟩ = some (.slice x.ia x.it.length x.ic)):=fun W hW => (HXB.out.below hW HXB.out.lt).cell 1
      have HNUM:Hid _:=hnum
      clear HT hxb hlf hxe hX hokx hnum hve1 hve2 hve3 hIt hxb' hxo HSW
      go_wp2_with fail
      have s0:Below wr.heap.size wr wr.drew:=below_drewN (Below.refl _ _) 1
      refine regS_in 15 (fun W => Below wr.heap.size wr W) Nr.mixed rfl ?_
      refine regS_take 0 49 (.pointer (some ⟨p,0,none⟩)) rfl rfl (by kernel_rfl) (fun _ _ _ h => h) (by kernel_rfl) (fun W hW => by go_simp) s0 ?_
      refine regS_take 1 50 (.pointer (some ⟨p,0,none⟩)) rfl rfl (by kernel_rfl) (fun _ _ _ h => h) (by kernel_rfl) (fun W hW => by go_simp) s0 ?_
      refine regS_take 2 51 (.pointer (some ⟨p,0,none⟩)) rfl rfl (by kernel_rfl) (fun _ _ _ h => h) (by kernel_rfl) (fun W hW => by go_simp) s0 ?_
      refine regS_take 3 52 (.int .i64 dim) rfl rfl (by kernel_rfl) (fun _ _ _ h => h) (by kernel_rfl) (fun W hW => by have a0:=HPC.out W hW;go_simp) s0 ?_
      refine regS_take 4 53 (.pointer (some ⟨xb,1,none⟩)) rfl rfl (by kernel_rfl) (fun _ _ _ h => h) (by kernel_rfl) (fun W hW => by go_simp) s0 ?_
      refine regS_take 5 54 (.slice x.ia x.it.length x.ic) rfl rfl (by kernel_rfl) (fun _ _ _ h => h) (by kernel_rfl) (fun W hW => by have a0:=HXC.out W hW;go_simp) s0 ?_
      refine regS_take 6 55 (.slice b ys.length d) rfl rfl (by kernel_rfl) (fun _ _ _ h => h) (by kernel_rfl) (fun W hW => by go_simp) s0 ?_
      refine regS_take 7 56 (.int .i64 (k:Int)) rfl rfl (by kernel_rfl) (fun _ _ _ h => h) (by kernel_rfl) (fun W hW => by go_simp) s0 ?_
      refine regS_take 8 57 (.string tag) rfl rfl (by kernel_rfl) (fun _ _ _ h => h) (by kernel_rfl) (fun W hW => by go_simp) s0 ?_
      simp only [Act.put,List.setIfInBounds_toArray,List.set_cons_succ,List.set_cons_zero]
      refine regS_one 9 rfl (by kernel_rfl) (by kernel_rfl) (fun K hK => ?_)
      have HTO:Hid _:=top_ok dim x.ia x.ic x.it b d ys (k:Int) tag wr.drew (HIT.out.below s0) hxil (Ints.below HY.out (HBEL.out.trans (s0.mono HBEL.out.size))) hyl HASK.out HNUM.out
      go_wp2_with fail
      refine Calls.mono HTO.out ?_
      rintro e w6 ⟨⟨v2,rfl,hF2⟩,g6⟩
      rw [Int.toNat_natCast] at hF2
      have s1:=s0.trans (g6.mono s0.size)
      refine hK _ _ s1 ?_
      clear hK K HTO g6 s0
      refine regS_take 10 48 (.tuple #[v2,.nilIface]) rfl rfl (by kernel_rfl) (fun _ _ _ h => h) (by kernel_rfl) (fun W hW => by go_simp) s1 ?_
      refine regS_take 11 59 (v2) rfl rfl (by kernel_rfl) (fun _ _ _ h => h) (by kernel_rfl) (fun W hW => by go_simp) s1 ?_
      refine regS_take 12 60 (.nilIface) rfl rfl (by kernel_rfl) (fun _ _ _ h => h) (by kernel_rfl) (fun W hW => by go_simp) s1 ?_
      refine regS_take 13 17 (v2) rfl rfl (by kernel_rfl) (fun _ _ _ h => h) (by kernel_rfl) (fun W hW => by go_simp) s1 ?_
      refine regS_take 14 18 (.nilIface) rfl rfl (by kernel_rfl) (fun _ _ _ h => h) (by kernel_rfl) (fun W hW => by go_simp) s1 ?_
      refine regS_end (by kernel_rfl) ?_
      simp only [Act.put,List.setIfInBounds_toArray,List.set_cons_succ,List.set_cons_zero]
      obtain ⟨F2,hF2e⟩:∃ F2,tk k (fnd ys tag (xsOf x.it)) = F2:=⟨_,rfl⟩
      have HF2:Hid (Fnds w6 v2 F2):=by rw [<- hF2e];exact hF2
      have hF2l:F2.length <= 60:=by rw [<- hF2e,tk_len];omega
      have HXS:Hid (tk k (X ++ F2) = XF ys tag k d' (i + 1)):=by
        have h0:=XF_succ (ys:=ys) (tag:=tag) (k:=k) (d':=d') (i:=i) (by rw [HDS.out];exact hiN)
        rw [HX.out,HXE.out] at h0
        rw [<- hF2e];exact h0
      have HR6:Hid (w6.ownsRow H4 94 2 (.slice av1 X.length cv1) X.length (flatF X)):=ownsRow_below HROW.out s1
      have HX6:Hid (Blk w6 xb #[.slice x.ca x.co.length x.cc,.slice x.ia x.it.length x.ic] 242):=HXB.out.below s1 HXB.out.lt
      have HG6:Hid (Blk w6 g (fl encR tl d') 309):=HBG.out.below s1 HBG.out.lt
      have HL6:Hid (LF w6 lb g N (i + 1)):=HLF.out.below s1
      have HB6:Hid (Below w.heap.size w w6):=HBEL.out.trans (s1.mono HBEL.out.size)
      have HZ6:Hid (H4 <= w6.heap.size):=Nat.le_trans HSZ.out s1.size
      clear hF2 hF2e s1 HPC HXC HROW HXB HBG HLF HBEL HSZ HIT
      go_upto_region 14 with fail
      go_cut [11] from 64 to 68 (fun v wx => ∃ a3 n3 c3,v = .slice a3 n3 c3 ∧ Hid (n3 = (XF ys tag k d' (i + 1)).length) ∧ Hid (wx.ownsRow H4 94 2 (.slice a3 n3 c3) n3 (flatF (XF ys tag k d' (i + 1)))) ∧ Hid (XF ys tag k d' (i + 1) = [] -> Value.slice a3 n3 c3 = .slice none 0 0) ∧ Hid (Below w.heap.size w wx ∧ H4 <= wx.heap.size) ∧ Hid (Blk wx xb #[.slice x.ca x.co.length x.cc,.slice x.ia x.it.length x.ic] 242) ∧ Hid (Blk wx g (fl encR tl d') 309) ∧ Hid (LF wx lb g N (i + 1)))
      case first =>
        have hr6:=HR6.out
        have hf6:=HF2.out
        have hz6:=HZ6.out
        go_wp2_with (first
          | (refine wpl_appF rfl _ _ 73 rfl H4 94 Tryz.underlying73 infoF (.slice av1 X.length cv1) v2 X F2 rfl hr6 rfl hf6 (by omega) hz6 ?_;intro v7 w7 ow7 gr7 hn7)
          | fail)
        have hxb7:=blk_grown HX6.out gr7 (blk_apart HX6.out HR6.out (by decide))
        have hg7:=blk_grown HG6.out gr7 (blk_apart HG6.out HR6.out (by decide))
        have hlf7:LF w7 lb g N (i + 1):=by
          obtain ⟨q,c,h1,h2,h3⟩:=HL6.out
          exact ⟨q,c,blk_grown h1 gr7 (blk_apart h1 HR6.out (by decide)),h2,h3⟩
        have hb7:Below w.heap.size w w7:=HB6.out.grown gr7 HB6.out.size (fun q hq => Nat.le_trans HW4.out (row_ownLt HR6.out q hq).1)
        have hz7:H4 <= w7.heap.size:=Nat.le_trans HZ6.out gr7.size
        by_cases hY:X ++ F2 = []
        · have hXe:=(List.append_eq_nil_iff.1 hY).1
          have hFe:=(List.append_eq_nil_iff.1 hY).2
          have hv7:=hn7 (HNIL.out hXe) hFe
          subst hv7
          have hX':XF ys tag k d' (i + 1) = []:=by rw [<- HXS.out,hY];simp [tk,srt]
          refine (nearest_nil k w7 hk2).mono ?_
          rintro e w8 ⟨rfl,hw8⟩
          obtain rfl:w7 = w8:=hw8.symm
          clear ow7 gr7 hn7 hw8 hXe hFe hY
          go_wp2_with fail
          go_meet
          exact ⟨none,0,0,rfl,by unfold Hid;rw [hX'];rfl,by unfold Hid;rw [hX'];exact ⟨rfl,Or.inl ⟨rfl,rfl⟩⟩,fun _ => rfl,⟨hb7,hz7⟩,hxb7,hg7,hlf7⟩
        · have hYl:0 < (X ++ F2).length:=List.length_pos_iff.2 hY
          have hYl2:(X ++ F2).length <= 1000:=by rw [List.length_append];omega
          obtain ⟨g7,cap7,cur7,rfl,hgB7,hgl7,_⟩:=own_parts ow7 (by omega)
          refine (nearest_any H4 g7 cap7 (X ++ F2) k w7 ow7 hYl hYl2).mono ?_
          rintro e w8 ⟨rfl,ow8,gr8⟩
          have hm8:min k (X ++ F2).length = (XF ys tag k d' (i + 1)).length:=by rw [<- HXS.out,tk_len]
          rw [hm8,HXS.out] at ow8
          rw [hm8]
          have hxb8:=blk_grown hxb7 gr8 (blk_apart hxb7 ow7 (by decide))
          have hg8:=blk_grown hg7 gr8 (blk_apart hg7 ow7 (by decide))
          have hlf8:LF w8 lb g N (i + 1):=by
            obtain ⟨q,c,h1,h2,h3⟩:=hlf7
            exact ⟨q,c,blk_grown h1 gr8 (blk_apart h1 ow7 (by decide)),h2,h3⟩
          have hb8:Below w.heap.size w w8:=hb7.grown gr8 hb7.size (fun q hq => by injection hq with hq;subst hq;exact Nat.le_trans HW4.out hgB7)
          have hz8:H4 <= w8.heap.size:=Nat.le_trans hz7 gr8.size
          have HO8:Hid _:=ow8
          have hne:XF ys tag k d' (i + 1) ≠ []:=fun e0 => by
            have h1:min k (X ++ F2).length = 0:=by rw [hm8,e0];rfl
            omega
          clear ow7 gr7 hn7 gr8 hgB7 hgl7 hY hYl hYl2 ow8
          go_wp2_with fail
          go_meet
          exact ⟨_,_,_,rfl,rfl,HO8.out,fun e0 => absurd e0 hne,⟨hb8,hz8⟩,hxb8,hg8,hlf8⟩
      case rest =>
        obtain ⟨a3,n3,c3,rfl,HN3,HR7,HNL7,HB7,HX7,HG7,HL7⟩:=hcut
        obtain ⟨w8,hw8⟩:∃ x,x = wc:=⟨_,rfl⟩
        subst hw8
        have hn3:n3 <= 60:=by rw [HN3.out];unfold XF;rw [tk_len];omega
        have HMONO:Hid (n3 ≠ k -> X.length ≠ k):=fun h e => h (by rw [HN3.out,<- HXS.out,tk_len,List.length_append];omega)
        clear HF2 HR6 HX6 HG6 HL6 HB6 HZ6 HNIL
        go_upto_if 72 with fail
        go_cut [13] from 72 to 78 (fun vF wx => ∃ F':Int,vF = .int .i64 F' ∧ Hid (FarOk k (XF ys tag k d' (i + 1)) F') ∧ wx = w8)
        case first =>
          by_cases hkx:n3 = k
          · have hq:((n3:Int) == (k:Int)) = true:=by rw [beq_iff_eq];omega
            obtain ⟨k1,hk3⟩:∃ k1:Nat,k = k1 + 1:=⟨k - 1,by omega⟩
            have i1:(k:Int) - 1 = (k1:Int):=by omega
            have x1:IntKind.i64.wrap (k1:Int) = (k1:Int):=by rw [IntKind.wrap_i64];omega
            have i2:(k1:Int) < (n3:Int):=by omega
            obtain ⟨gg,_,_,hv3,_,_,_⟩:=own_parts HR7.out (by omega)
            injection hv3 with hv31 hv32 hv33
            subst hv31 hv33
            obtain ⟨y,hy⟩:∃ y,(XF ys tag k d' (i + 1))[k1]? = some y:=⟨_,List.getElem?_eq_getElem (by rw [<- HN3.out];omega)⟩
            have cy:w8.cell? ⟨gg,k1 * 2 + 1,none⟩ = some (.int .i64 y.2):=row_cell HR7.out _ _ (flatF_cell _ _ _ hy).2
            have HY1:Hid ((XF ys tag k d' (i + 1))[k - 1]? = some y):=by rw [show k - 1 = k1 from by omega];exact hy
            have HKX:Hid (n3 = k):=hkx
            clear hkx hk3 hy
            go_wp2_with fail
            go_meet
            exact ⟨y.2,rfl,⟨fun _ => ⟨y,HY1.out,rfl⟩,fun h => absurd (HN3.out.symm.trans HKX.out) h⟩,rfl⟩
          · have hq:((n3:Int) == (k:Int)) = false:=by rw [beq_eq_false_iff_ne];omega
            have HKX:Hid (n3 ≠ k):=hkx
            clear hkx
            go_wp2_with fail
            go_meet
            exact ⟨F,rfl,⟨fun h => absurd (HN3.out.trans h) HKX.out,fun _ => HFAR.out.2 (HMONO.out HKX.out)⟩,rfl⟩
        case rest =>
        obtain ⟨F',rfl,HFAR',hwc⟩:=hcut
        obtain rfl:w8 = wc:=hwc.symm
        clear hwc
        have c0:=HX7.out.cell 0
        have c1x:=HX7.out.cell 1
        have xl:IntKind.i64.wrap ((lk:Int) + (x.it.length:Int)) = (lk:Int) + (x.it.length:Int):=by rw [IntKind.wrap_i64];omega
        have a9:=below_alloc w8 (.cells #[.slice x.ca x.co.length x.cc,.slice x.ia x.it.length x.ic] 242)
        have j9:Blk (w8.alloc (.cells #[.slice x.ca x.co.length x.cc,.slice x.ia x.it.length x.ic] 242)) w8.heap.size #[.slice x.ca x.co.length x.cc,.slice x.ia x.it.length x.ic] 242:=Blk.new _ _ _
        have hL9:=HL7.out.below a9
        have hG9:=HG7.out.below a9 HG7.out.lt
        have hR9:=ownsRow_below HR7.out a9
        have HNX:Hid _:=next_step lb g N (i + 1) tl d' F' (w8.alloc (.cells #[.slice x.ca x.co.length x.cc,.slice x.ia x.it.length x.ic] 242)) hG9 hL9 HDS.out (by omega)
        have hlb8:lb < w8.heap.size:=Nat.lt_of_lt_of_le HLBT.out.1 HB7.out.2
        have HR9:Hid ((w8.alloc (.cells #[.slice x.ca x.co.length x.cc,.slice x.ia x.it.length x.ic] 242)).ownsRow H4 94 2 (.slice a3 n3 c3) n3 (flatF (XF ys tag k d' (i + 1)))):=hR9
        have HRL:Hid ((Value.slice a3 n3 c3).ownBlock ≠ some lb):=by
          obtain ⟨q,c,h1,_⟩:=hL9
          exact blk_apart h1 hR9 (by decide)
        have HB9:Hid (Below w.heap.size w (w8.alloc (.cells #[.slice x.ca x.co.length x.cc,.slice x.ia x.it.length x.ic] 242))):=HB7.out.1.trans (a9.mono HB7.out.1.size)
        have HG9:Hid (Blk (w8.alloc (.cells #[.slice x.ca x.co.length x.cc,.slice x.ia x.it.length x.ic] 242)) g (fl encR tl d') 309):=hG9
        have HJ9:Hid _:=j9
        have HZ9:Hid (H4 <= (w8.alloc (.cells #[.slice x.ca x.co.length x.cc,.slice x.ia x.it.length x.ic] 242)).heap.size):=Nat.le_trans HB7.out.2 a9.size
        have HG8:Hid (g < w8.heap.size):=HG7.out.lt
        clear a9 j9 hL9 hG9 hR9 HL7 HG7 HX7 HR7
        go_wp2_with fail
        refine Calls.mono HNX.out ?_
        rintro e w9 ⟨⟨ok9,p1,m1,q1,p2,m2,q2,rfl,hon,hoff⟩,hu⟩
        have j9:=Blk.updG HJ9.out hu (by omega)
        have d0:=j9.cell 0
        have d1:=j9.cell 1
        have f0:w9.frozen? ⟨w8.heap.size,0,none⟩ = false:=j9.frozen 0
        have e1:=(j9.set 0 (.slice p1 m1 q1)).cell 1
        have f1:(w9.setCell ⟨w8.heap.size,0,none⟩ (.slice p1 m1 q1)).frozen? ⟨w8.heap.size,1,none⟩ = false:=(j9.set 0 (.slice p1 m1 q1)).frozen 1
        have hj10:Blk ((w9.setCell ⟨w8.heap.size,0,none⟩ (.slice p1 m1 q1)).setCell ⟨w8.heap.size,1,none⟩ (.slice p2 m2 q2)) w8.heap.size #[.slice p1 m1 q1,.slice p2 m2 q2] 242:=(j9.set 0 (.slice p1 m1 q1)).set 1 (.slice p2 m2 q2)
        have hu2:=updG_two w9 w8.heap.size (.slice p1 m1 q1) (.slice p2 m2 q2)
        have hr9:=own_kept HR9.out (updG_grown hu) (Or.inr HRL.out)
        have hr10:=own_kept hr9 (updG_grown hu2) (Or.inr (blk_apart j9 hr9 (by decide)))
        have hg10:=Blk.updG (Blk.updG HG9.out hu HLG.out.symm) hu2 (by have:=HG8.out;omega)
        have hb9:=hu.below HB9.out HB9.out.size HLBT.out.2
        have hb10:=hu2.below hb9 hb9.size (Nat.le_trans HW4.out HB7.out.2)
        have HTI:Hid (TI w H4 lb g N tl d' ys tag k (.slice a3 n3 c3) (i + 1) w8.heap.size ok9 F' (lk + x.it.length) ((w9.setCell ⟨w8.heap.size,0,none⟩ (.slice p1 m1 q1)).setCell ⟨w8.heap.size,1,none⟩ (.slice p2 m2 q2))):=by
          refine ⟨hb10,Nat.le_trans HZ9.out (Nat.le_trans hu.size hu2.size),by rw [<- HN3.out];exact hr10,HNL7.out,HFAR'.out,?_,hg10,fun h => ?_,fun h => ?_⟩
          · rw [AI_succ (by rw [HDS.out];exact hiN),List.length_append,<- HLK.out,HXE.out];rfl
          · obtain ⟨h1,h2,h3,_,h5⟩:=hon h
            refine ⟨h1,?_,h5.updG hu2 (by omega)⟩
            rw [h2,h3] at hj10
            rw [h2,h3]
            exact hj10
          · exact ⟨by omega,(hoff h).1⟩
        clear hon hoff hu hu2 hr9 hr10 hg10 hb9 hb10 hj10 j9
        go_wp2_with fail
        exact ⟨⟨i + 1,w8.heap.size,ok9,F',lk + x.it.length,by go_num,rfl,rfl,rfl,HTI.out⟩,by simp [intOf];omega⟩
end Go.Proofs.YtjmpjfikcgccdaaGreatDoor.Ce
namespace Go.Proofs.YtjmpjfikcgccdaaGreatDoor
open Go.RowKit Go.Extern.Stop Go.Stop Go.Extern
abbrev hnd (t:Nat):Value:=.pointer (some ⟨10,t,none⟩)
theorem r_valueP (t:Addr) (w:World):(ReflectliteValue.unpack (.iface 172 (.pointer (some t)))).run Tryz.prog w
    = .ok (.agg #[hnd 172,.pointer (some ⟨w.heap.size,0,none⟩),.int .u64 150]) (w.alloc (.cells #[.pointer (some t)] 172)):=by kernel_rfl
theorem r_valueE (n:Int) (w:World):(ReflectliteValue.unpack (.iface 34 (.int .i64 n))).run Tryz.prog w
    = .ok (.agg #[hnd 34,.pointer (some ⟨w.heap.size,0,none⟩),.int .u64 130]) (w.alloc (.cells #[.int .i64 n] 34)):=by kernel_rfl
theorem r_typeP (a : Addr) (w : World) : (ReflectliteValue.methodAny (ReflectliteValue.valueError "reflectlite.Value.Type" 0) (fun t _ _ _ => ReflectliteType.toType t) #[.agg #[hnd 172, .pointer (some a), .int .u64 150]]).run Tryz.prog w
    = .ok (.iface 282 (.agg #[hnd 172])) w:=by kernel_rfl
theorem r_mKind (h : Value) (w : World) : (Go.method 569 282 (.agg #[h]) "Kind").run Tryz.prog w = .ok (392, h) w := by kernel_rfl
theorem r_mElem (h : Value) (w : World) : (Go.method 569 282 (.agg #[h]) "Elem").run Tryz.prog w = .ok (406, .agg #[h]) w := by kernel_rfl
theorem r_mImpl (h : Value) (w : World) : (Go.method 569 282 (.agg #[h]) "Implements").run Tryz.prog w = .ok (407, .agg #[h]) w := by kernel_rfl
theorem r_mAssign (h : Value) (w : World) : (Go.method 569 282 (.agg #[h]) "AssignableTo").run Tryz.prog w = .ok (404, .agg #[h]) w := by kernel_rfl
theorem r_kindP (w:World):((ReflectliteType.abiMethod fun t => (fun a:Nat => Value.int IntKind.u8 (a:Int)) <$> Rtype.kind t) #[hnd 172]).run Tryz.prog w = .ok (.int .u8 22) w:=by kernel_rfl
theorem r_kindE (w:World):((ReflectliteType.abiMethod fun t => (fun a:Nat => Value.int IntKind.u8 (a:Int)) <$> Rtype.kind t) #[hnd 34]).run Tryz.prog w = .ok (.int .u8 2) w:=by kernel_rfl
theorem r_elemP (w:World):(ReflectliteType.method ReflectliteType.elem #[.agg #[hnd 172]]).run Tryz.prog w = .ok (.iface 282 (.agg #[hnd 34])) w:=by kernel_rfl
theorem r_implE (w : World) : (ReflectliteType.relation "Implements" ReflectliteType.implements_ #[.agg #[hnd 34], .iface 282 (.agg #[hnd 40])]).run Tryz.prog w = .ok (.bool true) w := by kernel_rfl
theorem r_typeOfE (v:Value) (w:World):(ReflectliteType.typeOf #[.iface 34 v]).run Tryz.prog w = .ok (.iface 282 (.agg #[hnd 34])) w:=by kernel_rfl
theorem r_assignE (w : World) : (ReflectliteType.relation "AssignableTo" ReflectliteType.assignableTo #[.agg #[hnd 34], .iface 282 (.agg #[hnd 34])]).run Tryz.prog w = .ok (.bool true) w := by kernel_rfl
theorem r_partsP (a:Addr) (w:World):(ReflectliteValue.parts (.agg #[hnd 172,.pointer (some a),.int .u64 150])).run Tryz.prog w = .ok (some (172,a,150)) w:=by kernel_rfl
theorem r_partsE (a:Addr) (w:World):(ReflectliteValue.parts (.agg #[hnd 34,.pointer (some a),.int .u64 130])).run Tryz.prog w = .ok (some (34,a,130)) w:=by kernel_rfl
theorem r_partsA (a:Addr) (w:World):(ReflectliteValue.parts (.agg #[hnd 34,.pointer (some a),.int .u64 386])).run Tryz.prog w = .ok (some (34,a,386)) w:=by kernel_rfl
theorem r_elemT (w:World):(Rtype.elem? 172).run Tryz.prog w = .ok (some 34) w:=by kernel_rfl
theorem r_mkE (p:Addr) (w:World):(ReflectliteValue.mk 34 p ReflectliteValue.flagAddr).run Tryz.prog w = .ok (.agg #[hnd 34,.pointer (some p),.int .u64 386]) w:=by kernel_rfl
theorem r_directE (w:World):(Rtype.directlyAssignable 34 34).run Tryz.prog w = .ok true w:=by kernel_rfl
theorem r_method (z:Sem Value) (f:TypeId -> Addr -> Nat -> Nat -> Sem Value) (v:Value):∃ k,ReflectliteValue.method z f #[v] = (ReflectliteValue.parts v >>= k) ∧ ∀ t a fl,k (some (t,a,fl)) = f t a fl (fl % 32):=
  ⟨_,rfl,fun _ _ _ => rfl⟩
theorem r_setK (v x:Value) (dst src:TypeId) (a b:Addr):∃ (k:Option (TypeId × Addr × Nat) -> Option (TypeId × Addr × Nat) -> Sem Value) (k2:Value -> Bool -> Sem Value),ReflectliteValue.set #[v,x] = (ReflectliteValue.parts v >>= fun p => ReflectliteValue.parts x >>= fun q => k p q) ∧
    k (some (dst,a,386)) (some (src,b,130)) = (loadVar src b >>= fun val => Rtype.directlyAssignable dst src >>= fun d => k2 val d) ∧ ∀ val,k2 val true = (storeVar dst a val >>= fun _ => pure (Value.tuple #[])):=
  ⟨_,_,rfl,rfl,fun _ => rfl⟩
theorem r_isNil (a p:Addr) (W:World) (ha:W.cell? a = some (.pointer (some p))) :
    (ReflectliteValue.method (ReflectliteValue.valueError "reflectlite.Value.IsNil" 0) ReflectliteValue.isNil #[.agg #[hnd 172, .pointer (some a), .int .u64 150]]).run Tryz.prog W = .ok (.bool false) W := by
  obtain ⟨k, e1, e2⟩ := r_method (ReflectliteValue.valueError "reflectlite.Value.IsNil" 0) ReflectliteValue.isNil (.agg #[hnd 172, .pointer (some a), .int .u64 150])
  rw [e1]
  simp only [Sem.run_bind,r_partsP,Result.andThen,e2]
  simp [Result.andThen,ReflectliteValue.isNil,loadVar,isAgg,underlying,Tryz.underlying172,ha]
theorem r_elemV (a p:Addr) (W:World) (ha:W.cell? a = some (.pointer (some p))) :
    (ReflectliteValue.method (ReflectliteValue.valueError "reflectlite.Value.Elem" 0) ReflectliteValue.elem #[.agg #[hnd 172, .pointer (some a), .int .u64 150]]).run Tryz.prog W
      = .ok (.agg #[hnd 34,.pointer (some p),.int .u64 386]) W:=by
  obtain ⟨k, e1, e2⟩ := r_method (ReflectliteValue.valueError "reflectlite.Value.Elem" 0) ReflectliteValue.elem (.agg #[hnd 172, .pointer (some a), .int .u64 150])
  rw [e1]
  simp only [Sem.run_bind,r_partsP,Result.andThen,e2]
  simp [Result.andThen,ReflectliteValue.elem,loadVar,isAgg,underlying,Tryz.underlying172,ha,r_elemT,r_mkE]
theorem r_set (ta b:Addr) (n:Int) (old:Value) (W:World) (hb:W.cell? b = some (.int .i64 n)) (ht:W.cell? ta = some old) (hf:W.frozen? ta = false) :
    (ReflectliteValue.set #[.agg #[hnd 34,.pointer (some ta),.int .u64 386],.agg #[hnd 34,.pointer (some b),.int .u64 130]]).run Tryz.prog W
      = .ok (.tuple #[]) (W.setCell ta (.int .i64 n)):=by
  obtain ⟨k,k2,e1,e2,e3⟩:=r_setK (.agg #[hnd 34,.pointer (some ta),.int .u64 386]) (.agg #[hnd 34,.pointer (some b),.int .u64 130]) 34 34 ta b
  rw [e1]
  simp only [Sem.run_bind,r_partsA,r_partsE,Result.andThen,e2]
  simp [loadVar,isAgg,underlying,Tryz.underlying34,hb,Result.andThen,r_directE,e3,storeVar,Value.cells,storeCells,Addr.add]
  rw [run_store Tryz.prog W ta _ _ (by rfl)]
  simp [ht,hf]
def EB (w:World):Prop:=w.cell? ⟨0,0,none⟩ = some (.iface 282 (.agg #[hnd 40]))
theorem EB.lt {w:World} (h:EB w):0 < w.heap.size:=World.block_lt_of_cell? w _ h
theorem EB.below {w w':World} (h:EB w) (hb:Below w.heap.size w w'):EB w':=by
  unfold EB;rw [hb.cell h.lt];exact h
set_option maxRecDepth 100000 in
set_option maxHeartbeats 1000000 in
theorem as_hit (n:Int) (tb:Nat) (w:World) (hg:EB w) (ht0:Blk w tb #[.int .i64 0] 34) :
    Calls Tryz.prog 99 #[.iface 34 (.int .i64 n),.iface 172 (.pointer (some ⟨tb,0,none⟩))] w fun ev w' => ev = .returned (.bool true) ∧ Blk w' tb #[.int .i64 n] 34 ∧ w.heap.size <= w'.heap.size ∧ ∀ B,B <= tb -> Below B w w':=by
  have h71:=@run_callFunc_extern Tryz.prog 123 _ (fun args => ReflectliteValue.unpack (args.getD 0 (.tuple #[]))) Tryz.func123 (by kernel_rfl) (by kernel_rfl) (by kernel_rfl) (by kernel_rfl)
  have h72 := @run_callFunc_extern Tryz.prog 155 _ (ReflectliteValue.methodAny (ReflectliteValue.valueError "reflectlite.Value.Type" 0) (fun t _ _ _ => ReflectliteType.toType t)) Tryz.func155 (by kernel_rfl) (by kernel_rfl) (by kernel_rfl) (by kernel_rfl)
  have h73 := @run_callFunc_extern Tryz.prog 156 _ (ReflectliteValue.method (ReflectliteValue.valueError "reflectlite.Value.IsNil" 0) ReflectliteValue.isNil) Tryz.func156 (by kernel_rfl) (by kernel_rfl) (by kernel_rfl) (by kernel_rfl)
  have hK:=@run_callFunc_extern Tryz.prog 392 _ (ReflectliteType.abiMethod fun t => do pure (.int .u8 (<- Rtype.kind t))) Tryz.func392 (by kernel_rfl) (by kernel_rfl) (by kernel_rfl) (by kernel_rfl)
  have hE:=@run_callFunc_extern Tryz.prog 406 _ (ReflectliteType.method ReflectliteType.elem) Tryz.func406 (by kernel_rfl) (by kernel_rfl) (by kernel_rfl) (by kernel_rfl)
  have hI := @run_callFunc_extern Tryz.prog 407 _ (ReflectliteType.relation "Implements" ReflectliteType.implements_) Tryz.func407 (by kernel_rfl) (by kernel_rfl) (by kernel_rfl) (by kernel_rfl)
  have hT:=@run_callFunc_extern Tryz.prog 232 _ ReflectliteType.typeOf Tryz.func232 (by kernel_rfl) (by kernel_rfl) (by kernel_rfl) (by kernel_rfl)
  have hA := @run_callFunc_extern Tryz.prog 404 _ (ReflectliteType.relation "AssignableTo" ReflectliteType.assignableTo) Tryz.func404 (by kernel_rfl) (by kernel_rfl) (by kernel_rfl) (by kernel_rfl)
  have h78 := @run_callFunc_extern Tryz.prog 233 _ (ReflectliteValue.method (ReflectliteValue.valueError "reflectlite.Value.Elem" 0) ReflectliteValue.elem) Tryz.func233 (by kernel_rfl) (by kernel_rfl) (by kernel_rfl) (by kernel_rfl)
  have h79:=@run_callFunc_extern Tryz.prog 234 _ ReflectliteValue.set Tryz.func234 (by kernel_rfl) (by kernel_rfl) (by kernel_rfl) (by kernel_rfl)
  have f1:=r_typeOfE
  have f2:=r_mAssign
  have f3:=r_assignE
  have f4:=r_valueE
  have f5:=r_valueP
  have f6:=r_typeP
  have f7:=r_mKind
  have f8:=r_mElem
  have f9:=r_mImpl
  have f10:=r_kindP
  have f11:=r_kindE
  have f12:=r_elemP
  have f13:=r_implE
  have htl:=ht0.lt
  have hgl:=hg.lt
  have n8:=r_isNil ⟨w.heap.size,0,none⟩ ⟨tb,0,none⟩ ((w.alloc (.cells #[.pointer (some ⟨tb,0,none⟩)] 172)).alloc (.cells #[hnd 172,.pointer (some ⟨w.heap.size,0,none⟩),.int .u64 150] 210)) (((Blk.new w #[.pointer (some ⟨tb,0,none⟩)] 172).alloc _).cell 0)
  have hg2:((w.alloc (.cells #[.pointer (some ⟨tb,0,none⟩)] 172)).alloc (.cells #[hnd 172,.pointer (some ⟨w.heap.size,0,none⟩),.int .u64 150] 210)).cell? ⟨0,0,none⟩ = some (.iface 282 (.agg #[hnd 40])):=
    EB.below (EB.below hg ((Below.refl _ _).alloc (Nat.le_refl _) _)) ((Below.refl _ _).alloc (Nat.le_refl _) _)
  have el:=r_elemV ⟨w.heap.size,0,none⟩ ⟨tb,0,none⟩ (((w.alloc (.cells #[.pointer (some ⟨tb,0,none⟩)] 172)).alloc (.cells #[hnd 172,.pointer (some ⟨w.heap.size,0,none⟩),.int .u64 150] 210)).alloc (.cells #[hnd 172,.pointer (some ⟨w.heap.size,0,none⟩),.int .u64 150] 210)) ((((Blk.new w #[.pointer (some ⟨tb,0,none⟩)] 172).alloc _).alloc _).cell 0)
  have tb4:=(((ht0.alloc (.cells #[.pointer (some ⟨tb,0,none⟩)] 172)).alloc (.cells #[hnd 172,.pointer (some ⟨w.heap.size,0,none⟩),.int .u64 150] 210)).alloc (.cells #[hnd 172,.pointer (some ⟨w.heap.size,0,none⟩),.int .u64 150] 210)).alloc (.cells #[.int .i64 n] 34)
  have st:=r_set ⟨tb,0,none⟩ ⟨w.heap.size + 1 + 1 + 1,0,none⟩ n (.int .i64 0) ((((w.alloc (.cells #[.pointer (some ⟨tb,0,none⟩)] 172)).alloc (.cells #[hnd 172,.pointer (some ⟨w.heap.size,0,none⟩),.int .u64 150] 210)).alloc (.cells #[hnd 172,.pointer (some ⟨w.heap.size,0,none⟩),.int .u64 150] 210)).alloc (.cells #[.int .i64 n] 34))
    ((Blk.new' _ #[.int .i64 n] 34 (by simp)).cell 0) (tb4.cell 0) (tb4.frozen 0)
  have fin:=tb4.set 0 (.int .i64 n)
  go_enter Tryz.func99,Tryz.ntmps99
  go_wp2
  refine wp_loop_rounds 1 ?_
  rw [rounds_succ]
  go_wp2
  go_ret
  refine ⟨rfl,fin,by simp;omega,fun B hB => ?_⟩
  exact (((((Below.refl B w).alloc (by omega) _).alloc (by simp;omega) _).alloc (by simp;omega) _).alloc (by simp;omega) _).setCell (by simp;omega) _
theorem tell_nil (w:World):Calls Tryz.prog 41 #[.nilIface] w fun e w' => e = .returned (.int .i64 0) ∧ w' = w:=by
  go_enter Tryz.func41,Tryz.ntmps41
  go_wp2
  go_ret
  exact ⟨rfl,rfl⟩
set_option maxHeartbeats 400000 in
theorem tell_some (n:Int) (w:World) (hE:EB w):Calls Tryz.prog 41 #[.iface 34 (.int .i64 n)] w fun e w' => e = .returned (.int .i64 n) ∧ Below w.heap.size w w':=by
  go_enter Tryz.func41,Tryz.ntmps41
  go_wp2_with fail
  refine (as_hit n w.heap.size _ (hE.below ((Below.refl _ _).alloc (Nat.le_refl _) _)) (Blk.new _ _ _)).mono ?_
  rintro e w1 ⟨rfl,b1,s1,g1⟩
  have c1:=b1.cell 0
  go_wp2
  go_ret
  exact ⟨rfl,((Below.refl _ _).alloc (Nat.le_refl _) _).trans (g1 _ (Nat.le_refl _))⟩
end Go.Proofs.YtjmpjfikcgccdaaGreatDoor
namespace Go.Proofs.YtjmpjfikcgccdaaGreatDoor.Ce
open Go.RowKit
open It Nr Sy
def ev (b:Bool):Value:=if b then .nilIface else errA
theorem tellE (b:Bool) (w:World) (hE:EB w):Calls Tryz.prog 41 #[ev b] w fun e w' => e = .returned (.int .i64 (if b then 0 else 1)) ∧ Below w.heap.size w w':=by
  cases b with
  | true => exact (tell_nil w).mono fun e w' ⟨h1,h2⟩ => ⟨h1,by rw [h2];exact Below.refl _ _⟩
  | false => exact tell_some 1 w hE
def XK (ask:Bool) (ys:List Int) (tag:ByteArray) (k:Int) (L:List ItD):List (ByteArray × Int):=if ask then tk k.toNat (fnd ys tag (xsOf L)) else []
theorem XK_perm {ask:Bool} {ys:List Int} {tag:ByteArray} {k:Int} {L L':List ItD} (h:L.Perm L'):XK ask ys tag k L = XK ask ys tag k L':=by
  unfold XK
  rw [tk_perm (l:=fnd ys tag (xsOf L)) (l':=fnd ys tag (xsOf L')) (by unfold fnd xsOf;exact ((h.map _).filter _).map _)]
theorem XK_len (ask:Bool) (ys:List Int) (tag:ByteArray) (k:Int) (L:List ItD):(XK ask ys tag k L).length <= L.length:=by
  unfold XK
  split
  · rw [tk_len]
    have:=fnd_len ys tag (xsOf L)
    have:(xsOf L).length = L.length:=by simp [xsOf]
    omega
  · exact Nat.zero_le _
theorem topN (dim:Int) (a:Option Addr) (c:Nat) (L:List ItD) (b:Option Addr) (d:Nat) (ys:List Int) (k:Int) (tag:ByteArray) (w:World) (h:Its w a L) (hl:L.length <= 100) (hy:Ints w b ys) (hyl:ys.length <= maxLen)
    (hnum:∀ x ∈ L,x.x.nums.all numB = true ∧ x.x.nums.length <= 100) :
    Calls Tryz.prog 40 #[.int .i64 dim,.slice a L.length c,.slice b ys.length d,.int .i64 k,.string tag] w fun e w' => (∃ v,e = .returned (.tuple #[v,ev (askB dim ys k)]) ∧ Fnds w' v (XK (askB dim ys k) ys tag k L)) ∧ Below w.heap.size w w':=by
  cases hask:askB dim ys k with
  | true => exact top_ok dim a c L b d ys k tag w h hl hy hyl hask hnum
  | false =>
    refine (top_no dim a L.length c b d ys k tag w hy hyl hask).mono ?_
    rintro e w' ⟨rfl,rfl⟩
    exact ⟨⟨_,rfl,none,0,rfl,Nat.le_refl _,fun i x hx => by cases hx⟩,Below.refl _ _⟩
theorem sq_bd {z y:Int} (h1:-1000 <= z ∧ z <= 1000) (h2:-1000 <= y ∧ y <= 1000):(z - y) * (z - y) <= 4000000:=by
  rcases Int.le_total 0 (z - y) with h | h
  · exact sq_le (b:=2000) h (by omega)
  · have:=sq_le (a:=-(z - y)) (b:=2000) (by omega) (by omega)
    rw [Int.neg_mul_neg] at this
    exact this
theorem farK_bd {zs ys:List Int} (hz:zs.all numB = true) (hy:ys.all numB = true):∀ k,k <= zs.length -> k <= ys.length -> farK zs ys k <= 4000000 * (k:Int)
  | 0,_,_ => by unfold farK;simp
  | k + 1,h1,h2 => by
    have ih:=farK_bd hz hy k (by omega) (by omega)
    obtain ⟨z,hzk⟩:∃ z,zs[k]? = some z:=⟨_,List.getElem?_eq_getElem (by omega)⟩
    obtain ⟨y,hyk⟩:∃ y,ys[k]? = some y:=⟨_,List.getElem?_eq_getElem (by omega)⟩
    have b1:=List.all_eq_true.1 hz z (List.mem_of_getElem? hzk)
    have b2:=List.all_eq_true.1 hy y (List.mem_of_getElem? hyk)
    rw [farK_succ hzk hyk]
    have:=sq_bd (z:=z) (y:=y) (by simpa [numB] using b1) (by simpa [numB] using b2)
    omega
theorem cg_of {w:World} {B:Nat} {os:List CeD} {L:List ItD} (h:CS w B os) (hp:(os.flatMap CeD.it).Perm L) (hn:∀ x ∈ L,x.x.nums.all numB = true ∧ 0 < x.x.nums.length ∧ x.x.nums.length <= 100):CG os:=by
  have key:∀ x ∈ os,∃ d ∈ L,d.x.nums.map begF = x.co:=fun x hx => by
    obtain ⟨h1,h2⟩:=h.cor x hx
    cases hi:x.it with
    | nil => exact absurd hi h1
    | cons d r =>
      have hd:d ∈ x.it:=by rw [hi];simp
      exact ⟨d,hp.mem_iff.1 (List.mem_flatMap.2 ⟨x,hx,hd⟩),h2 d hd⟩
  refine ⟨fun x hx => ?_,fun x hx => ?_⟩
  · obtain ⟨d,hd,e⟩:=key x hx
    have:=hn d hd
    rw [<- e,List.length_map]
    exact ⟨this.2.1,this.2.2⟩
  · obtain ⟨d,hd,e⟩:=key x hx
    rw [<- e,List.all_map]
    rw [List.all_eq_true]
    intro z hz
    exact begF_num (List.all_eq_true.1 (hn d hd).1 z hz)
theorem topC_at (p:Nat) (dim:Int) (v:Value) (os:List CeD) (C:Nat) (L:List ItD) (b:Option Addr) (d:Nat) (ys:List Int) (k:Int) (tag:ByteArray) (w:World) (hp:Blk w p #[.int .i64 dim,v] 238)
    (hr:w.ownsRow C 242 2 v os.length (flatC os)) (hs:CS w C os) (hpm:(os.flatMap CeD.it).Perm L) (hl:L.length <= 100) (hol:os.length <= L.length) (hok:∀ x ∈ L,x.Ok w) (hnum:∀ x ∈ L,x.x.nums.all numB = true ∧ 0 < x.x.nums.length ∧ x.x.nums.length <= 100) (hy:Ints w b ys) (hyl:ys.length <= maxLen) :
    Calls Tryz.prog 86 #[.pointer (some ⟨p,0,none⟩),.slice b ys.length d,.int .i64 k,.string tag] w fun e w' => (∃ v lk,e = .returned (.tuple #[v,.int .i64 lk,ev (askB dim ys k)]) ∧ w'.ownsRow w.heap.size 94 2 v (XK (askB dim ys k) ys tag k L).length (flatF (XK (askB dim ys k) ys tag k L)) ∧ 0 <= lk ∧ lk <= (L.length:Int)) ∧ Below w.heap.size w w':=by
  cases hask:askB dim ys k with
  | true =>
    have hk:1 <= k ∧ k <= 60:=by simp [askB] at hask;exact ⟨hask.1.1.2,hask.1.2⟩
    have hyn:ys.all numB = true:=by unfold askB at hask;rw [Bool.and_eq_true] at hask;exact hask.2
    obtain ⟨kk,rfl⟩:∃ kk:Nat,k = (kk:Int):=⟨k.toNat,by omega⟩
    obtain ⟨av,cv,hv⟩:=own_slice hr
    subst hv
    have hbig:∀ x ∈ os,leastI x.co ys <= 9223372036854775807:=fun x hx => by
      obtain ⟨h1,h2⟩:=hs.cor x hx
      cases hi:x.it with
      | nil => exact absurd hi h1
      | cons e r =>
        have hd:e ∈ x.it:=by rw [hi];simp
        have hL:=hpm.mem_iff.1 (List.mem_flatMap.2 ⟨x,hx,hd⟩)
        have l1:=least_le (ys:=ys) (h2 e hd)
        have l2:=farK_bd (hnum e hL).1 hyn (min e.x.nums.length ys.length) (by omega) (by omega)
        have l3:=(hnum e hL).2.2
        unfold farI at l1
        omega
    refine (top_at p dim av cv os C b d ys kk tag w hp hr hs (by omega) (cg_of hs hpm hnum) (by rw [hpm.length_eq];exact hl) (fun x hx y hyx => by
      have hL:=hpm.mem_iff.1 (List.mem_flatMap.2 ⟨x,hx,hyx⟩)
      exact ⟨hok y hL,(hnum y hL).1,(hnum y hL).2.2⟩) hbig hy hyl hask).mono ?_
    rintro e w' ⟨⟨v2,lk,rfl,hF,h1,h2⟩,hb⟩
    refine ⟨⟨v2,lk,rfl,?_,h1,by rw [hpm.length_eq] at h2;exact h2⟩,hb⟩
    rw [<- XK_perm hpm]
    exact hF
  | false =>
    refine (top_refuses p dim v b d ys k tag w hp hy hyl hask).mono ?_
    rintro e w' ⟨rfl,rfl⟩
    exact ⟨⟨_,0,rfl,⟨rfl,Or.inl ⟨rfl,rfl⟩⟩,Int.le_refl _,by omega⟩,Below.refl _ _⟩
theorem topC (p:Nat) (dim:Int) (v:Value) (os:List CeD) (C:Nat) (L:List ItD) (b:Option Addr) (d:Nat) (ys:List Int) (k:Int) (tag:ByteArray) (w:World) (hp:Blk w p #[.int .i64 dim,v] 238)
    (hr:w.ownsRow C 242 2 v os.length (flatC os)) (hs:CS w C os) (hpm:(os.flatMap CeD.it).Perm L) (hl:L.length <= 100) (hol:os.length <= L.length) (hok:∀ x ∈ L,x.Ok w) (hnum:∀ x ∈ L,x.x.nums.all numB = true ∧ 0 < x.x.nums.length ∧ x.x.nums.length <= 100) (hy:Ints w b ys) (hyl:ys.length <= maxLen) :
    Calls Tryz.prog 86 #[.pointer (some ⟨p,0,none⟩),.slice b ys.length d,.int .i64 k,.string tag] w fun e w' => (∃ v lk,e = .returned (.tuple #[v,.int .i64 lk,ev (askB dim ys k)]) ∧ Fnds w' v (XK (askB dim ys k) ys tag k L) ∧ 0 <= lk ∧ lk <= (L.length:Int)) ∧ Below w.heap.size w w':=by
  refine (topC_at p dim v os C L b d ys k tag w hp hr hs hpm hl hol hok hnum hy hyl).mono ?_
  rintro e w' ⟨⟨v2,lk,rfl,hF,h1,h2⟩,hb⟩
  exact ⟨⟨v2,lk,rfl,fnds_own hF,h1,h2⟩,hb⟩
end Go.Proofs.YtjmpjfikcgccdaaGreatDoor.Ce
