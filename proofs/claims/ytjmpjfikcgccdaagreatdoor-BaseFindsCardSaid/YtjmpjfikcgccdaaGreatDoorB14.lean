/-
  Part of the proof of BaseFindsCard (CE5 and on).
-/
import Derived.Test.YtjmpjfikcgccdaaGreatDoorB13
import Derived.Test.YtjmpjfikcgccdaaGreatDoorB10
import Derived.Lib.SliceRun
namespace Go.Proofs.YtjmpjfikcgccdaaGreatDoor.Ce
open Go.RowKit
open It Nr Sy
theorem mkCells (c:Nat) (hc:c <= 100000) (w:World) (B:Nat) (hB:B <= w.heap.size):∃ w',(Instr.makeSlice 236 (.int .i64 0) (.int .i64 (c:Int))).run Tryz.prog w = .ok (.slice (some ⟨w.heap.size,0,none⟩) 0 c) w' ∧
    w'.ownsRow B 242 2 (.slice (some ⟨w.heap.size,0,none⟩) 0 c) 0 [] ∧ Below w.heap.size w w':=by
  obtain ⟨i0,hi0,hz0,hz1,hz2⟩:=info_parts infoC
  obtain ⟨w',h1,h2,h3⟩:=run_make_own w B 236 242 i0 _ 2 Tryz.underlying236 hi0 hz0 hz1 .i64 .i64 c (by rw [hz2];omega) (by unfold maxLen;omega) hB
  exact ⟨w',h1,h2,below_of_grown h3⟩
theorem cor_len {w:World} {B:Nat} {cs:List CeD} {L:List ItD} (h:CS w B cs) (hp:(cs.flatMap CeD.it).Perm L) (hn:∀ x ∈ L,x.x.nums.length <= 100):∀ x ∈ cs,x.co.length <= 100:=by
  intro x hx
  obtain ⟨h1,h2⟩:=h.cor x hx
  cases hi:x.it with
  | nil => exact absurd hi h1
  | cons d r =>
    have hd:d ∈ x.it:=by rw [hi];simp
    rw [<- h2 d hd,List.length_map]
    exact hn d (hp.mem_iff.1 (List.mem_flatMap.2 ⟨x,hx,hd⟩))
set_option maxRecDepth 100000 in
set_option maxHeartbeats 8000000 in
theorem new_at (dim:Int) (a:Option Addr) (c:Nat) (L:List ItD) (w:World) (h:Its w a L) (hl:L.length <= 100) (hnum:∀ x ∈ L,x.x.nums.all numB = true ∧ x.x.nums.length <= 100) :
    Calls Tryz.prog 114 #[.int .i64 dim,.slice a L.length c] w fun e w' => (∃ p v os,e = .returned (.pointer (some ⟨p,0,none⟩)) ∧ Blk w' p #[.int .i64 dim,v] 238 ∧ w'.ownsRow w.heap.size 242 2 v os.length (flatC os) ∧ CS w' w.heap.size os ∧ (os.flatMap CeD.it).Perm L ∧ os.length <= L.length ∧ w.heap.size <= p) ∧ Below w.heap.size w w':=by
  have HN:Hid _:=hnum
  obtain ⟨w1,k1,k2,k3⟩:=mkCells L.length (by omega) w w.heap.size (Nat.le_refl _)
  have K2:Hid (w1.ownsRow w.heap.size 242 2 (.slice (some ⟨w.heap.size,0,none⟩) 0 L.length) 0 []):=k2
  clear hnum k2
  go_enter Tryz.func114,Tryz.ntmps114
  go_wp2_with fail
  go_loopw [5,7,13] (fun v _ i wr => ∃ (j g cap:Nat) (cs:List CeD),j <= L.length ∧ i = .int .i64 j ∧ v = .slice (some ⟨g,0,none⟩) j cap ∧ Hid (wr.ownsRow w.heap.size 242 2 (.slice (some ⟨g,0,none⟩) j cap) j (flatC cs)) ∧ Hid (cs.length = j) ∧ Hid (CS wr w.heap.size cs) ∧ Hid (cs.flatMap CeD.it = L.take j) ∧ Below w.heap.size w wr) (fun _ _ i _ => L.length - (intOf i).toNat)
  case atStart => exact ⟨0,w.heap.size,L.length,[],by omega,rfl,rfl,K2.out,rfl,CS.nil _ _,rfl,k3⟩
  case round =>
    obtain ⟨j,g,cap,cs,hj,rfl,rfl,HO,HL,HS,HF,br⟩:=hrel
    by_cases hlt:j < L.length
    · have hlt':(j:Int) < (L.length:Int):=by omega
      have hxj:L[j]? = some L[j]:=List.getElem?_eq_getElem hlt
      have hr:=h.below br
      obtain ⟨g0,o0,rfl,q1,q2,q3,q4⟩:=hr j L[j] hxj
      have hnx:=HN.out _ (List.mem_of_getElem? hxj)
      have HTK:Hid (L.take (j + 1) = L.take j ++ [L[j]]):=by unfold Hid;rw [List.take_add_one,hxj];rfl
      generalize L[j] = x at *
      have HQ4:Hid (x.Ok wr):=q4
      clear hr hxj q4
      have HXA:Hid (x.arr = #[.string x.x.name,.string x.x.tag,.slice x.a x.x.nums.length x.c]):=rfl
      obtain ⟨⟨nm,tg,zs⟩,xa,xc⟩:=x
      simp only [ItD.val] at q1 q2 q3 hnx
      obtain ⟨xb,hxb⟩:∃ xb,wr.heap.size = xb:=⟨_,rfl⟩
      have HXB:Hid (wr.heap.size = xb):=hxb
      have jb:Blk (wr.alloc (.cells #[.string nm,.string tg,.slice xa zs.length xc] 45)) xb #[.string nm,.string tg,.slice xa zs.length xc] 45:=Blk.new' wr _ _ hxb.symm
      obtain ⟨wq,hwq⟩:∃ wq,wr.alloc (.cells #[.string nm,.string tg,.slice xa zs.length xc] 45) = wq:=⟨_,rfl⟩
      have HSQ:Hid (Below wr.heap.size wr wq):=by rw [<- hwq];exact below_alloc wr _
      have HQS:Hid (wq.heap.size = xb + 1):=by unfold Hid;rw [<- hwq,<- hxb];simp
      rw [hwq] at jb
      have HOQ:Hid (wq.ownsRow w.heap.size 242 2 (.slice (some ⟨g,0,none⟩) j cap) j (flatC cs)):=ownsRow_below HO.out HSQ.out
      have hgx:g < xb:=by rw [<- hxb];exact (row_ownLt HO.out g rfl).2
      have hgw:w.heap.size <= g:=(row_ownLt HO.out g rfl).1
      have HSS:Hid (CS wq w.heap.size cs):=CS.below HS.out HSQ.out
      have hBQ:Below w.heap.size w wq:=br.trans (HSQ.out.mono br.size)
      have HBQ:Hid _:=hBQ
      have HIQ:Hid (Ints wq xa zs):=Ints.below HQ4.out.1 HSQ.out
      have h10:zs.length <= 100:=hnx.2
      have HNB:Hid (zs.all numB = true):=hnx.1
      have hww:w.heap.size <= wq.heap.size:=hBQ.size
      have JB:Hid (∀ W,Below wq.heap.size wq W -> Blk W xb #[.string nm,.string tg,.slice xa zs.length xc] 45):=fun W hW => jb.below hW jb.lt
      clear HO HS hnx hBQ jb
      go_wp2_with fail
      clear hwq hxb
      have s0:Blk wq.drew xb #[.string nm,.string tg,.slice xa zs.length xc] 45:=JB.out _ (below_drewN (Below.refl _ _) 1)
      refine regS_in 10 (fun W => Blk W xb #[.string nm,.string tg,.slice xa zs.length xc] 45) Nr.mixed rfl ?_
      refine regS_take 0 17 (.slice (some ⟨g,0,none⟩) j cap) rfl rfl (by kernel_rfl) (fun _ _ _ h => h) (by kernel_rfl) (fun W hW => by go_simp) s0 ?_
      refine regS_take 1 18 (.pointer (some ⟨xb,2,none⟩)) rfl rfl (by kernel_rfl) (fun _ _ _ h => h) (by kernel_rfl) (fun W hW => by go_simp) s0 ?_
      refine regS_take 2 19 (.slice xa zs.length xc) rfl rfl (by kernel_rfl) (fun _ _ _ h => h) (by kernel_rfl) (fun W hW => by have a0:=Blk.cell hW 2;go_simp) s0 ?_
      refine regS_take 4 21 (.agg #[.string nm,.string tg,.slice xa zs.length xc]) rfl rfl (by kernel_rfl) (fun _ _ _ h => h) (by kernel_rfl) (fun W hW => by have a0:=Blk.cell hW 0;have a1:=Blk.cell hW 1;have a2:=Blk.cell hW 2;go_simp) s0 ?_
      simp only [Act.put,List.setIfInBounds_toArray,List.set_cons_succ,List.set_cons_zero]
      refine regS_two 3 5 rfl rfl (by kernel_rfl) (by kernel_rfl) (by kernel_rfl) (fun K hK => ?_) (fun K hK => ?_)
      · go_wp2_with fail
        refine (corner_any xa xc zs wq.drew (HIQ.out.below (below_drewN (Below.refl _ _) 1)) h10 HNB.out).mono ?_
        rintro e w3 ⟨⟨ca,cc,rfl,hco⟩,g3⟩
        have B3:Below wq.heap.size wq w3:=(below_drewN (Below.refl _ _) 1).trans g3
        have s3:=JB.out w3 B3
        refine hK _ _ s3 ?_
        clear hK K
        refine regS_one 5 rfl (by kernel_rfl) (by kernel_rfl) (fun K hK => ?_)
        go_wp2_with fail
        have a5:=below_alloc w3 (.cells #[.string nm,.string tg,.slice xa zs.length xc] 45)
        have i5:Blk (w3.alloc (.cells #[.string nm,.string tg,.slice xa zs.length xc] 45)) w3.heap.size #[.string nm,.string tg,.slice xa zs.length xc] 45:=Blk.new _ _ _
        have s6:=s3.below a5 s3.lt
        refine hK _ _ s6 ?_
        clear hK K
        obtain ⟨ib,hib⟩:∃ ib,w3.heap.size = ib:=⟨_,rfl⟩
        rw [hib] at i5 ⊢
        have hibx:xb + 1 <= ib:=by rw [<- hib,<- HQS.out];exact B3.size
        have HBz:Hid (Below wq.heap.size wq (w3.alloc (.cells #[.string nm,.string tg,.slice xa zs.length xc] 45))):=B3.trans (a5.mono B3.size)
        have HCo:Hid ((w3.alloc (.cells #[.string nm,.string tg,.slice xa zs.length xc] 45)).ownsRow w.heap.size 3 1 (.slice ca zs.length cc) zs.length (nv (zs.map begF))):=ownsRow_below (own_base hco hww) a5
        have HI:Hid (Blk (w3.alloc (.cells #[.string nm,.string tg,.slice xa zs.length xc] 45)) ib #[.string nm,.string tg,.slice xa zs.length xc] 45):=i5
        clear i5 hco g3 B3 s3 a5 hib s0
        generalize w3.alloc (.cells #[.string nm,.string tg,.slice xa zs.length xc] 45) = wz at *
        refine regS_take 6 23 (.agg #[.slice ca zs.length cc,.slice (some ⟨ib,0,none⟩) 1 1]) rfl rfl (by kernel_rfl) (fun _ _ _ h => h) (by kernel_rfl) (fun W hW => by go_simp) s6 ?_
        simp only [Act.put,List.setIfInBounds_toArray,List.set_cons_succ,List.set_cons_zero]
        refine regS_one 7 rfl (by kernel_rfl) (by kernel_rfl) (fun K hK => ?_)
        go_wp2_with fail
        have a7:=below_alloc wz (.cells #[.slice ca zs.length cc,.slice (some ⟨ib,0,none⟩) 1 1] 242)
        have r7:(wz.alloc (.cells #[.slice ca zs.length cc,.slice (some ⟨ib,0,none⟩) 1 1] 242)).ownsRow 0 242 2 (.slice (some ⟨wz.heap.size,0,none⟩) 1 1) 1 [.slice ca zs.length cc,.slice (some ⟨ib,0,none⟩) 1 1]:=row_fresh (Blk.new wz #[.slice ca zs.length cc,.slice (some ⟨ib,0,none⟩) 1 1] 242) (Nat.zero_le _) (by decide) rfl
        have s7:=s6.below a7 s6.lt
        refine hK _ _ s7 ?_
        clear hK K
        have B7:=HBz.out.trans (a7.mono HBz.out.size)
        have O7:=ownsRow_below HOQ.out B7
        have z7:w.heap.size <= (wz.alloc (.cells #[.slice ca zs.length cc,.slice (some ⟨ib,0,none⟩) 1 1] 242)).heap.size:=Nat.le_trans hww B7.size
        have HS7:Hid _:=CS.below HSS.out B7
        have HC7:Hid _:=ownsRow_below HCo.out a7
        have HI7:Hid _:=(HI.out).below a7 (HI.out).lt
        generalize wz.alloc (.cells #[.slice ca zs.length cc,.slice (some ⟨ib,0,none⟩) 1 1] 242) = w7 at *
        refine regS_one 8 rfl (by kernel_rfl) (by kernel_rfl) (fun K hK => ?_)
        refine op_pushM _ _ 236 rfl w.heap.size 242 (.agg #[.slice none 0 0,.slice none 0 0]) 2 48 Tryz.underlying236 infoC rfl (by decide) (.slice (some ⟨g,0,none⟩) j cap) j (flatC cs) rfl O7 0 1 _ [.slice ca zs.length cc,.slice (some ⟨ib,0,none⟩) 1 1] rfl r7 (fun u hu => by simp at hu;rcases hu with rfl | rfl <;> rfl) (by decide) (by omega) (by decide) z7 ?_
        intro g9 c9 w9 ow9 gr9 hat9 hlt9
        have s9:=blk_grown s7 gr9 (fun e => by injection e with e;simp at e;omega)
        refine hK _ _ s9 ?_
        clear hK K
        refine regS_take 9 5 (.slice (some ⟨g9,0,none⟩) (j + 1) c9) rfl rfl (by kernel_rfl) (fun _ _ _ h => h) (by kernel_rfl) (fun W hW => by go_simp) s9 ?_
        refine regS_end (by kernel_rfl) ?_
        simp only [Act.put,List.setIfInBounds_toArray,List.set_cons_succ,List.set_cons_zero]
        go_wp2_with fail
        refine ⟨⟨j + 1,g9,c9,cs ++ [⟨zs.map begF,ca,cc,[⟨⟨nm,tg,zs⟩,xa,xc⟩],some ⟨ib,0,none⟩,1⟩],by omega,by go_num,rfl,?_,?_,?_,?_,?_⟩,by simp [intOf];omega⟩
        · unfold Hid;rw [flatC_snoc];unfold CeD.e0 CeD.e1;rw [List.length_map];exact ow9
        · unfold Hid;rw [List.length_append,HL.out];rfl
        · have k1:=CS.kept HS7.out O7 gr9 (by decide) (by decide)
          have k2:=own_kept HC7.out gr9 (own_apart HC7.out O7 (by decide))
          have k3:=blk_grown HI7.out gr9 (fun e => by injection e with e;simp at e;omega)
          refine CS.snoc k1 ?_ (row_fresh k3 (by omega) (by show 1 <= maxLen;decide) rfl) (fun y hy e => ?_) ⟨(by simp),fun d hd => by obtain rfl:=List.mem_singleton.1 hd;rfl⟩
          · show w9.ownsRow w.heap.size 3 1 (.slice ca (zs.map begF).length cc) (zs.map begF).length _
            rw [List.length_map];exact k2
          · obtain ⟨g2,e2,_,hl2⟩:=it_own_some (HSS.out.it y hy) (HSS.out.cor y hy).1
            rw [e2] at e
            injection e with e
            have:=HQS.out
            simp at e
            omega
        · unfold Hid;rw [List.flatMap_append,HF.out,HTK.out];rfl
        · exact row_grownBelow (HBQ.out.trans (B7.mono hww)) O7 gr9 z7
      · go_wp2_with fail
        have a5:Below wq.heap.size wq (wq.alloc (.cells #[.string nm,.string tg,.slice xa zs.length xc] 45)).drew:=below_drewN (below_alloc _ _) 1
        have i5:Blk (wq.alloc (.cells #[.string nm,.string tg,.slice xa zs.length xc] 45)).drew wq.heap.size #[.string nm,.string tg,.slice xa zs.length xc] 45:=Blk.new wq.drew _ _
        have s5:=JB.out _ a5
        refine hK _ _ s5 ?_
        clear hK K
        obtain ⟨ib,hib2⟩:∃ ib,wq.heap.size = ib:=⟨_,rfl⟩
        have hib:=hib2
        rw [hib2] at i5
        rw [hib2]
        have hibx:xb + 1 <= ib:=by rw [<- hib2,<- HQS.out];exact Nat.le_refl _
        have B5:Below wq.heap.size wq (wq.alloc (.cells #[.string nm,.string tg,.slice xa zs.length xc] 45)).drew:=a5
        generalize (wq.alloc (.cells #[.string nm,.string tg,.slice xa zs.length xc] 45)).drew = w5 at *
        refine regS_one 3 rfl (by kernel_rfl) (by kernel_rfl) (fun K hK => ?_)
        go_wp2_with fail
        refine (corner_any xa xc zs w5 (HIQ.out.below B5) h10 HNB.out).mono ?_
        rintro e wz ⟨⟨ca,cc,rfl,hco⟩,g3⟩
        have s6:=s5.below g3 s5.lt
        refine hK _ _ s6 ?_
        clear hK K
        have HBz:Hid (Below wq.heap.size wq wz):=B5.trans (g3.mono B5.size)
        have HCo:Hid (wz.ownsRow w.heap.size 3 1 (.slice ca zs.length cc) zs.length (nv (zs.map begF))):=own_base hco (Nat.le_trans hww B5.size)
        have HI:Hid (Blk wz ib #[.string nm,.string tg,.slice xa zs.length xc] 45):=i5.below g3 i5.lt
        clear i5 hco g3 B5 s5 a5 hib hib2 s0
        refine regS_take 6 23 (.agg #[.slice ca zs.length cc,.slice (some ⟨ib,0,none⟩) 1 1]) rfl rfl (by kernel_rfl) (fun _ _ _ h => h) (by kernel_rfl) (fun W hW => by go_simp) s6 ?_
        simp only [Act.put,List.setIfInBounds_toArray,List.set_cons_succ,List.set_cons_zero]
        refine regS_one 7 rfl (by kernel_rfl) (by kernel_rfl) (fun K hK => ?_)
        go_wp2_with fail
        have a7:=below_alloc wz (.cells #[.slice ca zs.length cc,.slice (some ⟨ib,0,none⟩) 1 1] 242)
        have r7:(wz.alloc (.cells #[.slice ca zs.length cc,.slice (some ⟨ib,0,none⟩) 1 1] 242)).ownsRow 0 242 2 (.slice (some ⟨wz.heap.size,0,none⟩) 1 1) 1 [.slice ca zs.length cc,.slice (some ⟨ib,0,none⟩) 1 1]:=row_fresh (Blk.new wz #[.slice ca zs.length cc,.slice (some ⟨ib,0,none⟩) 1 1] 242) (Nat.zero_le _) (by decide) rfl
        have s7:=s6.below a7 s6.lt
        refine hK _ _ s7 ?_
        clear hK K
        have B7:=HBz.out.trans (a7.mono HBz.out.size)
        have O7:=ownsRow_below HOQ.out B7
        have z7:w.heap.size <= (wz.alloc (.cells #[.slice ca zs.length cc,.slice (some ⟨ib,0,none⟩) 1 1] 242)).heap.size:=Nat.le_trans hww B7.size
        have HS7:Hid _:=CS.below HSS.out B7
        have HC7:Hid _:=ownsRow_below HCo.out a7
        have HI7:Hid _:=(HI.out).below a7 (HI.out).lt
        generalize wz.alloc (.cells #[.slice ca zs.length cc,.slice (some ⟨ib,0,none⟩) 1 1] 242) = w7 at *
        refine regS_one 8 rfl (by kernel_rfl) (by kernel_rfl) (fun K hK => ?_)
        refine op_pushM _ _ 236 rfl w.heap.size 242 (.agg #[.slice none 0 0,.slice none 0 0]) 2 48 Tryz.underlying236 infoC rfl (by decide) (.slice (some ⟨g,0,none⟩) j cap) j (flatC cs) rfl O7 0 1 _ [.slice ca zs.length cc,.slice (some ⟨ib,0,none⟩) 1 1] rfl r7 (fun u hu => by simp at hu;rcases hu with rfl | rfl <;> rfl) (by decide) (by omega) (by decide) z7 ?_
        intro g9 c9 w9 ow9 gr9 hat9 hlt9
        have s9:=blk_grown s7 gr9 (fun e => by injection e with e;simp at e;omega)
        refine hK _ _ s9 ?_
        clear hK K
        refine regS_take 9 5 (.slice (some ⟨g9,0,none⟩) (j + 1) c9) rfl rfl (by kernel_rfl) (fun _ _ _ h => h) (by kernel_rfl) (fun W hW => by go_simp) s9 ?_
        refine regS_end (by kernel_rfl) ?_
        simp only [Act.put,List.setIfInBounds_toArray,List.set_cons_succ,List.set_cons_zero]
        go_wp2_with fail
        refine ⟨⟨j + 1,g9,c9,cs ++ [⟨zs.map begF,ca,cc,[⟨⟨nm,tg,zs⟩,xa,xc⟩],some ⟨ib,0,none⟩,1⟩],by omega,by go_num,rfl,?_,?_,?_,?_,?_⟩,by simp [intOf];omega⟩
        · unfold Hid;rw [flatC_snoc];unfold CeD.e0 CeD.e1;rw [List.length_map];exact ow9
        · unfold Hid;rw [List.length_append,HL.out];rfl
        · have k1:=CS.kept HS7.out O7 gr9 (by decide) (by decide)
          have k2:=own_kept HC7.out gr9 (own_apart HC7.out O7 (by decide))
          have k3:=blk_grown HI7.out gr9 (fun e => by injection e with e;simp at e;omega)
          refine CS.snoc k1 ?_ (row_fresh k3 (by omega) (by show 1 <= maxLen;decide) rfl) (fun y hy e => ?_) ⟨(by simp),fun d hd => by obtain rfl:=List.mem_singleton.1 hd;rfl⟩
          · show w9.ownsRow w.heap.size 3 1 (.slice ca (zs.map begF).length cc) (zs.map begF).length _
            rw [List.length_map];exact k2
          · obtain ⟨g2,e2,_,hl2⟩:=it_own_some (HSS.out.it y hy) (HSS.out.cor y hy).1
            rw [e2] at e
            injection e with e
            have:=HQS.out
            simp at e
            omega
        · unfold Hid;rw [List.flatMap_append,HF.out,HTK.out];rfl
        · exact row_grownBelow (HBQ.out.trans (B7.mono hww)) O7 gr9 z7
    · obtain rfl:j = L.length:=by omega
      have hrow:wr.ownsRow w.heap.size 242 2 (.slice (some ⟨g,0,none⟩) cs.length cap) cs.length (cs.flatMap encC):=by rw [HL.out];exact HO.out
      obtain ⟨tl,hbk,hsz,hcap,hmx,hgB⟩:=row_fl hrow
      rw [HL.out] at hsz hcap
      have HSO:Hid _:=SyC.sort_stable encC tl encC_len encC_one cfC preC g cap L.length cs.toArray wr (fun W hW x hx y hy => by
        have hCW:=CS.kept HS.out HO.out (updG_grown hW) (by decide) (by decide)
        have hp:(cs.flatMap CeD.it).Perm L:=by rw [HF.out,List.take_length]
        have hln:=cor_len hCW hp (fun x hx => (HN.out x hx).2)
        have hx':x ∈ cs:=by simpa using hx
        have hy':y ∈ cs:=by simpa using hy
        have:=new1_any x y W (co_ints hCW hx') (co_ints hCW hy') (hln x hx') (hln y hy')
        exact this) hbk (by simp [HL.out]) (by omega)
      clear hlt hj
      go_wp2_with fail
      refine Calls.mono HSO.out ?_
      rintro e w5 ⟨rfl,d',hu,hb',hp',_⟩
      have hds:d'.size = L.length:=by have:=hp'.length_eq;simp [HL.out] at this;simpa using this
      have HR5:=fl_row encC_len hb' (by rw [hds];exact hsz) (by rw [hds];exact hcap) hmx hgB
      have hS5:CS w5 w.heap.size d'.toList:=CS.perm (CS.kept HS.out HO.out (updG_grown hu) (by decide) (by decide)) (by simpa using hp')
      have hPL:(d'.toList.flatMap CeD.it).Perm L:=by
        have h1:(d'.toList.flatMap CeD.it).Perm (cs.flatMap CeD.it):=List.Perm.flatMap_right _ (by simpa using hp')
        rw [HF.out,List.take_length] at h1
        exact h1
      have b5:Below w.heap.size w w5:=hu.below br br.size hgB
      have hlt5:d'.toList.length = L.length:=by simpa using hds
      rw [hds] at HR5
      have HRW:w5.ownsRow w.heap.size 242 2 (.slice (some ⟨g,0,none⟩) d'.toList.length cap) d'.toList.length (flatC d'.toList):=by rw [hlt5] at HR5 ⊢;exact HR5
      have hJ:=joined_any (some ⟨g,0,none⟩) cap d'.toList w.heap.size w5 HRW hS5 b5.size (by omega) (by rw [hPL.length_eq];exact hl) (cor_len hS5 hPL (fun x hx => (HN.out x hx).2))
      rw [hlt5] at hJ
      have HJ:Hid _:=hJ
      have HPL:Hid _:=hPL
      clear hJ HR5 HRW hS5 hPL hlt5 hds hu hb' hp' HSO hsz hcap hbk hrow
      go_wp2_with fail
      refine Calls.mono HJ.out ?_
      rintro e w6 ⟨⟨v,os,rfl,ro,rs,rf,rl⟩,g6⟩
      have b6:=b5.trans g6
      have a7:=below_alloc w6 (.cells #[.int .i64 dim,v] 238)
      have HRO:Hid _:=own_base (ownsRow_below ro a7) b5.size
      have HRS:Hid _:=CS.below rs a7
      have HRF:Hid ((os.flatMap CeD.it).Perm L):=by rw [rf];exact HPL.out
      obtain ⟨av,cv,hv⟩:=own_slice ro
      subst hv
      clear ro rs rf HJ
      go_wp2_with fail
      go_ret
      exact ⟨⟨w6.heap.size,_,os,rfl,Blk.new w6 _ _,HRO.out,HRS.out,HRF.out,rl,b6.size⟩,b6.trans (a7.mono b6.size)⟩
def plF (c y:Int):Int:=min (max y c) (c + 249)
def placeL:List Int -> List Int -> List Int
  | c :: cs,y :: ys => plF c y :: placeL cs ys
  | cs,_ => cs
theorem placeL_len:∀ cs ys:List Int,(placeL cs ys).length = cs.length
  | [],[] => rfl
  | [],_ :: _ => rfl
  | _ :: _,[] => rfl
  | c :: cs,y :: ys => by show (placeL cs ys).length + 1 = _;rw [placeL_len cs ys];rfl
theorem placeL_get:∀ (cs ys:List Int) (i:Nat) (c y:Int),cs[i]? = some c -> ys[i]? = some y -> (placeL cs ys)[i]? = some (plF c y)
  | [],_,i,c,y,h,_ => by simp at h
  | _ :: _,[],i,c,y,_,h => by simp at h
  | c0 :: cs,y0 :: ys,0,c,y,h1,h2 => by simp at h1 h2;subst h1 h2;rfl
  | c0 :: cs,y0 :: ys,i + 1,c,y,h1,h2 => by
    have:=placeL_get cs ys i c y (by simpa using h1) (by simpa using h2)
    simpa [placeL] using this
theorem placeL_out:∀ (cs ys:List Int) (i:Nat),ys.length <= i -> (placeL cs ys)[i]? = cs[i]?
  | [],[],_,_ => rfl
  | [],_ :: _,_,_ => rfl
  | _ :: _,[],_,_ => rfl
  | c0 :: cs,y0 :: ys,0,h => by simp at h
  | c0 :: cs,y0 :: ys,i + 1,h => by
    have:=placeL_out cs ys i (by simpa using h)
    simpa [placeL] using this
def plK (cs ys:List Int) (k:Nat):List Int:=(placeL cs ys).take k ++ cs.drop k
theorem plK_get (cs ys:List Int) (k:Nat) (c:Int) (h:cs[k]? = some c):(plK cs ys k)[k]? = some c:=by
  have hk:=(List.getElem?_eq_some_iff.1 h).1
  unfold plK
  rw [List.getElem?_append_right (by rw [List.length_take];omega),List.length_take,placeL_len,Nat.min_eq_left (by omega),Nat.sub_self,List.getElem?_drop,Nat.add_zero];exact h
theorem plK_set (cs ys:List Int) (k:Nat) (c y:Int) (h:cs[k]? = some c) (hy:ys[k]? = some y):(plK cs ys k).set k (plF c y) = plK cs ys (k + 1):=by
  have hk:=(List.getElem?_eq_some_iff.1 h).1
  have hp:=placeL_get cs ys k c y h hy
  unfold plK
  rw [List.set_append_right _ _ (by rw [List.length_take];omega),List.length_take,placeL_len,Nat.min_eq_left (by omega),Nat.sub_self,List.drop_eq_getElem_cons hk,List.set_cons_zero,List.take_add_one,hp,List.append_assoc]
  rfl
theorem plK_all (cs ys:List Int) (k:Nat) (h:k = min cs.length ys.length):plK cs ys k = placeL cs ys:=by
  unfold plK
  apply List.ext_getElem?
  intro i
  by_cases hi:i < k
  · rw [List.getElem?_append_left (by rw [List.length_take,placeL_len];omega),List.getElem?_take_of_lt hi]
  · rw [List.getElem?_append_right (by rw [List.length_take,placeL_len];omega),List.length_take,placeL_len,List.getElem?_drop,show k + (i - min k cs.length) = i from by omega]
    by_cases hy:ys.length <= i
    · rw [placeL_out cs ys i hy]
    · rw [List.getElem?_eq_none (by omega),List.getElem?_eq_none (by rw [placeL_len];omega)]
theorem nv_set (zs:List Int) (i:Nat) (z:Int):(nv zs).set i (.int .i64 z) = nv (zs.set i z):=by unfold nv;rw [List.map_set]
theorem plF_num {c y:Int} (hc:-1000 <= c ∧ c <= 1000) (hy:-1000 <= y ∧ y <= 1000):numB (plF c y) = true:=by
  unfold plF numB
  rw [Bool.and_eq_true,decide_eq_true_eq,decide_eq_true_eq]
  omega
theorem place_num:∀ cs ys:List Int,cs.all numB = true -> ys.all numB = true -> (placeL cs ys).all numB = true
  | [],[],_,_ => rfl
  | [],_ :: _,_,_ => rfl
  | c :: cs,[],h,_ => h
  | c :: cs,y :: ys,h1,h2 => by
    rw [List.all_cons,Bool.and_eq_true] at h1 h2
    show (plF c y :: placeL cs ys).all numB = true
    rw [List.all_cons,Bool.and_eq_true]
    refine ⟨plF_num ?_ ?_,place_num cs ys h1.2 h2.2⟩
    · have:=h1.1;unfold numB at this;rw [Bool.and_eq_true,decide_eq_true_eq,decide_eq_true_eq] at this;exact this
    · have:=h2.1;unfold numB at this;rw [Bool.and_eq_true,decide_eq_true_eq,decide_eq_true_eq] at this;exact this
def leastI (co ys:List Int):Int:=farI (placeL co ys) ys
set_option maxRecDepth 100000 in
theorem clone_any (a:Option Addr) (c:Nat) (zs:List Int) (w:World) (h:Ints w a zs) (h0:0 < zs.length) (hl:zs.length <= 100) :
    Calls Tryz.prog 120 #[.slice a zs.length c] w fun e w' => (∃ g' c',e = .returned (.slice (some ⟨g',0,none⟩) zs.length c') ∧ w'.ownsRow w.heap.size 3 1 (.slice (some ⟨g',0,none⟩) zs.length c') zs.length (nv zs)) ∧ Below w.heap.size w w':=by
  obtain ⟨g,o,rfl,_⟩:=h 0 zs[0] (List.getElem?_eq_getElem h0)
  have s1:=below_alloc w (.cells #[] 3)
  have hI:=h.below s1
  have hB:Blk (w.alloc (.cells #[] 3)) w.heap.size #[] 3:=Blk.new w _ _
  have ow1:(w.alloc (.cells #[] 3)).ownsRow w.heap.size 3 1 (.slice (some ⟨w.heap.size,0,none⟩) 0 0) 0 []:=row_fresh hB (Nat.le_refl _) (by decide) rfl
  have hq:∀ w:World,(binOp .eql 23 (.slice (some ⟨g,o,none⟩) zs.length c) (.slice none 0 0)).run Tryz.prog w = .ok (.bool false) w:=fun w => by kernel_rfl
  obtain ⟨i,hi,p1,p2,p3⟩:=info_parts infoN
  have hc:∀ j u,(nv zs)[j]? = some u -> (w.alloc (.cells #[] 3)).cell? ⟨g,o + j,none⟩ = some u:=fun j u hu => by
    unfold nv at hu
    rw [List.getElem?_map] at hu
    obtain ⟨z,hz,rfl⟩:=Option.map_eq_some_iff.1 hu
    obtain ⟨g',o',e',hc⟩:=hI j z hz
    injection e' with e';injection e' with e1 e2;subst e1 e2
    exact hc
  clear h hI
  have HI:Hid (Tryz.prog.info? 3 = some i ∧ i.zero = some (.int .i64 0) ∧ i.size = 1 ∧ i.bytes = 8):=⟨hi,p1,p2,p3⟩
  clear hi p1 p2 p3
  go_enter Tryz.func120,Tryz.ntmps120
  go_wp2_with (first
    | (refine wpList_append_lies _ rfl _ _ 23 rfl w.heap.size 3 i (.int .i64 0) 1 8 Tryz.underlying23 HI.out.1 HI.out.2.1 HI.out.2.2.1 HI.out.2.2.2 rfl (by decide) (.slice (some ⟨w.heap.size,0,none⟩) 0 0) 0 [] rfl ow1 ⟨g,o,none⟩ zs.length c (nv zs) rfl (by rw [nv_len];omega) (fun j u hu => by rw [addr_addO];exact hc j u hu) (fun u hu => by unfold nv at hu;obtain ⟨z,_,rfl⟩:=List.mem_map.1 hu;rfl) h0 (by unfold maxLen;omega) (by omega) (by simp) (w.heap.size + 1) (by simp) ?_;intro g6 c6 w6 ow6 gr6 hat6 hlt6)
    | fail)
  go_ret
  have ow7:w6.ownsRow w.heap.size 3 1 (.slice (some ⟨g6,0,none⟩) zs.length c6) zs.length (nv zs):=by simpa using ow6
  exact ⟨⟨g6,c6,by simp,ow7⟩,row_grownBelow s1 ow1 gr6 (by simp)⟩
set_option maxRecDepth 100000 in
set_option maxHeartbeats 4000000 in
theorem least_any (x:CeD) (b:Option Addr) (d:Nat) (ys:List Int) (w:World) (hx:Ints w x.ca x.co) (hy:Ints w b ys) (h0:0 < x.co.length) (hl:x.co.length <= 100) (hc:x.co.all numB = true) (hyn:ys.all numB = true) :
    Calls Tryz.prog 218 #[.agg (encC x).toArray,.slice b ys.length d] w fun e w' => e = .returned (.int .i64 (leastI x.co ys)) ∧ Below w.heap.size w w':=by
  obtain ⟨co,ca,cc,it,ia,ic⟩:=x
  simp only at hx h0 hl hc
  show Calls Tryz.prog _ #[.agg #[.slice ca co.length cc,.slice ia it.length ic],.slice b ys.length d] w _
  have a1:=below_alloc w (.cells #[.slice ca co.length cc,.slice ia it.length ic] 242)
  have HCL:Hid _:=clone_any ca cc co _ (hx.below a1) h0 hl
  have HY:Hid _:=hy
  have HZ:Hid (∀ z ∈ co,-1000 <= z ∧ z <= 1000):=fun z hz' => by have:=List.all_eq_true.1 hc z hz';simpa [numB] using this
  have HYN:Hid (∀ z ∈ ys,-1000 <= z ∧ z <= 1000):=fun z hz' => by have:=List.all_eq_true.1 hyn z hz';simpa [numB] using this
  have HN:Hid (co.all numB = true ∧ ys.all numB = true):=⟨hc,hyn⟩
  obtain ⟨m,hm⟩:∃ m:Nat,m = min co.length ys.length:=⟨_,rfl⟩
  have HM:Hid (m = min co.length ys.length):=hm
  have hmin:min (co.length:Int) (ys.length:Int) = (m:Int):=by omega
  have hm1:m <= co.length ∧ m <= ys.length:=by omega
  clear hx hy hc hyn hm
  go_enter Tryz.func218,Tryz.ntmps218
  go_wp2_with fail
  refine Calls.mono HCL.out ?_
  rintro e w2 ⟨⟨g,c2,rfl,hr⟩,g2⟩
  have b2:=a1.trans (g2.mono a1.size)
  have HR:Hid (w2.ownsRow w.heap.size 3 1 (.slice (some ⟨g,0,none⟩) co.length c2) co.length (nv co)):=own_base hr a1.size
  clear hr g2 a1 HCL
  go_wp2_with fail
  go_loopw [6,15] (fun _ i wr => ∃ k:Nat,k <= m ∧ i = .int .i64 k ∧ Hid (wr.ownsRow w.heap.size 3 1 (.slice (some ⟨g,0,none⟩) co.length c2) co.length (nv (plK co ys k))) ∧ Below w.heap.size w wr) (fun _ i _ => m - (intOf i).toNat)
  case atStart =>
    refine ⟨0,by omega,rfl,?_,b2⟩
    have e:plK co ys 0 = co:=by unfold plK;simp
    unfold Hid;rw [e];exact HR.out
  case round =>
    clear HR
    obtain ⟨k,hk,rfl,HR,br⟩:=hrel
    by_cases hlt:k < m
    · have hlt':(k:Int) < (m:Int):=by omega
      obtain ⟨z,hz⟩:∃ z,co[k]? = some z:=⟨_,List.getElem?_eq_getElem (by omega)⟩
      obtain ⟨y,hyk⟩:∃ y,ys[k]? = some y:=⟨_,List.getElem?_eq_getElem (by omega)⟩
      have hzb:=HZ.out z (List.mem_of_getElem? hz)
      have hyb:=HYN.out y (List.mem_of_getElem? hyk)
      obtain ⟨gy,oy,rfl,qy⟩:=(Ints.below HY.out br) k y hyk
      have qz:wr.cell? ⟨g,k,none⟩ = some (.int .i64 z):=row_cell HR.out k _ (by unfold nv;rw [List.getElem?_map,plK_get co ys k z hz];rfl)
      have fz:wr.frozen? ⟨g,k,none⟩ = false:=by
        obtain ⟨_,_,cur8,hv8,_,_,hh8,_⟩:=own_parts HR.out (by omega)
        injection hv8 with hv8;injection hv8 with hv8;injection hv8 with hv8
        subst hv8
        simp [World.frozen?,hh8]
      have hgB:w.heap.size <= g:=(row_ownLt HR.out g rfl).1
      have HS:Hid (plK co ys (k + 1) = (plK co ys k).set k (plF z y)):=(plK_set co ys k z y hz hyk).symm
      have i1:(k:Int) < (co.length:Int):=by omega
      have i2:(k:Int) < (ys.length:Int):=by omega
      obtain ⟨mx,hmx⟩:∃ mx,max y z = mx:=⟨_,rfl⟩
      obtain ⟨pv,hpv⟩:∃ pv,plF z y = pv:=⟨_,rfl⟩
      have x1:IntKind.i64.wrap (z + 250) = z + 250:=by rw [IntKind.wrap_i64];omega
      have x2:IntKind.i64.wrap (z + 250 - 1) = z + 249:=by rw [IntKind.wrap_i64];omega
      have x3:min mx (z + 249) = pv:=by rw [<- hmx,<- hpv];rfl
      rw [hpv] at HS
      clear hz hyk hzb hyb hpv
      go_wp2_with fail
      have s0:wr.drew.cell? ⟨gy,oy + k,none⟩ = some (.int .i64 y) ∧ wr.drew.cell? ⟨g,k,none⟩ = some (.int .i64 z):=⟨qy,qz⟩
      refine region_s [(0,true),(1,true),(2,true),(3,true),(4,true),(5,false),(6,true),(7,true),(8,true),(9,false),(10,true),(11,true),(12,true),(13,true),(14,false),(15,true),(16,true),(17,true)] [] [18,19] (fun W => W.cell? ⟨gy,oy + k,none⟩ = some (.int .i64 y) ∧ W.cell? ⟨g,k,none⟩ = some (.int .i64 z)) Nr.mixed (by kernel_rfl) (fun _ _ _ _ _ h => h) s0 ?_
      refine lead_pure _ rfl _ rfl rfl (.slice (some ⟨g,0,none⟩) co.length c2) (fun W => by go_simp) ?_
      refine lead_pure _ rfl _ rfl rfl (.int .i64 (k:Int)) (fun W => by go_simp) ?_
      refine lead_pure _ rfl _ rfl rfl (.slice (some ⟨gy,oy,none⟩) ys.length d) (fun W => by go_simp) ?_
      refine lead_pure _ rfl _ rfl rfl (.int .i64 (k:Int)) (fun W => by go_simp) ?_
      refine lead_pure _ rfl _ rfl rfl (.pointer (some ⟨gy,oy + k,none⟩)) (fun W => by go_simp) ?_
      refine lead_read _ rfl _ rfl rfl (.int .i64 y) (fun W hW => by have a0:=hW.1;go_simp) ?_
      refine lead_pure _ rfl _ rfl rfl (.slice (some ⟨g,0,none⟩) co.length c2) (fun W => by go_simp) ?_
      refine lead_pure _ rfl _ rfl rfl (.int .i64 (k:Int)) (fun W => by go_simp) ?_
      refine lead_pure _ rfl _ rfl rfl (.pointer (some ⟨g,k,none⟩)) (fun W => by go_simp) ?_
      refine lead_read _ rfl _ rfl rfl (.int .i64 z) (fun W hW => by have a0:=hW.2;go_simp) ?_
      refine lead_pure _ rfl _ rfl rfl (.int .i64 mx) (fun W => by go_simp) ?_
      refine lead_pure _ rfl _ rfl rfl (.slice (some ⟨g,0,none⟩) co.length c2) (fun W => by go_simp) ?_
      refine lead_pure _ rfl _ rfl rfl (.int .i64 (k:Int)) (fun W => by go_simp) ?_
      refine lead_pure _ rfl _ rfl rfl (.pointer (some ⟨g,k,none⟩)) (fun W => by go_simp) ?_
      refine lead_read _ rfl _ rfl rfl (.int .i64 z) (fun W hW => by have a0:=hW.2;go_simp) ?_
      refine lead_pure _ rfl _ rfl rfl (.int .i64 (z + 250)) (fun W => by go_simp) ?_
      refine lead_pure _ rfl _ rfl rfl (.int .i64 (z + 249)) (fun W => by go_simp) ?_
      refine lead_pure _ rfl _ rfl rfl (.int .i64 pv) (fun W => by go_simp) ?_
      refine lead_nil ?_
      simp only [Act.put,List.setIfInBounds_toArray,List.set_cons_succ,List.set_cons_zero]
      refine mid_nil ?_
      simp only [List.filterMap_cons,List.getElem?_toArray,List.getElem?_cons_succ,List.getElem?_cons_zero,List.filterMap_nil]
      go_wp2_with fail
      have u8:=setCell_upd wr.drew g k (.int .i64 pv)
      refine ⟨⟨k + 1,by omega,by go_num,?_,below_upd (below_drewN br 1) u8 hgB⟩,by simp [intOf];omega⟩
      have h1:=own_set (ownsRow_below HR.out (below_drewN (Below.refl _ _) 1)) k (.int .i64 pv)
      unfold Hid
      rw [HS.out,<- nv_set]
      exact h1
    · obtain rfl:k = m:=by omega
      have hrow:=HR.out
      rw [plK_all co ys k HM.out] at hrow
      have e:co.length = (placeL co ys).length:=(placeL_len co ys).symm
      have hI:Ints wr (some ⟨g,0,none⟩) (placeL co ys):=fun i z hz => ⟨g,0,rfl,by rw [Nat.zero_add];exact row_cell hrow i _ (by unfold nv;rw [List.getElem?_map,hz];rfl)⟩
      have hF:=far_any (some ⟨g,0,none⟩) b c2 d (placeL co ys) ys wr hI (Ints.below HY.out br) (by rw [<- e];exact hl) (place_num co ys HN.out.1 HN.out.2) HN.out.2
      rw [<- e] at hF
      have HF:Hid _:=hF
      clear hrow e hI hF hlt
      go_wp2_with fail
      refine Calls.mono HF.out ?_
      rintro e w5 ⟨rfl,n5,hn5⟩
      have b5:Below w.heap.size w w5:=by rw [hn5];exact below_drewN br n5
      clear hn5
      go_wp2_with fail
      go_ret
      exact ⟨rfl,b5⟩
end Go.Proofs.YtjmpjfikcgccdaaGreatDoor.Ce
namespace Go.Proofs.YtjmpjfikcgccdaaGreatDoor.SyR
open Go.RowKit
open It Nr Sy
theorem szE:(Tryz.prog.info? 309).map (·.size) = some 3:=by kernel_rfl
set_option maxHeartbeats 1000000 in
theorem swap_range {α:Type} [Inhabited α] (enc:α -> List Value) (tl:Array Value) (hk:∀ x,(enc x).length = 3) (h1:∀ x,∀ v ∈ enc x,v.oneCell' = true) (g cap a b n N:Nat) (d0 d:Array α) (w0 w:World) (fv:Value) (h:SS enc tl 309 w0 g d0 w d) (hN:d.size = N) (hab:a + n <= b) (hbn:b + n <= N) (hsz:N <= 100000) :
    Calls Tryz.prog 374 #[.slice (some ⟨g,0,none⟩) N cap,.int .i64 a,.int .i64 b,.int .i64 n,fv] w fun e w' => e = .returned (.tuple #[]) ∧ ∃ d',SS enc tl 309 w0 g d0 w' d' ∧ Swr (nth d) (nth d') a b n:=by
  have HS:Hid (SS enc tl 309 w0 g d0 w d):=h
  have HN:Hid (d.size = N):=hN
  clear h hN
  go_enter Tryz.func374,Tryz.ntmps374
  go_wp2_with fail
  go_loopw [10] (fun i wr => ∃ (m:Nat) (dm:Array α),m <= n ∧ i = .int .i64 m ∧ Hid (SS enc tl 309 w0 g d0 wr dm) ∧ Hid (Swr (nth d) (nth dm) a b m)) (fun i _ => n - (intOf i).toNat)
  case atStart => exact ⟨0,d,by omega,rfl,HS.out,⟨fun t ht => by omega,fun t ht => by omega,fun _ _ _ => rfl⟩⟩
  case round =>
    obtain ⟨m,dm,hm,rfl,HM,HW⟩:=hrel
    have hds:dm.size = N:=by rw [HM.out.size,<- HS.out.size];exact HN.out
    have HDS:Hid (dm.size = N):=hds
    clear hds
    by_cases hlt:m < n
    · have hlt':(m:Int) < (n:Int):=by omega
      obtain ⟨p,hp⟩:∃ p:Nat,p = a + m:=⟨_,rfl⟩
      obtain ⟨q,hq⟩:∃ q:Nat,q = b + m:=⟨_,rfl⟩
      have HP:Hid (p = a + m):=hp
      have HQ:Hid (q = b + m):=hq
      have HBA:Hid (p < dm.size):=by unfold Hid;rw [HDS.out];omega
      have HBB:Hid (q < dm.size):=by unfold Hid;rw [HDS.out];omega
      have i3:(p:Int) < (N:Int):=by omega
      have i4:(q:Int) < (N:Int):=by omega
      have x1:IntKind.i64.wrap ((a:Int) + (m:Int)) = (p:Int):=by rw [IntKind.wrap_i64];omega
      have x2:IntKind.i64.wrap ((b:Int) + (m:Int)) = (q:Int):=by rw [IntKind.wrap_i64];omega
      clear hp hq
      go_wp2_with fail
      have hB:Blk wr.drew g (fl enc tl dm) 309:=HM.out.blk.drewN 1
      refine region_s [(0,true),(1,true),(2,true),(3,true),(4,true),(5,true),(6,true),(7,true),(8,true),(9,true),(10,true),(11,true),(12,true),(13,false),(14,true),(15,true),(16,true),(17,true),(18,true),(19,false),(20,true)] [] [21,22,23] (fun W' => Blk W' g (fl enc tl dm) 309) Nr.mixed (by kernel_rfl) (fun _ _ _ _ _ h => h) hB ?_
      refine lead_pure _ rfl _ rfl rfl (.slice (some ⟨g,0,none⟩) N cap) (fun W => by go_simp) ?_
      refine lead_pure _ rfl _ rfl rfl (.int .i64 (a:Int)) (fun W => by go_simp) ?_
      refine lead_pure _ rfl _ rfl rfl (.int .i64 (m:Int)) (fun W => by go_simp) ?_
      refine lead_pure _ rfl _ rfl rfl (.int .i64 (p:Int)) (fun W => by go_simp) ?_
      refine lead_pure _ rfl _ rfl rfl (.slice (some ⟨g,0,none⟩) N cap) (fun W => by go_simp) ?_
      refine lead_pure _ rfl _ rfl rfl (.int .i64 (b:Int)) (fun W => by go_simp) ?_
      refine lead_pure _ rfl _ rfl rfl (.int .i64 (m:Int)) (fun W => by go_simp) ?_
      refine lead_pure _ rfl _ rfl rfl (.int .i64 (q:Int)) (fun W => by go_simp) ?_
      refine lead_pure _ rfl _ rfl rfl (.slice (some ⟨g,0,none⟩) N cap) (fun W => by go_simp) ?_
      refine lead_pure _ rfl _ rfl rfl (.int .i64 (b:Int)) (fun W => by go_simp) ?_
      refine lead_pure _ rfl _ rfl rfl (.int .i64 (m:Int)) (fun W => by go_simp) ?_
      refine lead_pure _ rfl _ rfl rfl (.int .i64 (q:Int)) (fun W => by go_simp) ?_
      refine lead_pure _ rfl _ rfl rfl (.pointer (some ⟨g,q * 3,none⟩)) (fun W => by go_simp) ?_
      simp only [Act.put,List.setIfInBounds_toArray,List.set_cons_succ,List.set_cons_zero]
      refine lead_read _ rfl _ rfl rfl (.agg (enc (nth dm q)).toArray) (fun W hW => exec_load 309 _ rfl ⟨g,q * 3,none⟩ rfl _ (SS.load hk Tryz.isAgg309 szE hW HBB.out)) ?_
      refine lead_pure _ rfl _ rfl rfl (.slice (some ⟨g,0,none⟩) N cap) (fun W => by go_simp) ?_
      refine lead_pure _ rfl _ rfl rfl (.int .i64 (a:Int)) (fun W => by go_simp) ?_
      refine lead_pure _ rfl _ rfl rfl (.int .i64 (m:Int)) (fun W => by go_simp) ?_
      refine lead_pure _ rfl _ rfl rfl (.int .i64 (p:Int)) (fun W => by go_simp) ?_
      refine lead_pure _ rfl _ rfl rfl (.pointer (some ⟨g,p * 3,none⟩)) (fun W => by go_simp) ?_
      simp only [Act.put,List.setIfInBounds_toArray,List.set_cons_succ,List.set_cons_zero]
      refine lead_read _ rfl _ rfl rfl (.agg (enc (nth dm p)).toArray) (fun W hW => exec_load 309 _ rfl ⟨g,p * 3,none⟩ rfl _ (SS.load hk Tryz.isAgg309 szE hW HBA.out)) ?_
      refine lead_pure _ rfl _ rfl rfl (.pointer (some ⟨g,p * 3,none⟩)) (fun W => by go_simp) ?_
      refine lead_nil ?_
      simp only [Act.put,List.setIfInBounds_toArray,List.set_cons_succ,List.set_cons_zero]
      refine mid_nil ?_
      simp only [List.filterMap_cons,List.getElem?_toArray,List.getElem?_cons_succ,List.getElem?_cons_zero,List.filterMap_nil]
      refine wpl_storeAt rfl rfl 309 _ _ rfl 3 szE g (p * 3) _ 309 (enc (nth dm q)).toArray rfl rfl (by simp [hk]) (fl_one h1 _) hB (row_leT hk HBA.out tl) ?_
      intro w1 u1 j1
      have HS2:Hid _:=HM.out.grown (below_drewN (Below.refl _ _) 1)
      clear hB
      refine wpl_val rfl (.pointer (some ⟨g,q * 3,none⟩)) (by go_simp) ?_
      simp only [Act.put,List.setIfInBounds_toArray,List.set_cons_succ,List.set_cons_zero]
      refine wpl_storeAt rfl rfl 309 _ _ rfl 3 szE g (q * 3) _ 309 (enc (nth dm p)).toArray rfl rfl (by simp [hk]) (fl_one h1 _) j1 (by rw [foldset_size];exact row_leT hk HBB.out tl) ?_
      intro w2 u2 j2
      go_wp2_with fail
      refine ⟨⟨m + 1,sw dm p q,by omega,by go_num,SS.swapped hk HS2.out u1 u2 HBA.out HBB.out j2,?_⟩,by simp [intOf];omega⟩
      have hpq:=sw_nth HBA.out HBB.out
      refine Swr.step HW.out (by omega) ?_ ?_ ?_
      · rw [hpq,<- HP.out,if_pos rfl,HQ.out]
      · rw [hpq,<- HQ.out]
        by_cases e:q = p
        · rw [if_pos e,e,HP.out]
        · rw [if_neg e,if_pos rfl,HP.out]
      · intro x hx hx'
        rw [hpq,if_neg (by rw [HP.out];exact hx),if_neg (by rw [HQ.out];exact hx')]
    · have hm':m = n:=by omega
      subst hm'
      go_wp2_with fail
      go_end0
      exact ⟨rfl,dm,HM.out,HW.out⟩
set_option maxHeartbeats 1000000 in
theorem rotate_any {α:Type} [Inhabited α] (enc:α -> List Value) (tl:Array Value) (hk:∀ x,(enc x).length = 3) (h1:∀ x,∀ v ∈ enc x,v.oneCell' = true) (g cap a m b N:Nat) (d0 d:Array α) (w0 w:World) (fv:Value) (h:SS enc tl 309 w0 g d0 w d) (hN:d.size = N) (ham:a < m) (hmb:m < b) (hbN:b <= N) (hsz:N <= 100000) :
    Calls Tryz.prog 357 #[.slice (some ⟨g,0,none⟩) N cap,.int .i64 a,.int .i64 m,.int .i64 b,fv] w fun e w' => e = .returned (.tuple #[]) ∧ ∃ d',SS enc tl 309 w0 g d0 w' d' ∧ Rot (nth d) (nth d') a m b:=by
  have HS:Hid (SS enc tl 309 w0 g d0 w d):=h
  have HN:Hid (d.size = N):=hN
  obtain ⟨i0,hi0⟩:∃ i:Nat,i = m - a:=⟨_,rfl⟩
  obtain ⟨j0,hj0⟩:∃ j:Nat,j = b - m:=⟨_,rfl⟩
  have s1:(m:Int) - (a:Int) = (i0:Int):=by omega
  have s2:(b:Int) - (m:Int) = (j0:Int):=by omega
  have x1:IntKind.i64.wrap (i0:Int) = (i0:Int):=by rw [IntKind.wrap_i64];omega
  have x2:IntKind.i64.wrap (j0:Int) = (j0:Int):=by rw [IntKind.wrap_i64];omega
  have HI:Hid (i0 = m - a ∧ j0 = b - m):=⟨hi0,hj0⟩
  clear h hN hi0 hj0
  go_enter Tryz.func357,Tryz.ntmps357
  go_wp2_with fail
  go_loopw [10,11] (fun vi vj wr => ∃ (i j L:Nat) (c:Array α),vi = .int .i64 i ∧ vj = .int .i64 j ∧ 0 < i ∧ 0 < j ∧ Hid (L + i = m) ∧ Hid (m + j <= b) ∧ Hid (SS enc tl 309 w0 g d0 wr c) ∧ Hid (Rin (rotF (nth d) a m b) (nth c) L i j)) (fun vi vj _ => (intOf vi).toNat + (intOf vj).toNat)
  case atStart =>
    obtain ⟨hi0,hj0⟩:=HI.out
    refine ⟨i0,j0,a,d,rfl,rfl,by omega,by omega,?_,?_,HS.out,?_⟩
    · unfold Hid;omega
    · unfold Hid;omega
    · rw [hi0,hj0];exact rotF_rin _ (by omega) (by omega)
  case round =>
    clear s1 s2 x1 x2 HI
    obtain ⟨i,j,L,c,rfl,rfl,hi,hj,HL,HJ,HC,HR⟩:=hrel
    have hL:=HL.out
    have hJ:=HJ.out
    have hcs:c.size = N:=by rw [HC.out.size,<- HS.out.size];exact HN.out
    have HCS:Hid (c.size = N):=hcs
    have hs:(m:Int) - (i:Int) = (L:Int):=by omega
    have x1:IntKind.i64.wrap (L:Int) = (L:Int):=by rw [IntKind.wrap_i64];omega
    clear hcs
    rcases Nat.lt_trichotomy i j with hij | hij | hij
    · have c1:¬ ((i:Int) = (j:Int)):=by omega
      have c2:¬ ((j:Int) < (i:Int)):=by omega
      obtain ⟨t,ht⟩:∃ t:Nat,t = m + j - i:=⟨_,rfl⟩
      obtain ⟨j',hj'⟩:∃ j':Nat,j' = j - i:=⟨_,rfl⟩
      have s1:(m:Int) + (j:Int) - (i:Int) = (t:Int):=by omega
      have x2:IntKind.i64.wrap (t:Int) = (t:Int):=by rw [IntKind.wrap_i64];omega
      have x3:IntKind.i64.wrap ((m:Int) + (j:Int)) = (m:Int) + (j:Int):=by rw [IntKind.wrap_i64];omega
      have s2:(j:Int) - (i:Int) = (j':Int):=by omega
      have x4:IntKind.i64.wrap (j':Int) = (j':Int):=by rw [IntKind.wrap_i64];omega
      have HT:Hid (t = L + j ∧ j' = j - i):=⟨by omega,hj'⟩
      have HSW:Hid _:=swap_range enc tl hk h1 g cap L t i N d0 c w0 wr fv HC.out HCS.out (by omega) (by omega) hsz
      clear hL hJ ht hj'
      go_wp2_with fail
      refine Calls.mono HSW.out ?_
      rintro e w1 ⟨rfl,c',hc',hw⟩
      have HC':Hid _:=hc'
      have HW:Hid _:=hw
      clear hc' hw HSW
      go_wp2_with fail
      obtain ⟨ht,hj'⟩:=HT.out
      have hL:=HL.out
      have hJ:=HJ.out
      refine ⟨⟨i,j',L,c',rfl,by go_num,hi,by omega,HL.out,?_,HC'.out,?_⟩,by simp [intOf];omega⟩
      · unfold Hid;omega
      · rw [hj'];have h0:=HW.out;rw [ht] at h0;exact Rin.less HR.out hij h0
    · subst hij
      have HSW:Hid _:=swap_range enc tl hk h1 g cap L m i N d0 c w0 wr fv HC.out HCS.out (by omega) (by omega) hsz
      clear hL hJ
      go_wp2_with fail
      refine Calls.mono HSW.out ?_
      rintro e w1 ⟨rfl,c',hc',hw⟩
      have HC':Hid _:=hc'
      have HW:Hid _:=hw
      clear hc' hw HSW
      go_wp2_with fail
      go_end0
      refine ⟨rfl,c',HC'.out,rotF_rot _ (by omega) (by omega) fun x => ?_⟩
      have h0:=HW.out
      rw [<- HL.out] at h0
      have h2:=HR.out
      rw [<- HL.out] at h2 ⊢
      exact Rin.done h2 h0 x
    · have c1:¬ ((i:Int) = (j:Int)):=by omega
      have c2:(j:Int) < (i:Int):=by omega
      obtain ⟨i',hi'⟩:∃ i':Nat,i' = i - j:=⟨_,rfl⟩
      have s2:(i:Int) - (j:Int) = (i':Int):=by omega
      have x4:IntKind.i64.wrap (i':Int) = (i':Int):=by rw [IntKind.wrap_i64];omega
      have HT:Hid (i' = i - j):=hi'
      have HSW:Hid _:=swap_range enc tl hk h1 g cap L m j N d0 c w0 wr fv HC.out HCS.out (by omega) (by omega) hsz
      clear hL hJ hi'
      go_wp2_with fail
      refine Calls.mono HSW.out ?_
      rintro e w1 ⟨rfl,c',hc',hw⟩
      have HC':Hid _:=hc'
      have HW:Hid _:=hw
      clear hc' hw HSW
      go_wp2_with fail
      have hi':=HT.out
      have hL:=HL.out
      refine ⟨⟨i',j,L + j,c',by go_num,rfl,by omega,hj,?_,HJ.out,HC'.out,?_⟩,by simp [intOf];omega⟩
      · unfold Hid;omega
      · rw [hi'];have h0:=HW.out;rw [<- HL.out] at h0;have h2:=HR.out;exact Rin.more h2 hij h0
end Go.Proofs.YtjmpjfikcgccdaaGreatDoor.SyR
