/-
  Part of the proof of BaseFindsCard (CE4 and on).
-/
import Derived.Test.YtjmpjfikcgccdaaGreatDoorB12
import Derived.Deep.CutRange
namespace Go.Proofs.YtjmpjfikcgccdaaGreatDoor.Ce
open Go.RowKit
open It Nr Sy
theorem own_set {w:World} {B g n cap:Nat} {e:TypeId} {z:Nat} {xs:List Value} (h:w.ownsRow B e z (.slice (some ⟨g,0,none⟩) n cap) n xs) (j:Nat) (u:Value):(w.setCell ⟨g,j,none⟩ u).ownsRow B e z (.slice (some ⟨g,0,none⟩) n cap) n (xs.set j u):=by
  obtain ⟨h1,⟨h2,_⟩ | ⟨g',cap',cur,hv,hgB,hh,hc1,hc2,hs,ht⟩⟩:=h
  · injection h2 with h2;cases h2
  · injection hv with hv1 hv2 hv3
    injection hv1 with hv1
    injection hv1 with hv1
    subst hv1 hv3
    have hb:Blk w g cur e:=hh
    refine ⟨by rw [List.length_set];exact h1,Or.inr ⟨g,cap,cur.setIfInBounds j u,rfl,hgB,hb.set j u,hc1,hc2,by rw [Array.size_setIfInBounds];exact hs,?_⟩⟩
    rw [Array.toList_setIfInBounds,List.take_set,ht]
theorem CS.merge {w w':World} {C:Nat} {os tl:List CeD} {y x:CeD} {g c:Nat} (h:CS w C (os ++ y :: x :: tl)) (hg:w.grownBy w' y.e1.ownBlock) (hr:w'.ownsRow C 45 3 (.slice (some ⟨g,0,none⟩) (y.it.length + x.it.length) c) (y.it.length + x.it.length) (flatI y.it ++ flatI x.it)) (hat:y.e1.ownBlock = some g ∨ g = w.heap.size) (hco:y.co = x.co) :
    CS w' C (os ++ (⟨y.co,y.ca,y.cc,y.it ++ x.it,some ⟨g,0,none⟩,c⟩:CeD) :: tl):=by
  have hy:y ∈ os ++ y :: x :: tl:=by simp
  have hx:x ∈ os ++ y :: x :: tl:=by simp
  have hd:=h.dis
  rw [List.pairwise_append] at hd
  obtain ⟨d1,d2,d3⟩:=hd
  obtain ⟨d4,d5⟩:=List.pairwise_cons.1 d2
  obtain ⟨d6,d7⟩:=List.pairwise_cons.1 d5
  have hyo:=h.it y hy
  have ne:∀ z ∈ os ++ tl,z.e1.ownBlock ≠ y.e1.ownBlock:=fun z hz => by
    rcases List.mem_append.1 hz with hz | hz
    · exact d3 z hz y List.mem_cons_self
    · exact (d4 z (List.mem_cons_of_mem _ hz)).symm
  have sub:∀ z ∈ os ++ tl,z ∈ os ++ y :: x :: tl:=fun z hz => by
    rcases List.mem_append.1 hz with hz | hz
    · exact List.mem_append_left _ hz
    · exact List.mem_append_right _ (List.mem_cons_of_mem _ (List.mem_cons_of_mem _ hz))
  have ne2:∀ z ∈ os ++ tl,z.e1.ownBlock ≠ some g:=fun z hz e => by
    rcases hat with h0 | h0
    · exact ne z hz (by rw [e,h0])
    · have h1:=h.it z (sub z hz)
      obtain ⟨g',e',_,hl⟩:=it_own_some h1 (h.cor z (sub z hz)).1
      rw [e] at e';injection e' with e';omega
  have mem:∀ z,z ∈ os ++ (⟨y.co,y.ca,y.cc,y.it ++ x.it,some ⟨g,0,none⟩,c⟩:CeD) :: tl -> z = ⟨y.co,y.ca,y.cc,y.it ++ x.it,some ⟨g,0,none⟩,c⟩ ∨ z ∈ os ++ tl:=fun z hz => by
    rcases List.mem_append.1 hz with hz | hz
    · exact Or.inr (List.mem_append_left _ hz)
    · rcases List.mem_cons.1 hz with hz | hz
      · exact Or.inl hz
      · exact Or.inr (List.mem_append_right _ hz)
  refine ⟨fun z hz => ?_,fun z hz => ?_,?_,fun z hz => ?_⟩
  · rcases mem z hz with rfl | hz
    · exact own_kept (h.co y hy) hg (own_apart (h.co y hy) hyo (by decide))
    · exact own_kept (h.co z (sub z hz)) hg (own_apart (h.co z (sub z hz)) hyo (by decide))
  · rcases mem z hz with rfl | hz
    · show w'.ownsRow C 45 3 (.slice _ (y.it ++ x.it).length c) (y.it ++ x.it).length (flatI (y.it ++ x.it))
      rw [List.length_append,show flatI (y.it ++ x.it) = flatI y.it ++ flatI x.it from by simp [flatI]]
      exact hr
    · exact own_kept (h.it z (sub z hz)) hg (Or.inr (ne z hz))
  · rw [List.pairwise_append]
    refine ⟨d1,List.pairwise_cons.2 ⟨fun z hz => ?_,d7⟩,fun z hz u hu => ?_⟩
    · exact (ne2 z (List.mem_append_right _ hz)).symm
    · rcases List.mem_cons.1 hu with rfl | hu
      · exact ne2 z (List.mem_append_left _ hz)
      · exact d3 z hz u (List.mem_cons_of_mem _ (List.mem_cons_of_mem _ hu))
  · rcases mem z hz with rfl | hz
    · refine ⟨fun e => (h.cor y hy).1 (List.append_eq_nil_iff.1 e).1,fun d hd => ?_⟩
      rcases List.mem_append.1 hd with hd | hd
      · exact (h.cor y hy).2 d hd
      · show d.x.nums.map begF = y.co
        rw [hco];exact (h.cor x hx).2 d hd
    · exact h.cor z (sub z hz)
theorem infoC:(Tryz.prog.info? 242).map (fun i => (i.zero,i.size,i.bytes)) = some (some (.agg #[.slice none 0 0,.slice none 0 0]),2,48):=by kernel_rfl
theorem co_ints {w:World} {C:Nat} {cs:List CeD} (h:CS w C cs) {x:CeD} (hx:x ∈ cs):Ints w x.ca x.co:=by
  obtain ⟨a,c,hv,hi,_⟩:=ints_own (h.co x hx)
  unfold CeD.e0 at hv
  injection hv with hv
  rw [hv];exact hi
def lastB (os:List CeD) (co:List Int):Bool:=match os.getLast? with
  | none => false
  | some y => decide (y.co = co)
theorem flatMap_len_le {os:List CeD}:∀ x ∈ os,x.it.length <= (os.flatMap CeD.it).length:=by
  intro x hx
  induction os with
  | nil => cases hx
  | cons y os ih =>
    rw [List.flatMap_cons,List.length_append]
    rcases List.mem_cons.1 hx with rfl | hx
    · omega
    · have:=ih hx;omega
set_option maxRecDepth 100000 in
set_option maxHeartbeats 4000000 in
theorem joined_any (a:Option Addr) (cap:Nat) (cs:List CeD) (C:Nat) (w:World) (h0:w.ownsRow C 242 2 (.slice a cs.length cap) cs.length (flatC cs)) (hC:CS w C cs) (hCw:C <= w.heap.size) (hl:cs.length <= 100) (hil:(cs.flatMap CeD.it).length <= 100) (hco:∀ x ∈ cs,x.co.length <= 100) :
    Calls Tryz.prog 179 #[.slice a cs.length cap] w fun e w' => (∃ v os,e = .returned v ∧ w'.ownsRow w.heap.size 242 2 v os.length (flatC os) ∧ CS w' C os ∧ os.flatMap CeD.it = cs.flatMap CeD.it ∧ os.length <= cs.length) ∧ Below C w w':=by
  have H0:Hid (w.ownsRow C 242 2 (.slice a cs.length cap) cs.length (flatC cs)):=h0
  have HC:Hid (CS w C cs):=hC
  have HCO:Hid _:=hco
  have HIL:Hid _:=hil
  clear h0 hC hco hil
  go_enter Tryz.func179,Tryz.ntmps179
  go_wp2_with fail
  go_loopw [3,5,6,9] (fun v _ _ i wr => ∃ (j:Nat) (os:List CeD),j <= cs.length ∧ i = .int .i64 j ∧ Hid (wr.ownsRow w.heap.size 242 2 v os.length (flatC os)) ∧ Hid (CS wr C (os ++ cs.drop j)) ∧ Hid (os.flatMap CeD.it = (cs.take j).flatMap CeD.it) ∧ os.length <= j ∧ Hid (wr.ownsRow C 242 2 (.slice a cs.length cap) cs.length (flatC cs)) ∧ Hid (∀ x ∈ os,x.co.length <= 100) ∧ w.heap.size <= wr.heap.size ∧ Below C w wr) (fun _ _ _ i _ => cs.length - (intOf i).toNat)
  case atStart => exact ⟨0,[],by omega,rfl,⟨rfl,Or.inl ⟨rfl,rfl⟩⟩,HC.out,rfl,Nat.zero_le _,H0.out,(fun _ h => (by cases h)),Nat.le_refl _,Below.refl _ _⟩
  case round =>
    obtain ⟨j,os,hj,rfl,HO,HS,HF,hoj,HA,HX,hww,br⟩:=hrel
    obtain ⟨a3,c3,hv3⟩:=own_slice HO.out
    subst hv3
    by_cases hlt:j < cs.length
    · have hlt':(j:Int) < (cs.length:Int):=by omega
      have hxj:cs[j]? = some cs[j]:=List.getElem?_eq_getElem hlt
      obtain ⟨q1,q2⟩:=flatC_cell hxj
      obtain ⟨g,cap',cur,hva,hgB,hgl,_⟩:=own_parts HA.out (by omega)
      injection hva with hva1 hva2 hva3
      subst hva1 hva3
      replace q1:=row_cell HA.out _ _ q1
      replace q2:=row_cell HA.out _ _ q2
      have HD:Hid (cs.drop j = cs[j] :: cs.drop (j + 1)):=List.drop_eq_getElem_cons hlt
      have HTK:Hid ((cs.take (j + 1)).flatMap CeD.it = (cs.take j).flatMap CeD.it ++ cs[j].it):=by unfold Hid;rw [List.take_add_one,hxj,List.flatMap_append];simp
      have hxm:cs[j] ∈ cs:=List.mem_of_getElem? hxj
      have HXL:Hid (cs[j].co.length <= 100):=HCO.out _ hxm
      have hnx:cs[j].it.length <= 100:=Nat.le_trans (flatMap_len_le _ hxm) HIL.out
      clear hxj hxm
      generalize cs[j] = x at *
      have HSx:=HS.out
      rw [HD.out] at HSx
      have HS':Hid (CS wr C (os ++ x :: cs.drop (j + 1))):=HSx
      have HXI:Hid (Ints wr x.ca x.co):=co_ints HSx (by simp)
      clear HSx HS
      obtain ⟨no,hno⟩:∃ no,os.length = no:=⟨_,rfl⟩
      have HNO:Hid (os.length = no):=hno
      rw [hno] at hoj
      have HO':Hid (wr.ownsRow w.heap.size 242 2 (.slice a3 no c3) no (flatC os)):=by have h0:=HO.out;rw [hno] at h0;exact h0
      rw [hno]
      clear hno HO
      unfold CeD.e0 at q1
      unfold CeD.e1 at q2
      have s1:=below_alloc wr (.cells #[.slice x.ca x.co.length x.cc,.slice x.ia x.it.length x.ic] 242)
      have jb:Blk (wr.alloc (.cells #[.slice x.ca x.co.length x.cc,.slice x.ia x.it.length x.ic] 242)) wr.heap.size #[.slice x.ca x.co.length x.cc,.slice x.ia x.it.length x.ic] 242:=Blk.new wr _ _
      obtain ⟨wq,hwq⟩:∃ wq,wr.alloc (.cells #[.slice x.ca x.co.length x.cc,.slice x.ia x.it.length x.ic] 242) = wq:=⟨_,rfl⟩
      obtain ⟨bb,hbb⟩:∃ bb,lastB os x.co = bb:=⟨_,rfl⟩
      have HBB:Hid (lastB os x.co = bb):=hbb
      clear hbb
      obtain ⟨ln,hln⟩:∃ ln:Int,(no:Int) - 1 = ln:=⟨_,rfl⟩
      have HLN:Hid ((no:Int) - 1 = ln):=hln
      have x1:IntKind.i64.wrap ln = ln:=by rw [IntKind.wrap_i64];omega
      have HXC:Hid (∀ W,Below wq.heap.size wq W -> W.cell? ⟨wr.heap.size,0,none⟩ = some (.slice x.ca x.co.length x.cc)):=fun W hW => by rw [<- hwq] at hW;exact (jb.below hW jb.lt).cell 0
      have HXC1:Hid (∀ W,Below wq.heap.size wq W -> W.cell? ⟨wr.heap.size,1,none⟩ = some (.slice x.ia x.it.length x.ic)):=fun W hW => by rw [<- hwq] at hW;exact (jb.below hW jb.lt).cell 1
      have HSQ:Hid (Below wr.heap.size wr wq):=by rw [<- hwq];exact s1
      have HQR:Hid (wr.heap.size < wq.heap.size):=by unfold Hid;rw [<- hwq];simp
      clear s1 jb
      go_upto_region 6 with fail
      clear hwq hln
      go_cut [27] from 16 to 26 (fun t wx => t = .bool bb ∧ Below wq.heap.size wq wx)
      case first =>
        by_cases hz:no = 0
        · have hos:os = []:=List.eq_nil_of_length_eq_zero (by rw [HNO.out,hz])
          have hbf:bb = false:=by rw [<- HBB.out,hos];rfl
          have hng:¬ (0:Int) <= ln:=by have:=HLN.out;omega
          have hcn:ln < 0:=by omega
          clear hos hz
          go_wp2_with fail
          have s0:Below wq.heap.size wq wq.drew:=below_drewN (Below.refl _ _) 1
          refine regS_in 12 (fun W => Below wq.heap.size wq W) Nr.mixed rfl ?_
          refine regS_take 0 16 (.int .i64 ln) rfl rfl (by kernel_rfl) (fun _ _ _ h => h) (by kernel_rfl) (fun W hW => by go_simp) s0 ?_
          refine regS_take 1 17 (.bool false) rfl rfl (by kernel_rfl) (fun _ _ _ h => h) (by kernel_rfl) (fun W hW => by go_simp) s0 ?_
          refine regS_take 2 18 (.bool false) rfl rfl (by kernel_rfl) (fun _ _ _ h => h) (by kernel_rfl) (fun W hW => by go_simp) s0 ?_
          refine regS_skip 3 19 rfl rfl (by kernel_rfl) (fun _ _ _ h => h) (by kernel_rfl) s0 ?_
          refine regS_skip 4 20 rfl rfl (by kernel_rfl) (fun _ _ _ h => h) (by kernel_rfl) s0 ?_
          refine regS_skip 5 21 rfl rfl (by kernel_rfl) (fun _ _ _ h => h) (by kernel_rfl) s0 ?_
          refine regS_skip 6 22 rfl rfl (by kernel_rfl) (fun _ _ _ h => h) (by kernel_rfl) s0 ?_
          refine regS_skip 7 23 rfl rfl (by kernel_rfl) (fun _ _ _ h => h) (by kernel_rfl) s0 ?_
          refine regS_skip 8 24 rfl rfl (by kernel_rfl) (fun _ _ _ h => h) (by kernel_rfl) s0 ?_
          refine regS_skip 9 25 rfl rfl (by kernel_rfl) (fun _ _ _ h => h) (by kernel_rfl) s0 ?_
          refine regS_skip 10 26 rfl rfl (by kernel_rfl) (fun _ _ _ h => h) (by kernel_rfl) s0 ?_
          refine regS_take 11 27 (.bool false) rfl rfl (by kernel_rfl) (fun _ _ _ h => h) (by kernel_rfl) (fun W hW => by go_simp) s0 ?_
          refine regS_end (by kernel_rfl) ?_
          simp only [Act.put,List.setIfInBounds_toArray,List.set_cons_succ,List.set_cons_zero]
          go_wp2_with fail
          go_meet
          exact ⟨by rw [hbf],s0⟩
        · obtain ⟨init,y,hos⟩:∃ init y,os = init ++ [y]:=by
            have h:os ≠ []:=fun e => hz (by rw [<- HNO.out,e];rfl)
            exact ⟨os.dropLast,os.getLast h,(List.dropLast_concat_getLast h).symm⟩
          obtain ⟨l,hl⟩:∃ l,init.length = l:=⟨_,rfl⟩
          have hnl:no = l + 1:=by rw [<- HNO.out,hos,List.length_append,hl];rfl
          have hrow:=ownsRow_below HO'.out HSQ.out
          obtain ⟨go,cap3,cur3,hv3,hgo,hgol,_⟩:=own_parts hrow (by omega)
          injection hv3 with hv31 hv32 hv33
          subst hv31 hv33
          have hyl:os[l]? = some y:=by rw [hos,<- hl];simp
          have HYC:Hid (∀ W,Below wq.heap.size wq W -> W.cell? ⟨go,l * 2,none⟩ = some (.slice y.ca y.co.length y.cc)):=fun W hW => by
            have:=row_cell (ownsRow_below hrow hW) _ _ (flatC_cell hyl).1
            exact this
          have hbf:decide (y.co = x.co) = bb:=by rw [<- HBB.out,hos];unfold lastB;rw [List.getLast?_append];rfl
          have hym:y ∈ os:=by rw [hos];simp
          have HYI:Hid (Ints wr y.ca y.co):=co_ints HS'.out (List.mem_append_left _ hym)
          have HYL:Hid (y.co.length <= 100):=HX.out y hym
          have HQ:Hid _:=eqInts_any y.ca x.ca y.cc x.cc y.co x.co wq.drew ((HYI.out.below HSQ.out).below (below_drewN (Below.refl _ _) 1)) ((HXI.out.below HSQ.out).below (below_drewN (Below.refl _ _) 1)) HYL.out
          rw [hbf] at HQ
          obtain rfl:ln = (l:Int):=by have:=HLN.out;omega
          have i2:(l:Int) < (no:Int):=by omega
          have i3:(0:Int) <= (l:Int):=by omega
          clear hos hl hnl hrow hyl hbf hym hz
          go_wp2_with fail
          have s0:Below wq.heap.size wq wq.drew:=below_drewN (Below.refl _ _) 1
          refine regS_in 12 (fun W => Below wq.heap.size wq W) Nr.mixed rfl ?_
          refine regS_take 0 16 (.int .i64 (l:Int)) rfl rfl (by kernel_rfl) (fun _ _ _ h => h) (by kernel_rfl) (fun W hW => by go_simp) s0 ?_
          refine regS_take 1 17 (.bool true) rfl rfl (by kernel_rfl) (fun _ _ _ h => h) (by kernel_rfl) (fun W hW => by go_simp) s0 ?_
          refine regS_take 2 18 (.bool true) rfl rfl (by kernel_rfl) (fun _ _ _ h => h) (by kernel_rfl) (fun W hW => by go_simp) s0 ?_
          refine regS_take 3 19 (.slice (some ⟨go,0,none⟩) no c3) rfl rfl (by kernel_rfl) (fun _ _ _ h => h) (by kernel_rfl) (fun W hW => by go_simp) s0 ?_
          refine regS_take 4 20 (.int .i64 (l:Int)) rfl rfl (by kernel_rfl) (fun _ _ _ h => h) (by kernel_rfl) (fun W hW => by go_simp) s0 ?_
          refine regS_take 5 21 (.pointer (some ⟨go,l * 2,none⟩)) rfl rfl (by kernel_rfl) (fun _ _ _ h => h) (by kernel_rfl) (fun W hW => by go_simp) s0 ?_
          refine regS_take 6 22 (.pointer (some ⟨go,l * 2,none⟩)) rfl rfl (by kernel_rfl) (fun _ _ _ h => h) (by kernel_rfl) (fun W hW => by go_simp) s0 ?_
          refine regS_take 7 23 (.slice y.ca y.co.length y.cc) rfl rfl (by kernel_rfl) (fun _ _ _ h => h) (by kernel_rfl) (fun W hW => by have a0:=HYC.out W hW;go_simp) s0 ?_
          refine regS_take 8 24 (.pointer (some ⟨wr.heap.size,0,none⟩)) rfl rfl (by kernel_rfl) (fun _ _ _ h => h) (by kernel_rfl) (fun W hW => by go_simp) s0 ?_
          refine regS_take 9 25 (.slice x.ca x.co.length x.cc) rfl rfl (by kernel_rfl) (fun _ _ _ h => h) (by kernel_rfl) (fun W hW => by have a0:=HXC.out W hW;go_simp) s0 ?_
          simp only [Act.put,List.setIfInBounds_toArray,List.set_cons_succ,List.set_cons_zero]
          refine regS_one 10 rfl (by kernel_rfl) (by kernel_rfl) (fun K hK => ?_)
          go_wp2_with fail
          refine Calls.mono HQ.out ?_
          rintro e w3 ⟨rfl,g3⟩
          have s1:=s0.trans (g3.mono s0.size)
          refine hK _ _ s1 ?_
          clear hK K HQ g3
          refine regS_take 11 27 (.bool bb) rfl rfl (by kernel_rfl) (fun _ _ _ h => h) (by kernel_rfl) (fun W hW => by go_simp) s1 ?_
          refine regS_end (by kernel_rfl) ?_
          simp only [Act.put,List.setIfInBounds_toArray,List.set_cons_succ,List.set_cons_zero]
          go_wp2_with fail
          go_meet
          exact ⟨rfl,s1⟩
      case rest =>
        obtain ⟨rfl,g3⟩:=hcut
        have bw:Below wr.heap.size wr wc:=HSQ.out.trans (g3.mono (Nat.le_of_lt HQR.out))
        have HX0:Hid (wc.cell? ⟨wr.heap.size,0,none⟩ = some (.slice x.ca x.co.length x.cc)):=HXC.out wc g3
        have HX1:Hid (wc.cell? ⟨wr.heap.size,1,none⟩ = some (.slice x.ia x.it.length x.ic)):=HXC1.out wc g3
        have HA2:Hid (wc.ownsRow C 242 2 (.slice (some ⟨g,0,none⟩) cs.length cap) cs.length (flatC cs)):=ownsRow_below HA.out bw
        have HO2:Hid (wc.ownsRow w.heap.size 242 2 (.slice a3 no c3) no (flatC os)):=ownsRow_below HO'.out bw
        have HS2:Hid (CS wc C (os ++ x :: cs.drop (j + 1))):=CS.below HS'.out bw
        have hwc:w.heap.size <= wc.heap.size:=Nat.le_trans hww bw.size
        have HBW:Hid (Below C w wc):=br.trans (bw.mono (Nat.le_trans hCw hww))
        have HAG:Hid (g < w.heap.size):=by
          obtain ⟨_,_,_,hv,_,hl,_⟩:=own_parts H0.out (by omega)
          injection hv with hv;injection hv with hv;injection hv with hv
          rw [hv];exact hl
        clear g3 HXC HXC1 HA HO' HS' HSQ HQR bw HXI br hww
        cases bb with
        | true =>
          have hos0:os ≠ []:=fun e => by have:=HBB.out;rw [e] at this;cases this
          obtain ⟨init,y,hos⟩:∃ init y,os = init ++ [y]:=⟨os.dropLast,os.getLast hos0,(List.dropLast_concat_getLast hos0).symm⟩
          obtain ⟨l,hl0⟩:∃ l,init.length = l:=⟨_,rfl⟩
          have hnl:no = l + 1:=by rw [<- HNO.out,hos,List.length_append,hl0];rfl
          have hyco:y.co = x.co:=by
            have:=HBB.out
            rw [hos] at this
            unfold lastB at this
            rw [List.getLast?_append] at this
            exact of_decide_eq_true this
          obtain ⟨go,cap3,cur3,hv3,hgo,hgol,_⟩:=own_parts HO2.out (by omega)
          injection hv3 with hv31 hv32 hv33
          subst hv31 hv33
          have hyl:os[l]? = some y:=by rw [hos,<- hl0];simp
          have HY1:Hid (wc.cell? ⟨go,l * 2 + 1,none⟩ = some (.slice y.ia y.it.length y.ic)):=row_cell HO2.out _ _ (flatC_cell hyl).2
          have hsy:CS wc C (init ++ y :: x :: cs.drop (j + 1)):=by have h0:=HS2.out;rw [hos,List.append_assoc] at h0;exact h0
          have HSY:Hid (CS wc C (init ++ y :: x :: cs.drop (j + 1))):=hsy
          have HOS:Hid (os = init ++ [y] ∧ init.length = l ∧ no = l + 1 ∧ y.co = x.co):=⟨hos,hl0,hnl,hyco⟩
          obtain rfl:ln = (l:Int):=by have:=HLN.out;omega
          have i2:(l:Int) < (no:Int):=by omega
          have hny:y.it.length <= 100:=by
            have h1:=HF.out
            have h2:y.it.length <= (os.flatMap CeD.it).length:=flatMap_len_le _ (by rw [hos];simp)
            rw [h1] at h2
            have h3:((cs.take j).flatMap CeD.it).length <= (cs.flatMap CeD.it).length:=by
              have e:=congrArg (List.flatMap CeD.it) (List.take_append_drop j cs)
              rw [List.flatMap_append] at e
              rw [<- e,List.length_append];omega
            have:=HIL.out
            omega
          have HR1:Hid (wc.ownsRow C 45 3 (.slice y.ia y.it.length y.ic) y.it.length (flatI y.it)):=hsy.it y (by simp)
          have HR2:Hid (wc.ownsRow C 45 3 (.slice x.ia x.it.length x.ic) x.it.length (flatI x.it)):=hsy.it x (by simp)
          have hxp:0 < x.it.length:=List.length_pos_iff.2 (hsy.cor x (by simp)).1
          have hcw:C <= wc.heap.size:=Nat.le_trans hCw hwc
          clear hos0 hos hl0 hnl hyco hyl hsy
          go_wp2_with fail
          have HX0d:Hid (wc.drew.cell? ⟨go,l * 2 + 1,none⟩ = some (.slice y.ia y.it.length y.ic) ∧ wc.drew.cell? ⟨wr.heap.size,1,none⟩ = some (.slice x.ia x.it.length x.ic)):=⟨HY1.out,HX1.out⟩
          refine region_s [(0,true),(1,true),(2,true),(3,true),(4,true),(5,true),(6,false),(7,true),(8,false)] [] [9,10,11,12] (fun W => W.cell? ⟨go,l * 2 + 1,none⟩ = some (.slice y.ia y.it.length y.ic) ∧ W.cell? ⟨wr.heap.size,1,none⟩ = some (.slice x.ia x.it.length x.ic)) Nr.mixed (by kernel_rfl) (fun _ _ _ _ _ h => h) HX0d.out ?_
          refine lead_pure _ rfl _ rfl rfl (.slice (some ⟨go,0,none⟩) no c3) (fun W => by go_simp) ?_
          refine lead_pure _ rfl _ rfl rfl (.int .i64 (l:Int)) (fun W => by go_simp) ?_
          refine lead_pure _ rfl _ rfl rfl (.slice (some ⟨go,0,none⟩) no c3) (fun W => by go_simp) ?_
          refine lead_pure _ rfl _ rfl rfl (.int .i64 (l:Int)) (fun W => by go_simp) ?_
          refine lead_pure _ rfl _ rfl rfl (.pointer (some ⟨go,l * 2,none⟩)) (fun W => by go_simp) ?_
          refine lead_pure _ rfl _ rfl rfl (.pointer (some ⟨go,l * 2 + 1,none⟩)) (fun W => by go_simp) ?_
          refine lead_read _ rfl _ rfl rfl (.slice y.ia y.it.length y.ic) (fun W hW => by have a0:=hW.1;go_simp) ?_
          refine lead_pure _ rfl _ rfl rfl (.pointer (some ⟨wr.heap.size,1,none⟩)) (fun W => by go_simp) ?_
          refine lead_read _ rfl _ rfl rfl (.slice x.ia x.it.length x.ic) (fun W hW => by have a0:=hW.2;go_simp) ?_
          refine lead_nil ?_
          simp only [Act.put,List.setIfInBounds_toArray,List.set_cons_succ,List.set_cons_zero]
          refine mid_nil ?_
          simp only [List.filterMap_cons,List.getElem?_toArray,List.getElem?_cons_succ,List.getElem?_cons_zero,List.filterMap_nil]
          have d0:=below_drewN (Below.refl wc.heap.size wc) 1
          refine wpl_pushM rfl _ _ 49 rfl C 45 (.agg #[.string ByteArray.empty,.string ByteArray.empty,.slice none 0 0]) 3 56 Tryz.underlying49 Nr.infoIt rfl (by decide) (.slice y.ia y.it.length y.ic) y.it.length (flatI y.it) rfl (ownsRow_below HR1.out d0) C x.it.length (.slice x.ia x.it.length x.ic) (flatI x.it) rfl (ownsRow_below HR2.out d0) (flatI_one _) hxp (by omega) (by decide) hcw ?_
          intro g7 c7 w7 ow7 gr7 hat7 hlt7
          refine wpl_val rfl (.pointer (some ⟨go,l * 2,none⟩)) (by go_simp) ?_
          simp only [Act.put,List.setIfInBounds_toArray,List.set_cons_succ,List.set_cons_zero]
          refine wpl_val rfl (.pointer (some ⟨go,l * 2 + 1,none⟩)) (by go_simp) ?_
          simp only [Act.put,List.setIfInBounds_toArray,List.set_cons_succ,List.set_cons_zero]
          have HOW7:Hid (w7.ownsRow w.heap.size 242 2 (.slice (some ⟨go,0,none⟩) no c3) no (flatC os)):=own_kept (ownsRow_below HO2.out d0) gr7 (own_apart (ownsRow_below HO2.out d0) (ownsRow_below HR1.out d0) (by decide))
          have HAW7:Hid (w7.ownsRow C 242 2 (.slice (some ⟨g,0,none⟩) cs.length cap) cs.length (flatC cs)):=own_kept (ownsRow_below HA2.out d0) gr7 (own_apart (ownsRow_below HA2.out d0) (ownsRow_below HR1.out d0) (by decide))
          have HS7:Hid (CS w7 C (init ++ (⟨y.co,y.ca,y.cc,y.it ++ x.it,some ⟨g7,0,none⟩,c7⟩:CeD) :: cs.drop (j + 1))):=CS.merge (CS.below HSY.out d0) gr7 ow7 hat7 HOS.out.2.2.2
          have HB7:Hid (Below C w w7):=by
            have h0:Below C w wc.drew:=HBW.out.trans (d0.mono hcw)
            exact row_grownBelow h0 (ownsRow_below HR1.out d0) gr7 hcw
          have hs7:w.heap.size <= w7.heap.size:=Nat.le_trans hwc gr7.size
          have c8:w7.cell? ⟨go,l * 2 + 1,none⟩ = some (.slice y.ia y.it.length y.ic):=row_cell HOW7.out _ _ (by
            have hyl:os[l]? = some y:=by rw [HOS.out.1,<- HOS.out.2.1];simp
            exact (flatC_cell hyl).2)
          have f8:w7.frozen? ⟨go,l * 2 + 1,none⟩ = false:=by
            obtain ⟨_,_,cur8,hv8,_,_,hh8,_⟩:=own_parts HOW7.out (by omega)
            injection hv8 with hv8;injection hv8 with hv8;injection hv8 with hv8
            subst hv8
            simp [World.frozen?,hh8]
          clear ow7 gr7 hat7 d0 HX0d
          go_wp2_with fail
          have u8:=setCell_upd w7 go (l * 2 + 1) (.slice (some ⟨g7,0,none⟩) (y.it.length + x.it.length) c7)
          refine ⟨⟨j + 1,init ++ [⟨y.co,y.ca,y.cc,y.it ++ x.it,some ⟨g7,0,none⟩,c7⟩],by omega,by go_num,?_,?_,?_,?_,?_,?_,?_,?_⟩,by simp [intOf];omega⟩
          · have h0:=own_set HOW7.out (l * 2 + 1) (.slice (some ⟨g7,0,none⟩) (y.it.length + x.it.length) c7)
            have e1:(init ++ [(⟨y.co,y.ca,y.cc,y.it ++ x.it,some ⟨g7,0,none⟩,c7⟩:CeD)]).length = no:=by rw [List.length_append,HOS.out.2.1,HOS.out.2.2.1];rfl
            have e2:(flatC os).set (l * 2 + 1) (.slice (some ⟨g7,0,none⟩) (y.it.length + x.it.length) c7) = flatC (init ++ [(⟨y.co,y.ca,y.cc,y.it ++ x.it,some ⟨g7,0,none⟩,c7⟩:CeD)]):=by
              have hfl:(flatC init).length = l * 2:=by rw [flatC_len,HOS.out.2.1]
              rw [HOS.out.1,flatC_snoc,flatC_snoc,List.set_append_right _ _ (by omega),hfl,show l * 2 + 1 - l * 2 = 1 from by omega]
              show _ = flatC init ++ [_,Value.slice _ (y.it ++ x.it).length c7]
              rw [List.length_append]
              rfl
            unfold Hid
            rw [e1,<- e2];exact h0
          · unfold Hid
            rw [List.append_assoc]
            exact CS.kept HS7.out HOW7.out (upd_grown u8) (by decide) (by decide)
          · unfold Hid
            have h0:=HF.out
            rw [HOS.out.1,List.flatMap_append] at h0
            rw [HTK.out,<- h0,List.flatMap_append]
            simp
          · rw [List.length_append,HOS.out.2.1];have:=HOS.out.2.2.1;simp;omega
          · refine own_kept HAW7.out (upd_grown u8) (Or.inr ?_)
            show some g ≠ some go
            intro e;injection e with e
            have:=HAG.out
            omega
          · intro z hz
            rcases List.mem_append.1 hz with hz | hz
            · exact HX.out z (by rw [HOS.out.1];exact List.mem_append_left _ hz)
            · obtain rfl:=List.mem_singleton.1 hz
              exact HX.out y (by rw [HOS.out.1];simp)
          · rw [u8.size];exact hs7
          · exact below_upd HB7.out u8 (Nat.le_trans hCw hgo)
        | false =>
          have hcw:C <= wc.heap.size:=Nat.le_trans hCw hwc
          have a8:=below_alloc wc (.cells #[.slice x.ca x.co.length x.cc,.slice x.ia x.it.length x.ic] 242)
          have ow8:=ownsRow_below HO2.out a8
          have HA8:Hid _:=ownsRow_below HA2.out a8
          have HS8:Hid _:=CS.below HS2.out a8
          have b8:=HBW.out.trans (a8.mono hcw)
          have hz8:w.heap.size <= (wc.alloc (.cells #[.slice x.ca x.co.length x.cc,.slice x.ia x.it.length x.ic] 242)).heap.size:=Nat.le_trans hwc a8.size
          have c0:=HX0.out
          have c1:=HX1.out
          go_wp2_with (first
            | (refine wpl_pushZ rfl _ _ 236 rfl w.heap.size 242 (.agg #[.slice none 0 0,.slice none 0 0]) 2 48 Tryz.underlying236 infoC rfl (by decide) (.slice a3 no c3) no (flatC os) rfl ow8 wc.heap.size 1 [.slice x.ca x.co.length x.cc,.slice x.ia x.it.length x.ic] rfl 242 (Blk.new wc _ _) rfl (fun u hu => by simp at hu;rcases hu with rfl | rfl <;> rfl) (by omega) (by decide) hz8 ?_;intro g9 c9 w9 ow9 gr9 hat9 hlt9)
            | fail)
          refine ⟨⟨j + 1,os ++ [x],by omega,by go_num,?_,?_,?_,?_,?_,?_,?_,?_⟩,by simp [intOf];omega⟩
          · unfold Hid
            rw [List.length_append,HNO.out,flatC_snoc];exact ow9
          · unfold Hid
            rw [List.append_assoc]
            exact CS.kept HS8.out ow8 gr9 (by decide) (by decide)
          · unfold Hid
            rw [HTK.out,<- HF.out,List.flatMap_append]
            simp
          · rw [List.length_append,HNO.out];simp;omega
          · refine own_kept HA8.out gr9 (Or.inr fun e => ?_)
            have h1:=(row_ownLt ow8 g e.symm).1
            have:=HAG.out
            omega
          · intro z hz
            rcases List.mem_append.1 hz with hz | hz
            · exact HX.out z hz
            · obtain rfl:=List.mem_singleton.1 hz
              exact HXL.out
          · exact Nat.le_trans hz8 gr9.size
          · exact b8.grown gr9 (Nat.le_trans hcw a8.size) (fun k hk => Nat.le_trans hCw (row_ownLt ow8 k hk).1)
    · obtain rfl:j = cs.length:=by omega
      go_wp2_with fail
      go_ret
      refine ⟨⟨_,os,rfl,HO.out,?_,?_,hoj⟩,br⟩
      · have h0:=HS.out
        rwa [List.drop_length,List.append_nil] at h0
      · have h0:=HF.out
        rwa [List.take_length] at h0
end Go.Proofs.YtjmpjfikcgccdaaGreatDoor.Ce
