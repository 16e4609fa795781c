/-
  Part of the proof of BaseFindsCard (BA15 and on).
-/
import Derived.Test.YtjmpjfikcgccdaaGreatDoorB32
namespace Go.Proofs.YtjmpjfikcgccdaaGreatDoor.Bs
open Go.RowKit Go.Shelf Go.Maps
open It Nr Ce
section
variable {P:Program} {Q:Exit -> Act -> World -> Prop} {a:Act} {w:World} {o:Oper} {K:Act -> World -> Prop}
theorem op_mapUpd (hdn:o.dst = none) (t:TypeId) (m s x:Operand) (ho:o.op = .mapUpdate t m s x) (u y z:Value) (w1:World) (hm:a.eval m = u) (hs:a.eval s = y) (hx:a.eval x = z) (hrun:(Instr.mapUpdate t u y z).run P w = .ok () w1) (h:K a w1):o.wp P a w K Q:=by
  unfold Oper.wp
  simp [execOp,ho,hm,hs,hx,hrun,Result.andThen]
  simp only [Oper.upon_skip,hdn,Act.put]
  exact h
end
theorem putI_len {L:List ItD} (h:(nm L).Nodup) (x:ItD) (h60:isN L x.x.name = true ∨ L.length < 60) (hl:L.length <= 60):(putI L x).length <= 60:=by
  have:=noI_len h x.x.name
  unfold putI
  rw [List.length_cons]
  rcases h60 with h6 | h6
  · rw [if_pos h6] at this;omega
  · omega
theorem putI_mem {L:List ItD} {x d:ItD} (h:d ∈ putI L x):d = x ∨ d ∈ L:=by
  unfold putI at h
  rcases List.mem_cons.1 h with h | h
  · exact Or.inl h
  · exact Or.inr (noI_mem.1 h).1
theorem bse_next {w w':World} {Z:Nat -> Prop} {bb vb mt mn pc:Nat} {dim:Int} {L N N':List ItD} (h:Bse w Z bb vb dim L N mt mn pc) (hs:∀ k,k < w.heap.size -> k ≠ mn -> w'.heap[k]? = w.heap[k]?) (hz:∀ k,Z k -> k < w.heap.size) (hn:IM w' mn N') (ho:Okl w' (more Z w w') dim N'):Bse w' (more Z w w') bb vb dim L N' mt mn pc:=by
  obtain ⟨C,v,os,hc⟩:=h.cel
  have hzs:∀ k,Z k -> w'.heap[k]? = w.heap[k]?:=fun k hk => hs k (hz k hk) (fun e => h.zn (by rw [<- e];exact hk))
  have hl1:=h.next.lt
  have hl2:=h.blk.lt
  refine ⟨(hs bb hl2 (im_ne h.next h.blk).symm).trans h.blk,h.there.same (hzs mt h.zt),hn,⟨C,v,os,(hc.same hzs).mono fun k hk => Or.inl hk⟩,fun hx => ?_,fun hx => ?_,Or.inl h.zt,(h.okL.same hzs).mono fun k hk => Or.inl hk,ho⟩
  · rcases hx with hx | hx
    · exact h.zb hx
    · omega
  · rcases hx with hx | hx
    · exact h.zn hx
    · omega
set_option maxRecDepth 100000 in
set_option maxHeartbeats 2000000 in
theorem put_ok (bb vb mt mn pc:Nat) (dim:Int) (L N:List ItD) (Z:Nat -> Prop) (x:ItD) (w:World) (hB:Bse w Z bb vb dim L N mt mn pc) (hz:∀ k,Z k -> k < w.heap.size) (hx:x.Ok w) (hd:1 <= dim) (hr:rightB x.x dim = true) (h60:isN N x.x.name = true ∨ N.length < 60) :
    Calls Tryz.prog 17 #[.pointer (some ⟨bb,0,none⟩),.agg x.arr] w fun e w' => e = .returned .nilIface ∧ (∃ y:ItD,y.x = x.x ∧ Bse w' (more Z w w') bb vb dim L (putI N y) mt mn pc) ∧ Dv.Chg w w' (fun k => k = mn):=by
  have hnl:x.x.name.size <= maxLen:=hx.2.2.1
  have HZ:Hid (∀ k,Z k -> k < w.heap.size):=hz
  have HNL:Hid (x.x.name.size <= maxLen):=hnl
  have H60:Hid (isN N x.x.name = true ∨ N.length < 60):=h60
  clear hz hnl h60
  obtain ⟨⟨nm,tg,zs⟩,xa,xc⟩:=x
  show Calls Tryz.prog 17 #[.pointer (some ⟨bb,0,none⟩),.agg #[.string nm,.string tg,.slice xa zs.length xc]] w _
  have hd':(dim == 0) = false:=by rw [beq_eq_false_iff_ne];omega
  have s1:=below_alloc w (.cells #[.string nm,.string tg,.slice xa zs.length xc] 45)
  have j1:Blk (w.alloc (.cells #[.string nm,.string tg,.slice xa zs.length xc] 45)) w.heap.size #[.string nm,.string tg,.slice xa zs.length xc] 45:=Blk.new w _ _
  have hb1:=hB.blk.below s1 hB.blk.lt
  have hx1:=hx.below s1
  have hzz:w.heap.size < (w.alloc (.cells #[.string nm,.string tg,.slice xa zs.length xc] 45)).heap.size:=by simp
  go_enter Tryz.func17,Tryz.ntmps17
  go_wp2_with fail
  generalize w.alloc (.cells #[.string nm,.string tg,.slice xa zs.length xc] 45) = w1 at *
  have HD:Hid _:=dim_any bb (.pointer (some ⟨vb,0,none⟩)) (.map (some mt)) (.map (some mn)) (.pointer (some ⟨pc,0,none⟩)) dim w1 hb1
  refine Calls.mono HD.out ?_
  rintro e w2 ⟨rfl,hw⟩
  obtain rfl:w1 = w2:=hw.symm
  clear hw HD
  have HR:Hid (∀ W,Below w1.heap.size w1 W -> Calls Tryz.prog 59 #[.agg #[.string nm,.string tg,.slice xa zs.length xc],.int .i64 dim] W fun e w' => e = .returned (.bool true) ∧ Below W.heap.size W w'):=fun W hW => by
    have h:=right_any ⟨⟨nm,tg,zs⟩,xa,xc⟩ dim W (hx1.below hW)
    rw [hr] at h
    exact h
  have HB:Hid (Blk w1 bb #[.pointer (some ⟨vb,0,none⟩),.int .i64 dim,.map (some mt),.map (some mn),.pointer (some ⟨pc,0,none⟩)] 131):=hb1
  have HJ:Hid (Blk w1 w.heap.size #[.string nm,.string tg,.slice xa zs.length xc] 45):=j1
  have HS:Hid (Below w.heap.size w w1):=s1
  have HX:Hid (ItD.Ok w1 ⟨⟨nm,tg,zs⟩,xa,xc⟩):=hx1
  have HBS:Hid (Bse w Z bb vb dim L N mt mn pc):=hB
  have HRB:Hid (rightB ⟨nm,tg,zs⟩ dim = true):=hr
  obtain ⟨bx,hbx⟩:∃ bx,Hid (w.heap.size = bx):=⟨_,rfl⟩
  rw [hbx.out] at HJ hzz
  rw [hbx.out]
  clear hb1 j1 s1 hx1 hx hB hr
  go_wp2_with fail
  have s0:Below w1.heap.size w1 w1.drew:=below_drewN (Below.refl _ _) 1
  refine regS_in 7 (fun W => Below w1.heap.size w1 W) Nr.mixed rfl ?_
  refine regS_take 0 11 (.agg #[.string nm,.string tg,.slice xa zs.length xc]) rfl rfl (by kernel_rfl) (fun _ _ _ h => h) (by kernel_rfl) (fun W hW => exec_item _ rfl rfl (HJ.out.below hW hzz) rfl) s0 ?_
  refine regS_take 1 12 (.pointer (some ⟨bb,0,none⟩)) rfl rfl (by kernel_rfl) (fun _ _ _ h => h) (by kernel_rfl) (fun W hW => by go_simp) s0 ?_
  refine regS_take 2 13 (.pointer (some ⟨bb,0,none⟩)) rfl rfl (by kernel_rfl) (fun _ _ _ h => h) (by kernel_rfl) (fun W hW => by go_simp) s0 ?_
  refine regS_take 3 14 (.pointer (some ⟨bb,1,none⟩)) rfl rfl (by kernel_rfl) (fun _ _ _ h => h) (by kernel_rfl) (fun W hW => by go_simp) s0 ?_
  refine regS_take 4 15 (.int .i64 dim) rfl rfl (by kernel_rfl) (fun _ _ _ h => h) (by kernel_rfl) (fun W hW => by have a0:=(HB.out.below hW HB.out.lt).cell 1;go_simp) s0 ?_
  simp only [Act.put,List.setIfInBounds_toArray,List.set_cons_succ,List.set_cons_zero]
  refine regS_one 5 rfl (by kernel_rfl) (by kernel_rfl) (fun K hK => ?_)
  go_wp2_with fail
  refine Calls.mono (HR.out _ s0) ?_
  rintro e w3 ⟨rfl,g3⟩
  have s1:=s0.trans (g3.mono s0.size)
  refine hK _ _ s1 ?_
  clear hK K HR g3
  refine regS_take 6 17 (.bool false) rfl rfl (by kernel_rfl) (fun _ _ _ h => h) (by kernel_rfl) (fun W hW => by go_simp) s1 ?_
  refine regS_end (by kernel_rfl) ?_
  simp only [Act.put,List.setIfInBounds_toArray,List.set_cons_succ,List.set_cons_zero]
  have HB3:Hid (Blk w3 bb #[.pointer (some ⟨vb,0,none⟩),.int .i64 dim,.map (some mt),.map (some mn),.pointer (some ⟨pc,0,none⟩)] 131):=HB.out.below s1 HB.out.lt
  have HJ3:Hid (Blk w3 bx #[.string nm,.string tg,.slice xa zs.length xc] 45):=HJ.out.below s1 HJ.out.lt
  have HS3:Hid (Below w.heap.size w w3):=HS.out.trans (s1.mono HS.out.size)
  have HX3:Hid (ItD.Ok w3 ⟨⟨nm,tg,zs⟩,xa,xc⟩):=HX.out.below s1
  have HN3:Hid (IM w3 mn N):=HBS.out.next.below HS3.out HBS.out.next.lt
  obtain ⟨u,arr,hu,hau,ha1⟩:∃ u,∃ arr:Array Value,(lk N nm).getD (.agg #[.string ByteArray.empty,.string ByteArray.empty,.slice none 0 0]) = u ∧ u = .agg arr ∧ (arr.size = 3 ∧ ∀ v ∈ arr.toList,v.oneCell' = true):=by
    cases hq:lk N nm with
    | none => exact ⟨_,_,rfl,rfl,rfl,hone3 _ _ _ rfl⟩
    | some v =>
      obtain ⟨d,_,_,rfl⟩:=lk_some hq
      exact ⟨_,d.arr,rfl,rfl,rfl,hone3 _ _ _ rfl⟩
  subst hau
  have HLK:Hid (∀ W,Below w3.heap.size w3 W -> (Instr.lookup 128 (.map (some mn)) (.string nm) true).run Tryz.prog W = .ok (.tuple #[.agg arr,.bool (isN N nm)]) W):=fun W hW => by
    have h:=run_lookTok Tryz.underlying9 pt45 _ It.zeroIt (MapT.of (HN3.out.below hW HN3.out.lt).mapS) (i:=nm) HX3.out.2.2.1
    rw [hu,lk_isSome] at h
    exact h
  obtain ⟨has,haone⟩:=ha1
  clear hu HB HJ HS HX s1 s0
  go_wp2_with fail
  have s0:Below w3.heap.size w3 w3.drew:=below_drewN (Below.refl _ _) 1
  refine regS_in 13 (fun W => Below w3.heap.size w3 W) Nr.mixed rfl ?_
  generalize w3.drew = wd at *
  refine regS_take 0 20 (.pointer (some ⟨bb,0,none⟩)) rfl rfl (by kernel_rfl) (fun _ _ _ h => h) (by kernel_rfl) (fun W hW => by go_simp) s0 ?_
  refine regS_take 1 21 (.pointer (some ⟨bb,0,none⟩)) rfl rfl (by kernel_rfl) (fun _ _ _ h => h) (by kernel_rfl) (fun W hW => by go_simp) s0 ?_
  refine regS_take 2 22 (.pointer (some ⟨bb,3,none⟩)) rfl rfl (by kernel_rfl) (fun _ _ _ h => h) (by kernel_rfl) (fun W hW => by go_simp) s0 ?_
  refine regS_take 3 23 (.map (some mn)) rfl rfl (by kernel_rfl) (fun _ _ _ h => h) (by kernel_rfl) (fun W hW => by have a0:=(HB3.out.below hW HB3.out.lt).cell 3;go_simp) s0 ?_
  refine regS_take 4 24 (.pointer (some ⟨bx,0,none⟩)) rfl rfl (by kernel_rfl) (fun _ _ _ h => h) (by kernel_rfl) (fun W hW => by go_simp) s0 ?_
  refine regS_take 5 25 (.string nm) rfl rfl (by kernel_rfl) (fun _ _ _ h => h) (by kernel_rfl) (fun W hW => by have a0:=(HJ3.out.below hW HJ3.out.lt).cell 0;go_simp) s0 ?_
  refine regS_take 6 26 (.tuple #[.agg arr,.bool (isN N nm)]) rfl rfl (by kernel_rfl) (fun _ _ _ h => h) (by kernel_rfl) (fun W hW => by have a0:=HLK.out W hW;go_simp) s0 ?_
  refine regS_take 7 19 (.tuple #[.agg arr,.bool (isN N nm)]) rfl rfl (by kernel_rfl) (fun _ _ _ h => h) (by kernel_rfl) (fun W hW => by go_simp) s0 ?_
  refine regS_take 8 27 (.agg arr) rfl rfl (by kernel_rfl) (fun _ _ _ h => h) (by kernel_rfl) (fun W hW => by go_simp) s0 ?_
  refine regS_take 9 28 (.bool (isN N nm)) rfl rfl (by kernel_rfl) (fun _ _ _ h => h) (by kernel_rfl) (fun W hW => by go_simp) s0 ?_
  simp only [Act.put,List.setIfInBounds_toArray,List.set_cons_succ,List.set_cons_zero]
  have s4:=s0.trans ((below_alloc wd (.cells #[.string ⟨#[]⟩,.string ⟨#[]⟩,.slice none 0 0] 45)).mono s0.size)
  have j4:Blk (wd.alloc (.cells #[.string ⟨#[]⟩,.string ⟨#[]⟩,.slice none 0 0] 45)) wd.heap.size #[.string ⟨#[]⟩,.string ⟨#[]⟩,.slice none 0 0] 45:=Blk.new _ _ _
  refine regS_one 10 rfl (by kernel_rfl) (by kernel_rfl) (fun K hK => ?_)
  have HK:Hid _:=hK
  clear hK
  go_wp2_with fail
  refine HK.out _ _ s4 ?_
  clear HK K
  generalize wd.alloc (.cells #[.string ⟨#[]⟩,.string ⟨#[]⟩,.slice none 0 0] 45) = w4 at *
  refine regS_one 11 rfl (by kernel_rfl) (by kernel_rfl) (fun K hK => ?_)
  refine Su.op_storeV rfl 45 _ _ rfl 3 It.szIt wd.heap.size _ 45 arr haone rfl rfl j4 rfl has ?_
  intro w5 hu5 j5
  have s5:Below w3.heap.size w3 w5:=below_upd s4 hu5 s0.size
  refine hK _ _ s5 ?_
  clear hK K j4 j5 s4 s0
  refine regS_take 12 6 (.bool (isN N nm)) rfl rfl (by kernel_rfl) (fun _ _ _ h => h) (by kernel_rfl) (fun W hW => by go_simp) s5 ?_
  refine regS_end (by kernel_rfl) ?_
  simp only [Act.put,List.setIfInBounds_toArray,List.set_cons_succ,List.set_cons_zero]
  have HB5:Hid (Blk w5 bb #[.pointer (some ⟨vb,0,none⟩),.int .i64 dim,.map (some mt),.map (some mn),.pointer (some ⟨pc,0,none⟩)] 131):=HB3.out.below s5 HB3.out.lt
  have HJ5:Hid (Blk w5 bx #[.string nm,.string tg,.slice xa zs.length xc] 45):=HJ3.out.below s5 HJ3.out.lt
  have HS5:Hid (Below w.heap.size w w5):=HS3.out.trans (s5.mono HS3.out.size)
  have HX5:Hid (ItD.Ok w5 ⟨⟨nm,tg,zs⟩,xa,xc⟩):=HX3.out.below s5
  have HN5:Hid (IM w5 mn N):=HN3.out.below s5 HN3.out.lt
  have hlen:∀ ty,(Builtin.len_ #[128] ty #[.map (some mn)]).run Tryz.prog w5 = .ok (.int .i64 N.length) w5:=fun ty => HN5.out.len pt45 ty
  have c3:=HB5.out.cell 3
  clear HLK HB3 HJ3 HS3 HX3 HN3 s5 hu5 has haone
  have hnl2:(nm.size:Nat) <= maxLen:=HNL.out
  have hzl:0 < zs.length:=by obtain ⟨_,h2,_⟩:=right_parts HRB.out;have h2':(zs.length:Int) = dim:=h2;omega
  have hzh:zs.length <= 100:=by obtain ⟨h1,h2,_⟩:=right_parts HRB.out;have h2':(zs.length:Int) = dim:=h2;omega
  have HCP:Hid (∀ W,Below w5.heap.size w5 W -> Calls Tryz.prog 60 #[.agg #[.string nm,.string tg,.slice xa zs.length xc]] W fun e w' => (∃ y:ItD,e = .returned (.agg y.arr) ∧ y.x = ⟨nm,tg,zs⟩ ∧ y.Ok w' ∧ InZ (fun k => W.heap.size <= k ∧ k < w'.heap.size) y) ∧ Below W.heap.size W w'):=fun W hW => copied_any ⟨⟨nm,tg,zs⟩,xa,xc⟩ W (HX5.out.below hW) hzl hzh
  clear hnl2 hzl hzh
  rcases H60.out with hN | hN
  rotate_left
  cases hN2:isN N nm
  all_goals (
    try rw [hN]
    try have hge1:decide ((60:Int) <= (N.length:Int)) = false:=by rw [decide_eq_false_iff_not];omega
    go_wp2_with fail
    have HO60:Hid (isN N nm = true ∨ N.length < 60):=H60.out
    clear hlen c3
    have hbn:¬ bb = mn:=fun e => im_ne HBS.out.next HBS.out.blk e.symm
    have hxn:¬ bx = mn:=by have:=HBS.out.next.lt;have:=hbx.out;omega
    have s0:Below w5.heap.size w5 w5.drew:=below_drewN (Below.refl _ _) 1
    refine regS_in 9 (fun W => Dv.Chg w5 W (fun k => k = mn)) Nr.mixed rfl ?_
    generalize w5.drew = wd2 at *
    have t0:Dv.Chg w5 wd2 (fun k => k = mn):=Dv.Chg.of s0 _
    refine regS_take 0 40 (.pointer (some ⟨bb,0,none⟩)) rfl rfl (by kernel_rfl) (fun _ _ _ h => h) (by kernel_rfl) (fun W hW => by go_simp) t0 ?_
    refine regS_take 1 41 (.pointer (some ⟨bb,0,none⟩)) rfl rfl (by kernel_rfl) (fun _ _ _ h => h) (by kernel_rfl) (fun W hW => by go_simp) t0 ?_
    refine regS_take 2 42 (.pointer (some ⟨bb,3,none⟩)) rfl rfl (by kernel_rfl) (fun _ _ _ h => h) (by kernel_rfl) (fun W hW => by go_simp) t0 ?_
    refine regS_take 3 43 (.map (some mn)) rfl rfl (by kernel_rfl) (fun _ _ _ h => h) (by kernel_rfl) (fun W hW => by have a0:=(HB5.out.chg hW hbn).cell 3;go_simp) t0 ?_
    refine regS_take 4 44 (.pointer (some ⟨bx,0,none⟩)) rfl rfl (by kernel_rfl) (fun _ _ _ h => h) (by kernel_rfl) (fun W hW => by go_simp) t0 ?_
    refine regS_take 5 45 (.string nm) rfl rfl (by kernel_rfl) (fun _ _ _ h => h) (by kernel_rfl) (fun W hW => by have a0:=(HJ5.out.chg hW hxn).cell 0;go_simp) t0 ?_
    refine regS_take 6 46 (.agg #[.string nm,.string tg,.slice xa zs.length xc]) rfl rfl (by kernel_rfl) (fun _ _ _ h => h) (by kernel_rfl) (fun W hW => exec_item _ rfl rfl (HJ5.out.chg hW hxn) rfl) t0 ?_
    simp only [Act.put,List.setIfInBounds_toArray,List.set_cons_succ,List.set_cons_zero]
    refine regS_one 7 rfl (by kernel_rfl) (by kernel_rfl) (fun K hK => ?_)
    have HK:Hid _:=hK
    clear hK
    go_wp2_with fail
    refine Calls.mono (HCP.out _ s0) ?_
    rintro e w6 ⟨⟨y,rfl,hy,hyo,hyz⟩,g6⟩
    have s6:=s0.trans (g6.mono s0.size)
    have hs06:=s0.size
    have t6:Dv.Chg w5 w6 (fun k => k = mn):=Dv.Chg.of s6 _
    refine HK.out _ _ t6 ?_
    clear HK K HCP s0 t0
    have HN6:Hid (IM w6 mn N):=HN5.out.below s6 HN5.out.lt
    have hyn:y.x.name = nm:=by rw [hy]
    obtain ⟨w7,hrun,hM7,hu7⟩:=HN6.out.store pt45 (by have:=HBS.out.okN.2;unfold maxLen;omega) y (by rw [hyn];exact HNL.out)
    rw [hyn] at hrun
    have t7:Dv.Chg w5 w7 (fun k => k = mn):=t6.upd hu7 (Or.inl rfl)
    refine regS_last 8 rfl (by kernel_rfl) (by kernel_rfl) (fun K hK => ?_)
    refine op_mapUpd rfl 128 _ _ _ rfl (.map (some mn)) (.string nm) (av y) w7 rfl rfl rfl hrun ?_
    refine hK _ _ t7 ?_
    clear hK K hrun
    go_wp2_with fail
    go_ret
    have hc7:Dv.Chg w w7 (fun k => k = mn):=(Dv.Chg.of HS5.out _).trans t7
    have h57:=t7.size
    have h67:w7.heap.size = w6.heap.size:=hu7.size
    have hyok:y.Ok w7:=ok_same hyo hyz (fun k hk => hu7.block k (by have:=HBS.out.next.lt;have:=HS5.out.size;omega))
    have hyz7:InZ (more Z w w7) y:=fun b o e => by
      have:=hyz b o e
      have:=HS5.out.size
      exact Or.inr ⟨by omega,by omega⟩
    refine ⟨rfl,⟨y,hy,bse_next HBS.out (fun k hk hn => hc7.block k hk hn) HZ.out hM7 ⟨fun d hd => ?_,putI_len HBS.out.next.nodup y (by rw [hyn];exact HO60.out) HBS.out.okN.2⟩⟩,hc7⟩
    rcases putI_mem hd with rfl | hd
    · exact ⟨hyok,by rw [hy];exact HRB.out,hyz7⟩
    · have h0:=HBS.out.okN.1 d hd
      exact ⟨ok_same h0.1 h0.2.2 (fun k hk => hc7.block k (HZ.out k hk) (fun e => HBS.out.zn (by rw [<- e];exact hk))),h0.2.1,fun b o e => Or.inl (h0.2.2 b o e)⟩)
end Go.Proofs.YtjmpjfikcgccdaaGreatDoor.Bs
