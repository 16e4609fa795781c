/-
  Part of the proof of BaseFindsCard (V5 and on).
-/
import Derived.Test.YtjmpjfikcgccdaaGreatDoorB26
namespace Go.Proofs.YtjmpjfikcgccdaaGreatDoor.Vt
open Go.RowKit
theorem st0_size:st0.size = 36:=stA_size _ _ _ _ _
theorem st0_one:∀ v ∈ st0.toList,v.oneCell' = true:=stA_one _ _ _ _ _ rfl
theorem cut_all (t:Int -> Option (Int × ByteArray)):cutP t (fun i => (pv t i).isSome) = fun _ => none:=by
  funext i;unfold cutP pv;cases h:t i <;> simp [h]
theorem nxP_none (p:Int -> Option (Int × ByteArray)):nxP p (fun _ => none) = p:=by funext i;rfl
theorem nxF_none (f:Nat -> Bool):nxF f (fun _ => none) = f:=by funext i;rfl
theorem cut_step {t:Int -> Option (Int × ByteArray)} {left:Int -> Bool} {i:Int} {x:Int × ByteArray} (h:t i = some x) (hl:left i = true) (j:Int):cutP t (fun j => left j && !decide (j = i)) j = if j = i then some x else cutP t left j:=by
  unfold cutP
  by_cases e:j = i
  · subst e;simp [h]
  · simp [e]
theorem pv_nx_step {p t:Int -> Option (Int × ByteArray)} {left:Int -> Bool} {i:Int} {x:Int × ByteArray} (h:t i = some x) (hl:left i = true):(fun j => if j = i then some (ent x) else pv (nxP p (cutP t left)) j) = pv (nxP p (cutP t fun j => left j && !decide (j = i))):=by
  funext j
  unfold pv nxP
  rw [cut_step h hl]
  by_cases e:j = i
  · rw [if_pos e,if_pos e];rfl
  · rw [if_neg e,if_neg e]
theorem nxF_step {f:Nat -> Bool} {t:Int -> Option (Int × ByteArray)} {left:Int -> Bool} {k:Nat} {x:Int × ByteArray} (h:t (k:Int) = some x) (hl:left (k:Int) = true) (j:Nat):Su.putF (nxF f (cutP t left)) k (!f k) j = nxF f (cutP t fun i => left i && !decide (i = (k:Int))) j:=by
  unfold Su.putF nxF
  rw [cut_step h hl]
  by_cases e:j = k
  · subst e;simp
  · have e':¬ ((j:Int) = (k:Int)):=by omega
    rw [if_neg e,if_neg e']
theorem pv_inv {t:Int -> Option (Int × ByteArray)} {i:Int} {u:Value} (h:pv t i = some u):∃ x,t i = some x ∧ u = ent x:=by
  unfold pv at h
  cases hg:t i with
  | none => rw [hg] at h;cases h
  | some s => rw [hg] at h;injection h with h;exact ⟨s,rfl,h.symm⟩
theorem szB:(Tryz.prog.info? 4).map (·.size) = some 1:=by kernel_rfl
theorem szI:(Tryz.prog.info? 3).map (·.size) = some 1:=by kernel_rfl
theorem szT:(Tryz.prog.info? 9).map (·.size) = some 1:=by kernel_rfl
set_option maxRecDepth 100000 in
set_option maxHeartbeats 2000000 in
theorem behind_any (cn en:Int) (f:Nat -> Bool) (r:ByteArray) (mb n:Nat) (p:Int -> Option (Int × ByteArray)) (ep:Int) (tm nt:Nat) (t:Int -> Option (Int × ByteArray)) (w:World) (hM:MapF Tryz.prog w mb n (pv p)) (hT:MapF Tryz.prog w tm nt (pv t))
    (hk:∀ i,kOk i -> (t i).isSome = true -> 0 <= i ∧ i < 32) (hn:n + nt <= 100000) (hc0:0 <= cn) (hc1:cn <= 1099511627776) (hs:∀ j:Nat,j < 32 -> (rd (nxP p t) j).2.size <= 300) (hK:Sm.KB w) :
    Calls Tryz.prog 210 #[.agg (stA cn en f r (.map (some mb))),.int .i64 ep,.map (some tm)] w fun e w' =>
      (∃ CB,e = .returned (.tuple #[.agg (stA (cn + 1) ep (nxF f t) (rootP (nxP p t)) (.map (some CB))),.nilIface]) ∧ MapF Tryz.prog w' CB (n + nt) (pv (nxP p t)) ∧ w.heap.size <= CB) ∧ Below w.heap.size w w':=by
  have HK:Hid (∀ i,kOk i -> (t i).isSome = true -> 0 <= i ∧ i < 32):=hk
  have HS:Hid (∀ j:Nat,j < 32 -> (rd (nxP p t) j).2.size <= 300):=hs
  clear hk hs
  have zV:=stA_size cn en f r (.map (some mb))
  have hsup:=stA_sup cn en f r (.map (some mb)) 35 rfl
  have h35:=stA_35 cn en f r (.map (some mb))
  have HV:Hid (∀ j,j < 32 -> (stA cn en f r (.map (some mb)))[2 + j]? = some (.bool (f j))):=fun j hj => stA_side cn en f r _ j hj
  obtain ⟨V,hV⟩:∃ V,Hid (stA cn en f r (.map (some mb)) = V):=⟨_,rfl⟩
  rw [hV.out] at zV hsup h35 HV
  rw [hV.out]
  clear hV
  have zs:=zeroSt
  have zZ:=st0_size
  have oZ:=st0_one
  obtain ⟨Z,hZ⟩:∃ Z,Hid (st0 = Z):=⟨_,rfl⟩
  rw [hZ.out] at zZ oZ
  simp only [hZ.out] at zs
  clear hZ
  go_enter Tryz.func210,Tryz.ntmps210
  go_wp2_with fail
  have j0:=(Blk.new w V 189).alloc (.cells Z 189)
  have j1:Blk ((w.alloc (.cells V 189)).alloc (.cells Z 189)) (w.heap.size + 1) Z 189:=Blk.new' _ _ _ (by simp)
  have g0:Below w.heap.size w ((w.alloc (.cells V 189)).alloc (.cells Z 189)):=((Below.refl _ _).alloc (Nat.le_refl _) _).alloc (by simp) _
  have z0:((w.alloc (.cells V 189)).alloc (.cells Z 189)).heap.size = w.heap.size + 2:=by simp
  have m0:=hM.below g0 hM.lt
  have t0:=hT.below g0 hT.lt
  obtain ⟨B,hB⟩:∃ B,Hid (w.heap.size = B):=⟨_,rfl⟩
  have hmB:Hid (mb < B):=by unfold Hid;rw [<- hB.out];exact hM.lt
  have htB:Hid (tm < B):=by unfold Hid;rw [<- hB.out];exact hT.lt
  generalize (w.alloc (.cells V 189)).alloc (.cells Z 189) = w1 at *
  rw [hB.out] at j0 j1 z0
  rw [hB.out]
  clear hM hT
  have HW:Hid (∀ W',Below w1.heap.size w1 W' -> Blk W' B V 189 ∧ Blk W' (B + 1) Z 189 ∧ MapF Tryz.prog W' mb n (pv p) ∧ MapF Tryz.prog W' tm nt (pv t) ∧ Below w.heap.size w W'):=fun W' hb =>
    ⟨j0.below hb j0.lt,j1.below hb j1.lt,m0.below hb m0.lt,t0.below hb t0.lt,g0.trans (hb.mono g0.size)⟩
  refine regS_in 8 (fun W' => Below w1.heap.size w1 W') Tr.mixed rfl ?_
  have s0:Below w1.heap.size w1 w1.drew:=below_drewN (Below.refl _ _) 1
  refine regS_take 0 13 (.pointer (some ⟨B,0,none⟩)) rfl rfl (by kernel_rfl) (fun _ _ _ h => h) rfl (fun w _ => by go_simp) s0 ?_
  refine regS_take 1 14 (.agg (Su.supA cn en f r)) rfl rfl (by kernel_rfl) (fun _ _ _ h => h) rfl (fun W' hs => Su.exec_load 66 _ rfl ⟨B,0,none⟩ rfl _ (by rw [Su.loadV_run W' _ Tryz.isAgg66 35 Su.sz93 B 0 V _ (HW.out W' hs).1 (by omega),Nat.zero_add,hsup])) s0 ?_
  refine regS_take 2 15 (.pointer (some ⟨B,35,none⟩)) rfl rfl (by kernel_rfl) (fun _ _ _ h => h) rfl (fun w _ => by go_simp) s0 ?_
  refine regS_take 3 16 (.map (some mb)) rfl rfl (by kernel_rfl) (fun _ _ _ h => h) rfl (fun W' hs => by have c0:W'.cell? ⟨B,35,none⟩ = some (.map (some mb)):=(by rw [(HW.out W' hs).1.cell,h35]);go_simp) s0 ?_
  simp only [Act.put,List.setIfInBounds_toArray,List.set_cons_succ,List.set_cons_zero]
  refine wpS_fork (fun NB CB W => Bh W w B NB CB tm V Z (stA cn en f r (.map (some CB))) n nt (pv p) t) (fun NB CB => [(17,.map (some CB)),(18,.agg (stA cn en f r (.map (some CB)))),(8,.pointer (some ⟨NB,0,none⟩))]) ?_ ?_
  · intro NB CB W hBh
    clear HW s0 j0 j1 m0 t0 g0 z0
    simp only [List.foldl,Act.put,List.setIfInBounds_toArray,List.set_cons_succ,List.set_cons_zero]
    generalize Value.agg (stA cn en f r (.map (some CB))) = X18
    generalize Value.agg (Su.supA cn en f r) = X14
    have hX0:=stA_size cn en f r (.map (some CB))
    have hX1:=stA_set0 cn en f r (.map (some CB)) (cn + 1)
    have hX2:=stA_set1 (cn + 1) en f r (.map (some CB)) ep
    have cc:W.cell? ⟨NB,0,none⟩ = some (.int .i64 cn):=by rw [hBh.nb.cell,stA_0]
    have h2:=hBh.h2
    have h3:=hBh.h3
    have h5:=hBh.h5
    go_wp2_with (first
      | (refine wpl_put1 rfl rfl 3 _ _ rfl szI NB 0 _ 189 (.int .i64 (cn + 1)) rfl rfl rfl rfl hBh.nb (by omega) ?_;intro w2 hu2 j2;rw [hX1] at j2;have H2:=hBh.setN hu2 j2;have y2:=stA_size (cn + 1) en f r (.map (some CB)))
      | (refine wpl_put1 rfl rfl 3 _ _ rfl szI NB 1 _ 189 (.int .i64 ep) rfl rfl rfl rfl H2.nb (by omega) ?_;intro w3 hu3 j3;rw [hX2] at j3;have H3:=H2.setN hu3 j3)
      | (refine wpl_rangeV rfl 187 _ rfl und3 227 undE (.map (some tm)) nt (pv t) rfl (Or.inr ⟨tm,rfl,H3.tt⟩) ?_;intro w4 cnt4 hR4 hc4 hb4 hz4;have H4:=H3.below hb4)
      | fail)
    have hNR:Hid (NB < w3.heap.size):=H3.nb.lt
    have hCR:Hid (CB < w3.heap.size):=H3.cb.lt
    have hBR:Hid (B + 2 <= w3.heap.size):=by have:=H3.nb.lt;unfold Hid;omega
    have H4':Bh w4 w B NB CB tm V Z (stA (cn + 1) ep (nxF f (cutP t fun i => (pv t i).isSome)) r (.map (some CB))) n nt (pv (nxP p (cutP t fun i => (pv t i).isSome))) t:=by
      rw [cut_all,nxF_none,nxP_none];exact H4
    obtain ⟨R,hR⟩:∃ R,Hid (R = w3.heap.size):=⟨_,rfl⟩
    rw [<- hR.out] at hR4 hNR hCR hBR
    rw [<- hR.out]
    simp only [Act.put,List.setIfInBounds_toArray,List.set_cons_succ,List.set_cons_zero]
    clear hR H3 H2 H4 hu2 hu3 j2 j3 hb4 hz4 hX1 hX2 y2 hX0 cc hBh
    go_loopw [] (fun wr => ∃ left cnt n',RngV Tryz.prog wr (.map (some tm)) R nt (pv t) left cnt ∧ n' + cnt <= n + nt ∧ Bh wr w B NB CB tm V Z (stA (cn + 1) ep (nxF f (cutP t left)) r (.map (some CB))) n' nt (pv (nxP p (cutP t left))) t) (fun wr => rleft wr R)
    case atStart => exact ⟨_,_,_,hR4,by omega,H4'⟩
    case round =>
      clear H4' hR4 hc4
      obtain ⟨left,cnt,n',hRr,hnn,hBr⟩:=hrel
      have hm0:=hRr.left_eq
      have hRlt:=hRr.lt
      rcases hRr.next und3 0 with ⟨hd,hrun⟩ | ⟨i,u,w2,cnt2,hi,hl,hf,hrun,hR2,hlt,hu,hen⟩
      · have HF:stA (cn + 1) ep (nxF f (cutP t left)) r (.map (some CB)) = stA (cn + 1) ep (nxF f t) r (.map (some CB)):=stA_congr _ _ _ _ _ _ fun j hj => by
          unfold nxF cutP;rw [hd (j:Int) (kOk_small (by omega) (by omega))];rfl
        have H1:=hBr.to (g':=pv (nxP p t)) HF fun i hi => by unfold pv nxP cutP;rw [hd i hi];rfl
        have y1:=stA_size (cn + 1) ep (nxF f t) r (.map (some CB))
        have y2:=stA_size (cn + 1) ep (nxF f t) (rootP (nxP p t)) (.map (some CB))
        have o2:=stA_one (cn + 1) ep (nxF f t) (rootP (nxP p t)) (.map (some CB)) rfl
        have hX3:=stA_set34 (cn + 1) ep (nxF f t) r (.map (some CB)) (rootP (nxP p t))
        clear HF hBr hd hRr hm0
        go_wp2_with (first
          | (refine Su.wpl_loadV rfl 189 _ rfl Tryz.isAgg189 36 szSt NB 0 _ 189 rfl H1.nb (by omega) ?_;rw [Su.ext_all y1])
          | fail)
        refine (root_any _ _ _ _ _ n' (nxP p t) wr (Or.inr ⟨CB,rfl,H1.cb⟩) HS.out (hK.below H1.lo)).mono ?_
        rintro e' w2 ⟨rfl,g2⟩
        have H2:=H1.below g2
        generalize hq:stA (cn + 1) ep (nxF f t) (rootP (nxP p t)) (.map (some CB)) = Y at *
        go_wp2_with (first
          | (refine wpl_put1 rfl rfl 9 _ _ rfl szT NB 34 _ 189 (.string (rootP (nxP p t))) rfl rfl rfl rfl H2.nb (by omega) ?_;intro w3 hu3 j3;rw [hX3] at j3;have H3:=H2.setN hu3 j3)
          | (refine Su.wpl_loadV rfl 189 _ rfl Tryz.isAgg189 36 szSt NB 0 _ 189 rfl H3.nb (by omega) ?_;rw [Su.ext_all y2])
          | (refine Su.wpl_storeV rfl rfl 189 _ _ rfl 36 szSt (B + 1) Z 189 Y o2 rfl rfl H3.b1 zZ y2 ?_;intro w5 hu5 j5)
          | fail)
        have hCB5:=H3.cb.upd hu5 (by omega)
        have lo5:=below_upd H3.lo hu5 (by have:=H3.h1;omega)
        refine Su.ret_cellV2 6 7 189 rfl Tryz.isAgg189 36 szSt (B + 1) Y 189 y2 _ rfl rfl j5 rfl ⟨⟨CB,by rw [hq];rfl,hCB5.mono (by omega),by have:=H3.h1;omega⟩,lo5⟩
      · obtain ⟨x,hti,rfl⟩:=pv_inv hf
        have hik:=HK.out i hi (by rw [hti];rfl)
        obtain ⟨k,rfl⟩:∃ k:Nat,i = (k:Int):=⟨i.toNat,by omega⟩
        have hk32:k < 32:=by omega
        have hk32':(k:Int) < 32:=by omega
        have hm2:=hR2.left_eq
        have H2:=hBr.upd hu (Nat.ne_of_lt hNR.out) (Nat.ne_of_lt hCR.out) hBR.out
        have e1:=entC_one x
        have y1:Hid ((stA (cn + 1) ep (nxF f (cutP t left)) r (.map (some CB))).size = 36):=stA_size (cn + 1) ep (nxF f (cutP t left)) r (.map (some CB))
        have y35:Hid _:=stA_35 (cn + 1) ep (nxF f (cutP t left)) r (.map (some CB))
        have yput:Hid _:=stA_put (cn + 1) ep (nxF f (cutP t left)) r (.map (some CB)) k hk32 (!f k)
        have vS:Hid _:=HV.out k hk32
        have hm0':Hid _:=hm0
        have hm2':Hid _:=hm2
        have hti':Hid _:=hti
        have hl':Hid _:=hl
        clear hm0 hm2 hti hl hf
        unfold ent at hrun hen
        clear hc0 hc1 zs zV hsup h35 zZ oZ hik hRlt
        repeat (first | (go_big_may;refine Su.wpl_storeV rfl rfl 227 _ _ rfl 2 szE w2.heap.size _ 227 #[.int .i64 x.1,.string x.2] e1 rfl rfl (Blk.new w2 _ _) rfl rfl ?_;intro w3 hu3 j3) | go_values | go_skip | go_guarded | go_step | go_upon | go_back)
        have s3:Below w2.heap.size w2 w3:=below_upd (Pg.below_alloc w2 _) hu3 (Nat.le_refl _)
        have H3:=H2.below s3
        have R3:=hR2.below s3
        have c35:w3.cell? ⟨NB,35,none⟩ = some (.map (some CB)):=by rw [H3.nb.cell,y35.out]
        have d0:=j3.cell 0
        have d1:=j3.cell 1
        clear hu3 s3 j3 hR2 hRr hBr H2
        go_simp
        repeat (first | (go_big_may;refine wpl_putF rfl rfl 187 _ _ _ rfl und3 227 undE CB n' (pv (nxP p (cutP t left))) (k:Int) (ent x) rfl rfl rfl H3.cb (by omega) hi ?_;intro w4 m4 hu4) | go_values | go_skip | go_guarded | go_step | go_upon | go_back)
        have H4:=H3.setC hu4 m4
        have R4:=R3.same (w':=w4) (fun b hb => by cases hb;exact hu4.block tm (by omega)) (hu4.block R (Nat.ne_of_gt hCR.out))
        have cS:w4.cell? ⟨B,2 + k,none⟩ = some (.bool (f k)):=by rw [H4.b0.cell,vS.out]
        clear hu4 m4 c35 d0 d1 R3 H3
        go_simp
        repeat (first | (go_big_may;refine Su.wpl_putB rfl rfl 4 _ _ rfl szB NB (2 + k) _ 189 (!f k) rfl rfl H4.nb (by rw [y1.out];omega) ?_;intro w5 hu5 j5) | go_values | go_skip | go_guarded | go_step | go_upon | go_back)
        rw [yput.out] at j5
        have H5:=H4.setN hu5 j5
        have R5:=R4.same (w':=w5) (fun b hb => by cases hb;exact hu5.block tm (by omega)) (hu5.block R (Nat.ne_of_gt hNR.out))
        have H5':=H5.to (X':=stA (cn + 1) ep (nxF f (cutP t fun j => left j && !decide (j = (k:Int)))) r (.map (some CB))) (g':=pv (nxP p (cutP t fun j => left j && !decide (j = (k:Int))))) (stA_congr _ _ _ _ _ _ fun j _ => nxF_step hti'.out hl'.out j) (fun i _ => (congrFun (pv_nx_step (p:=p) hti'.out hl'.out) i).symm)
        refine ⟨⟨_,_,_,R5,by omega,H5'⟩,?_⟩
        rw [R5.left_eq,hm0'.out];exact hlt
  · intro hfin
    simp only [List.foldl,Act.put,List.setIfInBounds_toArray,List.set_cons_succ,List.set_cons_zero] at hfin
    refine regS_two 4 6 rfl rfl (by kernel_rfl) rfl rfl (fun K hK' => ?_) (fun K hK' => ?_)
    · go_wp2_with fail
      refine (clone_any mb n (pv p) _ (HW.out _ s0).2.2.1).mono ?_
      rintro e' w2 ⟨rfl,m2,g2,z2⟩
      have s2:Below w1.heap.size w1 w2:=s0.trans g2
      refine hK' _ _ s2 ?_
      clear hK' K
      have z2':w2.heap.size = B + 3:=by have:w2.heap.size = w1.heap.size + 1:=z2;omega
      have m2':MapF Tryz.prog w2 (B + 2) n (pv p):=by rw [<- z0];exact m2
      have hb2:=fun w => buildSt cn en f r (some (B + 2)) w
      have hf2:=hfin (B + 3) (B + 2)
      have zX:=stA_size cn en f r (.map (some (B + 2)))
      have oX:=stA_one cn en f r (.map (some (B + 2))) rfl
      rw [show w1.drew.heap.size = B + 2 from z0]
      clear m2 z2 hfin
      generalize stA cn en f r (.map (some (B + 2))) = X at *
      generalize Su.supA cn en f r = Y at *
      refine regS_take 5 18 (.agg X) rfl rfl (by kernel_rfl) (fun _ _ _ h => h) rfl (fun w _ => Su.exec_build 189 #[(0,.tmp 14),(1,.tmp 17)] rfl _ #[(0,.agg Y),(1,.map (some (B + 2)))] (by kernel_rfl) (hb2 w)) s2 ?_
      simp only [Act.put,List.setIfInBounds_toArray,List.set_cons_succ,List.set_cons_zero]
      refine regS_one 6 rfl (by kernel_rfl) rfl (fun K hK' => ?_)
      go_wp2_with fail
      have s3:=s2.trans ((Pg.below_alloc w2 (.cells Z 189)).mono s2.size)
      refine hK' _ _ s3 ?_
      clear hK' K
      refine regS_last 7 rfl (by kernel_rfl) rfl (fun K hK' => ?_)
      refine Su.op_storeV rfl 189 (.tmp 8) (.tmp 18) rfl 36 szSt (B + 3) Z 189 X oX rfl rfl (Blk.new' w2 Z 189 z2'.symm) zZ zX ?_
      intro w4 hu4 j4
      have s4:=below_upd s3 hu4 (by omega)
      refine hK' _ _ s4 ?_
      clear hK' K
      obtain ⟨q0,q1,_,q3,q4⟩:=HW.out w4 s4
      exact hf2 w4 ⟨j4,(m2'.alloc _).upd hu4 (by omega),q0,q1,q3,q4,hB.out,by omega,by omega,by omega,htB.out⟩
    · go_wp2_with fail
      have s2:Below w1.heap.size w1 (w1.alloc (.cells Z 189)).drew:=s0.trans (Pg.below_alloc w1.drew (.cells Z 189))
      refine hK' _ _ s2 ?_
      clear hK' K
      have jz:Blk (w1.alloc (.cells Z 189)).drew (B + 2) Z 189:=by rw [<- z0];exact Blk.new w1.drew Z 189
      have z2:(w1.alloc (.cells Z 189)).drew.heap.size = B + 3:=by show (w1.alloc (.cells Z 189)).heap.size = B + 3;simp;omega
      generalize (w1.alloc (.cells Z 189)).drew = w2 at *
      refine regS_one 4 rfl (by kernel_rfl) rfl (fun K hK' => ?_)
      go_wp2_with fail
      refine (clone_any mb n (pv p) w2 (HW.out _ s2).2.2.1).mono ?_
      rintro e' w3 ⟨rfl,m3,g3,z3⟩
      have s3:=s2.trans (g3.mono s2.size)
      refine hK' _ _ s3 ?_
      clear hK' K
      have jz3:=jz.below g3 jz.lt
      rw [z2] at m3
      rw [z2]
      have hb2:=fun w => buildSt cn en f r (some (B + 3)) w
      have hf2:=hfin (B + 2) (B + 3)
      have zX:=stA_size cn en f r (.map (some (B + 3)))
      have oX:=stA_one cn en f r (.map (some (B + 3))) rfl
      clear hfin jz
      generalize stA cn en f r (.map (some (B + 3))) = X at *
      generalize Su.supA cn en f r = Y at *
      refine regS_take 5 18 (.agg X) rfl rfl (by kernel_rfl) (fun _ _ _ h => h) rfl (fun w _ => Su.exec_build 189 #[(0,.tmp 14),(1,.tmp 17)] rfl _ #[(0,.agg Y),(1,.map (some (B + 3)))] (by kernel_rfl) (hb2 w)) s3 ?_
      simp only [Act.put,List.setIfInBounds_toArray,List.set_cons_succ,List.set_cons_zero]
      refine regS_last 7 rfl (by kernel_rfl) rfl (fun K hK' => ?_)
      refine Su.op_storeV rfl 189 (.tmp 8) (.tmp 18) rfl 36 szSt (B + 2) Z 189 X oX rfl rfl jz3 zZ zX ?_
      intro w4 hu4 j4
      have s4:=below_upd s3 hu4 (by omega)
      refine hK' _ _ s4 ?_
      clear hK' K
      obtain ⟨q0,q1,_,q3,q4⟩:=HW.out w4 s4
      exact hf2 w4 ⟨j4,m3.upd hu4 (by omega),q0,q1,q3,q4,hB.out,by omega,by omega,by omega,htB.out⟩
def slT (key:ByteArray) (f:Nat -> Bool) (t:Int -> Option (Int × ByteArray)) (k:Nat):List (Nat × ByteArray):=match t (k:Int) with
  | some x => [(plc f k,Pg.sealT key (k:Int) x.1 x.2)]
  | none => []
def sl (key:ByteArray) (f:Nat -> Bool) (t:Int -> Option (Int × ByteArray)):Nat -> List (Nat × ByteArray)
  | 0 => []
  | k + 1 => sl key f t k ++ slT key f t k
def slC (l:List (Nat × ByteArray)):List Value:=l.flatMap fun x => [.int .i64 (x.1:Int),.string x.2]
theorem slC_snoc (l:List (Nat × ByteArray)) (x:Nat × ByteArray):slC l ++ [.int .i64 (x.1:Int),.string x.2] = slC (l ++ [x]):=by simp [slC]
theorem slC_at (l:List (Nat × ByteArray)):∀ (i:Nat) (x:Nat × ByteArray),l[i]? = some x -> (slC l)[i * 2]? = some (.int .i64 (x.1:Int)) ∧ (slC l)[i * 2 + 1]? = some (.string x.2):=by
  induction l with
  | nil => intro i x h;simp at h
  | cons y l ih =>
    intro i x h
    cases i with
    | zero => simp at h;subst h;exact ⟨rfl,rfl⟩
    | succ i =>
      simp at h
      obtain ⟨h1,h2⟩:=ih i x h
      have e:slC (y :: l) = .int .i64 (y.1:Int) :: .string y.2 :: slC l:=rfl
      rw [e,show (i + 1) * 2 = i * 2 + 1 + 1 from by omega]
      exact ⟨by simpa using h1,by simpa using h2⟩
theorem slT_some {key:ByteArray} {f:Nat -> Bool} {t:Int -> Option (Int × ByteArray)} {k:Nat} {x:Int × ByteArray} (h:t (k:Int) = some x):slT key f t k = [(plc f k,Pg.sealT key (k:Int) x.1 x.2)]:=by unfold slT;rw [h]
theorem slT_none {key:ByteArray} {f:Nat -> Bool} {t:Int -> Option (Int × ByteArray)} {k:Nat} (h:t (k:Int) = none):slT key f t k = []:=by unfold slT;rw [h]
theorem sl_some {key:ByteArray} {f:Nat -> Bool} {t:Int -> Option (Int × ByteArray)} {k:Nat} {x:Int × ByteArray} (h:t (k:Int) = some x):sl key f t (k + 1) = sl key f t k ++ [(plc f k,Pg.sealT key (k:Int) x.1 x.2)]:=by rw [<- slT_some h];rfl
theorem sl_none {key:ByteArray} {f:Nat -> Bool} {t:Int -> Option (Int × ByteArray)} {k:Nat} (h:t (k:Int) = none):sl key f t (k + 1) = sl key f t k:=by
  show sl key f t k ++ slT key f t k = _;rw [slT_none h,List.append_nil]
theorem sl_len (key:ByteArray) (f:Nat -> Bool) (t:Int -> Option (Int × ByteArray)) (k:Nat):(sl key f t k).length <= k:=by
  induction k with
  | zero => exact Nat.le_refl _
  | succ k ih =>
    cases h:t (k:Int) with
    | none => rw [sl_none h];omega
    | some x => rw [sl_some h,List.length_append];simp;omega
theorem sl_ok (key:ByteArray) (f:Nat -> Bool) (t:Int -> Option (Int × ByteArray)) (k:Nat) (hk:k <= 32):∀ x ∈ sl key f t k,x.1 < 66 ∧ x.2.size = 237:=by
  induction k with
  | zero => intro x hx;cases hx
  | succ k ih =>
    intro x hx
    cases h:t (k:Int) with
    | none => rw [sl_none h] at hx;exact ih (by omega) x hx
    | some y =>
      rw [sl_some h] at hx
      rcases List.mem_append.1 hx with hx | hx
      · exact ih (by omega) x hx
      · simp at hx;subst hx;exact ⟨plc_lt f k (by omega),Pg.sealT_size _ _ _ _⟩
theorem infoB:(Tryz.prog.info? 303).map (fun i => (i.zero,i.size,i.bytes)) = some (some (.agg #[.int .i64 0,.string ByteArray.empty]),2,24):=by kernel_rfl
theorem mkBl (c:Nat) (hc:c <= 100000) (w:World) (B:Nat) (hB:B <= w.heap.size):∃ w',(Instr.makeSlice 296 (.int .i64 0) (.int .i64 (c:Int))).run Tryz.prog w = .ok (.slice (some ⟨w.heap.size,0,none⟩) 0 c) w' ∧
    w'.ownsRow B 303 2 (.slice (some ⟨w.heap.size,0,none⟩) 0 c) 0 [] ∧ Below w.heap.size w w':=by
  obtain ⟨i0,hi0,hz0,hz1,hz2⟩:=info_parts infoB
  obtain ⟨w',h1,h2,h3⟩:=run_make_own w B 296 303 i0 _ 2 Tryz.underlying296 hi0 hz0 hz1 .i64 .i64 c (by rw [hz2];omega) (by unfold maxLen;omega) hB
  exact ⟨w',h1,h2,below_of_grown h3⟩
theorem row_below {w w':World} {B:Nat} {e:TypeId} {z:Nat} {v:Value} {n:Nat} {xs:List Value} (h:w.ownsRow B e z v n xs) (hb:Below w.heap.size w w'):w'.ownsRow B e z v n xs:=Dv.ownsRow_same h fun g hg => hb.block g (Dv.ownsRow_lt h g hg).2
theorem row_base {w:World} {B C:Nat} {e:TypeId} {z:Nat} {v:Value} {n:Nat} {xs:List Value} (h:w.ownsRow B e z v n xs) (hC:C <= B):w.ownsRow C e z v n xs:=by
  obtain ⟨h1,h2 | ⟨g,cap,cur,h3,h4,h5⟩⟩:=h
  · exact ⟨h1,Or.inl h2⟩
  · exact ⟨h1,Or.inr ⟨g,cap,cur,h3,Nat.le_trans hC h4,h5⟩⟩
set_option maxRecDepth 100000 in
set_option maxHeartbeats 1000000 in
theorem sealed_any (cn en:Int) (f:Nat -> Bool) (r:ByteArray) (m:Value) (sec:ByteArray) (tm nt:Nat) (t:Int -> Option (Int × ByteArray)) (w:World) (hT:MapF Tryz.prog w tm nt (pv t)) (hn:nt <= 100000)
    (ht:∀ k:Nat,k < 32 -> ∀ x,t (k:Int) = some x -> 1 <= x.1 ∧ x.1 <= 1099511627776 ∧ x.2.size <= 200) (hsec:sec.size <= 300) (hK:Sm.KB w) :
    Calls Tryz.prog 211 #[.agg (stA cn en f r m),.string sec,.map (some tm)] w fun e w' =>
      (∃ v,e = .returned (.tuple #[v,.nilIface]) ∧ w'.ownsRow w.heap.size 303 2 v (sl (epoK sec en) f t 32).length (slC (sl (epoK sec en) f t 32))) ∧ Below w.heap.size w w':=by
  have HT:Hid (∀ k:Nat,k < 32 -> ∀ x,t (k:Int) = some x -> 1 <= x.1 ∧ x.1 <= 1099511627776 ∧ x.2.size <= 200):=ht
  clear ht
  have hV36:Hid _:=stA_size cn en f r m
  have c1:=stA_1 cn en f r m
  obtain ⟨V,hV⟩:∃ V,Hid (stA cn en f r m = V):=⟨_,rfl⟩
  rw [hV.out] at hV36 c1
  rw [hV.out]
  have zk:=epoK_size sec en
  have HP:Hid (∀ (k:Nat) (w:World),k < 32 -> Calls Tryz.prog 252 #[.agg V,.int .i64 (k:Int)] w fun e' w' => e' = .returned (.int .i64 (plc f k:Int)) ∧ Below w.heap.size w w'):=fun k w h => by rw [<- hV.out];exact place_any cn en f r m k w h
  clear hV
  generalize hkey:epoK sec en = key at *
  go_enter Tryz.func211,Tryz.ntmps211
  have j0:=Blk.new w V 189
  have c10:=j0.cell 1
  rw [c1] at c10
  have g0:=Pg.below_alloc w (.cells V 189)
  have z0:(w.alloc (.cells V 189)).heap.size = w.heap.size + 1:=by simp
  repeat (first | go_values | go_skip | go_guarded | go_step | go_upon | go_back)
  refine (epochKey_any sec en _ hsec (hK.below g0)).mono ?_
  rintro e w1 ⟨rfl,g1⟩
  rw [hkey]
  have b1:=g0.trans (g1.mono g0.size)
  have j1:=j0.below g1 j0.lt
  have t1:=hT.below b1 hT.lt
  have hB1:w.heap.size + 1 <= w1.heap.size:=by rw [<- z0];exact g1.size
  obtain ⟨B,hB⟩:∃ B,Hid (B = w.heap.size):=⟨_,rfl⟩
  have hBt:Hid (tm < B):=by unfold Hid;rw [hB.out];exact hT.lt
  have hBw:Hid (w.heap.size <= B):=Nat.le_of_eq hB.out.symm
  rw [<- hB.out] at j1 hB1
  rw [<- hB.out]
  clear g1 j0 c10 g0 z0 hT c1
  go_wp2_with (first
    | (refine wpl_lenV rfl _ 187 rfl 227 undE (.map (some tm)) nt (pv t) rfl (Or.inr ⟨tm,rfl,t1⟩) ?_;intro c hc;obtain ⟨w2,hmk,ow2,b2⟩:=mkBl c (by omega) w1 (B + 1) hB1)
    | fail)
  have j2:=j1.below b2 j1.lt
  have t2:=t1.below b2 t1.lt
  have b3:=b1.trans (b2.mono b1.size)
  obtain ⟨i0,hi0,hz0,hz1,hz2⟩:=info_parts infoB
  have HI:Hid (Tryz.prog.info? 303 = some i0 ∧ i0.zero = some (.agg #[.int .i64 0,.string ByteArray.empty]) ∧ i0.size = 2 ∧ i0.bytes = 24):=⟨hi0,hz0,hz1,hz2⟩
  clear hmk b2 j1 t1 b1 hB1 hi0 hz0 hz1 hz2
  go_loopw [9,23] (fun v i wr => ∃ k:Nat,k <= 32 ∧ i = .int .i64 k ∧ wr.ownsRow (B + 1) 303 2 v (sl key f t k).length (slC (sl key f t k)) ∧ MapF Tryz.prog wr tm nt (pv t) ∧ Blk wr B V 189 ∧ Below w.heap.size w wr) (fun _ i _ => 32 - (intOf i).toNat)
  case atStart => exact ⟨0,by omega,rfl,ow2,t2,j2,b3⟩
  case round =>
    clear ow2 t2 j2 b3
    obtain ⟨k,hk,rfl,ow,tr,jr,br⟩:=hrel
    by_cases hlt:k < 32
    · have hlt':(k:Int) < 32:=by omega
      have hl:=run_lookVok (t:=187) und3 undE _ zeroE (Or.inr ⟨tm,rfl,tr⟩:MapV Tryz.prog wr (.map (some tm)) nt (pv t)) (kOk_small (i:=(k:Int)) (by omega) hlt')
      cases hx:t (k:Int) with
      | none =>
        have hp:pv t (k:Int) = none:=by unfold pv;rw [hx];rfl
        rw [hp] at hl
        simp only [Option.getD_none,Option.isSome_none,ent,ent0] at hl
        have e1:=entC_one ent0
        simp only [ent0] at e1
        have hX:Hid (t (k:Int) = none):=hx
        clear hx hp
        go_wp2_with (first
          | (refine Su.wpl_storeV rfl rfl 227 _ _ rfl 2 szE wr.heap.size _ 227 #[.int .i64 0,.string ⟨#[]⟩] e1 rfl rfl (Blk.new wr _ _) rfl rfl ?_;intro w3 hu3 j3)
          | fail)
        have s3:Below wr.heap.size wr w3:=below_upd (Pg.below_alloc wr _) hu3 (Nat.le_refl _)
        refine ⟨⟨k + 1,by omega,by go_num,by rw [sl_none hX.out];exact row_below ow s3,tr.below s3 tr.lt,jr.below s3 jr.lt,br.trans (s3.mono br.size)⟩,by simp [intOf];omega⟩
      | some x =>
        have hp:pv t (k:Int) = some (ent x):=by unfold pv;rw [hx];rfl
        rw [hp] at hl
        simp only [Option.getD_some,Option.isSome_some,ent] at hl
        have e1:=entC_one x
        have hX:Hid (t (k:Int) = some x):=hx
        obtain ⟨q1,q2,q3⟩:=HT.out k hlt x hx
        have Q3:Hid (1 <= x.1 ∧ x.1 <= 1099511627776 ∧ x.2.size <= 200):=⟨q1,q2,q3⟩
        clear hx hp q1 q2 q3
        go_wp2_with (first
          | (refine Su.wpl_storeV rfl rfl 227 _ _ rfl 2 szE wr.heap.size _ 227 #[.int .i64 x.1,.string x.2] e1 rfl rfl (Blk.new wr _ _) rfl rfl ?_;intro w3 hu3 j3;have d0:=j3.cell 0;have d1:=j3.cell 1)
          | fail)
        have s3:Below wr.heap.size wr w3:=below_upd (Pg.below_alloc wr _) hu3 (Nat.le_refl _)
        have b3:=br.trans (s3.mono br.size)
        refine (Pg.seal_ok key (k:Int) x.1 x.2 w3 zk (by omega) (by omega) Q3.out.1 Q3.out.2.1 Q3.out.2.2 (hK.below b3)).mono ?_
        rintro e w4 ⟨rfl,g4⟩
        have s4:=s3.trans (g4.mono s3.size)
        have ow4:=row_below ow s4
        have tr4:=tr.below s4 tr.lt
        have jr4:=jr.below s4 jr.lt
        have b4:=br.trans (s4.mono br.size)
        clear s3 b3 g4 s4 ow tr jr br d0 d1 j3 hu3 hl
        generalize hS:Pg.sealT key (k:Int) x.1 x.2 = S at *
        have hS':Hid (Pg.sealT key (k:Int) x.1 x.2 = S):=hS
        clear hS
        have v36:=hV36.out
        go_wp2_with (first
          | (refine Su.wpl_loadV rfl 189 _ rfl Tryz.isAgg189 36 szSt B 0 V 189 rfl jr4 (by omega) ?_;rw [Su.ext_all v36])
          | fail)
        refine (HP.out k _ hlt).mono ?_
        rintro e w5 ⟨rfl,g5⟩
        have ow5:=row_below ow4 g5
        have tr5:=tr4.below g5 tr4.lt
        have jr5:=jr4.below g5 jr4.lt
        have b5:=b4.trans (g5.mono b4.size)
        clear ow4 tr4 jr4 b4 g5
        have s6:=Pg.below_alloc w5 (.cells #[.int .i64 (plc f k:Int),.string S] 303)
        have ow6:=row_below ow5 s6
        have tr6:=tr5.below s6 tr5.lt
        have jr6:=jr5.below s6 jr5.lt
        have b6:=b5.trans (s6.mono b5.size)
        have hsl:=sl_len key f t k
        have hBl:=jr5.lt
        have hone:∀ u ∈ [Value.int .i64 (plc f k:Int),.string S],u.oneCell' = true:=by intro u hu;simp at hu;rcases hu with rfl | rfl <;> rfl
        clear ow5 tr5 jr5 b5 s6
        go_wp2_with (first
          | (refine wpList_append_lies _ rfl _ _ _ rfl (B + 1) 303 i0 _ 2 24 Tryz.underlying296 HI.out.1 HI.out.2.1 HI.out.2.2.1 HI.out.2.2.2 rfl (by omega) u9 (sl key f t k).length (slC (sl key f t k)) rfl ow6 ⟨w5.heap.size,0,none⟩ 1 1 [.int .i64 (plc f k:Int),.string S] rfl rfl (World.news_of_block (cs:=#[.int .i64 (plc f k:Int),.string S]) (t:=303) (fr:=(0,0)) (heap_alloc_new w5 _)) hone (by omega) (by unfold maxLen;omega) (by omega) (by simp;omega) (w5.heap.size + 1) (by simp) ?_;intro g7 cap w7 ow7 gr7 hat7 hlt7)
          | fail)
        refine ⟨⟨k + 1,by omega,by go_num,?_,tr6.kept gr7 (fun e => ?_),jr6.grown gr7 (fun e => ?_),b6.grown gr7 b6.size (fun j e => ?_)⟩,by simp [intOf];omega⟩
        · rw [sl_some hX.out,hS'.out,<- slC_snoc,List.length_append];exact ow7
        · have:=(Dv.ownsRow_lt ow6 tm e.symm).1;have:=hBt.out;omega
        · have:=(Dv.ownsRow_lt ow6 B e.symm).1;omega
        · have:=(Dv.ownsRow_lt ow6 j e).1;have:=hBw.out;omega
    · have hk':k = 32:=by omega
      subst hk'
      go_wp2_with fail
      go_ret2
      exact ⟨⟨_,rfl,row_base ow (by have:=hBw.out;omega)⟩,br⟩
theorem chg_then {w w' w'':World} {O O':Nat -> Prop} (h:Dv.Chg w w' O) (u:Dv.Chg w' w'' O') (ho:∀ k,k < w.heap.size -> O' k -> O k):Dv.Chg w w'' O:=
  ⟨u.os.trans h.os,u.tape.trans h.tape,u.output.trans h.output,Nat.le_trans h.size u.size,fun k hk hne => (u.block k (Nat.lt_of_lt_of_le hk h.size) (fun e => hne (ho k hk e))).trans (h.block k hk hne)⟩
theorem burnt_none:Dv.burnt (-1) = -1:=by decide
set_option maxRecDepth 100000 in
set_option maxHeartbeats 400000 in
theorem w21_any (Bv Bb vb d:Nat) (O:Nat -> Prop) (S:Nat -> Nat -> UInt8) (W:List (Nat × (Nat -> UInt8))) (v:Value) (lf:Int) (k:Nat) (s:ByteArray) (w:World) (jv:Blk w Bv #[.pointer (some ⟨vb,0,none⟩)] 123) (jb:Blk w Bb #[.int .i64 (k:Int),.string s] 303)
    (hc:w.cell? ⟨vb,0,none⟩ = some (.pointer (some ⟨d,0,none⟩))) (hD:Dv.Dev w O d S W (-1) v lf) (hk:k < 66) (hs:s.size <= 256) (hW:W.length < 1000) :
    Calls Tryz.prog 277 #[.pointer (some ⟨Bv,0,none⟩),.pointer (some ⟨Bb,0,none⟩)] w fun e w' => e = .returned .nilIface ∧ (∃ v' l',Dv.Dev w' (Dv.gro O w w') d S (W ++ [(k,Dv.bAt s)]) (-1) v' l') ∧ Dv.Chg w w' O:=by
  have a0:=jv.cell 0
  have b0:=jb.cell 0
  have b1:=jb.cell 1
  go_enter Tryz.func277,Tryz.ntmps277
  go_wp2_with fail
  refine region_s [(0,false),(1,true),(2,true),(3,false),(4,true),(5,false),(6,true),(7,false)] [] [8,9] (fun w' => w' = w.drew) Tr.mixed (by kernel_rfl) (fun _ _ _ _ _ h => h) rfl ?_
  have a0':w.drew.cell? ⟨Bv,0,none⟩ = some (.pointer (some ⟨vb,0,none⟩)):=a0
  have hc':w.drew.cell? ⟨vb,0,none⟩ = some (.pointer (some ⟨d,0,none⟩)):=hc
  have b0':w.drew.cell? ⟨Bb,0,none⟩ = some (.int .i64 (k:Int)):=b0
  have b1':w.drew.cell? ⟨Bb,1,none⟩ = some (.string s):=b1
  refine lead_read _ rfl _ rfl rfl (.pointer (some ⟨vb,0,none⟩)) (fun w' hS => by subst hS;go_simp) ?_
  refine lead_pure _ rfl _ rfl rfl (.pointer (some ⟨vb,0,none⟩)) (fun w' => by go_simp) ?_
  refine lead_pure _ rfl _ rfl rfl (.pointer (some ⟨vb,0,none⟩)) (fun w' => by go_simp) ?_
  refine lead_read _ rfl _ rfl rfl (.pointer (some ⟨d,0,none⟩)) (fun w' hS => by subst hS;go_simp) ?_
  refine lead_pure _ rfl _ rfl rfl (.pointer (some ⟨Bb,0,none⟩)) (fun w' => by go_simp) ?_
  refine lead_read _ rfl _ rfl rfl (.int .i64 (k:Int)) (fun w' hS => by subst hS;go_simp) ?_
  refine lead_pure _ rfl _ rfl rfl (.pointer (some ⟨Bb,1,none⟩)) (fun w' => by go_simp) ?_
  refine lead_read _ rfl _ rfl rfl (.string s) (fun w' hS => by subst hS;go_simp) ?_
  simp only [lead_nil_eq]
  simp only [Act.put,List.setIfInBounds_toArray,List.set_cons_succ,List.set_cons_zero]
  simp only [mid_nil_eq]
  simp only [List.filterMap_cons,List.getElem?_toArray,List.getElem?_cons_succ,List.getElem?_cons_zero,List.filterMap_nil]
  go_wp2_with fail
  refine (Dv.write_ok d O S W (-1) v lf k s _ (hD.drewN 1) (by decide) hk hs hW).mono ?_
  rintro e w4 ⟨rfl,⟨v4,l4,hD4⟩,C4⟩
  rw [burnt_none] at hD4
  go_wp2_with fail
  go_ret
  exact ⟨rfl,⟨v4,l4,hD4⟩,⟨C4.os,C4.tape,C4.output,C4.size,C4.block⟩⟩
set_option maxRecDepth 100000 in
set_option maxHeartbeats 400000 in
theorem w3_any (Bv Bn vb c:Nat) (n m:Int) (w:World) (jv:Blk w Bv #[.pointer (some ⟨vb,0,none⟩)] 123) (jn:Blk w Bn #[.int .i64 m] 3)
    (hc:w.cell? ⟨vb,1,none⟩ = some (.pointer (some ⟨c,0,none⟩))) (hC:Dv.Cnt w c n) (hm:n < m) :
    Calls Tryz.prog 280 #[.pointer (some ⟨Bv,0,none⟩),.pointer (some ⟨Bn,0,none⟩)] w fun e w' => e = .returned .nilIface ∧ Dv.Cnt w' c m ∧ Upd w w' c:=by
  have a0:=jv.cell 0
  have b0:=jn.cell 0
  go_enter Tryz.func280,Tryz.ntmps280
  go_wp2_with fail
  refine region_s [(0,false),(1,true),(2,true),(3,false),(4,false)] [] [5,6] (fun w' => w' = w.drew) Tr.mixed (by kernel_rfl) (fun _ _ _ _ _ h => h) rfl ?_
  have a0':w.drew.cell? ⟨Bv,0,none⟩ = some (.pointer (some ⟨vb,0,none⟩)):=a0
  have hc':w.drew.cell? ⟨vb,1,none⟩ = some (.pointer (some ⟨c,0,none⟩)):=hc
  have b0':w.drew.cell? ⟨Bn,0,none⟩ = some (.int .i64 m):=b0
  refine lead_read _ rfl _ rfl rfl (.pointer (some ⟨vb,0,none⟩)) (fun w' hS => by subst hS;go_simp) ?_
  refine lead_pure _ rfl _ rfl rfl (.pointer (some ⟨vb,0,none⟩)) (fun w' => by go_simp) ?_
  refine lead_pure _ rfl _ rfl rfl (.pointer (some ⟨vb,1,none⟩)) (fun w' => by go_simp) ?_
  refine lead_read _ rfl _ rfl rfl (.pointer (some ⟨c,0,none⟩)) (fun w' hS => by subst hS;go_simp) ?_
  refine lead_read _ rfl _ rfl rfl (.int .i64 m) (fun w' hS => by subst hS;go_simp) ?_
  simp only [lead_nil_eq]
  simp only [Act.put,List.setIfInBounds_toArray,List.set_cons_succ,List.set_cons_zero]
  simp only [mid_nil_eq]
  simp only [List.filterMap_cons,List.getElem?_toArray,List.getElem?_cons_succ,List.getElem?_cons_zero,List.filterMap_nil]
  go_wp2_with fail
  refine (Dv.raise_yes c n m _ (hC.drewN 1) hm).mono ?_
  rintro e w4 ⟨rfl,C4,hu4⟩
  go_wp2_with fail
  go_ret
  exact ⟨rfl,C4,⟨hu4.os,hu4.tape,hu4.output,hu4.size,hu4.block⟩⟩
theorem dev_put {w w1 w2:World} {O:Nat -> Prop} {d Bf:Nat} {S:Nat -> Nat -> UInt8} {W:List (Nat × (Nat -> UInt8))} {F:Int} {v:Value} {lf:Int} (h:Dv.Dev w1 (Dv.gro O w w1) d S W F v lf) (hu:Upd w1 w2 Bf) (nf:¬ O Bf) (hl:Bf < w.heap.size):Dv.Dev w2 (Dv.gro O w w2) d S W F v lf:=by
  have C:Dv.Chg w1 w2 (fun k => k = Bf):=(Dv.Chg.refl w1 _).upd hu (Or.inl rfl)
  refine (h.chg C (fun k hk e => ?_)).mono (fun k hk => ?_)
  · subst e
    rcases hk with hk | hk
    · exact nf hk
    · omega
  · rcases hk with hk | ⟨h1,h2⟩
    · exact Or.inl hk
    · exact Or.inr ⟨h1,by rw [hu.size];exact h2⟩
theorem dev_put' {w1 w2:World} {O:Nat -> Prop} {d Bf:Nat} {S:Nat -> Nat -> UInt8} {W:List (Nat × (Nat -> UInt8))} {F:Int} {v:Value} {lf:Int} (h:Dv.Dev w1 O d S W F v lf) (hu:Upd w1 w2 Bf) (nf:¬ O Bf):Dv.Dev w2 O d S W F v lf:=
  h.chg ((Dv.Chg.refl w1 (fun k => k = Bf)).upd hu (Or.inl rfl)) (fun k hk e => by subst e;exact nf hk)
set_option maxRecDepth 100000 in
set_option maxHeartbeats 400000 in
theorem do_write (Bf Bv Bb vb d:Nat) (O:Nat -> Prop) (S:Nat -> Nat -> UInt8) (W:List (Nat × (Nat -> UInt8))) (v:Value) (lf:Int) (k:Nat) (s:ByteArray) (w:World) (jf:Blk w Bf #[.nilIface] 40) (jv:Blk w Bv #[.pointer (some ⟨vb,0,none⟩)] 123) (jb:Blk w Bb #[.int .i64 (k:Int),.string s] 303)
    (hc:w.cell? ⟨vb,0,none⟩ = some (.pointer (some ⟨d,0,none⟩))) (hD:Dv.Dev w O d S W (-1) v lf) (hk:k < 66) (hs:s.size <= 256) (hW:W.length < 1000) (nf:¬ O Bf) :
    Calls Tryz.prog 275 #[.func (.func 277) #[] #[.pointer (some ⟨Bv,0,none⟩),.pointer (some ⟨Bb,0,none⟩)],.pointer (some ⟨Bf,0,none⟩)] w fun e w' => e = .returned (.tuple #[]) ∧ Blk w' Bf #[.nilIface] 40 ∧ (∃ v' l',Dv.Dev w' (Dv.gro O w w') d S (W ++ [(k,Dv.bAt s)]) (-1) v' l') ∧ Dv.Chg w w' (fun k => O k ∨ k = Bf):=by
  have f0:=jf.cell 0
  go_enter Tryz.func275,Tryz.ntmps275
  go_wp2_with fail
  refine (w21_any Bv Bb vb d O S W v lf k s w jv jb hc hD hk hs hW).mono ?_
  rintro e w4 ⟨rfl,⟨v4,l4,hD4⟩,C4⟩
  have jf4:=jf.chg C4 nf
  have f4:=jf4.cell 0
  have z4:=jf4.frozen 0
  go_wp2_with fail
  go_end0
  exact ⟨rfl,jf4.set 0 .nilIface,⟨v4,l4,dev_put hD4 (setCell_upd _ _ _ _) nf jf.lt⟩,(C4.mono fun k _ h => Or.inl h).upd (setCell_upd _ _ _ _) (Or.inl (Or.inr rfl))⟩
set_option maxRecDepth 100000 in
set_option maxHeartbeats 400000 in
theorem do_sync (Bf d:Nat) (O:Nat -> Prop) (S:Nat -> Nat -> UInt8) (W:List (Nat × (Nat -> UInt8))) (v:Value) (lf:Int) (w:World) (jf:Blk w Bf #[.nilIface] 40) (hD:Dv.Dev w O d S W (-1) v lf) (nf:¬ O Bf) :
    Calls Tryz.prog 275 #[.func (.func 279) #[.pointer (some ⟨d,0,none⟩)] #[],.pointer (some ⟨Bf,0,none⟩)] w fun e w' => e = .returned (.tuple #[]) ∧ Blk w' Bf #[.nilIface] 40 ∧ (∃ l',Dv.Dev w' O d (Dv.loseS S W (fun _ => true) W.length) [] (-1) (.slice none 0 0) l') ∧ Dv.Chg w w' (fun k => O k ∨ k = Bf):=by
  have f0:=jf.cell 0
  go_enter Tryz.func275,Tryz.ntmps275
  go_wp2_with fail
  refine (Dv.sync_ok d O S W (-1) v lf w hD (by decide)).mono ?_
  rintro e w4 ⟨rfl,⟨l4,hD4⟩,C4⟩
  rw [burnt_none] at hD4
  have jf4:=jf.chg C4 nf
  have f4:=jf4.cell 0
  have z4:=jf4.frozen 0
  go_wp2_with fail
  go_end0
  exact ⟨rfl,jf4.set 0 .nilIface,⟨l4,dev_put' hD4 (setCell_upd _ _ _ _) nf⟩,(C4.mono fun k _ h => Or.inl h).upd (setCell_upd _ _ _ _) (Or.inl (Or.inr rfl))⟩
set_option maxRecDepth 100000 in
set_option maxHeartbeats 400000 in
theorem do_raise (Bf Bv Bn vb c:Nat) (n m:Int) (w:World) (jf:Blk w Bf #[.nilIface] 40) (jv:Blk w Bv #[.pointer (some ⟨vb,0,none⟩)] 123) (jn:Blk w Bn #[.int .i64 m] 3)
    (hc:w.cell? ⟨vb,1,none⟩ = some (.pointer (some ⟨c,0,none⟩))) (hC:Dv.Cnt w c n) (hm:n < m) (nf:c ≠ Bf) :
    Calls Tryz.prog 275 #[.func (.func 280) #[] #[.pointer (some ⟨Bv,0,none⟩),.pointer (some ⟨Bn,0,none⟩)],.pointer (some ⟨Bf,0,none⟩)] w fun e w' => e = .returned (.tuple #[]) ∧ Blk w' Bf #[.nilIface] 40 ∧ Dv.Cnt w' c m ∧ Dv.Chg w w' (fun k => k = c ∨ k = Bf):=by
  have f0:=jf.cell 0
  go_enter Tryz.func275,Tryz.ntmps275
  go_wp2_with fail
  refine (w3_any Bv Bn vb c n m w jv jn hc hC hm).mono ?_
  rintro e w4 ⟨rfl,C4,hu4⟩
  have jf4:=jf.upd hu4 (Ne.symm nf)
  have f4:=jf4.cell 0
  have z4:=jf4.frozen 0
  go_wp2_with fail
  go_end0
  exact ⟨rfl,jf4.set 0 .nilIface,C4.upd (setCell_upd _ _ _ _) nf,((Dv.Chg.refl w _).upd hu4 (Or.inl (Or.inl rfl))).upd (setCell_upd _ _ _ _) (Or.inl (Or.inr rfl))⟩
abbrev doV (Bf:Nat):Value:=.func (.func 275) #[] #[.pointer (some ⟨Bf,0,none⟩)]
set_option maxRecDepth 100000 in
set_option maxHeartbeats 400000 in
theorem put_any (Bd Bf Bv vb d:Nat) (VA:Array Value) (O:Nat -> Prop) (S:Nat -> Nat -> UInt8) (W:List (Nat × (Nat -> UInt8))) (v:Value) (lf:Int) (k:Nat) (s:ByteArray) (w:World) (jd:Blk w Bd #[doV Bf] 361) (jf:Blk w Bf #[.nilIface] 40) (jv:Blk w Bv #[.pointer (some ⟨vb,0,none⟩)] 123)
    (jV:Blk w vb VA 193) (hc:VA[0]? = some (.pointer (some ⟨d,0,none⟩))) (hD:Dv.Dev w O d S W (-1) v lf) (hk:k < 66) (hs:s.size <= 256) (hW:W.length < 1000) (nf:¬ O Bf) :
    Calls Tryz.prog 276 #[.agg #[.int .i64 (k:Int),.string s],.pointer (some ⟨Bd,0,none⟩),.pointer (some ⟨Bv,0,none⟩)] w fun e w' => e = .returned (.tuple #[]) ∧ Blk w' Bf #[.nilIface] 40 ∧ (∃ v' l',Dv.Dev w' (Dv.gro O w w') d S (W ++ [(k,Dv.bAt s)]) (-1) v' l') ∧ Dv.Chg w w' (fun k => O k ∨ k = Bf):=by
  have g0:=Pg.below_alloc w (.cells #[.int .i64 (k:Int),.string s] 303)
  have c0:=(jd.below g0 jd.lt).cell 0
  go_enter Tryz.func276,Tryz.ntmps276
  go_wp2_with fail
  refine (do_write Bf Bv w.heap.size vb d O S W v lf k s _ (jf.below g0 jf.lt) (jv.below g0 jv.lt) (Blk.new w _ _) (by rw [(jV.below g0 jV.lt).cell,hc]) (hD.below g0) hk hs hW nf).mono ?_
  rintro e w4 ⟨rfl,j4,⟨v4,l4,hD4⟩,C4⟩
  go_wp2_with fail
  go_end0
  refine ⟨rfl,j4,⟨v4,l4,hD4.mono fun q hq => ?_⟩,chg_then ((Dv.Chg.refl w _).below g0) C4 fun q _ h => h⟩
  rcases hq with hq | ⟨h1,h2⟩
  · exact Or.inl hq
  · exact Or.inr ⟨by simp at h1;omega,h2⟩
structure Wr (W:World) (w:World) (O:Nat -> Prop) (B vb d c:Nat) (VA:Array Value) (at':Int) (top:ByteArray) (n m:Int):Prop where
  jv:Blk W B #[.pointer (some ⟨vb,0,none⟩)] 123
  jt:Blk W (B + 1) #[.int .i64 at',.string top] 303
  jn:Blk W (B + 2) #[.int .i64 m] 3
  jf:Blk W (B + 3) #[.nilIface] 40
  jd:Blk W (B + 4) #[doV (B + 3)] 361
  jV:Blk W vb VA 193
  jc:Dv.Cnt W c n
  lo:Dv.Chg w W O
  h1:w.heap.size = B
  h2:vb < B
  h3:c < B
  o2:¬ O vb
  o3:¬ O c
  o4:vb ≠ c
theorem Wr.step {W W' w:World} {O P:Nat -> Prop} {B vb d c:Nat} {VA:Array Value} {at':Int} {top:ByteArray} {n m:Int} (h:Wr W w O B vb d c VA at' top n m) (C:Dv.Chg W W' (fun k => P k ∨ k = B + 3)) (hP:∀ k,P k -> O k ∨ (B + 5 <= k)) (jf:Blk W' (B + 3) #[.nilIface] 40) (hO:∀ k,O k -> k < B):Wr W' w O B vb d c VA at' top n m:=by
  have no:∀ k,k < B + 5 -> ¬ O k -> k ≠ B + 3 -> ¬ (P k ∨ k = B + 3):=fun k h1 h2 h3 h4 => by
    rcases h4 with h4 | h4
    · rcases hP k h4 with h5 | h5
      · exact h2 h5
      · omega
    · exact h3 h4
  have nB:∀ k,B <= k -> ¬ O k:=fun k h1 h2 => absurd (hO k h2) (by omega)
  exact ⟨h.jv.chg C (no _ (by omega) (nB _ (by omega)) (by omega)),h.jt.chg C (no _ (by omega) (nB _ (by omega)) (by omega)),h.jn.chg C (no _ (by omega) (nB _ (by omega)) (by omega)),jf,h.jd.chg C (no _ (by omega) (nB _ (by omega)) (by omega)),
    h.jV.chg C (no _ (by have:=h.h2;omega) h.o2 (by have:=h.h2;omega)),h.jc.chg C (no _ (by have:=h.h3;omega) h.o3 (by have:=h.h3;omega)),chg_then h.lo C (fun k hk e => by
      have hB:=h.h1
      rcases e with e | e
      · rcases hP k e with e | e
        · exact e
        · omega
      · omega),h.h1,h.h2,h.h3,h.o2,h.o3,h.o4⟩
end Go.Proofs.YtjmpjfikcgccdaaGreatDoor.Vt
