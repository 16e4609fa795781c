/-
  Part of the proof of BaseWaitsCard (V9 and on).
-/
import Derived.Test.YtjmpjfikcgccdaaGreatDoorB30
namespace Go.Proofs.YtjmpjfikcgccdaaGreatDoor.Vt
open Go.RowKit
theorem vaA_set (d c:Nat) (sec:ByteArray) (st st':Array Value) (stuck:Bool) (hs:st.size = 36) (hs':st'.size = 36):foldset (vaA d c sec st stuck) 3 st'.toList = vaA d c sec st' stuck:=by
  apply Array.ext_getElem?;intro j
  rw [Dv.foldset_get _ _ _ _ (by rw [vaA_size _ _ _ _ _ hs];simp [hs'])]
  by_cases h:3 <= j ∧ j < 3 + st'.toList.length
  · rw [if_pos h]
    simp [hs'] at h
    have e:=vaA_st d c sec st' stuck hs' (j - 3) (by omega)
    rw [show 3 + (j - 3) = j from by omega] at e
    rw [e,Array.getElem?_toList]
  · rw [if_neg h]
    simp [hs'] at h
    unfold vaA
    by_cases h3:j < 3
    · rw [Array.getElem?_append_left (by simp [hs];omega),Array.getElem?_append_left (by simp;omega),Array.getElem?_append_left (by simp [hs'];omega),Array.getElem?_append_left (by simp;omega)]
    · rw [Array.getElem?_append_right (by simp [hs];omega),Array.getElem?_append_right (by simp [hs'];omega)]
      simp [hs,hs']
theorem buildVB (a:Int) (x:ByteArray) (w:World):(Instr.build 303 #[(0,.int .i64 a),(1,.string x)]).run Tryz.prog w = .ok (.agg #[.int .i64 a,.string x]) w:=run_build w 303 _ _ (by kernel_rfl)
set_option maxRecDepth 100000 in
set_option maxHeartbeats 1000000 in
theorem become_any (vb d c:Nat) (sec:ByteArray) (cn en:Int) (f:Nat -> Bool) (r:ByteArray) (mb n:Nat) (p:Int -> Option (Int × ByteArray)) (ep:Int) (tm nt:Nat) (t:Int -> Option (Int × ByteArray)) (O:Nat -> Prop) (S:Nat -> Nat -> UInt8) (W:List (Nat × (Nat -> UInt8))) (v:Value) (lf:Int) (n0:Int) (w:World)
    (hV:Vlt w vb d c sec cn en f r mb n p false) (hT:MapF Tryz.prog w tm nt (pv t)) (hD:Dv.Dev w O d S W (-1) v lf) (hC:Dv.Cnt w c n0) (hm:n0 < cn + 1)
    (hk:∀ i,kOk i -> (t i).isSome = true -> 0 <= i ∧ i < 32) (hn:n + nt <= 100000) (hc0:0 <= cn) (hc1:cn < 1099511627776) (he0:1 <= ep) (he1:ep <= 1099511627776) (hs:∀ j:Nat,j < 32 -> (rd (nxP p t) j).2.size <= 300)
    (ht:∀ k:Nat,k < 32 -> ∀ x,t (k:Int) = some x -> 1 <= x.1 ∧ x.1 <= 1099511627776 ∧ x.2.size <= 200) (hsec:sec.size <= 300) (hW:W.length <= 100) (hO:∀ k,O k -> k < w.heap.size) (o2:¬ O vb) (o3:¬ O c) (o4:vb ≠ c) (hK:Sm.KB w) :
    Calls Tryz.prog 137 #[.pointer (some ⟨vb,0,none⟩),.int .i64 ep,.map (some tm)] w fun e w' => e = .returned .nilIface ∧
      (∃ CB,Vlt w' vb d c sec (cn + 1) ep (nxF f t) (rootP (nxP p t)) CB (n + nt) (nxP p t) false ∧ w.heap.size <= CB) ∧
      (∃ O' v' l',Dv.Dev w' O' d (sureS (sureS S (W ++ wl (sl (epoK sec ep) (nxF f t) t 32))) [((cn + 1).toNat % 2,Dv.bAt (Su.allT (supK sec) (cn + 1) ep (nxF f t) (rootP (nxP p t))))]) [] (-1) v' l' ∧ ∀ k,O' k -> Dv.gro O w w' k) ∧ Dv.Cnt w' c (cn + 1) ∧ Dv.Chg w w' (fun k => O k ∨ k = c ∨ k = vb):=by
  have HK:Hid (∀ i,kOk i -> (t i).isSome = true -> 0 <= i ∧ i < 32):=hk
  have HS:Hid (∀ j:Nat,j < 32 -> (rd (nxP p t) j).2.size <= 300):=hs
  have HT:Hid (∀ k:Nat,k < 32 -> ∀ x,t (k:Int) = some x -> 1 <= x.1 ∧ x.1 <= 1099511627776 ∧ x.2.size <= 200):=ht
  have HC:Hid (0 <= cn ∧ cn < 1099511627776 ∧ 1 <= ep ∧ ep <= 1099511627776 ∧ n0 < cn + 1):=⟨hc0,hc1,he0,he1,hm⟩
  have HO:Hid (∀ k,O k -> k < w.heap.size):=hO
  have hvw:Hid (vb < w.heap.size):=hV.blk.lt
  have hcw:Hid (c < w.heap.size):=hC.lt
  have HB:=behind_any cn en f r mb n p ep tm nt t w hV.map hT hk hn hc0 (by omega) hs hK
  have jV:=hV.blk
  have q0:=vaA_0 d c sec (stA cn en f r (.map (some mb))) false
  have q1:=vaA_1 d c sec (stA cn en f r (.map (some mb))) false
  have q2:Hid _:=vaA_2 d c sec (stA cn en f r (.map (some mb))) false
  have q3:=vaA_now d c sec (stA cn en f r (.map (some mb))) false (stA_size _ _ _ _ _)
  have q4:=vaA_size d c sec (stA cn en f r (.map (some mb))) false (stA_size _ _ _ _ _)
  have q5:Hid (∀ st',st'.size = 36 -> foldset (vaA d c sec (stA cn en f r (.map (some mb))) false) 3 st'.toList = vaA d c sec st' false):=fun st' h => vaA_set d c sec _ st' false (stA_size _ _ _ _ _) h
  obtain ⟨X0,hX0⟩:∃ X,Hid (stA cn en f r (.map (some mb)) = X):=⟨_,rfl⟩
  rw [hX0.out] at HB jV q0 q1 q2 q3 q4 q5
  obtain ⟨VA,hVA⟩:∃ X,Hid (vaA d c sec X0 false = X):=⟨_,rfl⟩
  rw [hVA.out] at jV q0 q1 q2 q3 q4 q5
  clear hX0 hVA hk hs ht hc0 hc1 he0 he1 hm hO
  go_enter Tryz.func137,Tryz.ntmps137
  go_wp2_with (first
    | (refine Su.wpl_loadV rfl 189 _ rfl Tryz.isAgg189 36 szSt vb 3 VA 193 rfl jV (by omega) ?_;rw [q3])
    | fail)
  refine HB.mono ?_
  rintro e w1 ⟨⟨CB,rfl,hM1,hCB⟩,g1⟩
  have u0:=stA_size (cn + 1) ep (nxF f t) (rootP (nxP p t)) (.map (some CB))
  have u1:=stA_one (cn + 1) ep (nxF f t) (rootP (nxP p t)) (.map (some CB)) rfl
  have u2:=stA_0 (cn + 1) ep (nxF f t) (rootP (nxP p t)) (.map (some CB))
  have u3:Hid _:=stA_sup (cn + 1) ep (nxF f t) (rootP (nxP p t)) (.map (some CB)) 35 rfl
  obtain ⟨X1,hX1⟩:∃ X,Hid (stA (cn + 1) ep (nxF f t) (rootP (nxP p t)) (.map (some CB)) = X):=⟨_,rfl⟩
  rw [hX1.out] at u0 u1 u2 u3
  rw [hX1.out]
  have zst:=zeroSt
  have zZ:=st0_size
  obtain ⟨Z,hZ⟩:∃ Z,Hid (st0 = Z):=⟨_,rfl⟩
  rw [hZ.out] at zst zZ
  clear hZ HB q3
  go_wp2_with (first
    | (refine Su.wpl_storeV rfl rfl 189 _ _ rfl 36 szSt w1.heap.size Z 189 X1 u1 rfl rfl (Blk.new w1 _ _) zZ u0 ?_;intro w2 hu2 j2)
    | fail)
  have s2:Below w1.heap.size w1 w2:=below_upd (Pg.below_alloc w1 _) hu2 (Nat.le_refl _)
  have b2:=g1.trans (s2.mono g1.size)
  have jV2:=jV.below b2 jV.lt
  have hT2:=hT.below b2 hT.lt
  have hM2:=hM1.below s2 hM1.lt
  have hD2:=hD.below b2
  have hC2:=hC.below b2 hC.lt
  obtain ⟨NB,hNB⟩:∃ NB,Hid (w1.heap.size = NB):=⟨_,rfl⟩
  have hN1:Hid (w.heap.size <= NB):=by unfold Hid;rw [<- hNB.out];exact g1.size
  have hN2:Hid (CB < NB):=by unfold Hid;rw [<- hNB.out];exact hM1.lt
  rw [hNB.out] at j2
  rw [hNB.out]
  clear hu2 s2 hD hC hT hM1 jV g1
  have HW2:Hid (∀ W',Below w2.heap.size w2 W' -> Blk W' NB X1 189 ∧ W'.cell? ⟨vb,2,none⟩ = some (.string sec)):=fun W' hb => ⟨j2.below hb j2.lt,by rw [(jV2.below hb jV2.lt).cell,q2.out]⟩
  refine regS_in 12 (fun W' => Below w2.heap.size w2 W') Tr.mixed rfl ?_
  have s0:Below w2.heap.size w2 w2.drew:=below_drewN (Below.refl _ _) 1
  refine regS_take 0 26 (.agg X1) rfl rfl (by kernel_rfl) (fun _ _ _ h => h) rfl (fun W' hs => Su.exec_load 189 _ rfl ⟨NB,0,none⟩ rfl _ (by rw [Su.loadV_run W' _ Tryz.isAgg189 36 szSt NB 0 X1 _ (HW2.out W' hs).1 (by omega),Su.ext_all u0])) s0 ?_
  refine regS_take 1 27 (.pointer (some ⟨vb,0,none⟩)) rfl rfl (by kernel_rfl) (fun _ _ _ h => h) rfl (fun w _ => by go_simp) s0 ?_
  refine regS_take 2 28 (.pointer (some ⟨vb,0,none⟩)) rfl rfl (by kernel_rfl) (fun _ _ _ h => h) rfl (fun w _ => by go_simp) s0 ?_
  refine regS_take 3 29 (.pointer (some ⟨vb,2,none⟩)) rfl rfl (by kernel_rfl) (fun _ _ _ h => h) rfl (fun w _ => by go_simp) s0 ?_
  refine regS_take 4 30 (.string sec) rfl rfl (by kernel_rfl) (fun _ _ _ h => h) rfl (fun W' hs => by have c0:=(HW2.out W' hs).2;go_simp) s0 ?_
  refine regS_take 5 31 (.map (some tm)) rfl rfl (by kernel_rfl) (fun _ _ _ h => h) rfl (fun w _ => by go_simp) s0 ?_
  simp only [Act.put,List.setIfInBounds_toArray,List.set_cons_succ,List.set_cons_zero]
  refine regS_one 6 rfl (by kernel_rfl) rfl (fun K hK' => ?_)
  go_wp2_with fail
  have HSd:=sealed_any (cn + 1) ep (nxF f t) (rootP (nxP p t)) (.map (some CB)) sec tm nt t w2.drew (hT2.drew) (by omega) HT.out hsec (hK.below (below_drewN b2 1))
  rw [hX1.out] at HSd
  refine HSd.mono ?_
  rintro e w3 ⟨⟨pg,rfl,ow3⟩,g3⟩
  have s3:Below w2.heap.size w2 w3:=s0.trans g3
  refine hK' _ _ s3 ?_
  clear hK' K HSd g3
  have ow3':w3.ownsRow w2.heap.size 303 2 pg (sl (epoK sec ep) (nxF f t) t 32).length (slC (sl (epoK sec ep) (nxF f t) t 32)):=ow3
  clear ow3
  refine regS_take 7 25 (.tuple #[pg,.nilIface]) rfl rfl (by kernel_rfl) (fun _ _ _ h => h) rfl (fun w _ => by go_simp) s3 ?_
  refine regS_take 8 33 (pg) rfl rfl (by kernel_rfl) (fun _ _ _ h => h) rfl (fun w _ => by go_simp) s3 ?_
  refine regS_take 9 34 (.nilIface) rfl rfl (by kernel_rfl) (fun _ _ _ h => h) rfl (fun w _ => by go_simp) s3 ?_
  refine regS_take 10 9 (pg) rfl rfl (by kernel_rfl) (fun _ _ _ h => h) rfl (fun w _ => by go_simp) s3 ?_
  refine regS_take 11 8 (.nilIface) rfl rfl (by kernel_rfl) (fun _ _ _ h => h) rfl (fun w _ => by go_simp) s3 ?_
  refine regS_end (by kernel_rfl) ?_
  simp only [Act.put,List.setIfInBounds_toArray,List.set_cons_succ,List.set_cons_zero]
  have j3:=j2.below s3 j2.lt
  have jV3:=jV2.below s3 jV2.lt
  have b3:=b2.trans (s3.mono b2.size)
  have hD3:=hD2.below s3
  have hC3:=hC2.below s3 hC2.lt
  have hM3:=hM2.below s3 hM2.lt
  have hz2:Hid (w.heap.size <= w2.heap.size):=b2.size
  clear j2 jV2 b2 hD2 hC2 hM2 hT2 HW2 s0
  go_wp2_with fail
  have HW3:Hid (∀ W',Below w3.heap.size w3 W' -> Blk W' NB X1 189 ∧ W'.cell? ⟨vb,2,none⟩ = some (.string sec)):=fun W' hb => ⟨j3.below hb j3.lt,by rw [(jV3.below hb jV3.lt).cell,q2.out]⟩
  obtain ⟨Y,hY⟩:∃ Y,Hid (Su.supA (cn + 1) ep (nxF f t) (rootP (nxP p t)) = Y):=⟨_,rfl⟩
  rw [hY.out] at u3
  refine regS_in 13 (fun W' => Below w3.heap.size w3 W') Tr.mixed rfl ?_
  have s0:Below w3.heap.size w3 w3.drew:=below_drewN (Below.refl _ _) 1
  refine regS_take 0 39 (.pointer (some ⟨vb,0,none⟩)) rfl rfl (by kernel_rfl) (fun _ _ _ h => h) rfl (fun w _ => by go_simp) s0 ?_
  refine regS_take 1 40 (.pointer (some ⟨vb,0,none⟩)) rfl rfl (by kernel_rfl) (fun _ _ _ h => h) rfl (fun w _ => by go_simp) s0 ?_
  refine regS_take 2 41 (.pointer (some ⟨vb,2,none⟩)) rfl rfl (by kernel_rfl) (fun _ _ _ h => h) rfl (fun w _ => by go_simp) s0 ?_
  refine regS_take 3 42 (.string sec) rfl rfl (by kernel_rfl) (fun _ _ _ h => h) rfl (fun W' hs => by have c0:=(HW3.out W' hs).2;go_simp) s0 ?_
  refine regS_take 5 44 (.pointer (some ⟨NB,0,none⟩)) rfl rfl (by kernel_rfl) (fun _ _ _ h => h) rfl (fun w _ => by go_simp) s0 ?_
  refine regS_take 6 45 (.agg Y) rfl rfl (by kernel_rfl) (fun _ _ _ h => h) rfl (fun W' hs => Su.exec_load 66 _ rfl ⟨NB,0,none⟩ rfl _ (by rw [Su.loadV_run W' _ Tryz.isAgg66 35 Su.sz93 NB 0 X1 _ (HW3.out W' hs).1 (by omega),Nat.zero_add,u3.out])) s0 ?_
  simp only [Act.put,List.setIfInBounds_toArray,List.set_cons_succ,List.set_cons_zero]
  refine regS_one 4 rfl (by kernel_rfl) rfl (fun K hK' => ?_)
  go_wp2_with fail
  refine (superKey_any sec w3.drew hsec (hK.below (below_drewN b3 1))).mono ?_
  rintro e w4 ⟨rfl,g4⟩
  have s4:Below w3.heap.size w3 w4:=s0.trans g4
  refine hK' _ _ s4 ?_
  clear hK' K g4
  refine regS_one 7 rfl (by kernel_rfl) rfl (fun K hK' => ?_)
  go_wp2_with fail
  have HWr:=Su.write_good (supK sec) (cn + 1) ep (nxF f t) (rootP (nxP p t)) w4 (by
    unfold Su.okW Su.okN
    have:=HC.out
    rw [supK_size,rootP_size,decide_eq_true (show (1:Int) <= cn + 1 by omega),decide_eq_true (show cn + 1 <= (1099511627776:Int) by omega),decide_eq_true this.2.2.1,decide_eq_true this.2.2.2.1];rfl) (hK.below (b3.trans (s4.mono b3.size)))
  rw [hY.out] at HWr
  refine HWr.mono ?_
  rintro e w5 ⟨rfl,g5⟩
  have s5:Below w3.heap.size w3 w5:=s4.trans (g5.mono s4.size)
  refine hK' _ _ s5 ?_
  clear hK' K HWr g5 s4
  have ztop:=Su.allT_size (supK sec) (cn + 1) ep (nxF f t) (rootP (nxP p t))
  rw [rootP_size] at ztop
  obtain ⟨top,htop⟩:∃ T,Hid (Su.allT (supK sec) (cn + 1) ep (nxF f t) (rootP (nxP p t)) = T):=⟨_,rfl⟩
  rw [htop.out] at ztop
  rw [htop.out]
  refine regS_take 8 38 (.tuple #[.string top,.nilIface]) rfl rfl (by kernel_rfl) (fun _ _ _ h => h) rfl (fun w _ => by go_simp) s5 ?_
  refine regS_take 9 47 (.string top) rfl rfl (by kernel_rfl) (fun _ _ _ h => h) rfl (fun w _ => by go_simp) s5 ?_
  refine regS_take 10 48 (.nilIface) rfl rfl (by kernel_rfl) (fun _ _ _ h => h) rfl (fun w _ => by go_simp) s5 ?_
  refine regS_take 11 10 (.string top) rfl rfl (by kernel_rfl) (fun _ _ _ h => h) rfl (fun w _ => by go_simp) s5 ?_
  refine regS_take 12 8 (.nilIface) rfl rfl (by kernel_rfl) (fun _ _ _ h => h) rfl (fun w _ => by go_simp) s5 ?_
  refine regS_end (by kernel_rfl) ?_
  simp only [Act.put,List.setIfInBounds_toArray,List.set_cons_succ,List.set_cons_zero]
  have j5:=j3.below s5 j3.lt
  have jV5:=jV3.below s5 jV3.lt
  have b5:=b3.trans (s5.mono b3.size)
  have hD5:=hD3.below s5
  have hC5:=hC3.below s5 hC3.lt
  have hM5:=hM3.below s5 hM3.lt
  have ow5:=row_below ow3' s5
  clear j3 jV3 b3 hD3 hC3 hM3 HW3 s0 u3 ow3' s3 s5
  go_wp2_with fail
  obtain ⟨N,hN⟩:∃ N,Hid (N = (cn + 1).toNat):=⟨_,rfl⟩
  have hNI:Hid (cn + 1 = (N:Int)):=by unfold Hid;rw [hN.out];have:=HC.out;omega
  have hNl:Hid (N < 9007199254740992):=by unfold Hid;rw [hN.out];have:=HC.out;omega
  have hNt:Hid (N % 2 < 66):=by unfold Hid;omega
  refine regS_in 13 (fun W' => Blk W' NB X1 189) Tr.mixed rfl ?_
  have s0:Blk w5.drew NB X1 189:=j5.drewN 1
  refine regS_take 0 52 (.pointer (some ⟨vb,0,none⟩)) rfl rfl (by kernel_rfl) (fun _ _ _ h => h) rfl (fun w _ => by go_simp) s0 ?_
  refine regS_take 1 53 (pg) rfl rfl (by kernel_rfl) (fun _ _ _ h => h) rfl (fun w _ => by go_simp) s0 ?_
  refine regS_take 2 54 (.pointer (some ⟨NB,0,none⟩)) rfl rfl (by kernel_rfl) (fun _ _ _ h => h) rfl (fun w _ => by go_simp) s0 ?_
  refine regS_take 3 55 (.pointer (some ⟨NB,0,none⟩)) rfl rfl (by kernel_rfl) (fun _ _ _ h => h) rfl (fun w _ => by go_simp) s0 ?_
  refine regS_take 4 56 (.int .i64 (cn + 1)) rfl rfl (by kernel_rfl) (fun _ _ _ h => h) rfl (fun W' hs => by have c0:=hs.cell 0;rw [u2] at c0;go_simp) s0 ?_
  refine regS_take 6 58 (.string top) rfl rfl (by kernel_rfl) (fun _ _ _ h => h) rfl (fun w _ => by go_simp) s0 ?_
  refine regS_take 8 60 (.pointer (some ⟨NB,0,none⟩)) rfl rfl (by kernel_rfl) (fun _ _ _ h => h) rfl (fun w _ => by go_simp) s0 ?_
  refine regS_take 9 61 (.pointer (some ⟨NB,0,none⟩)) rfl rfl (by kernel_rfl) (fun _ _ _ h => h) rfl (fun w _ => by go_simp) s0 ?_
  refine regS_take 10 62 (.int .i64 (cn + 1)) rfl rfl (by kernel_rfl) (fun _ _ _ h => h) rfl (fun W' hs => by have c0:=hs.cell 0;rw [u2] at c0;go_simp) s0 ?_
  simp only [Act.put,List.setIfInBounds_toArray,List.set_cons_succ,List.set_cons_zero]
  refine regS_one 5 rfl (by kernel_rfl) rfl (fun K hK' => ?_)
  go_wp2_with fail
  have HPl:Calls Tryz.prog 215 #[.int .i64 (cn + 1)] w5.drew fun e w' => e = .returned (.int .i64 ((N % 2:Nat):Int)) ∧ w' = w5.drew:=by rw [hNI.out];exact superPlace_any N w5.drew hNl.out
  refine HPl.mono ?_
  rintro e w6 ⟨rfl,rfl⟩
  refine hK' _ _ s0 ?_
  clear hK' K HPl
  refine regS_take 7 59 (.agg #[.int .i64 ((N % 2:Nat):Int),.string top]) rfl rfl (by kernel_rfl) (fun _ _ _ h => h) rfl (fun w _ => Su.exec_build 303 #[(0,.tmp 57),(1,.tmp 58)] rfl _ #[(0,.int .i64 ((N % 2:Nat):Int)),(1,.string top)] (by kernel_rfl) (buildVB _ _ w)) s0 ?_
  simp only [Act.put,List.setIfInBounds_toArray,List.set_cons_succ,List.set_cons_zero]
  refine regS_one 11 rfl (by kernel_rfl) rfl (fun K hK' => ?_)
  go_wp2_with fail
  have z5:=b5.size
  have HWw:=vwrite_any vb d c VA O S W v lf pg _ (sl (epoK sec ep) (nxF f t) t 32) (N % 2) top n0 (cn + 1) w5.drew (jV5.drewN 1) q0 q1 (hD5.drewN 1) (hC5.drewN 1) HC.out.2.2.2.2 ow5
    (fun g hg h => by
      have:=(Dv.ownsRow_lt ow5 g hg).1
      have:=HO.out g h
      have:=hz2.out
      omega)
    (fun x hx => by have:=sl_ok (epoK sec ep) (nxF f t) t 32 (by decide) x hx;omega) (sl_len _ _ _ _) hW hNt.out (by rw [ztop];decide) (fun k hk => Nat.lt_of_lt_of_le (HO.out k hk) z5) o2 o3 o4
  refine HWw.mono ?_
  rintro e w7 ⟨rfl,⟨O7,v7,l7,hD7,hO7⟩,hC7,C7'⟩
  have C7:Dv.Chg w5 w7 (fun k => O k ∨ k = c):=⟨C7'.os,C7'.tape,C7'.output,C7'.size,C7'.block⟩
  have hO7':Hid (∀ k,O7 k -> O k ∨ (w5.heap.size <= k ∧ k < w7.heap.size)):=hO7
  have nn:∀ b,b < w5.heap.size -> w.heap.size <= b -> ¬ (O b ∨ b = c):=fun b h1 h2 h => by
    rcases h with h | h
    · exact absurd (HO.out b h) (by omega)
    · have:=hcw.out;omega
  have j7:=j5.chg C7 (nn NB j5.lt hN1.out)
  have jV7:=jV5.chg C7 (fun h => h.elim o2 o4)
  have hM7:MapF Tryz.prog w7 CB (n + nt) (pv (nxP p t)):=hM5.same (C7.block CB hM5.lt (nn CB hM5.lt hCB))
  refine hK' _ _ j7 ?_
  clear hK' K HWw C7' hO7 nn j5 jV5 hD5 hC5 hM5 ow5
  refine regS_take 12 11 (.nilIface) rfl rfl (by kernel_rfl) (fun _ _ _ h => h) rfl (fun w _ => by go_simp) j7 ?_
  refine regS_end (by kernel_rfl) ?_
  simp only [Act.put,List.setIfInBounds_toArray,List.set_cons_succ,List.set_cons_zero]
  clear s0 u2 q0 q1
  go_wp2_with (first
    | (refine Su.wpl_loadV rfl 189 _ rfl Tryz.isAgg189 36 szSt NB 0 X1 189 rfl j7 (by omega) ?_;rw [Su.ext_all u0])
    | (refine Dv.wpl_storeAt rfl rfl 189 _ _ rfl 36 szSt vb 3 VA 193 X1 rfl rfl u0 u1 jV7 (by omega) ?_;intro w8 hu8 j8)
    | fail)
  go_ret
  rw [q5.out X1 u0,<- hX1.out] at j8
  refine ⟨rfl,⟨CB,⟨j8,hM7.upd hu8 ?_⟩,hCB⟩,⟨O7,v7,l7,?_,fun k hk => ?_⟩,hC7.upd hu8 (Ne.symm o4),?_⟩
  · have:=hvw.out;omega
  · rw [htop.out,<- hN.out]
    exact dev_put' hD7 hu8 (fun h => by
      rcases hO7'.out vb h with h | h
      · exact o2 h
      · have:=hvw.out;omega)
  · rcases hO7'.out k hk with h | h
    · exact Or.inl h
    · exact Or.inr ⟨by omega,by rw [hu8.size];exact h.2⟩
  · exact ((chg_then (Dv.Chg.of b5 _) C7 fun k _ h => h.elim Or.inl fun h => Or.inr (Or.inl h))).upd hu8 (Or.inl (Or.inr (Or.inr rfl)))
def tel (g:Int -> Option ByteArray) (p:Int -> Option (Int × ByteArray)) (c:Int) (i:Int):Option (Int × ByteArray):=(g i).bind fun s => if s.toList = (rd p i).2.toList then none else some (c,s)
theorem tel_some {g:Int -> Option ByteArray} {p:Int -> Option (Int × ByteArray)} {c i:Int} {x:Int × ByteArray} (h:tel g p c i = some x):x.1 = c ∧ g i = some x.2:=by
  unfold tel at h
  cases hg:g i with
  | none => rw [hg] at h;cases h
  | some s =>
    rw [hg] at h
    simp only [Option.bind_some] at h
    split at h
    · cases h
    · injection h with h;subst h;exact ⟨rfl,rfl⟩
theorem cut_same {t:Int -> Option (Int × ByteArray)} {left:Int -> Bool} {i:Int} (h:t i = none):cutP t (fun j => left j && !decide (j = i)) = cutP t left:=by
  funext j;unfold cutP
  by_cases e:j = i
  · subst e;simp [h]
  · simp [e]
theorem pv_cut_step {t:Int -> Option (Int × ByteArray)} {left:Int -> Bool} {i:Int} {x:Int × ByteArray} (h:t i = some x) (hl:left i = true):(fun j => if j = i then some (ent x) else pv (cutP t left) j) = pv (cutP t fun j => left j && !decide (j = i)):=by
  funext j
  unfold pv
  rw [cut_step h hl]
  by_cases e:j = i
  · rw [if_pos e,if_pos e];rfl
  · rw [if_neg e,if_neg e]
theorem mkMap (w:World):(Instr.makeMap 187 none).run Tryz.prog w = .ok (.map (some w.heap.size)) (w.alloc (.map #[] 0)):=by kernel_rfl
set_option maxRecDepth 100000 in
set_option maxHeartbeats 1000000 in
theorem tell_ok (vb d c:Nat) (sec:ByteArray) (cn en:Int) (f:Nat -> Bool) (r:ByteArray) (mb n:Nat) (p:Int -> Option (Int × ByteArray)) (m:Value) (nm:Nat) (g:Int -> Option ByteArray) (O:Nat -> Prop) (S:Nat -> Nat -> UInt8) (W:List (Nat × (Nat -> UInt8))) (v:Value) (lf:Int) (n0:Int) (w:World)
    (hV:Vlt w vb d c sec cn en f r mb n p false) (hM:MapV Tryz.prog w m nm (sv g)) (hs:∀ i s,g i = some s -> s.size <= 10000) (hF:¬ Far g) (hWd:¬ Wide g) (hD:Dv.Dev w O d S W (-1) v lf) (hC:Dv.Cnt w c n0) (hm:n0 < cn + 1)
    (hn:n + nm <= 100000) (hc0:0 <= cn) (hc1:cn < 1099511627776) (he0:1 <= en) (he1:en <= 1099511627776) (hp:∀ j:Nat,j < 32 -> (rd p j).2.size <= 300)
    (hsec:sec.size <= 300) (hW:W.length <= 100) (hO:∀ k,O k -> k < w.heap.size) (o2:¬ O vb) (o3:¬ O c) (o4:vb ≠ c) (hK:Sm.KB w) :
    Calls Tryz.prog 68 #[.pointer (some ⟨vb,0,none⟩),m] w fun e w' => e = .returned .nilIface ∧
      (∃ CB n',Vlt w' vb d c sec (cn + 1) en (nxF f (tel g p (cn + 1))) (rootP (nxP p (tel g p (cn + 1)))) CB n' (nxP p (tel g p (cn + 1))) false ∧ w.heap.size <= CB ∧ n' <= n + nm) ∧
      (∃ O' v' l',Dv.Dev w' O' d (sureS (sureS S (W ++ wl (sl (epoK sec en) (nxF f (tel g p (cn + 1))) (tel g p (cn + 1)) 32))) [((cn + 1).toNat % 2,Dv.bAt (Su.allT (supK sec) (cn + 1) en (nxF f (tel g p (cn + 1))) (rootP (nxP p (tel g p (cn + 1))))))]) [] (-1) v' l' ∧ ∀ k,O' k -> Dv.gro O w w' k) ∧ Dv.Cnt w' c (cn + 1) ∧ Dv.Chg w w' (fun k => O k ∨ k = c ∨ k = vb):=by
  have hk0:errV (chkC g) = .nilIface:=chk0 hF hWd
  have HF:Hid (¬ Far g):=hF
  have HWd:Hid (¬ Wide g):=hWd
  have HP:Hid (∀ j:Nat,j < 32 -> (rd p j).2.size <= 300):=hp
  have HC:Hid (0 <= cn ∧ cn < 1099511627776 ∧ 1 <= en ∧ en <= 1099511627776 ∧ n0 < cn + 1):=⟨hc0,hc1,he0,he1,hm⟩
  have HO:Hid (∀ k,O k -> k < w.heap.size):=hO
  clear hF hWd hp he0 he1 hm hO
  go_enter Tryz.func68,Tryz.ntmps68
  go_wp2_with fail
  refine (ready_any w vb d c sec cn en f r mb n p false hV).mono ?_
  rintro e w1 ⟨rfl,hw1⟩
  obtain rfl:w = w1:=hw1.symm
  clear hw1
  simp only [Bool.not_false]
  go_wp2_with fail
  refine (check_any m nm g _ hM hs).mono ?_
  rintro e w2 ⟨rfl,g2⟩
  rw [hk0]
  have hmk:=mkMap w2
  have g3:=g2.trans ((Pg.below_alloc w2 (.map #[] 0)).mono g2.size)
  have t3:=mapF_made Tryz.prog w2
  have hM3:MapV Tryz.prog (w2.alloc (.map #[] 0)) m nm (sv g):=hM.below g3
  have hV3:=hV.below g3 hV.blk.lt hV.map.lt
  have z3:(w2.alloc (.map #[] 0)).heap.size = w2.heap.size + 1:=by simp
  go_wp2_with (first
    | (refine wpl_rangeV rfl 148 _ rfl und3 9 undS m nm (sv g) rfl hM3 ?_;intro w4 cnt4 hR4 hc4 hb4 hz4)
    | fail)
  have b4:=g3.trans (hb4.mono g3.size)
  have hV4:=hV3.below hb4 hV3.blk.lt hV3.map.lt
  have hT4:MapF Tryz.prog w4 w2.heap.size 0 (pv (cutP (tel g p (cn + 1)) fun i => (sv g i).isSome)):=t3.below hb4 (by simp) |>.congr fun i _ => by
    unfold pv cutP sv tel;cases hg:g i <;> simp [hg]
  obtain ⟨R,hR⟩:∃ R,Hid ((w2.alloc (.map #[] 0)).heap.size = R):=⟨_,rfl⟩
  obtain ⟨tm,htm⟩:∃ tm,Hid (w2.heap.size = tm):=⟨_,rfl⟩
  have hRt:Hid (R = tm + 1):=by unfold Hid;rw [<- hR.out,<- htm.out];simp
  have htw:Hid (w.heap.size <= tm):=by unfold Hid;rw [<- htm.out];exact g2.size
  have hmt:Hid (∀ b,m = .map (some b) -> b < tm):=fun b hb => by
    have h1:=hM;rw [hb] at h1;have h2:=h1.lt;have:=htw.out;omega
  rw [hR.out] at hR4
  rw [htm.out] at hT4
  rw [hR.out,htm.out]
  have hvw:Hid (vb < w.heap.size ∧ mb < w.heap.size):=⟨hV.blk.lt,hV.map.lt⟩
  clear t3 hb4 hV3 hM3 g3 g2 hmk z3 hz4 hV hM
  simp only [Act.put,List.setIfInBounds_toArray,List.set_cons_succ,List.set_cons_zero]
  go_loopw [] (fun wr => ∃ left cnt n',RngV Tryz.prog wr m R nm (sv g) left cnt ∧ n' + cnt <= nm ∧ MapF Tryz.prog wr tm n' (pv (cutP (tel g p (cn + 1)) left)) ∧ Vlt wr vb d c sec cn en f r mb n p false ∧ Below w.heap.size w wr) (fun wr => rleft wr R)
  case atStart => exact ⟨_,_,0,hR4,by omega,hT4,hV4,b4⟩
  case round =>
    clear hR4 hc4 hT4 hV4 b4
    obtain ⟨left,cnt,n',hRr,hnn,hTr,hVr,hbr⟩:=hrel
    have hm0:Hid _:=hRr.left_eq
    rcases hRr.next und3 0 with ⟨hd,hrun⟩ | ⟨i,u,w5,cnt5,hi,hl,hf,hrun,hR5,hlt,hu,hen⟩
    · have hd':Hid _:=hd
      clear hd
      go_wp2_with fail
      refine (epoch_any wr vb d c sec cn en f r mb n p false hVr).mono ?_
      rintro e w5 ⟨rfl,hw5⟩
      obtain rfl:wr = w5:=hw5.symm
      clear hw5
      go_wp2_with fail
      have hT5:MapF Tryz.prog wr tm n' (pv (tel g p (cn + 1))):=hTr.congr fun i hi => by unfold pv cutP;rw [hd'.out i hi];rfl
      have hgw:∀ k:Nat,k < 32 -> ∀ s,g (k:Int) = some s -> s.size <= 200:=fun k hk s hs' => Classical.byContradiction fun h => HWd.out ⟨(k:Int),s,kOk_small (by omega) (by omega),hs',by omega⟩
      have hcc:=HC.out
      refine (become_any vb d c sec cn en f r mb n p en tm n' (tel g p (cn + 1)) O S W v lf n0 wr hVr hT5 (hD.below hbr) (hC.below hbr hC.lt) hcc.2.2.2.2 ?_ (by omega) hcc.1 hcc.2.1 hcc.2.2.1 hcc.2.2.2.1 ?_ ?_ hsec hW (fun k hk => Nat.lt_of_lt_of_le (HO.out k hk) hbr.size) o2 o3 o4 (hK.below hbr)).mono ?_
      · intro i hi hs'
        obtain ⟨x,hx⟩:=Option.isSome_iff_exists.1 hs'
        exact Classical.byContradiction fun h => HF.out ⟨i,hi,by rw [(tel_some hx).2];rfl,h⟩
      · intro j hj
        unfold rd nxP
        cases hx:tel g p (cn + 1) (j:Int) with
        | none => exact HP.out j hj
        | some x => have:=hgw j hj _ (tel_some hx).2;simp;omega
      · intro k hk x hx
        have h1:=tel_some hx
        have h2:=hgw k hk _ h1.2
        omega
      · rintro e w6 ⟨rfl,⟨CB,hV6,hCB⟩,⟨O6,v6,l6,hD6,hO6⟩,hC6,C6⟩
        have hz:=hbr.size
        go_wp2_with fail
        go_ret
        refine ⟨rfl,⟨CB,_,hV6,by omega,by omega⟩,⟨O6,v6,l6,hD6,fun k hk => ?_⟩,hC6,chg_then (Dv.Chg.of hbr _) C6 fun k _ h => h⟩
        rcases hO6 k hk with h | h
        · exact Or.inl h
        · exact Or.inr ⟨by omega,h.2⟩
    · obtain ⟨s,hgi,rfl⟩:=sv_inv hf
      have hm5:Hid _:=hR5.left_eq
      have hRtm:=hRt.out
      have hV5:=hVr.upd hu (by have:=hvw.out.1;have:=htw.out;omega) (by have:=hvw.out.2;have:=htw.out;omega)
      have hT5:=hTr.upd hu (by omega)
      have b5:=below_upd hbr hu (by have:=htw.out;omega)
      have hik:0 <= i ∧ i < 32:=Classical.byContradiction fun h => HF.out ⟨i,hi,by rw [hgi];rfl,h⟩
      have hlk:=run_lookV (t:=187) und3 undE _ zeroE (Or.inr ⟨mb,rfl,hV5.map⟩) hi
      rw [pv_get] at hlk
      unfold ent at hlk
      have c38:=hV5.c38
      have hfe:=fldE
      have hR3:rd p i = rd p i:=rfl
      by_cases he:s.toList = (rd p i).2.toList
      · have hte:Hid (tel g p (cn + 1) i = none):=by unfold Hid tel;rw [hgi];simp [he]
        have hl':Hid _:=hl
        clear hl hf hik hgi hRr hTr hVr hbr hu hRtm hR3
        generalize rd p i = x at *
        go_wp2_with fail
        refine ⟨⟨_,_,n',hR5,by omega,?_,hV5,b5⟩,?_⟩
        · rw [cut_same hte.out];exact hT5
        · rw [hm5.out,hm0.out];exact hlt
      · have hte:Hid (tel g p (cn + 1) i = some (cn + 1,s)):=by unfold Hid tel;rw [hgi];simp [he]
        have hl':Hid (left i = true):=hl
        clear hl hf hik hgi hRr hTr hVr hbr hu hRtm hR3
        generalize rd p i = x at *
        have he':(s.toList == x.2.toList) = false:=by simpa using he
        have hbE:∀ w,(Instr.build 227 #[(0,.int .i64 (cn + 1)),(1,.string s)]).run Tryz.prog w = .ok (.agg #[.int .i64 (cn + 1),.string s]) w:=fun w => run_build w 227 _ _ (by kernel_rfl)
        go_wp2_with fail
        refine (count_any w5 vb d c sec cn en f r mb n p false hV5).mono ?_
        rintro e w6 ⟨rfl,hw6⟩
        obtain rfl:w5 = w6:=hw6.symm
        clear hw6
        go_wp2_with (first
          | (refine wpl_putF rfl rfl 187 _ _ _ rfl und3 227 undE tm n' (pv (cutP (tel g p (cn + 1)) left)) i (ent (cn + 1,s)) rfl rfl rfl hT5 (by omega) hi ?_;intro w7 m7 hu7)
          | fail)
        have hRtm:=hRt.out
        have htw':=htw.out
        have hvw':=hvw.out
        refine ⟨⟨_,_,n' + 1,hR5.same (fun b hb => hu7.block b (Nat.ne_of_lt (hmt.out b hb))) (hu7.block R (by omega)),by omega,?_,hV5.upd hu7 (by omega) (by omega),below_upd b5 hu7 htw'⟩,?_⟩
        · rw [<- pv_cut_step hte.out hl'.out];exact m7
        · rw [(hR5.same (w':=w7) (fun b hb => hu7.block b (Nat.ne_of_lt (hmt.out b hb))) (hu7.block R (by omega))).left_eq,hm0.out];exact hlt
def zS:ByteArray:=sb 256 (fun _ => 0)
theorem zS_size:zS.size = 256:=sb_size _ _
theorem zS_C:Su.fC zS = 0:=by kernel_rfl
theorem zS_ok (key:ByteArray):Su.okP key zS = false:=by
  unfold Su.okP Su.okW;rw [zS_C];simp [Su.okN]
theorem par_zS {key:ByteArray} (hk:key.size = 32):Su.parC key zS = 15 ∧ Su.parV key zS = Su.sup0:=by
  unfold Su.parC Su.parV;rw [if_pos hk,if_pos hk,zS_size,zS_ok];exact ⟨rfl,rfl⟩
theorem parV_bad {key s:ByteArray} (h:Su.parC key s = 15):Su.parV key s = Su.sup0:=by
  unfold Su.parC at h;unfold Su.parV
  split
  · rename_i h1;rw [if_pos h1] at h
    split
    · rfl
    · rename_i h2;rw [if_neg h2] at h
      split
      · rename_i h3;rw [if_pos h3] at h;exact absurd h (by decide)
      · rfl
  · rfl
set_option maxRecDepth 100000 in
set_option maxHeartbeats 400000 in
theorem readSuper_bad (d:Nat) (O:Nat -> Prop) (S:Nat -> Nat -> UInt8) (W:List (Nat × (Nat -> UInt8))) (F:Int) (v:Value) (lf:Int) (sec:ByteArray) (n:Nat) (w:World) (hD:Dv.Dev w O d S W F v lf) (hW:W.length <= 1000) (hsec:sec.size <= 300) (hn:n < 9007199254740992) (hK:Sm.KB w)
    (hz:Su.parC (supK sec) (sb 256 (Dv.readF S W (n % 2))) = 15) :
    Calls Tryz.prog 249 #[.pointer (some ⟨d,0,none⟩),.string sec,.int .i64 (n:Int)] w fun e w' => e = .returned (.tuple #[.agg Su.sup0,.bool false]) ∧ Below w.heap.size w w':=by
  have z0:=Su.sup0_size
  have o0:=Su.sup0_one
  have zz:=Su.zero93
  have bb:=Su.build0
  have e15:Su.errV 15 = .iface 34 (.int .i64 15):=rfl
  obtain ⟨Z,hZ⟩:∃ Z,Hid (Su.sup0 = Z):=⟨_,rfl⟩
  rw [hZ.out] at z0 o0 zz bb
  rw [hZ.out]
  have hsz:(sb 256 (Dv.readF S W (n % 2))).size = 256:=sb_size _ _
  obtain ⟨T,hT⟩:∃ T,Hid (sb 256 (Dv.readF S W (n % 2)) = T):=⟨_,rfl⟩
  rw [hT.out] at hz hsz
  have hpv:=Su.supA_one
  go_enter Tryz.func249,Tryz.ntmps249
  go_wp2_with fail
  have g1:=Pg.below_alloc w (.cells Z 66)
  refine (superPlace_any n _ hn).mono ?_
  rintro e w1 ⟨rfl,rfl⟩
  go_wp2_with fail
  refine (Dv.read_ok d O S W F v lf (n % 2) _ (hD.below g1) (by omega) hW).mono ?_
  rintro e w2 ⟨rfl,g2⟩
  rw [hT.out]
  have b2:=g1.trans (g2.mono g1.size)
  have j2:=(Blk.new w Z 66).below g2 (by simp)
  go_wp2_with fail
  refine (superKey_any sec w2 hsec (hK.below b2)).mono ?_
  rintro e w3 ⟨rfl,g3⟩
  have b3:=b2.trans (g3.mono b2.size)
  have j3:=j2.below g3 j2.lt
  go_wp2_with fail
  refine (Su.parse_any (supK sec) T w3 (by omega) (hK.below b3)).mono ?_
  rintro e w4 ⟨rfl,g4⟩
  rw [hz,e15]
  have b4:=b3.trans (g4.mono b3.size)
  have j4:=j3.below g4 j3.lt
  rw [parV_bad hz,hZ.out]
  have j5:=j4.alloc (.cells Z 66)
  have b5:=b4.trans ((Pg.below_alloc w4 (.cells Z 66)).mono b4.size)
  have hlt4:w.heap.size < w4.heap.size:=j4.lt
  go_wp2_with (first
    | (refine Su.wpl_storeV rfl rfl 66 _ _ rfl 35 Su.sz93 w4.heap.size Z 66 Z o0 rfl rfl (Blk.new w4 _ _) z0 z0 ?_;intro w6 hu6 j6;have k6:=j5.upd hu6 (by omega))
    | (refine Su.wpl_storeV rfl rfl 66 _ _ rfl 35 Su.sz93 w.heap.size Z 66 Z o0 rfl rfl k6 z0 z0 ?_;intro w7 hu7 j7)
    | fail)
  exact Su.ret_cellV2 6 7 66 rfl Tryz.isAgg66 35 Su.sz93 w.heap.size Z 66 z0 _ rfl rfl j7 rfl ⟨rfl,below_upd (below_upd b5 hu6 (Nat.le_of_lt hlt4)) hu7 (Nat.le_refl _)⟩
set_option maxRecDepth 100000 in
set_option maxHeartbeats 400000 in
theorem whole_bad (d:Nat) (O:Nat -> Prop) (S:Nat -> Nat -> UInt8) (W:List (Nat × (Nat -> UInt8))) (F:Int) (v:Value) (lf:Int) (sec:ByteArray) (n:Nat) (w:World) (hD:Dv.Dev w O d S W F v lf) (hW:W.length <= 1000) (hsec:sec.size <= 300) (hn:n < 9007199254740992) (hK:Sm.KB w)
    (hz:Su.parC (supK sec) (sb 256 (Dv.readF S W (n % 2))) = 15) :
    Calls Tryz.prog 172 #[.pointer (some ⟨d,0,none⟩),.string sec,.int .i64 (n:Int)] w fun e w' => e = .returned (.tuple #[.agg st0,.bool false]) ∧ Below w.heap.size w w':=by
  have z0:=Su.sup0_size
  have o0:=Su.sup0_one
  have zz:=Su.zero93
  have z1:=st0_size
  have o1:=st0_one
  have zt:=zeroSt
  have bt:=buildSt0
  have hRS:=fun w' (hb:Below w.heap.size w w') => readSuper_bad d O S W F v lf sec n w' (hD.below hb) hW hsec hn (hK.below hb) hz
  obtain ⟨Z,hZ⟩:∃ Z,Hid (Su.sup0 = Z):=⟨_,rfl⟩
  rw [hZ.out] at z0 o0 zz hRS
  obtain ⟨Y,hY⟩:∃ Z,Hid (st0 = Z):=⟨_,rfl⟩
  rw [hY.out] at z1 o1 zt bt
  rw [hY.out]
  have g1:=Pg.below_alloc w (.cells Y 189)
  go_enter Tryz.func172,Tryz.ntmps172
  go_wp2_with fail
  refine (hRS _ g1).mono ?_
  rintro e w2 ⟨rfl,g2⟩
  have b2:=g1.trans (g2.mono g1.size)
  have j2:=(Blk.new w Y 189).below g2 (by simp)
  have j3:=j2.alloc (.cells Z 66)
  have b3:=b2.trans ((Pg.below_alloc w2 (.cells Z 66)).mono b2.size)
  have hlt2:w.heap.size < w2.heap.size:=j2.lt
  clear hRS
  go_wp2_with (first
    | (refine Su.wpl_storeV rfl rfl 66 _ _ rfl 35 Su.sz93 w2.heap.size Z 66 Z o0 rfl rfl (Blk.new w2 _ _) z0 z0 ?_;intro w6 hu6 j6;have k6:=j3.upd hu6 (by omega))
    | (refine Su.wpl_storeV rfl rfl 189 _ _ rfl 36 szSt w.heap.size Y 189 Y o1 rfl rfl k6 z1 z1 ?_;intro w7 hu7 j7)
    | fail)
  exact Su.ret_cellV2 6 7 189 rfl Tryz.isAgg189 36 szSt w.heap.size Y 189 z1 _ rfl rfl j7 rfl ⟨rfl,below_upd (below_upd b3 hu6 (Nat.le_of_lt hlt2)) hu7 (Nat.le_refl _)⟩
theorem wpl_bld {P:Program} {ops:Array Oper} {Q:Exit -> Act -> World -> Prop} {a:Act} {w:World} {rest:List Oper} {o:Oper} (hgd:o.guard = none) (t:TypeId) (parts:Array (Nat × Operand)) (ho:o.op = .build t parts) (vs:Array (Nat × Value)) (hp:(parts.map fun p => (p.1,a.eval p.2)) = vs) (v:Value) (hb:(Instr.build t vs).run P w = .ok v w)
    (h:wpList P ops Q rest (a.put o.dst v) w):wpList P ops Q (o :: rest) a w:=by
  refine wpList_plain hgd fun K hK => ?_
  unfold Oper.wp
  rw [Su.exec_build t parts ho v vs hp hb]
  exact hK _ _ h
theorem build1 (w:World):(Instr.build 66 #[(1,.int .i64 1)]).run Tryz.prog w = .ok (.agg (Su.supA 0 1 (fun _ => false) ⟨#[]⟩)) w:=run_build w 66 _ _ (by kernel_rfl)
set_option maxRecDepth 100000 in
set_option maxHeartbeats 400000 in
theorem last_0 (d c:Nat) (O:Nat -> Prop) (S:Nat -> Nat -> UInt8) (W:List (Nat × (Nat -> UInt8))) (F:Int) (v:Value) (lf:Int) (sec:ByteArray) (w:World) (hD:Dv.Dev w O d S W F v lf) (hC:Dv.Cnt w c 0) (hW:W.length <= 1000) (hsec:sec.size <= 300) (hK:Sm.KB w)
    (hz:Su.parC (supK sec) (sb 256 (Dv.readF S W 1)) = 15) :
    Calls Tryz.prog 112 #[.pointer (some ⟨d,0,none⟩),.pointer (some ⟨c,0,none⟩),.string sec] w fun e w' => (∃ CB,e = .returned (.tuple #[.agg (stA 0 1 (fun _ => false) ⟨#[]⟩ (.map (some CB))),.nilIface]) ∧ MapF Tryz.prog w' CB 0 (fun _ => none) ∧ w.heap.size <= CB) ∧ Below w.heap.size w w':=by
  have z1:=st0_size
  have o1:=st0_one
  have zt:=zeroSt
  have hRS:∀ w',Below w.heap.size w w' -> Calls Tryz.prog 172 #[.pointer (some ⟨d,0,none⟩),.string sec,.int .i64 1] w' fun e w'' => e = .returned (.tuple #[.agg st0,.bool false]) ∧ Below w'.heap.size w' w'':=fun w' hb => by
    have h:=whole_bad d O S W F v lf sec 1 w' (hD.below hb) hW hsec (by decide) (hK.below hb) hz
    rw [show ((1:Nat):Int) = 1 from rfl] at h
    exact h
  obtain ⟨Y,hY⟩:∃ Z,Hid (st0 = Z):=⟨_,rfl⟩
  rw [hY.out] at z1 o1 zt hRS
  have g1:=Pg.below_alloc w (.cells Y 189)
  have b1s:=build1
  obtain ⟨U,hU⟩:∃ Z,Hid (Su.supA 0 1 (fun _ => false) ⟨#[]⟩ = Z):=⟨_,rfl⟩
  rw [hU.out] at b1s
  have B1:Hid (∀ w:World,(Instr.build 66 #[(1,.int .i64 1)]).run Tryz.prog w = .ok (.agg U) w):=b1s
  clear b1s
  have hbs:∀ (m:Option Nat) (w:World),(Instr.build 189 #[(0,.agg U),(1,.map m)]).run Tryz.prog w = .ok (.agg (stA 0 1 (fun _ => false) ⟨#[]⟩ (.map m))) w:=fun m w => by rw [<- hU.out];exact buildSt 0 1 _ _ m w
  have z2:∀ m:Option Nat,(stA 0 1 (fun _ => false) ⟨#[]⟩ (.map m)).size = 36:=fun m => stA_size _ _ _ _ _
  have o2:∀ m:Option Nat,∀ v ∈ (stA 0 1 (fun _ => false) ⟨#[]⟩ (.map m)).toList,v.oneCell' = true:=fun m => stA_one _ _ _ _ _ rfl
  obtain ⟨G,hG⟩:∃ G:Option Nat -> Array Value,Hid (∀ m,stA 0 1 (fun _ => false) ⟨#[]⟩ (.map m) = G m):=⟨_,fun _ => rfl⟩
  simp only [hG.out] at hbs z2 o2
  simp only [hG.out]
  have HG:Hid ((∀ (m:Option Nat) (w:World),(Instr.build 189 #[(0,.agg U),(1,.map m)]).run Tryz.prog w = .ok (.agg (G m)) w) ∧ (∀ m:Option Nat,(G m).size = 36) ∧ ∀ m:Option Nat,∀ v ∈ (G m).toList,v.oneCell' = true):=⟨hbs,z2,o2⟩
  clear hU hG hY hbs z2 o2
  go_enter Tryz.func112,Tryz.ntmps112
  go_wp2_with fail
  refine (Dv.get_any c 0 _ (hC.below g1 hC.lt)).mono ?_
  rintro e w1 ⟨rfl,hw1⟩
  obtain rfl:=hw1
  go_wp2_with fail
  refine (hRS _ g1).mono ?_
  rintro e w2 ⟨rfl,g2⟩
  have b2:=g1.trans (g2.mono g1.size)
  have j2:=(Blk.new w Y 189).below g2 (by simp)
  have j3:=j2.alloc (.cells Y 189)
  have b3:=b2.trans ((Pg.below_alloc w2 (.cells Y 189)).mono b2.size)
  have hlt2:w.heap.size < w2.heap.size:=j2.lt
  clear hRS
  have hmk:=mkMap
  go_wp2_with (first
    | (refine Su.wpl_storeV rfl rfl 189 _ _ rfl 36 szSt w2.heap.size Y 189 Y o1 rfl rfl (Blk.new w2 _ _) z1 z1 ?_;intro w6 hu6 j6;have k6:=j3.upd hu6 (by omega);have b6:=below_upd b3 hu6 (Nat.le_of_lt hlt2))
    | (refine Su.wpl_storeV rfl rfl 189 _ _ rfl 36 szSt w.heap.size Y 189 (G (some w6.heap.size)) (HG.out.2.2 _) rfl rfl (k6.alloc (.map #[] 0)) z1 (HG.out.2.1 _) ?_;intro w7 hu7 j7)
    | (refine wpl_bld rfl 66 _ rfl #[(1,.int .i64 1)] (by kernel_rfl) (.agg U) (B1.out _) ?_)
    | (refine wpl_bld rfl 189 _ rfl #[(0,.agg U),(1,.map (some w6.heap.size))] (by kernel_rfl) (.agg (G (some w6.heap.size))) (HG.out.1 (some w6.heap.size) _) ?_)
    | fail)
  have m6:=(mapF_made Tryz.prog w6).upd hu7 (by have:=b6.size;have:=k6.lt;omega)
  have b7:=b6.trans ((Pg.below_alloc w6 (.map #[] 0)).mono b6.size)
  exact Su.ret_cellV2 6 7 189 rfl Tryz.isAgg189 36 szSt w.heap.size _ 189 (HG.out.2.1 _) _ rfl rfl j7 rfl ⟨⟨w6.heap.size,rfl,m6,b6.size⟩,below_upd b7 hu7 (Nat.le_refl _)⟩
theorem buildVa (d c:Nat) (sec:ByteArray) (CB:Nat) (w:World):(Instr.build 193 #[(0,.pointer (some ⟨d,0,none⟩)),(1,.pointer (some ⟨c,0,none⟩)),(2,.string sec),(3,.agg (stA 0 1 (fun _ => false) ⟨#[]⟩ (.map (some CB))))]).run Tryz.prog w = .ok (.agg (vaA d c sec (stA 0 1 (fun _ => false) ⟨#[]⟩ (.map (some CB))) false)) w:=run_build w 193 _ _ (by kernel_rfl)
set_option maxRecDepth 100000 in
set_option maxHeartbeats 400000 in
theorem open_0 (d c:Nat) (O:Nat -> Prop) (S:Nat -> Nat -> UInt8) (W:List (Nat × (Nat -> UInt8))) (F:Int) (v:Value) (lf:Int) (sec:ByteArray) (w:World) (hD:Dv.Dev w O d S W F v lf) (hC:Dv.Cnt w c 0) (hW:W.length <= 1000) (hsec:sec.size = 16) (hK:Sm.KB w)
    (hz:Su.parC (supK sec) (sb 256 (Dv.readF S W 1)) = 15) :
    Calls Tryz.prog 52 #[.pointer (some ⟨d,0,none⟩),.pointer (some ⟨c,0,none⟩),.string sec] w fun e w' => (∃ VB CB,e = .returned (.tuple #[.pointer (some ⟨VB,0,none⟩),.nilIface]) ∧ Vlt w' VB d c sec 0 1 (fun _ => false) ⟨#[]⟩ CB 0 (fun _ => none) false ∧ w.heap.size <= VB ∧ w.heap.size <= CB) ∧ Below w.heap.size w w':=by
  have hs':(sec.size:Int) = 16:=by omega
  have z1:=st0_size
  have zt:=zeroSt
  obtain ⟨Y,hY⟩:∃ Z,Hid (st0 = Z):=⟨_,rfl⟩
  rw [hY.out] at z1 zt
  clear hY
  go_enter Tryz.func52,Tryz.ntmps52
  go_wp2_with fail
  refine (last_0 d c O S W F v lf sec w hD hC hW (by omega) hK hz).mono ?_
  rintro e w1 ⟨⟨CB,rfl,hM1,hCB⟩,g1⟩
  have u0:=stA_size 0 1 (fun _ => false) ⟨#[]⟩ (.map (some CB))
  have u1:=stA_one 0 1 (fun _ => false) ⟨#[]⟩ (.map (some CB)) rfl
  have B1:Hid (∀ w:World,_):=buildVa d c sec CB
  obtain ⟨X,hX⟩:∃ X,Hid (stA 0 1 (fun _ => false) ⟨#[]⟩ (.map (some CB)) = X):=⟨_,rfl⟩
  rw [hX.out] at u0 u1 B1
  rw [hX.out]
  obtain ⟨VA,hVA⟩:∃ V,Hid (vaA d c sec X false = V):=⟨_,rfl⟩
  rw [hVA.out] at B1
  go_wp2_with (first
    | (refine Su.wpl_storeV rfl rfl 189 _ _ rfl 36 szSt w1.heap.size Y 189 X u1 rfl rfl (Blk.new w1 _ _) z1 u0 ?_;intro w2 hu2 j2)
    | (refine Su.wpl_loadV rfl 189 _ rfl Tryz.isAgg189 36 szSt w1.heap.size 0 X 189 rfl j2 (by omega) ?_;rw [Su.ext_all u0])
    | (refine wpl_bld rfl 193 _ rfl #[(0,.pointer (some ⟨d,0,none⟩)),(1,.pointer (some ⟨c,0,none⟩)),(2,.string sec),(3,.agg X)] (by kernel_rfl) (.agg VA) (B1.out _) ?_)
    | fail)
  go_ret2
  have s2:Below w1.heap.size w1 w2:=below_upd (Pg.below_alloc w1 _) hu2 (Nat.le_refl _)
  have b2:=g1.trans (s2.mono g1.size)
  refine ⟨⟨w2.heap.size,CB,rfl,⟨?_,((hM1.below s2 hM1.lt).alloc _)⟩,b2.size,hCB⟩,b2.trans ((Pg.below_alloc w2 _).mono b2.size)⟩
  rw [hX.out,hVA.out]
  exact Blk.new w2 VA 193
end Go.Proofs.YtjmpjfikcgccdaaGreatDoor.Vt
