/-
  Part of the proof of BaseFindsCard (SyR3 and on).
-/
import Derived.Test.YtjmpjfikcgccdaaGreatDoorB14
namespace Go.Proofs.YtjmpjfikcgccdaaGreatDoor.SyR
open Go.RowKit
open It Nr Sy
set_option maxHeartbeats 2000000 in
theorem insertion_any {α:Type} [Inhabited α] (enc:α -> List Value) (tl:Array Value) (hk:∀ x,(enc x).length = 3) (h1:∀ x,∀ v ∈ enc x,v.oneCell' = true) (cf:α -> α -> Int) (P:Pre cf) (g cap a b N:Nat) (d0 d:Array α) (w0 w:World) (HCM:Cmp Tryz.prog 220 #[] enc cf w0 g d0) (h:SS enc tl 309 w0 g d0 w d) (hN:d.size = N) (hab:a <= b) (hbN:b <= N) (hsz:N <= 100000) :
    Calls Tryz.prog 328 #[.slice (some ⟨g,0,none⟩) N cap,.int .i64 a,.int .i64 b,.func (.func 220) #[] #[]] w fun e w' => e = .returned (.tuple #[]) ∧ ∃ d',SS enc tl 309 w0 g d0 w' d' ∧ Sor cf (nth d') a b ∧ Wi (nth d) (nth d') a b:=by
  have HS:Hid (SS enc tl 309 w0 g d0 w d):=h
  have HN:Hid (d.size = N):=hN
  have HCC:Hid _:=HCM
  clear h hN HCM
  go_enter Tryz.func328,Tryz.ntmps328
  go_wp2_with fail
  go_loopw [8] (fun vi wr => ∃ (i:Nat) (c:Array α),vi = .int .i64 i ∧ a < i ∧ (i <= b ∨ i = a + 1) ∧ Hid (SS enc tl 309 w0 g d0 wr c) ∧ Hid (Sor cf (nth c) a i) ∧ Hid (Wi (nth d) (nth c) a b)) (fun vi _ => b + 2 - (intOf vi).toNat)
  case atStart => exact ⟨a + 1,d,by go_num,by omega,Or.inr rfl,HS.out,Sor.one P _ _ _ (Nat.le_refl _),Wi.refl _ _ _⟩
  case round =>
    obtain ⟨i,c,rfl,hai,hib,HC,HSo,HW⟩:=hrel
    by_cases hlt:i < b
    · have hlt':(i:Int) < (b:Int):=by omega
      go_wp2_with fail
      go_loopw [9] (fun vj wr => ∃ (j:Nat) (c:Array α),vj = .int .i64 j ∧ a <= j ∧ j <= i ∧ Hid (SS enc tl 309 w0 g d0 wr c) ∧ Hid (Ins cf (nth c) a j i) ∧ Hid (Wi (nth d) (nth c) a b)) (fun vj _ => (intOf vj).toNat)
      case atStart => exact ⟨i,c,rfl,by omega,Nat.le_refl _,HC.out,Ins.start HSo.out,HW.out⟩
      case round =>
        clear HC HSo HW
        obtain ⟨j,c,rfl,haj,hji,HC,HI,HW⟩:=hrel
        have hcs:c.size = N:=by rw [HC.out.size,<- HS.out.size];exact HN.out
        have HCS:Hid (c.size = N):=hcs
        clear hcs
        by_cases hja:a < j
        · obtain ⟨p,hp⟩:∃ p:Nat,j = p + 1:=⟨j - 1,by omega⟩
          have HP:Hid (j = p + 1):=hp
          have hja':(a:Int) < (j:Int):=by omega
          have HBJ:Hid (j < c.size):=by unfold Hid;rw [HCS.out];omega
          have HBP:Hid (p < c.size):=by unfold Hid;rw [HCS.out];omega
          have i1:(j:Int) - 1 = (p:Int):=by omega
          have i2:(j:Int) < (N:Int):=by omega
          have i3:(p:Int) < (N:Int):=by omega
          have x1:IntKind.i64.wrap (p:Int) = (p:Int):=by rw [IntKind.wrap_i64];omega
          clear hp
          go_wp2_with fail
          have s0:SS enc tl 309 w0 g d0 wr.drew c:=HC.out.grown (below_drewN (Below.refl _ _) 1)
          refine regS_in 17 (fun W => SS enc tl 309 w0 g d0 W c) Nr.mixed rfl ?_
          refine regS_take 0 18 (.int .i64 (j:Int)) rfl rfl (by kernel_rfl) (fun _ _ _ h => h) (by kernel_rfl) (fun W hW => by go_simp) s0 ?_
          refine regS_take 1 19 (.int .i64 (a:Int)) rfl rfl (by kernel_rfl) (fun _ _ _ h => h) (by kernel_rfl) (fun W hW => by go_simp) s0 ?_
          refine regS_take 2 20 (.bool true) rfl rfl (by kernel_rfl) (fun _ _ _ h => h) (by kernel_rfl) (fun W hW => by go_simp) s0 ?_
          refine regS_take 3 21 (.bool true) rfl rfl (by kernel_rfl) (fun _ _ _ h => h) (by kernel_rfl) (fun W hW => by go_simp) s0 ?_
          refine regS_take 4 22 (.func (.func 220) #[] #[]) rfl rfl (by kernel_rfl) (fun _ _ _ h => h) (by kernel_rfl) (fun W hW => by go_simp) s0 ?_
          refine regS_take 5 23 (.slice (some ⟨g,0,none⟩) N cap) rfl rfl (by kernel_rfl) (fun _ _ _ h => h) (by kernel_rfl) (fun W hW => by go_simp) s0 ?_
          refine regS_take 6 24 (.int .i64 (j:Int)) rfl rfl (by kernel_rfl) (fun _ _ _ h => h) (by kernel_rfl) (fun W hW => by go_simp) s0 ?_
          refine regS_take 7 25 (.pointer (some ⟨g,j * 3,none⟩)) rfl rfl (by kernel_rfl) (fun _ _ _ h => h) (by kernel_rfl) (fun W hW => by go_simp) s0 ?_
          simp only [Act.put,List.setIfInBounds_toArray,List.set_cons_succ,List.set_cons_zero]
          refine regS_take 8 26 (.agg (enc (nth c j)).toArray) rfl rfl (by kernel_rfl) (fun _ _ _ h => h) (by kernel_rfl) (fun W hW => exec_load 309 _ rfl ⟨g,j * 3,none⟩ rfl _ (SS.load hk Tryz.isAgg309 szE (SS.blk hW) HBJ.out)) s0 ?_
          refine regS_take 9 27 (.slice (some ⟨g,0,none⟩) N cap) rfl rfl (by kernel_rfl) (fun _ _ _ h => h) (by kernel_rfl) (fun W hW => by go_simp) s0 ?_
          refine regS_take 10 28 (.int .i64 (j:Int)) rfl rfl (by kernel_rfl) (fun _ _ _ h => h) (by kernel_rfl) (fun W hW => by go_simp) s0 ?_
          refine regS_take 11 29 (.int .i64 (p:Int)) rfl rfl (by kernel_rfl) (fun _ _ _ h => h) (by kernel_rfl) (fun W hW => by go_simp) s0 ?_
          refine regS_take 12 30 (.pointer (some ⟨g,p * 3,none⟩)) rfl rfl (by kernel_rfl) (fun _ _ _ h => h) (by kernel_rfl) (fun W hW => by go_simp) s0 ?_
          simp only [Act.put,List.setIfInBounds_toArray,List.set_cons_succ,List.set_cons_zero]
          refine regS_take 13 31 (.agg (enc (nth c p)).toArray) rfl rfl (by kernel_rfl) (fun _ _ _ h => h) (by kernel_rfl) (fun W hW => exec_load 309 _ rfl ⟨g,p * 3,none⟩ rfl _ (SS.load hk Tryz.isAgg309 szE (SS.blk hW) HBP.out)) s0 ?_
          simp only [Act.put,List.setIfInBounds_toArray,List.set_cons_succ,List.set_cons_zero]
          refine regS_one 14 rfl (by kernel_rfl) (by kernel_rfl) (fun K hK => ?_)
          have HCA:Hid _:=HCC.out wr.drew s0.upd (nth c j) (SS.mem s0 HBJ.out) (nth c p) (SS.mem s0 HBP.out)
          go_wp2_with fail
          refine Calls.mono HCA.out ?_
          rintro e w1 ⟨rfl,g1⟩
          have s1:=s0.grown g1
          refine hK _ _ s1 ?_
          clear hK K HCA g1 s0
          obtain ⟨cv,hcv⟩:∃ cv,cf (nth c j) (nth c p) = cv:=⟨_,rfl⟩
          have HCV:Hid (cf (nth c j) (nth c p) = cv):=hcv
          rw [hcv]
          clear hcv
          by_cases hneg:cv < 0
          · have hd:decide (cv < 0) = true:=decide_eq_true hneg
            refine regS_take 15 33 (.bool true) rfl rfl (by kernel_rfl) (fun _ _ _ h => h) (by kernel_rfl) (fun W hW => by go_simp) s1 ?_
            refine regS_take 16 34 (.bool true) rfl rfl (by kernel_rfl) (fun _ _ _ h => h) (by kernel_rfl) (fun W hW => by go_simp) s1 ?_
            refine regS_end (by kernel_rfl) ?_
            simp only [Act.put,List.setIfInBounds_toArray,List.set_cons_succ,List.set_cons_zero]
            clear HC
            have HC:Hid (SS enc tl 309 w0 g d0 w1 c):=s1
            clear s1
            generalize w1 = wr at *
            go_wp2_with fail
            have hB:Blk wr.drew g (fl enc tl c) 309:=HC.out.blk.drewN 1
            refine region_s [(0,true),(1,true),(2,true),(3,true),(4,true),(5,true),(6,true),(7,true),(8,true),(9,false),(10,true),(11,true),(12,true),(13,false),(14,true)] [] [15,16,17] (fun W => Blk W g (fl enc tl c) 309) Nr.mixed (by kernel_rfl) (fun _ _ _ _ _ h => h) hB ?_
            refine lead_pure _ rfl _ rfl rfl (.slice (some ⟨g,0,none⟩) N cap) (fun W => by go_simp) ?_
            refine lead_pure _ rfl _ rfl rfl (.int .i64 (j:Int)) (fun W => by go_simp) ?_
            refine lead_pure _ rfl _ rfl rfl (.slice (some ⟨g,0,none⟩) N cap) (fun W => by go_simp) ?_
            refine lead_pure _ rfl _ rfl rfl (.int .i64 (j:Int)) (fun W => by go_simp) ?_
            refine lead_pure _ rfl _ rfl rfl (.int .i64 (p:Int)) (fun W => by go_simp) ?_
            refine lead_pure _ rfl _ rfl rfl (.slice (some ⟨g,0,none⟩) N cap) (fun W => by go_simp) ?_
            refine lead_pure _ rfl _ rfl rfl (.int .i64 (j:Int)) (fun W => by go_simp) ?_
            refine lead_pure _ rfl _ rfl rfl (.int .i64 (p:Int)) (fun W => by go_simp) ?_
            refine lead_pure _ rfl _ rfl rfl (.pointer (some ⟨g,p * 3,none⟩)) (fun W => by go_simp) ?_
            simp only [Act.put,List.setIfInBounds_toArray,List.set_cons_succ,List.set_cons_zero]
            refine lead_read _ rfl _ rfl rfl (.agg (enc (nth c p)).toArray) (fun W hW => exec_load 309 _ rfl ⟨g,p * 3,none⟩ rfl _ (SS.load hk Tryz.isAgg309 szE hW HBP.out)) ?_
            refine lead_pure _ rfl _ rfl rfl (.slice (some ⟨g,0,none⟩) N cap) (fun W => by go_simp) ?_
            refine lead_pure _ rfl _ rfl rfl (.int .i64 (j:Int)) (fun W => by go_simp) ?_
            refine lead_pure _ rfl _ rfl rfl (.pointer (some ⟨g,j * 3,none⟩)) (fun W => by go_simp) ?_
            simp only [Act.put,List.setIfInBounds_toArray,List.set_cons_succ,List.set_cons_zero]
            refine lead_read _ rfl _ rfl rfl (.agg (enc (nth c j)).toArray) (fun W hW => exec_load 309 _ rfl ⟨g,j * 3,none⟩ rfl _ (SS.load hk Tryz.isAgg309 szE hW HBJ.out)) ?_
            refine lead_pure _ rfl _ rfl rfl (.pointer (some ⟨g,j * 3,none⟩)) (fun W => by go_simp) ?_
            refine lead_nil ?_
            simp only [Act.put,List.setIfInBounds_toArray,List.set_cons_succ,List.set_cons_zero]
            refine mid_nil ?_
            simp only [List.filterMap_cons,List.getElem?_toArray,List.getElem?_cons_succ,List.getElem?_cons_zero,List.filterMap_nil]
            refine wpl_storeAt rfl rfl 309 _ _ rfl 3 szE g (j * 3) _ 309 (enc (nth c p)).toArray rfl rfl (by simp [hk]) (fl_one h1 _) hB (row_leT hk HBJ.out tl) ?_
            intro w1 u1 j1
            have HS2:Hid _:=HC.out.grown (below_drewN (Below.refl _ _) 1)
            clear hB
            refine wpl_val rfl (.pointer (some ⟨g,p * 3,none⟩)) (by go_simp) ?_
            simp only [Act.put,List.setIfInBounds_toArray,List.set_cons_succ,List.set_cons_zero]
            refine wpl_storeAt rfl rfl 309 _ _ rfl 3 szE g (p * 3) _ 309 (enc (nth c j)).toArray rfl rfl (by simp [hk]) (fl_one h1 _) j1 (by rw [foldset_size];exact row_leT hk HBP.out tl) ?_
            intro w2 u2 j2
            have HS3:Hid _:=SS.swapped hk HS2.out u1 u2 HBJ.out HBP.out j2
            have HX:Hid _:=sw_nth HBJ.out HBP.out
            clear u1 u2 j1 j2 HS2
            go_wp2_with fail
            refine ⟨⟨p,sw c j p,by go_num,by have:=HP.out;omega,by have:=HP.out;omega,HS3.out,?_,?_⟩,by have:=HP.out;simp [intOf];omega⟩
            · have h0:=HI.out
              have hv:=HCV.out
              have hx:=HX.out
              have hpj:=HP.out
              subst hpj
              refine Ins.step P h0 (by omega) hji (by rw [hv];exact hneg) ?_ ?_ ?_
              · rw [hx,if_neg (by omega),if_pos rfl]
              · rw [hx,if_pos rfl]
              · intro x h1 h2;rw [hx,if_neg h2,if_neg h1]
            · have hx:=HX.out
              have hpj:=HP.out
              refine Wi.swap HW.out (i:=j) (j:=p) ⟨by omega,by omega⟩ ⟨by omega,by omega⟩ ?_ ?_ ?_
              · rw [hx,if_pos rfl]
              · rw [hx,if_neg (by omega),if_pos rfl]
              · intro x h1 h2;rw [hx,if_neg h1,if_neg h2]
          · have hd:decide (cv < 0) = false:=decide_eq_false hneg
            refine regS_take 15 33 (.bool false) rfl rfl (by kernel_rfl) (fun _ _ _ h => h) (by kernel_rfl) (fun W hW => by go_simp) s1 ?_
            refine regS_take 16 34 (.bool false) rfl rfl (by kernel_rfl) (fun _ _ _ h => h) (by kernel_rfl) (fun W hW => by go_simp) s1 ?_
            refine regS_end (by kernel_rfl) ?_
            simp only [Act.put,List.setIfInBounds_toArray,List.set_cons_succ,List.set_cons_zero]
            go_wp2_with fail
            refine ⟨⟨i + 1,c,by go_num,by omega,Or.inl (by omega),s1,?_,HW.out⟩,by simp [intOf];omega⟩
            refine Ins.stop P HI.out haj hji (Or.inr ?_)
            have hv:=HCV.out
            have hpj:=HP.out
            subst hpj
            rw [Nat.add_sub_cancel,hv];exact hneg
        · have hja':¬ ((a:Int) < (j:Int)):=by omega
          go_wp2_with fail
          have s0:SS enc tl 309 w0 g d0 wr.drew c:=HC.out.grown (below_drewN (Below.refl _ _) 1)
          refine regS_in 17 (fun W => SS enc tl 309 w0 g d0 W c) Nr.mixed rfl ?_
          refine regS_take 0 18 (.int .i64 (j:Int)) rfl rfl (by kernel_rfl) (fun _ _ _ h => h) (by kernel_rfl) (fun W hW => by go_simp) s0 ?_
          refine regS_take 1 19 (.int .i64 (a:Int)) rfl rfl (by kernel_rfl) (fun _ _ _ h => h) (by kernel_rfl) (fun W hW => by go_simp) s0 ?_
          refine regS_take 2 20 (.bool false) rfl rfl (by kernel_rfl) (fun _ _ _ h => h) (by kernel_rfl) (fun W hW => by go_simp) s0 ?_
          refine regS_take 3 21 (.bool false) rfl rfl (by kernel_rfl) (fun _ _ _ h => h) (by kernel_rfl) (fun W hW => by go_simp) s0 ?_
          refine regS_skip 4 22 rfl rfl (by kernel_rfl) (fun _ _ _ h => h) (by kernel_rfl) s0 ?_
          refine regS_skip 5 23 rfl rfl (by kernel_rfl) (fun _ _ _ h => h) (by kernel_rfl) s0 ?_
          refine regS_skip 6 24 rfl rfl (by kernel_rfl) (fun _ _ _ h => h) (by kernel_rfl) s0 ?_
          refine regS_skip 7 25 rfl rfl (by kernel_rfl) (fun _ _ _ h => h) (by kernel_rfl) s0 ?_
          refine regS_skip 8 26 rfl rfl (by kernel_rfl) (fun _ _ _ h => h) (by kernel_rfl) s0 ?_
          refine regS_skip 9 27 rfl rfl (by kernel_rfl) (fun _ _ _ h => h) (by kernel_rfl) s0 ?_
          refine regS_skip 10 28 rfl rfl (by kernel_rfl) (fun _ _ _ h => h) (by kernel_rfl) s0 ?_
          refine regS_skip 11 29 rfl rfl (by kernel_rfl) (fun _ _ _ h => h) (by kernel_rfl) s0 ?_
          refine regS_skip 12 30 rfl rfl (by kernel_rfl) (fun _ _ _ h => h) (by kernel_rfl) s0 ?_
          refine regS_skip 13 31 rfl rfl (by kernel_rfl) (fun _ _ _ h => h) (by kernel_rfl) s0 ?_
          refine regS_skip 14 32 rfl rfl (by kernel_rfl) (fun _ _ _ h => h) (by kernel_rfl) s0 ?_
          refine regS_skip 15 33 rfl rfl (by kernel_rfl) (fun _ _ _ h => h) (by kernel_rfl) s0 ?_
          refine regS_take 16 34 (.bool false) rfl rfl (by kernel_rfl) (fun _ _ _ h => h) (by kernel_rfl) (fun W hW => by go_simp) s0 ?_
          refine regS_end (by kernel_rfl) ?_
          simp only [Act.put,List.setIfInBounds_toArray,List.set_cons_succ,List.set_cons_zero]
          go_wp2_with fail
          refine ⟨⟨i + 1,c,by go_num,by omega,Or.inl (by omega),s0,?_,HW.out⟩,by simp [intOf];omega⟩
          exact Ins.stop P HI.out haj hji (Or.inl (by omega))
    · go_wp2_with fail
      go_end0
      exact ⟨rfl,c,HC.out,Sor.sub HSo.out (Nat.le_refl _) (by omega),HW.out⟩
set_option maxRecDepth 100000 in
set_option maxHeartbeats 4000000 in
theorem sym_one {α:Type} [Inhabited α] (enc:α -> List Value) (tl:Array Value) (hk:∀ x,(enc x).length = 3) (h1:∀ x,∀ v ∈ enc x,v.oneCell' = true) (cf:α -> α -> Int) (P:Pre cf) (g cap a m b N:Nat) (d0 d:Array α) (w0 w:World) (HCM:Cmp Tryz.prog 220 #[] enc cf w0 g d0) (h:SS enc tl 309 w0 g d0 w d) (hN:d.size = N) (_ham:a < m) (hmb:m < b) (hbN:b <= N) (hsz:N <= 100000) (_ha:Sor cf (nth d) a m) (hb:Sor cf (nth d) m b) (hm1:m = a + 1) :
    Calls Tryz.prog 329 #[.slice (some ⟨g,0,none⟩) N cap,.int .i64 a,.int .i64 m,.int .i64 b,.func (.func 220) #[] #[]] w fun e w' => e = .returned (.tuple #[]) ∧ ∃ d',SS enc tl 309 w0 g d0 w' d' ∧ Sor cf (nth d') a b ∧ Wi (nth d) (nth d') a b:=by
  have HS:Hid (SS enc tl 309 w0 g d0 w d):=h
  have HN:Hid (d.size = N):=hN
  have HCC:Hid _:=HCM
  have HB:Hid (Sor cf (nth d) m b):=hb
  have HM1:Hid (m = a + 1):=hm1
  have e1:(m:Int) - (a:Int) = 1:=by omega
  have HBA:Hid (a < d.size):=by unfold Hid;omega
  have a1:(a:Int) < (N:Int):=by omega
  clear h hN HCM hb _ha hm1
  go_enter Tryz.func329,Tryz.ntmps329
  go_wp2_with fail
  go_loopw [10,11,12] (fun vi vj _ wr => ∃ i j:Nat,vi = .int .i64 i ∧ vj = .int .i64 j ∧ m <= i ∧ i <= j ∧ j <= b ∧ Hid (SS enc tl 309 w0 g d0 wr d) ∧ Hid (i = m ∨ cf (nth d (i - 1)) (nth d a) < 0) ∧ Hid (j = b ∨ Nlt cf (nth d j) (nth d a))) (fun vi vj _ _ => (intOf vj).toNat - (intOf vi).toNat)
  case atStart => exact ⟨m,b,rfl,rfl,Nat.le_refl _,by omega,Nat.le_refl _,HS.out,Or.inl rfl,Or.inl rfl⟩
  case round =>
    obtain ⟨i,j,rfl,rfl,hmi,hij,hjb,HC,HLo,HHi⟩:=hrel
    by_cases hlt:i < j
    · have hlt':(i:Int) < (j:Int):=by omega
      obtain ⟨q,hq⟩:∃ q:Nat,q = (i + j) / 2:=⟨_,rfl⟩
      have hiq:i <= q ∧ q < j:=by omega
      have s2:((i:Int) + (j:Int)) / 2 = (q:Int):=by omega
      have q1:(q:Int) < (N:Int):=by omega
      have HBQ:Hid (q < d.size):=by unfold Hid;rw [HN.out];omega
      clear hq
      go_wp2_with fail
      have s0:SS enc tl 309 w0 g d0 wr.drew d:=HC.out.grown (below_drewN (Below.refl _ _) 1)
      refine regS_in 11 (fun W => SS enc tl 309 w0 g d0 W d) Nr.mixed rfl ?_
      refine regS_take 0 40 (.func (.func 220) #[] #[]) rfl rfl (by kernel_rfl) (fun _ _ _ h => h) (by kernel_rfl) (fun W hW => by go_simp) s0 ?_
      refine regS_take 1 41 (.slice (some ⟨g,0,none⟩) N cap) rfl rfl (by kernel_rfl) (fun _ _ _ h => h) (by kernel_rfl) (fun W hW => by go_simp) s0 ?_
      refine regS_take 2 42 (.int .i64 (q:Int)) rfl rfl (by kernel_rfl) (fun _ _ _ h => h) (by kernel_rfl) (fun W hW => by go_simp) s0 ?_
      refine regS_take 3 43 (.pointer (some ⟨g,q * 3,none⟩)) rfl rfl (by kernel_rfl) (fun _ _ _ h => h) (by kernel_rfl) (fun W hW => by go_simp) s0 ?_
      simp only [Act.put,List.setIfInBounds_toArray,List.set_cons_succ,List.set_cons_zero]
      refine regS_take 4 44 (.agg (enc (nth d q)).toArray) rfl rfl (by kernel_rfl) (fun _ _ _ h => h) (by kernel_rfl) (fun W hW => exec_load 309 _ rfl ⟨g,q * 3,none⟩ rfl _ (SS.load hk Tryz.isAgg309 szE (SS.blk hW) HBQ.out)) s0 ?_
      refine regS_take 5 45 (.slice (some ⟨g,0,none⟩) N cap) rfl rfl (by kernel_rfl) (fun _ _ _ h => h) (by kernel_rfl) (fun W hW => by go_simp) s0 ?_
      refine regS_take 6 46 (.int .i64 (a:Int)) rfl rfl (by kernel_rfl) (fun _ _ _ h => h) (by kernel_rfl) (fun W hW => by go_simp) s0 ?_
      refine regS_take 7 47 (.pointer (some ⟨g,a * 3,none⟩)) rfl rfl (by kernel_rfl) (fun _ _ _ h => h) (by kernel_rfl) (fun W hW => by go_simp) s0 ?_
      simp only [Act.put,List.setIfInBounds_toArray,List.set_cons_succ,List.set_cons_zero]
      refine regS_take 8 48 (.agg (enc (nth d a)).toArray) rfl rfl (by kernel_rfl) (fun _ _ _ h => h) (by kernel_rfl) (fun W hW => exec_load 309 _ rfl ⟨g,a * 3,none⟩ rfl _ (SS.load hk Tryz.isAgg309 szE (SS.blk hW) HBA.out)) s0 ?_
      simp only [Act.put,List.setIfInBounds_toArray,List.set_cons_succ,List.set_cons_zero]
      refine regS_one 9 rfl (by kernel_rfl) (by kernel_rfl) (fun K hK => ?_)
      have HCA:Hid _:=HCC.out wr.drew s0.upd (nth d q) (SS.mem s0 HBQ.out) (nth d a) (SS.mem s0 HBA.out)
      go_wp2_with fail
      refine Calls.mono HCA.out ?_
      rintro e w1 ⟨rfl,g1⟩
      have s1:=s0.grown g1
      refine hK _ _ s1 ?_
      clear hK K HCA g1 s0
      obtain ⟨cv,hcv⟩:∃ cv,cf (nth d q) (nth d a) = cv:=⟨_,rfl⟩
      have HCV:Hid (cf (nth d q) (nth d a) = cv):=hcv
      rw [hcv]
      clear hcv
      by_cases hneg:cv < 0
      · have hd:decide (cv < 0) = true:=decide_eq_true hneg
        refine regS_take 10 50 (.bool true) rfl rfl (by kernel_rfl) (fun _ _ _ h => h) (by kernel_rfl) (fun W hW => by go_simp) s1 ?_
        refine regS_end (by kernel_rfl) ?_
        simp only [Act.put,List.setIfInBounds_toArray,List.set_cons_succ,List.set_cons_zero]
        go_wp2_with fail
        refine ⟨⟨q + 1,j,by go_num,rfl,by omega,by omega,hjb,s1,Or.inr (by rw [Nat.add_sub_cancel,HCV.out];exact hneg),HHi.out⟩,by simp [intOf];omega⟩
      · have hd:decide (cv < 0) = false:=decide_eq_false hneg
        refine regS_take 10 50 (.bool false) rfl rfl (by kernel_rfl) (fun _ _ _ h => h) (by kernel_rfl) (fun W hW => by go_simp) s1 ?_
        refine regS_end (by kernel_rfl) ?_
        simp only [Act.put,List.setIfInBounds_toArray,List.set_cons_succ,List.set_cons_zero]
        go_wp2_with fail
        refine ⟨⟨i,q,rfl,rfl,hmi,hiq.1,by omega,s1,HLo.out,Or.inr (by unfold Nlt;rw [HCV.out];exact hneg)⟩,by simp [intOf];omega⟩
    · obtain rfl:i = j:=by omega
      have i1:IntKind.i64.wrap ((i:Int) - 1) = (i:Int) - 1:=by rw [IntKind.wrap_i64];omega
      go_wp2_with fail
      go_loopw [13] (fun vt wr => ∃ (t:Nat) (c:Array α),vt = .int .i64 t ∧ a <= t ∧ t + 1 <= i ∧ Hid (SS enc tl 309 w0 g d0 wr c) ∧ Hid (Rot (nth d) (nth c) a (a + 1) (t + 1))) (fun vt _ => i - (intOf vt).toNat)
      case atStart => exact ⟨a,d,rfl,Nat.le_refl _,by omega,HC.out,Rot.nothing _ (Or.inr rfl) (by omega) (Nat.le_refl _)⟩
      case round =>
        clear HC
        obtain ⟨t,c,rfl,hat,hti,HC,HR⟩:=hrel
        have hcs:c.size = N:=by rw [HC.out.size,<- HS.out.size];exact HN.out
        have HCS:Hid (c.size = N):=hcs
        clear hcs
        by_cases hlt2:t + 1 < i
        · have hlt3:(t:Int) < (i:Int) - 1:=by omega
          obtain ⟨v,hv⟩:∃ v:Nat,v = t + 1:=⟨_,rfl⟩
          have HV:Hid (v = t + 1):=hv
          have HBT:Hid (t < c.size):=by unfold Hid;rw [HCS.out];omega
          have HBV:Hid (v < c.size):=by unfold Hid;rw [HCS.out];omega
          have t1:(t:Int) < (N:Int):=by omega
          have v1:(v:Int) < (N:Int):=by omega
          have v2:(t:Int) + 1 = (v:Int):=by omega
          have v3:IntKind.i64.wrap (v:Int) = (v:Int):=by rw [IntKind.wrap_i64];omega
          clear hv
          go_wp2_with fail
          have hB:Blk wr.drew g (fl enc tl c) 309:=HC.out.blk.drewN 1
          refine region_s [(0,true),(1,true),(2,true),(3,true),(4,true),(5,true),(6,true),(7,true),(8,true),(9,false),(10,true),(11,true),(12,true),(13,false),(14,true)] [] [15,16,17] (fun W => Blk W g (fl enc tl c) 309) Nr.mixed (by kernel_rfl) (fun _ _ _ _ _ h => h) hB ?_
          refine lead_pure _ rfl _ rfl rfl (.slice (some ⟨g,0,none⟩) N cap) (fun W => by go_simp) ?_
          refine lead_pure _ rfl _ rfl rfl (.int .i64 (t:Int)) (fun W => by go_simp) ?_
          refine lead_pure _ rfl _ rfl rfl (.slice (some ⟨g,0,none⟩) N cap) (fun W => by go_simp) ?_
          refine lead_pure _ rfl _ rfl rfl (.int .i64 (t:Int)) (fun W => by go_simp) ?_
          refine lead_pure _ rfl _ rfl rfl (.int .i64 (v:Int)) (fun W => by go_simp) ?_
          refine lead_pure _ rfl _ rfl rfl (.slice (some ⟨g,0,none⟩) N cap) (fun W => by go_simp) ?_
          refine lead_pure _ rfl _ rfl rfl (.int .i64 (t:Int)) (fun W => by go_simp) ?_
          refine lead_pure _ rfl _ rfl rfl (.int .i64 (v:Int)) (fun W => by go_simp) ?_
          refine lead_pure _ rfl _ rfl rfl (.pointer (some ⟨g,v * 3,none⟩)) (fun W => by go_simp) ?_
          simp only [Act.put,List.setIfInBounds_toArray,List.set_cons_succ,List.set_cons_zero]
          refine lead_read _ rfl _ rfl rfl (.agg (enc (nth c v)).toArray) (fun W hW => exec_load 309 _ rfl ⟨g,v * 3,none⟩ rfl _ (SS.load hk Tryz.isAgg309 szE hW HBV.out)) ?_
          refine lead_pure _ rfl _ rfl rfl (.slice (some ⟨g,0,none⟩) N cap) (fun W => by go_simp) ?_
          refine lead_pure _ rfl _ rfl rfl (.int .i64 (t:Int)) (fun W => by go_simp) ?_
          refine lead_pure _ rfl _ rfl rfl (.pointer (some ⟨g,t * 3,none⟩)) (fun W => by go_simp) ?_
          simp only [Act.put,List.setIfInBounds_toArray,List.set_cons_succ,List.set_cons_zero]
          refine lead_read _ rfl _ rfl rfl (.agg (enc (nth c t)).toArray) (fun W hW => exec_load 309 _ rfl ⟨g,t * 3,none⟩ rfl _ (SS.load hk Tryz.isAgg309 szE hW HBT.out)) ?_
          refine lead_pure _ rfl _ rfl rfl (.pointer (some ⟨g,t * 3,none⟩)) (fun W => by go_simp) ?_
          refine lead_nil ?_
          simp only [Act.put,List.setIfInBounds_toArray,List.set_cons_succ,List.set_cons_zero]
          refine mid_nil ?_
          simp only [List.filterMap_cons,List.getElem?_toArray,List.getElem?_cons_succ,List.getElem?_cons_zero,List.filterMap_nil]
          refine wpl_storeAt rfl rfl 309 _ _ rfl 3 szE g (t * 3) _ 309 (enc (nth c v)).toArray rfl rfl (by simp [hk]) (fl_one h1 _) hB (row_leT hk HBT.out tl) ?_
          intro w1 u1 j1
          have HS2:Hid _:=HC.out.grown (below_drewN (Below.refl _ _) 1)
          clear hB
          refine wpl_val rfl (.pointer (some ⟨g,v * 3,none⟩)) (by go_simp) ?_
          simp only [Act.put,List.setIfInBounds_toArray,List.set_cons_succ,List.set_cons_zero]
          refine wpl_storeAt rfl rfl 309 _ _ rfl 3 szE g (v * 3) _ 309 (enc (nth c t)).toArray rfl rfl (by simp [hk]) (fl_one h1 _) j1 (by rw [foldset_size];exact row_leT hk HBV.out tl) ?_
          intro w2 u2 j2
          have HS3:Hid _:=SS.swapped hk HS2.out u1 u2 HBT.out HBV.out j2
          have HX:Hid _:=sw_nth HBT.out HBV.out
          clear u1 u2 j1 j2 HS2
          go_wp2_with fail
          have hv:=HV.out
          refine ⟨⟨v,sw c t v,rfl,by omega,by omega,HS3.out,?_⟩,by simp [intOf];omega⟩
          have hx:=HX.out
          rw [hv] at hx ⊢
          refine Rot.stepR HR.out hat ?_ ?_ ?_
          · rw [hx,if_pos rfl]
          · rw [hx,if_neg (by omega),if_pos rfl]
          · intro x h1 h2;rw [hx,if_neg h1,if_neg h2]
        · have hlt3:¬ ((t:Int) < (i:Int) - 1):=by omega
          go_wp2_with fail
          refine bodyPost_ret (results_none rfl _ _ _) rfl ?_
          have hti':t + 1 = i:=by omega
          have hr:=HR.out
          rw [hti'] at hr
          exact ⟨rfl,c,HC.out,mrg_left P HB.out HM1.out hmi hjb HLo.out HHi.out hr,(hr.wi (by omega) (by have:=HM1.out;omega)).wide (Nat.le_refl _) hjb⟩
set_option maxRecDepth 100000 in
set_option maxHeartbeats 4000000 in
theorem sym_last {α:Type} [Inhabited α] (enc:α -> List Value) (tl:Array Value) (hk:∀ x,(enc x).length = 3) (h1:∀ x,∀ v ∈ enc x,v.oneCell' = true) (cf:α -> α -> Int) (P:Pre cf) (g cap a m b N:Nat) (d0 d:Array α) (w0 w:World) (HCM:Cmp Tryz.prog 220 #[] enc cf w0 g d0) (h:SS enc tl 309 w0 g d0 w d) (hN:d.size = N) (_ham:a < m) (_hmb:m < b) (hbN:b <= N) (hsz:N <= 100000) (ha:Sor cf (nth d) a m) (_hb:Sor cf (nth d) m b) (hm1:m ≠ a + 1) (hb1:b = m + 1) :
    Calls Tryz.prog 329 #[.slice (some ⟨g,0,none⟩) N cap,.int .i64 a,.int .i64 m,.int .i64 b,.func (.func 220) #[] #[]] w fun e w' => e = .returned (.tuple #[]) ∧ ∃ d',SS enc tl 309 w0 g d0 w' d' ∧ Sor cf (nth d') a b ∧ Wi (nth d) (nth d') a b:=by
  have HS:Hid (SS enc tl 309 w0 g d0 w d):=h
  have HN:Hid (d.size = N):=hN
  have HCC:Hid _:=HCM
  have HA:Hid (Sor cf (nth d) a m):=ha
  have HB1:Hid (b = m + 1):=hb1
  have e1:((m:Int) - (a:Int) == 1) = false:=by rw [beq_eq_false_iff_ne];omega
  have e2:(b:Int) - (m:Int) = 1:=by omega
  have HBM:Hid (m < d.size):=by unfold Hid;omega
  have a1:(m:Int) < (N:Int):=by omega
  clear h hN HCM _hb ha hm1 hb1
  go_enter Tryz.func329,Tryz.ntmps329
  go_wp2_with fail
  go_loopw [14,15,16] (fun vi vj _ wr => ∃ i j:Nat,vi = .int .i64 i ∧ vj = .int .i64 j ∧ a <= i ∧ i <= j ∧ j <= m ∧ Hid (SS enc tl 309 w0 g d0 wr d) ∧ Hid (i = a ∨ Nlt cf (nth d m) (nth d (i - 1))) ∧ Hid (j = m ∨ cf (nth d m) (nth d j) < 0)) (fun vi vj _ _ => (intOf vj).toNat - (intOf vi).toNat)
  case atStart => exact ⟨a,m,rfl,rfl,Nat.le_refl _,by omega,Nat.le_refl _,HS.out,Or.inl rfl,Or.inl rfl⟩
  case round =>
    obtain ⟨i,j,rfl,rfl,hmi,hij,hjb,HC,HLo,HHi⟩:=hrel
    by_cases hlt:i < j
    · have hlt':(i:Int) < (j:Int):=by omega
      obtain ⟨q,hq⟩:∃ q:Nat,q = (i + j) / 2:=⟨_,rfl⟩
      have hiq:i <= q ∧ q < j:=by omega
      have s2:((i:Int) + (j:Int)) / 2 = (q:Int):=by omega
      have q1:(q:Int) < (N:Int):=by omega
      have HBQ:Hid (q < d.size):=by unfold Hid;rw [HN.out];omega
      clear hq
      go_wp2_with fail
      have s0:SS enc tl 309 w0 g d0 wr.drew d:=HC.out.grown (below_drewN (Below.refl _ _) 1)
      refine regS_in 12 (fun W => SS enc tl 309 w0 g d0 W d) Nr.mixed rfl ?_
      refine regS_take 0 92 (.func (.func 220) #[] #[]) rfl rfl (by kernel_rfl) (fun _ _ _ h => h) (by kernel_rfl) (fun W hW => by go_simp) s0 ?_
      refine regS_take 1 93 (.slice (some ⟨g,0,none⟩) N cap) rfl rfl (by kernel_rfl) (fun _ _ _ h => h) (by kernel_rfl) (fun W hW => by go_simp) s0 ?_
      refine regS_take 2 94 (.int .i64 (m:Int)) rfl rfl (by kernel_rfl) (fun _ _ _ h => h) (by kernel_rfl) (fun W hW => by go_simp) s0 ?_
      refine regS_take 3 95 (.pointer (some ⟨g,m * 3,none⟩)) rfl rfl (by kernel_rfl) (fun _ _ _ h => h) (by kernel_rfl) (fun W hW => by go_simp) s0 ?_
      simp only [Act.put,List.setIfInBounds_toArray,List.set_cons_succ,List.set_cons_zero]
      refine regS_take 4 96 (.agg (enc (nth d m)).toArray) rfl rfl (by kernel_rfl) (fun _ _ _ h => h) (by kernel_rfl) (fun W hW => exec_load 309 _ rfl ⟨g,m * 3,none⟩ rfl _ (SS.load hk Tryz.isAgg309 szE (SS.blk hW) HBM.out)) s0 ?_
      refine regS_take 5 97 (.slice (some ⟨g,0,none⟩) N cap) rfl rfl (by kernel_rfl) (fun _ _ _ h => h) (by kernel_rfl) (fun W hW => by go_simp) s0 ?_
      refine regS_take 6 98 (.int .i64 (q:Int)) rfl rfl (by kernel_rfl) (fun _ _ _ h => h) (by kernel_rfl) (fun W hW => by go_simp) s0 ?_
      refine regS_take 7 99 (.pointer (some ⟨g,q * 3,none⟩)) rfl rfl (by kernel_rfl) (fun _ _ _ h => h) (by kernel_rfl) (fun W hW => by go_simp) s0 ?_
      simp only [Act.put,List.setIfInBounds_toArray,List.set_cons_succ,List.set_cons_zero]
      refine regS_take 8 100 (.agg (enc (nth d q)).toArray) rfl rfl (by kernel_rfl) (fun _ _ _ h => h) (by kernel_rfl) (fun W hW => exec_load 309 _ rfl ⟨g,q * 3,none⟩ rfl _ (SS.load hk Tryz.isAgg309 szE (SS.blk hW) HBQ.out)) s0 ?_
      simp only [Act.put,List.setIfInBounds_toArray,List.set_cons_succ,List.set_cons_zero]
      refine regS_one 9 rfl (by kernel_rfl) (by kernel_rfl) (fun K hK => ?_)
      have HCA:Hid _:=HCC.out wr.drew s0.upd (nth d m) (SS.mem s0 HBM.out) (nth d q) (SS.mem s0 HBQ.out)
      go_wp2_with fail
      refine Calls.mono HCA.out ?_
      rintro e w1 ⟨rfl,g1⟩
      have s1:=s0.grown g1
      refine hK _ _ s1 ?_
      clear hK K HCA g1 s0
      obtain ⟨cv,hcv⟩:∃ cv,cf (nth d m) (nth d q) = cv:=⟨_,rfl⟩
      have HCV:Hid (cf (nth d m) (nth d q) = cv):=hcv
      rw [hcv]
      clear hcv
      by_cases hneg:cv < 0
      · have hd:decide (cv < 0) = true:=decide_eq_true hneg
        refine regS_take 10 102 (.bool true) rfl rfl (by kernel_rfl) (fun _ _ _ h => h) (by kernel_rfl) (fun W hW => by go_simp) s1 ?_
        refine regS_take 11 103 (.bool false) rfl rfl (by kernel_rfl) (fun _ _ _ h => h) (by kernel_rfl) (fun W hW => by go_simp) s1 ?_
        refine regS_end (by kernel_rfl) ?_
        simp only [Act.put,List.setIfInBounds_toArray,List.set_cons_succ,List.set_cons_zero]
        go_wp2_with fail
        refine ⟨⟨i,q,rfl,rfl,hmi,hiq.1,by omega,s1,HLo.out,Or.inr (by rw [HCV.out];exact hneg)⟩,by simp [intOf];omega⟩
      · have hd:decide (cv < 0) = false:=decide_eq_false hneg
        refine regS_take 10 102 (.bool false) rfl rfl (by kernel_rfl) (fun _ _ _ h => h) (by kernel_rfl) (fun W hW => by go_simp) s1 ?_
        refine regS_take 11 103 (.bool true) rfl rfl (by kernel_rfl) (fun _ _ _ h => h) (by kernel_rfl) (fun W hW => by go_simp) s1 ?_
        refine regS_end (by kernel_rfl) ?_
        simp only [Act.put,List.setIfInBounds_toArray,List.set_cons_succ,List.set_cons_zero]
        go_wp2_with fail
        refine ⟨⟨q + 1,j,by go_num,rfl,by omega,by omega,hjb,s1,Or.inr (by unfold Nlt;rw [Nat.add_sub_cancel,HCV.out];exact hneg),HHi.out⟩,by simp [intOf];omega⟩
    · obtain rfl:i = j:=by omega
      go_wp2_with fail
      go_loopw [17] (fun vt wr => ∃ (t:Nat) (c:Array α),vt = .int .i64 t ∧ i <= t ∧ t <= m ∧ Hid (SS enc tl 309 w0 g d0 wr c) ∧ Hid (Rot (nth d) (nth c) t m (m + 1))) (fun vt _ => (intOf vt).toNat)
      case atStart => exact ⟨m,d,rfl,hjb,Nat.le_refl _,HC.out,Rot.nothing _ (Or.inl rfl) (Nat.le_refl _) (by omega)⟩
      case round =>
        clear HC
        obtain ⟨t,c,rfl,hit,htm,HC,HR⟩:=hrel
        have hcs:c.size = N:=by rw [HC.out.size,<- HS.out.size];exact HN.out
        have HCS:Hid (c.size = N):=hcs
        clear hcs
        by_cases hlt2:i < t
        · have hlt3:(i:Int) < (t:Int):=by omega
          obtain ⟨v,hv⟩:∃ v:Nat,t = v + 1:=⟨t - 1,by omega⟩
          have HV:Hid (t = v + 1):=hv
          have HBT:Hid (t < c.size):=by unfold Hid;rw [HCS.out];omega
          have HBV:Hid (v < c.size):=by unfold Hid;rw [HCS.out];omega
          have t1:(t:Int) < (N:Int):=by omega
          have v1:(v:Int) < (N:Int):=by omega
          have v2:(t:Int) - 1 = (v:Int):=by omega
          have v3:IntKind.i64.wrap (v:Int) = (v:Int):=by rw [IntKind.wrap_i64];omega
          clear hv
          go_wp2_with fail
          have hB:Blk wr.drew g (fl enc tl c) 309:=HC.out.blk.drewN 1
          refine region_s [(0,true),(1,true),(2,true),(3,true),(4,true),(5,true),(6,true),(7,true),(8,true),(9,false),(10,true),(11,true),(12,true),(13,false),(14,true)] [] [15,16,17] (fun W => Blk W g (fl enc tl c) 309) Nr.mixed (by kernel_rfl) (fun _ _ _ _ _ h => h) hB ?_
          refine lead_pure _ rfl _ rfl rfl (.slice (some ⟨g,0,none⟩) N cap) (fun W => by go_simp) ?_
          refine lead_pure _ rfl _ rfl rfl (.int .i64 (t:Int)) (fun W => by go_simp) ?_
          refine lead_pure _ rfl _ rfl rfl (.slice (some ⟨g,0,none⟩) N cap) (fun W => by go_simp) ?_
          refine lead_pure _ rfl _ rfl rfl (.int .i64 (t:Int)) (fun W => by go_simp) ?_
          refine lead_pure _ rfl _ rfl rfl (.int .i64 (v:Int)) (fun W => by go_simp) ?_
          refine lead_pure _ rfl _ rfl rfl (.slice (some ⟨g,0,none⟩) N cap) (fun W => by go_simp) ?_
          refine lead_pure _ rfl _ rfl rfl (.int .i64 (t:Int)) (fun W => by go_simp) ?_
          refine lead_pure _ rfl _ rfl rfl (.int .i64 (v:Int)) (fun W => by go_simp) ?_
          refine lead_pure _ rfl _ rfl rfl (.pointer (some ⟨g,v * 3,none⟩)) (fun W => by go_simp) ?_
          simp only [Act.put,List.setIfInBounds_toArray,List.set_cons_succ,List.set_cons_zero]
          refine lead_read _ rfl _ rfl rfl (.agg (enc (nth c v)).toArray) (fun W hW => exec_load 309 _ rfl ⟨g,v * 3,none⟩ rfl _ (SS.load hk Tryz.isAgg309 szE hW HBV.out)) ?_
          refine lead_pure _ rfl _ rfl rfl (.slice (some ⟨g,0,none⟩) N cap) (fun W => by go_simp) ?_
          refine lead_pure _ rfl _ rfl rfl (.int .i64 (t:Int)) (fun W => by go_simp) ?_
          refine lead_pure _ rfl _ rfl rfl (.pointer (some ⟨g,t * 3,none⟩)) (fun W => by go_simp) ?_
          simp only [Act.put,List.setIfInBounds_toArray,List.set_cons_succ,List.set_cons_zero]
          refine lead_read _ rfl _ rfl rfl (.agg (enc (nth c t)).toArray) (fun W hW => exec_load 309 _ rfl ⟨g,t * 3,none⟩ rfl _ (SS.load hk Tryz.isAgg309 szE hW HBT.out)) ?_
          refine lead_pure _ rfl _ rfl rfl (.pointer (some ⟨g,t * 3,none⟩)) (fun W => by go_simp) ?_
          refine lead_nil ?_
          simp only [Act.put,List.setIfInBounds_toArray,List.set_cons_succ,List.set_cons_zero]
          refine mid_nil ?_
          simp only [List.filterMap_cons,List.getElem?_toArray,List.getElem?_cons_succ,List.getElem?_cons_zero,List.filterMap_nil]
          refine wpl_storeAt rfl rfl 309 _ _ rfl 3 szE g (t * 3) _ 309 (enc (nth c v)).toArray rfl rfl (by simp [hk]) (fl_one h1 _) hB (row_leT hk HBT.out tl) ?_
          intro w1 u1 j1
          have HS2:Hid _:=HC.out.grown (below_drewN (Below.refl _ _) 1)
          clear hB
          refine wpl_val rfl (.pointer (some ⟨g,v * 3,none⟩)) (by go_simp) ?_
          simp only [Act.put,List.setIfInBounds_toArray,List.set_cons_succ,List.set_cons_zero]
          refine wpl_storeAt rfl rfl 309 _ _ rfl 3 szE g (v * 3) _ 309 (enc (nth c t)).toArray rfl rfl (by simp [hk]) (fl_one h1 _) j1 (by rw [foldset_size];exact row_leT hk HBV.out tl) ?_
          intro w2 u2 j2
          have HS3:Hid _:=SS.swapped hk HS2.out u1 u2 HBT.out HBV.out j2
          have HX:Hid _:=sw_nth HBT.out HBV.out
          clear u1 u2 j1 j2 HS2
          go_wp2_with fail
          have hv:=HV.out
          refine ⟨⟨v,sw c t v,by go_num,by omega,by omega,HS3.out,?_⟩,by simp [intOf];omega⟩
          have hx:=HX.out
          have hr:=HR.out
          rw [hv] at hx hr ⊢
          refine Rot.stepL hr (by omega) ?_ ?_ ?_
          · rw [hx,if_pos rfl]
          · rw [hx,if_neg (by omega),if_pos rfl]
          · intro x h1 h2;rw [hx,if_neg h1,if_neg h2]
        · have hlt3:¬ ((i:Int) < (t:Int)):=by omega
          go_wp2_with fail
          refine bodyPost_ret (results_none rfl _ _ _) rfl ?_
          obtain rfl:t = i:=by omega
          have hr:=HR.out
          exact ⟨rfl,c,HC.out,mrg_right P HA.out HB1.out hmi hjb HLo.out HHi.out hr,(hr.wi htm (by omega)).wide hmi (by have:=HB1.out;omega)⟩
end Go.Proofs.YtjmpjfikcgccdaaGreatDoor.SyR
