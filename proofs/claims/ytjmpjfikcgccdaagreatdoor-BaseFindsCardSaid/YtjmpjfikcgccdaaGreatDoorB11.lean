/-
  Part of the proof of BaseFindsCard (SyC4 and on).
-/
import Derived.Test.YtjmpjfikcgccdaaGreatDoorB10
import Derived.Deep.CutRange
namespace Go.Proofs.YtjmpjfikcgccdaaGreatDoor.SyC
open Go.RowKit
open It Nr Sy
set_option maxRecDepth 100000 in
set_option maxHeartbeats 4000000 in
theorem sym_one {α:Type} [Inhabited α] (enc:α -> List Value) (tl:Array Value) (hk:∀ x,(enc x).length = 2) (h1:∀ x,∀ v ∈ enc x,v.oneCell' = true) (cf:α -> α -> Int) (P:Pre cf) (g cap a m b N:Nat) (d0 d:Array α) (w0 w:World) (HCM:Cmp Tryz.prog 177 #[] enc cf w0 g d0) (h:SS enc tl 242 w0 g d0 w d) (hN:d.size = N) (_ham:a < m) (hmb:m < b) (hbN:b <= N) (hsz:N <= 100000) (_ha:Sor cf (nth d) a m) (hb:Sor cf (nth d) m b) (hm1:m = a + 1) :
    Calls Tryz.prog 302 #[.slice (some ⟨g,0,none⟩) N cap,.int .i64 a,.int .i64 m,.int .i64 b,.func (.func 177) #[] #[]] w fun e w' => e = .returned (.tuple #[]) ∧ ∃ d',SS enc tl 242 w0 g d0 w' d' ∧ Sor cf (nth d') a b ∧ Wi (nth d) (nth d') a b:=by
  have HS:Hid (SS enc tl 242 w0 g d0 w d):=h
  have HN:Hid (d.size = N):=hN
  have HCC:Hid _:=HCM
  have HB:Hid (Sor cf (nth d) m b):=hb
  have HM1:Hid (m = a + 1):=hm1
  have e1:(m:Int) - (a:Int) = 1:=by omega
  have HBA:Hid (a < d.size):=by unfold Hid;omega
  have a1:(a:Int) < (N:Int):=by omega
  clear h hN HCM hb _ha hm1
  go_enter Tryz.func302,Tryz.ntmps302
  go_wp2_with fail
  go_loopw [10,11,12] (fun vi vj _ wr => ∃ i j:Nat,vi = .int .i64 i ∧ vj = .int .i64 j ∧ m <= i ∧ i <= j ∧ j <= b ∧ Hid (SS enc tl 242 w0 g d0 wr d) ∧ Hid (i = m ∨ cf (nth d (i - 1)) (nth d a) < 0) ∧ Hid (j = b ∨ Nlt cf (nth d j) (nth d a))) (fun vi vj _ _ => (intOf vj).toNat - (intOf vi).toNat)
  case atStart => exact ⟨m,b,rfl,rfl,Nat.le_refl _,by omega,Nat.le_refl _,HS.out,Or.inl rfl,Or.inl rfl⟩
  case round =>
    obtain ⟨i,j,rfl,rfl,hmi,hij,hjb,HC,HLo,HHi⟩:=hrel
    by_cases hlt:i < j
    · have hlt':(i:Int) < (j:Int):=by omega
      obtain ⟨q,hq⟩:∃ q:Nat,q = (i + j) / 2:=⟨_,rfl⟩
      have hiq:i <= q ∧ q < j:=by omega
      have s2:((i:Int) + (j:Int)) / 2 = (q:Int):=by omega
      have q1:(q:Int) < (N:Int):=by omega
      have HBQ:Hid (q < d.size):=by unfold Hid;rw [HN.out];omega
      clear hq
      go_wp2_with fail
      have s0:SS enc tl 242 w0 g d0 wr.drew d:=HC.out.grown (below_drewN (Below.refl _ _) 1)
      refine regS_in 11 (fun W => SS enc tl 242 w0 g d0 W d) Nr.mixed rfl ?_
      refine regS_take 0 40 (.func (.func 177) #[] #[]) rfl rfl (by kernel_rfl) (fun _ _ _ h => h) (by kernel_rfl) (fun W hW => by go_simp) s0 ?_
      refine regS_take 1 41 (.slice (some ⟨g,0,none⟩) N cap) rfl rfl (by kernel_rfl) (fun _ _ _ h => h) (by kernel_rfl) (fun W hW => by go_simp) s0 ?_
      refine regS_take 2 42 (.int .i64 (q:Int)) rfl rfl (by kernel_rfl) (fun _ _ _ h => h) (by kernel_rfl) (fun W hW => by go_simp) s0 ?_
      refine regS_take 3 43 (.pointer (some ⟨g,q * 2,none⟩)) rfl rfl (by kernel_rfl) (fun _ _ _ h => h) (by kernel_rfl) (fun W hW => by go_simp) s0 ?_
      simp only [Act.put,List.setIfInBounds_toArray,List.set_cons_succ,List.set_cons_zero]
      refine regS_take 4 44 (.agg (enc (nth d q)).toArray) rfl rfl (by kernel_rfl) (fun _ _ _ h => h) (by kernel_rfl) (fun W hW => exec_load 242 _ rfl ⟨g,q * 2,none⟩ rfl _ (SS.load hk Tryz.isAgg242 szE (SS.blk hW) HBQ.out)) s0 ?_
      refine regS_take 5 45 (.slice (some ⟨g,0,none⟩) N cap) rfl rfl (by kernel_rfl) (fun _ _ _ h => h) (by kernel_rfl) (fun W hW => by go_simp) s0 ?_
      refine regS_take 6 46 (.int .i64 (a:Int)) rfl rfl (by kernel_rfl) (fun _ _ _ h => h) (by kernel_rfl) (fun W hW => by go_simp) s0 ?_
      refine regS_take 7 47 (.pointer (some ⟨g,a * 2,none⟩)) rfl rfl (by kernel_rfl) (fun _ _ _ h => h) (by kernel_rfl) (fun W hW => by go_simp) s0 ?_
      simp only [Act.put,List.setIfInBounds_toArray,List.set_cons_succ,List.set_cons_zero]
      refine regS_take 8 48 (.agg (enc (nth d a)).toArray) rfl rfl (by kernel_rfl) (fun _ _ _ h => h) (by kernel_rfl) (fun W hW => exec_load 242 _ rfl ⟨g,a * 2,none⟩ rfl _ (SS.load hk Tryz.isAgg242 szE (SS.blk hW) HBA.out)) s0 ?_
      simp only [Act.put,List.setIfInBounds_toArray,List.set_cons_succ,List.set_cons_zero]
      refine regS_one 9 rfl (by kernel_rfl) (by kernel_rfl) (fun K hK => ?_)
      have HCA:Hid _:=HCC.out wr.drew s0.upd (nth d q) (SS.mem s0 HBQ.out) (nth d a) (SS.mem s0 HBA.out)
      go_wp2_with fail
      refine Calls.mono HCA.out ?_
      rintro e w1 ⟨rfl,g1⟩
      have s1:=s0.grown g1
      refine hK _ _ s1 ?_
      clear hK K HCA g1 s0
      obtain ⟨cv,hcv⟩:∃ cv,cf (nth d q) (nth d a) = cv:=⟨_,rfl⟩
      have HCV:Hid (cf (nth d q) (nth d a) = cv):=hcv
      rw [hcv]
      clear hcv
      by_cases hneg:cv < 0
      · have hd:decide (cv < 0) = true:=decide_eq_true hneg
        refine regS_take 10 50 (.bool true) rfl rfl (by kernel_rfl) (fun _ _ _ h => h) (by kernel_rfl) (fun W hW => by go_simp) s1 ?_
        refine regS_end (by kernel_rfl) ?_
        simp only [Act.put,List.setIfInBounds_toArray,List.set_cons_succ,List.set_cons_zero]
        go_wp2_with fail
        refine ⟨⟨q + 1,j,by go_num,rfl,by omega,by omega,hjb,s1,Or.inr (by rw [Nat.add_sub_cancel,HCV.out];exact hneg),HHi.out⟩,by simp [intOf];omega⟩
      · have hd:decide (cv < 0) = false:=decide_eq_false hneg
        refine regS_take 10 50 (.bool false) rfl rfl (by kernel_rfl) (fun _ _ _ h => h) (by kernel_rfl) (fun W hW => by go_simp) s1 ?_
        refine regS_end (by kernel_rfl) ?_
        simp only [Act.put,List.setIfInBounds_toArray,List.set_cons_succ,List.set_cons_zero]
        go_wp2_with fail
        refine ⟨⟨i,q,rfl,rfl,hmi,hiq.1,by omega,s1,HLo.out,Or.inr (by unfold Nlt;rw [HCV.out];exact hneg)⟩,by simp [intOf];omega⟩
    · obtain rfl:i = j:=by omega
      have i1:IntKind.i64.wrap ((i:Int) - 1) = (i:Int) - 1:=by rw [IntKind.wrap_i64];omega
      go_wp2_with fail
      go_loopw [13] (fun vt wr => ∃ (t:Nat) (c:Array α),vt = .int .i64 t ∧ a <= t ∧ t + 1 <= i ∧ Hid (SS enc tl 242 w0 g d0 wr c) ∧ Hid (Rot (nth d) (nth c) a (a + 1) (t + 1))) (fun vt _ => i - (intOf vt).toNat)
      case atStart => exact ⟨a,d,rfl,Nat.le_refl _,by omega,HC.out,Rot.nothing _ (Or.inr rfl) (by omega) (Nat.le_refl _)⟩
      case round =>
        clear HC
        obtain ⟨t,c,rfl,hat,hti,HC,HR⟩:=hrel
        have hcs:c.size = N:=by rw [HC.out.size,<- HS.out.size];exact HN.out
        have HCS:Hid (c.size = N):=hcs
        clear hcs
        by_cases hlt2:t + 1 < i
        · have hlt3:(t:Int) < (i:Int) - 1:=by omega
          obtain ⟨v,hv⟩:∃ v:Nat,v = t + 1:=⟨_,rfl⟩
          have HV:Hid (v = t + 1):=hv
          have HBT:Hid (t < c.size):=by unfold Hid;rw [HCS.out];omega
          have HBV:Hid (v < c.size):=by unfold Hid;rw [HCS.out];omega
          have t1:(t:Int) < (N:Int):=by omega
          have v1:(v:Int) < (N:Int):=by omega
          have v2:(t:Int) + 1 = (v:Int):=by omega
          have v3:IntKind.i64.wrap (v:Int) = (v:Int):=by rw [IntKind.wrap_i64];omega
          clear hv
          go_wp2_with fail
          have hB:Blk wr.drew g (fl enc tl c) 242:=HC.out.blk.drewN 1
          refine region_s [(0,true),(1,true),(2,true),(3,true),(4,true),(5,true),(6,true),(7,true),(8,true),(9,false),(10,true),(11,true),(12,true),(13,false),(14,true)] [] [15,16,17] (fun W => Blk W g (fl enc tl c) 242) Nr.mixed (by kernel_rfl) (fun _ _ _ _ _ h => h) hB ?_
          refine lead_pure _ rfl _ rfl rfl (.slice (some ⟨g,0,none⟩) N cap) (fun W => by go_simp) ?_
          refine lead_pure _ rfl _ rfl rfl (.int .i64 (t:Int)) (fun W => by go_simp) ?_
          refine lead_pure _ rfl _ rfl rfl (.slice (some ⟨g,0,none⟩) N cap) (fun W => by go_simp) ?_
          refine lead_pure _ rfl _ rfl rfl (.int .i64 (t:Int)) (fun W => by go_simp) ?_
          refine lead_pure _ rfl _ rfl rfl (.int .i64 (v:Int)) (fun W => by go_simp) ?_
          refine lead_pure _ rfl _ rfl rfl (.slice (some ⟨g,0,none⟩) N cap) (fun W => by go_simp) ?_
          refine lead_pure _ rfl _ rfl rfl (.int .i64 (t:Int)) (fun W => by go_simp) ?_
          refine lead_pure _ rfl _ rfl rfl (.int .i64 (v:Int)) (fun W => by go_simp) ?_
          refine lead_pure _ rfl _ rfl rfl (.pointer (some ⟨g,v * 2,none⟩)) (fun W => by go_simp) ?_
          simp only [Act.put,List.setIfInBounds_toArray,List.set_cons_succ,List.set_cons_zero]
          refine lead_read _ rfl _ rfl rfl (.agg (enc (nth c v)).toArray) (fun W hW => exec_load 242 _ rfl ⟨g,v * 2,none⟩ rfl _ (SS.load hk Tryz.isAgg242 szE hW HBV.out)) ?_
          refine lead_pure _ rfl _ rfl rfl (.slice (some ⟨g,0,none⟩) N cap) (fun W => by go_simp) ?_
          refine lead_pure _ rfl _ rfl rfl (.int .i64 (t:Int)) (fun W => by go_simp) ?_
          refine lead_pure _ rfl _ rfl rfl (.pointer (some ⟨g,t * 2,none⟩)) (fun W => by go_simp) ?_
          simp only [Act.put,List.setIfInBounds_toArray,List.set_cons_succ,List.set_cons_zero]
          refine lead_read _ rfl _ rfl rfl (.agg (enc (nth c t)).toArray) (fun W hW => exec_load 242 _ rfl ⟨g,t * 2,none⟩ rfl _ (SS.load hk Tryz.isAgg242 szE hW HBT.out)) ?_
          refine lead_pure _ rfl _ rfl rfl (.pointer (some ⟨g,t * 2,none⟩)) (fun W => by go_simp) ?_
          refine lead_nil ?_
          simp only [Act.put,List.setIfInBounds_toArray,List.set_cons_succ,List.set_cons_zero]
          refine mid_nil ?_
          simp only [List.filterMap_cons,List.getElem?_toArray,List.getElem?_cons_succ,List.getElem?_cons_zero,List.filterMap_nil]
          refine wpl_storeAt rfl rfl 242 _ _ rfl 2 szE g (t * 2) _ 242 (enc (nth c v)).toArray rfl rfl (by simp [hk]) (fl_one h1 _) hB (row_leT hk HBT.out tl) ?_
          intro w1 u1 j1
          have HS2:Hid _:=HC.out.grown (below_drewN (Below.refl _ _) 1)
          clear hB
          refine wpl_val rfl (.pointer (some ⟨g,v * 2,none⟩)) (by go_simp) ?_
          simp only [Act.put,List.setIfInBounds_toArray,List.set_cons_succ,List.set_cons_zero]
          refine wpl_storeAt rfl rfl 242 _ _ rfl 2 szE g (v * 2) _ 242 (enc (nth c t)).toArray rfl rfl (by simp [hk]) (fl_one h1 _) j1 (by rw [foldset_size];exact row_leT hk HBV.out tl) ?_
          intro w2 u2 j2
          have HS3:Hid _:=SS.swapped hk HS2.out u1 u2 HBT.out HBV.out j2
          have HX:Hid _:=sw_nth HBT.out HBV.out
          clear u1 u2 j1 j2 HS2
          go_wp2_with fail
          have hv:=HV.out
          refine ⟨⟨v,sw c t v,rfl,by omega,by omega,HS3.out,?_⟩,by simp [intOf];omega⟩
          have hx:=HX.out
          rw [hv] at hx ⊢
          refine Rot.stepR HR.out hat ?_ ?_ ?_
          · rw [hx,if_pos rfl]
          · rw [hx,if_neg (by omega),if_pos rfl]
          · intro x h1 h2;rw [hx,if_neg h1,if_neg h2]
        · have hlt3:¬ ((t:Int) < (i:Int) - 1):=by omega
          go_wp2_with fail
          refine bodyPost_ret (results_none rfl _ _ _) rfl ?_
          have hti':t + 1 = i:=by omega
          have hr:=HR.out
          rw [hti'] at hr
          exact ⟨rfl,c,HC.out,mrg_left P HB.out HM1.out hmi hjb HLo.out HHi.out hr,(hr.wi (by omega) (by have:=HM1.out;omega)).wide (Nat.le_refl _) hjb⟩
set_option maxRecDepth 100000 in
set_option maxHeartbeats 4000000 in
theorem sym_last {α:Type} [Inhabited α] (enc:α -> List Value) (tl:Array Value) (hk:∀ x,(enc x).length = 2) (h1:∀ x,∀ v ∈ enc x,v.oneCell' = true) (cf:α -> α -> Int) (P:Pre cf) (g cap a m b N:Nat) (d0 d:Array α) (w0 w:World) (HCM:Cmp Tryz.prog 177 #[] enc cf w0 g d0) (h:SS enc tl 242 w0 g d0 w d) (hN:d.size = N) (_ham:a < m) (_hmb:m < b) (hbN:b <= N) (hsz:N <= 100000) (ha:Sor cf (nth d) a m) (_hb:Sor cf (nth d) m b) (hm1:m ≠ a + 1) (hb1:b = m + 1) :
    Calls Tryz.prog 302 #[.slice (some ⟨g,0,none⟩) N cap,.int .i64 a,.int .i64 m,.int .i64 b,.func (.func 177) #[] #[]] w fun e w' => e = .returned (.tuple #[]) ∧ ∃ d',SS enc tl 242 w0 g d0 w' d' ∧ Sor cf (nth d') a b ∧ Wi (nth d) (nth d') a b:=by
  have HS:Hid (SS enc tl 242 w0 g d0 w d):=h
  have HN:Hid (d.size = N):=hN
  have HCC:Hid _:=HCM
  have HA:Hid (Sor cf (nth d) a m):=ha
  have HB1:Hid (b = m + 1):=hb1
  have e1:((m:Int) - (a:Int) == 1) = false:=by rw [beq_eq_false_iff_ne];omega
  have e2:(b:Int) - (m:Int) = 1:=by omega
  have HBM:Hid (m < d.size):=by unfold Hid;omega
  have a1:(m:Int) < (N:Int):=by omega
  clear h hN HCM _hb ha hm1 hb1
  go_enter Tryz.func302,Tryz.ntmps302
  go_wp2_with fail
  go_loopw [14,15,16] (fun vi vj _ wr => ∃ i j:Nat,vi = .int .i64 i ∧ vj = .int .i64 j ∧ a <= i ∧ i <= j ∧ j <= m ∧ Hid (SS enc tl 242 w0 g d0 wr d) ∧ Hid (i = a ∨ Nlt cf (nth d m) (nth d (i - 1))) ∧ Hid (j = m ∨ cf (nth d m) (nth d j) < 0)) (fun vi vj _ _ => (intOf vj).toNat - (intOf vi).toNat)
  case atStart => exact ⟨a,m,rfl,rfl,Nat.le_refl _,by omega,Nat.le_refl _,HS.out,Or.inl rfl,Or.inl rfl⟩
  case round =>
    obtain ⟨i,j,rfl,rfl,hmi,hij,hjb,HC,HLo,HHi⟩:=hrel
    by_cases hlt:i < j
    · have hlt':(i:Int) < (j:Int):=by omega
      obtain ⟨q,hq⟩:∃ q:Nat,q = (i + j) / 2:=⟨_,rfl⟩
      have hiq:i <= q ∧ q < j:=by omega
      have s2:((i:Int) + (j:Int)) / 2 = (q:Int):=by omega
      have q1:(q:Int) < (N:Int):=by omega
      have HBQ:Hid (q < d.size):=by unfold Hid;rw [HN.out];omega
      clear hq
      go_wp2_with fail
      have s0:SS enc tl 242 w0 g d0 wr.drew d:=HC.out.grown (below_drewN (Below.refl _ _) 1)
      refine regS_in 12 (fun W => SS enc tl 242 w0 g d0 W d) Nr.mixed rfl ?_
      refine regS_take 0 92 (.func (.func 177) #[] #[]) rfl rfl (by kernel_rfl) (fun _ _ _ h => h) (by kernel_rfl) (fun W hW => by go_simp) s0 ?_
      refine regS_take 1 93 (.slice (some ⟨g,0,none⟩) N cap) rfl rfl (by kernel_rfl) (fun _ _ _ h => h) (by kernel_rfl) (fun W hW => by go_simp) s0 ?_
      refine regS_take 2 94 (.int .i64 (m:Int)) rfl rfl (by kernel_rfl) (fun _ _ _ h => h) (by kernel_rfl) (fun W hW => by go_simp) s0 ?_
      refine regS_take 3 95 (.pointer (some ⟨g,m * 2,none⟩)) rfl rfl (by kernel_rfl) (fun _ _ _ h => h) (by kernel_rfl) (fun W hW => by go_simp) s0 ?_
      simp only [Act.put,List.setIfInBounds_toArray,List.set_cons_succ,List.set_cons_zero]
      refine regS_take 4 96 (.agg (enc (nth d m)).toArray) rfl rfl (by kernel_rfl) (fun _ _ _ h => h) (by kernel_rfl) (fun W hW => exec_load 242 _ rfl ⟨g,m * 2,none⟩ rfl _ (SS.load hk Tryz.isAgg242 szE (SS.blk hW) HBM.out)) s0 ?_
      refine regS_take 5 97 (.slice (some ⟨g,0,none⟩) N cap) rfl rfl (by kernel_rfl) (fun _ _ _ h => h) (by kernel_rfl) (fun W hW => by go_simp) s0 ?_
      refine regS_take 6 98 (.int .i64 (q:Int)) rfl rfl (by kernel_rfl) (fun _ _ _ h => h) (by kernel_rfl) (fun W hW => by go_simp) s0 ?_
      refine regS_take 7 99 (.pointer (some ⟨g,q * 2,none⟩)) rfl rfl (by kernel_rfl) (fun _ _ _ h => h) (by kernel_rfl) (fun W hW => by go_simp) s0 ?_
      simp only [Act.put,List.setIfInBounds_toArray,List.set_cons_succ,List.set_cons_zero]
      refine regS_take 8 100 (.agg (enc (nth d q)).toArray) rfl rfl (by kernel_rfl) (fun _ _ _ h => h) (by kernel_rfl) (fun W hW => exec_load 242 _ rfl ⟨g,q * 2,none⟩ rfl _ (SS.load hk Tryz.isAgg242 szE (SS.blk hW) HBQ.out)) s0 ?_
      simp only [Act.put,List.setIfInBounds_toArray,List.set_cons_succ,List.set_cons_zero]
      refine regS_one 9 rfl (by kernel_rfl) (by kernel_rfl) (fun K hK => ?_)
      have HCA:Hid _:=HCC.out wr.drew s0.upd (nth d m) (SS.mem s0 HBM.out) (nth d q) (SS.mem s0 HBQ.out)
      go_wp2_with fail
      refine Calls.mono HCA.out ?_
      rintro e w1 ⟨rfl,g1⟩
      have s1:=s0.grown g1
      refine hK _ _ s1 ?_
      clear hK K HCA g1 s0
      obtain ⟨cv,hcv⟩:∃ cv,cf (nth d m) (nth d q) = cv:=⟨_,rfl⟩
      have HCV:Hid (cf (nth d m) (nth d q) = cv):=hcv
      rw [hcv]
      clear hcv
      by_cases hneg:cv < 0
      · have hd:decide (cv < 0) = true:=decide_eq_true hneg
        refine regS_take 10 102 (.bool true) rfl rfl (by kernel_rfl) (fun _ _ _ h => h) (by kernel_rfl) (fun W hW => by go_simp) s1 ?_
        refine regS_take 11 103 (.bool false) rfl rfl (by kernel_rfl) (fun _ _ _ h => h) (by kernel_rfl) (fun W hW => by go_simp) s1 ?_
        refine regS_end (by kernel_rfl) ?_
        simp only [Act.put,List.setIfInBounds_toArray,List.set_cons_succ,List.set_cons_zero]
        go_wp2_with fail
        refine ⟨⟨i,q,rfl,rfl,hmi,hiq.1,by omega,s1,HLo.out,Or.inr (by rw [HCV.out];exact hneg)⟩,by simp [intOf];omega⟩
      · have hd:decide (cv < 0) = false:=decide_eq_false hneg
        refine regS_take 10 102 (.bool false) rfl rfl (by kernel_rfl) (fun _ _ _ h => h) (by kernel_rfl) (fun W hW => by go_simp) s1 ?_
        refine regS_take 11 103 (.bool true) rfl rfl (by kernel_rfl) (fun _ _ _ h => h) (by kernel_rfl) (fun W hW => by go_simp) s1 ?_
        refine regS_end (by kernel_rfl) ?_
        simp only [Act.put,List.setIfInBounds_toArray,List.set_cons_succ,List.set_cons_zero]
        go_wp2_with fail
        refine ⟨⟨q + 1,j,by go_num,rfl,by omega,by omega,hjb,s1,Or.inr (by unfold Nlt;rw [Nat.add_sub_cancel,HCV.out];exact hneg),HHi.out⟩,by simp [intOf];omega⟩
    · obtain rfl:i = j:=by omega
      go_wp2_with fail
      go_loopw [17] (fun vt wr => ∃ (t:Nat) (c:Array α),vt = .int .i64 t ∧ i <= t ∧ t <= m ∧ Hid (SS enc tl 242 w0 g d0 wr c) ∧ Hid (Rot (nth d) (nth c) t m (m + 1))) (fun vt _ => (intOf vt).toNat)
      case atStart => exact ⟨m,d,rfl,hjb,Nat.le_refl _,HC.out,Rot.nothing _ (Or.inl rfl) (Nat.le_refl _) (by omega)⟩
      case round =>
        clear HC
        obtain ⟨t,c,rfl,hit,htm,HC,HR⟩:=hrel
        have hcs:c.size = N:=by rw [HC.out.size,<- HS.out.size];exact HN.out
        have HCS:Hid (c.size = N):=hcs
        clear hcs
        by_cases hlt2:i < t
        · have hlt3:(i:Int) < (t:Int):=by omega
          obtain ⟨v,hv⟩:∃ v:Nat,t = v + 1:=⟨t - 1,by omega⟩
          have HV:Hid (t = v + 1):=hv
          have HBT:Hid (t < c.size):=by unfold Hid;rw [HCS.out];omega
          have HBV:Hid (v < c.size):=by unfold Hid;rw [HCS.out];omega
          have t1:(t:Int) < (N:Int):=by omega
          have v1:(v:Int) < (N:Int):=by omega
          have v2:(t:Int) - 1 = (v:Int):=by omega
          have v3:IntKind.i64.wrap (v:Int) = (v:Int):=by rw [IntKind.wrap_i64];omega
          clear hv
          go_wp2_with fail
          have hB:Blk wr.drew g (fl enc tl c) 242:=HC.out.blk.drewN 1
          refine region_s [(0,true),(1,true),(2,true),(3,true),(4,true),(5,true),(6,true),(7,true),(8,true),(9,false),(10,true),(11,true),(12,true),(13,false),(14,true)] [] [15,16,17] (fun W => Blk W g (fl enc tl c) 242) Nr.mixed (by kernel_rfl) (fun _ _ _ _ _ h => h) hB ?_
          refine lead_pure _ rfl _ rfl rfl (.slice (some ⟨g,0,none⟩) N cap) (fun W => by go_simp) ?_
          refine lead_pure _ rfl _ rfl rfl (.int .i64 (t:Int)) (fun W => by go_simp) ?_
          refine lead_pure _ rfl _ rfl rfl (.slice (some ⟨g,0,none⟩) N cap) (fun W => by go_simp) ?_
          refine lead_pure _ rfl _ rfl rfl (.int .i64 (t:Int)) (fun W => by go_simp) ?_
          refine lead_pure _ rfl _ rfl rfl (.int .i64 (v:Int)) (fun W => by go_simp) ?_
          refine lead_pure _ rfl _ rfl rfl (.slice (some ⟨g,0,none⟩) N cap) (fun W => by go_simp) ?_
          refine lead_pure _ rfl _ rfl rfl (.int .i64 (t:Int)) (fun W => by go_simp) ?_
          refine lead_pure _ rfl _ rfl rfl (.int .i64 (v:Int)) (fun W => by go_simp) ?_
          refine lead_pure _ rfl _ rfl rfl (.pointer (some ⟨g,v * 2,none⟩)) (fun W => by go_simp) ?_
          simp only [Act.put,List.setIfInBounds_toArray,List.set_cons_succ,List.set_cons_zero]
          refine lead_read _ rfl _ rfl rfl (.agg (enc (nth c v)).toArray) (fun W hW => exec_load 242 _ rfl ⟨g,v * 2,none⟩ rfl _ (SS.load hk Tryz.isAgg242 szE hW HBV.out)) ?_
          refine lead_pure _ rfl _ rfl rfl (.slice (some ⟨g,0,none⟩) N cap) (fun W => by go_simp) ?_
          refine lead_pure _ rfl _ rfl rfl (.int .i64 (t:Int)) (fun W => by go_simp) ?_
          refine lead_pure _ rfl _ rfl rfl (.pointer (some ⟨g,t * 2,none⟩)) (fun W => by go_simp) ?_
          simp only [Act.put,List.setIfInBounds_toArray,List.set_cons_succ,List.set_cons_zero]
          refine lead_read _ rfl _ rfl rfl (.agg (enc (nth c t)).toArray) (fun W hW => exec_load 242 _ rfl ⟨g,t * 2,none⟩ rfl _ (SS.load hk Tryz.isAgg242 szE hW HBT.out)) ?_
          refine lead_pure _ rfl _ rfl rfl (.pointer (some ⟨g,t * 2,none⟩)) (fun W => by go_simp) ?_
          refine lead_nil ?_
          simp only [Act.put,List.setIfInBounds_toArray,List.set_cons_succ,List.set_cons_zero]
          refine mid_nil ?_
          simp only [List.filterMap_cons,List.getElem?_toArray,List.getElem?_cons_succ,List.getElem?_cons_zero,List.filterMap_nil]
          refine wpl_storeAt rfl rfl 242 _ _ rfl 2 szE g (t * 2) _ 242 (enc (nth c v)).toArray rfl rfl (by simp [hk]) (fl_one h1 _) hB (row_leT hk HBT.out tl) ?_
          intro w1 u1 j1
          have HS2:Hid _:=HC.out.grown (below_drewN (Below.refl _ _) 1)
          clear hB
          refine wpl_val rfl (.pointer (some ⟨g,v * 2,none⟩)) (by go_simp) ?_
          simp only [Act.put,List.setIfInBounds_toArray,List.set_cons_succ,List.set_cons_zero]
          refine wpl_storeAt rfl rfl 242 _ _ rfl 2 szE g (v * 2) _ 242 (enc (nth c t)).toArray rfl rfl (by simp [hk]) (fl_one h1 _) j1 (by rw [foldset_size];exact row_leT hk HBV.out tl) ?_
          intro w2 u2 j2
          have HS3:Hid _:=SS.swapped hk HS2.out u1 u2 HBT.out HBV.out j2
          have HX:Hid _:=sw_nth HBT.out HBV.out
          clear u1 u2 j1 j2 HS2
          go_wp2_with fail
          have hv:=HV.out
          refine ⟨⟨v,sw c t v,by go_num,by omega,by omega,HS3.out,?_⟩,by simp [intOf];omega⟩
          have hx:=HX.out
          have hr:=HR.out
          rw [hv] at hx hr ⊢
          refine Rot.stepL hr (by omega) ?_ ?_ ?_
          · rw [hx,if_pos rfl]
          · rw [hx,if_neg (by omega),if_pos rfl]
          · intro x h1 h2;rw [hx,if_neg h1,if_neg h2]
        · have hlt3:¬ ((i:Int) < (t:Int)):=by omega
          go_wp2_with fail
          refine bodyPost_ret (results_none rfl _ _ _) rfl ?_
          obtain rfl:t = i:=by omega
          have hr:=HR.out
          exact ⟨rfl,c,HC.out,mrg_right P HA.out HB1.out hmi hjb HLo.out HHi.out hr,(hr.wi htm (by omega)).wide hmi (by have:=HB1.out;omega)⟩
set_option maxRecDepth 100000 in
set_option maxHeartbeats 8000000 in
theorem sym_gen {α:Type} [Inhabited α] (enc:α -> List Value) (tl:Array Value) (hk:∀ x,(enc x).length = 2) (h1:∀ x,∀ v ∈ enc x,v.oneCell' = true) (s:Nat) (cf:α -> α -> Int) (P:Pre cf) (g cap N:Nat) (d0:Array α) (w0:World) (HCM:Cmp Tryz.prog 177 #[] enc cf w0 g d0) (hsz:N <= 100000)
    (IH:∀ (a m b:Nat) (d:Array α) (w:World),b - a <= s -> SS enc tl 242 w0 g d0 w d -> d.size = N -> a < m -> m < b -> b <= N -> Sor cf (nth d) a m -> Sor cf (nth d) m b -> Calls Tryz.prog 302 #[.slice (some ⟨g,0,none⟩) N cap,.int .i64 a,.int .i64 m,.int .i64 b,.func (.func 177) #[] #[]] w fun e w' => e = .returned (.tuple #[]) ∧ ∃ d',SS enc tl 242 w0 g d0 w' d' ∧ Sor cf (nth d') a b ∧ Wi (nth d) (nth d') a b)
    (a m b:Nat) (d:Array α) (w:World) (hs:b - a <= s + 1) (h:SS enc tl 242 w0 g d0 w d) (hN:d.size = N) (ham:a < m) (hmb:m < b) (hbN:b <= N) (ha:Sor cf (nth d) a m) (hb:Sor cf (nth d) m b) (hm1:m ≠ a + 1) (hb1:b ≠ m + 1) :
    Calls Tryz.prog 302 #[.slice (some ⟨g,0,none⟩) N cap,.int .i64 a,.int .i64 m,.int .i64 b,.func (.func 177) #[] #[]] w fun e w' => e = .returned (.tuple #[]) ∧ ∃ d',SS enc tl 242 w0 g d0 w' d' ∧ Sor cf (nth d') a b ∧ Wi (nth d) (nth d') a b:=by
  have HS:Hid (SS enc tl 242 w0 g d0 w d):=h
  have HN:Hid (d.size = N):=hN
  have HCC:Hid _:=HCM
  have HIH:Hid _:=IH
  have HA:Hid (Sor cf (nth d) a m):=ha
  have HB:Hid (Sor cf (nth d) m b):=hb
  have HSS:Hid (b - a <= s + 1):=hs
  obtain ⟨mid,hmid⟩:∃ mid:Nat,mid = (a + b) / 2:=⟨_,rfl⟩
  obtain ⟨n,hn⟩:∃ n:Nat,n = mid + m:=⟨_,rfl⟩
  have hmb2:a < mid ∧ mid < b:=by omega
  have hM2:a + b <= mid + mid + 1 ∧ mid + mid <= a + b:=by omega
  have HNN:Hid (n = mid + m):=hn
  have e1:((m:Int) - (a:Int) == 1) = false:=by rw [beq_eq_false_iff_ne];omega
  have e2:((b:Int) - (m:Int) == 1) = false:=by rw [beq_eq_false_iff_ne];omega
  have sm:((a:Int) + (b:Int)) / 2 = (mid:Int):=by omega
  have sn:(mid:Int) + (m:Int) = (n:Int):=by omega
  have xn:IntKind.i64.wrap (n:Int) = (n:Int):=by rw [IntKind.wrap_i64];omega
  obtain ⟨s0,r0,hsr⟩:∃ s0 r0:Nat,(mid < m ∧ s0 + b = n ∧ r0 = mid) ∨ (m <= mid ∧ s0 = a ∧ r0 = m):=by
    by_cases c:mid < m
    · exact ⟨n - b,mid,Or.inl ⟨c,by omega,rfl⟩⟩
    · exact ⟨a,m,Or.inr ⟨by omega,rfl,rfl⟩⟩
  have HSR:Hid _:=hsr
  have hb0:a <= s0 ∧ s0 <= r0 ∧ r0 <= m ∧ r0 <= mid:=by omega
  have HF:Hid ((n - s0 <= b ∧ m <= n - r0) ∧ (s0 = a ∨ n - s0 = b) ∧ (r0 = m ∨ n - r0 = m)):=by unfold Hid;omega
  obtain ⟨p,hp⟩:∃ p:Nat,p + 1 = n:=⟨n - 1,by omega⟩
  have HP:Hid (p + 1 = n):=hp
  have sp:(n:Int) - 1 = (p:Int):=by omega
  have xp:IntKind.i64.wrap (p:Int) = (p:Int):=by rw [IntKind.wrap_i64];omega
  clear h hN HCM IH ha hb hs hm1 hb1 hmid hn hsr hp
  go_enter Tryz.func302,Tryz.ntmps302
  go_upto_if 140 with fail
  go_cut [20,21] from 140 to 146 (fun vs vr wx => vs = .int .i64 s0 ∧ vr = .int .i64 r0 ∧ wx = w)
  case first =>
    rcases HSR.out with ⟨c,h1,rfl⟩ | ⟨c,rfl,rfl⟩
    · have c':(r0:Int) < (m:Int):=by omega
      have s1:(n:Int) - (b:Int) = (s0:Int):=by omega
      have x1:IntKind.i64.wrap (s0:Int) = (s0:Int):=by rw [IntKind.wrap_i64];omega
      go_wp2_with fail
      go_meet
      exact ⟨rfl,rfl,rfl⟩
    · have c':¬ ((mid:Int) < (r0:Int)):=by omega
      go_wp2_with fail
      go_meet
      exact ⟨rfl,rfl,rfl⟩
  case rest =>
    obtain ⟨rfl,rfl,hwc⟩:=hcut
    obtain rfl:w = wc:=hwc.symm
    clear hwc HSR
    go_wp2_with fail
    go_loopw [20,21,23] (fun vi vj _ wr => ∃ i j:Nat,vi = .int .i64 i ∧ vj = .int .i64 j ∧ s0 <= i ∧ i <= j ∧ j <= r0 ∧ Hid (SS enc tl 242 w0 g d0 wr d) ∧ Hid (i = s0 ∨ Nlt cf (nth d (n - i)) (nth d (i - 1))) ∧ Hid (j = r0 ∨ cf (nth d (n - 1 - j)) (nth d j) < 0)) (fun vi vj _ _ => (intOf vj).toNat - (intOf vi).toNat)
    case atStart => exact ⟨s0,r0,rfl,rfl,Nat.le_refl _,hb0.2.1,Nat.le_refl _,HS.out,Or.inl rfl,Or.inl rfl⟩
    case round =>
      obtain ⟨i,j,rfl,rfl,hmi,hij,hjb,HC,HLo,HHi⟩:=hrel
      by_cases hlt:i < j
      · have hlt':(i:Int) < (j:Int):=by omega
        obtain ⟨q,hq⟩:∃ q:Nat,q = (i + j) / 2:=⟨_,rfl⟩
        have hiq:i <= q ∧ q < j:=by omega
        have s2:((i:Int) + (j:Int)) / 2 = (q:Int):=by omega
        have q1:(q:Int) < (N:Int):=by omega
        have hnp:=HP.out
        have hff:=HF.out
        obtain ⟨y,hy⟩:∃ y:Nat,y + q = p:=⟨p - q,by omega⟩
        have HY:Hid (y + q = p):=hy
        have s3:(p:Int) - (q:Int) = (y:Int):=by omega
        have x3:IntKind.i64.wrap (y:Int) = (y:Int):=by rw [IntKind.wrap_i64];omega
        have y1:(y:Int) < (N:Int):=by omega
        have HBQ:Hid (q < d.size):=by unfold Hid;rw [HN.out];omega
        have HBY:Hid (y < d.size):=by unfold Hid;rw [HN.out];omega
        clear hq hy hnp hff
        go_wp2_with fail
        have s0:SS enc tl 242 w0 g d0 wr.drew d:=HC.out.grown (below_drewN (Below.refl _ _) 1)
        refine regS_in 14 (fun W => SS enc tl 242 w0 g d0 W d) Nr.mixed rfl ?_
        refine regS_take 0 158 (.func (.func 177) #[] #[]) rfl rfl (by kernel_rfl) (fun _ _ _ h => h) (by kernel_rfl) (fun W hW => by go_simp) s0 ?_
        refine regS_take 1 159 (.slice (some ⟨g,0,none⟩) N cap) rfl rfl (by kernel_rfl) (fun _ _ _ h => h) (by kernel_rfl) (fun W hW => by go_simp) s0 ?_
        refine regS_take 2 160 (.int .i64 (p:Int)) rfl rfl (by kernel_rfl) (fun _ _ _ h => h) (by kernel_rfl) (fun W hW => by go_simp) s0 ?_
        refine regS_take 3 161 (.int .i64 (q:Int)) rfl rfl (by kernel_rfl) (fun _ _ _ h => h) (by kernel_rfl) (fun W hW => by go_simp) s0 ?_
        refine regS_take 4 162 (.int .i64 (y:Int)) rfl rfl (by kernel_rfl) (fun _ _ _ h => h) (by kernel_rfl) (fun W hW => by go_simp) s0 ?_
        refine regS_take 5 163 (.pointer (some ⟨g,y * 2,none⟩)) rfl rfl (by kernel_rfl) (fun _ _ _ h => h) (by kernel_rfl) (fun W hW => by go_simp) s0 ?_
        simp only [Act.put,List.setIfInBounds_toArray,List.set_cons_succ,List.set_cons_zero]
        refine regS_take 6 164 (.agg (enc (nth d y)).toArray) rfl rfl (by kernel_rfl) (fun _ _ _ h => h) (by kernel_rfl) (fun W hW => exec_load 242 _ rfl ⟨g,y * 2,none⟩ rfl _ (SS.load hk Tryz.isAgg242 szE (SS.blk hW) HBY.out)) s0 ?_
        refine regS_take 7 165 (.slice (some ⟨g,0,none⟩) N cap) rfl rfl (by kernel_rfl) (fun _ _ _ h => h) (by kernel_rfl) (fun W hW => by go_simp) s0 ?_
        refine regS_take 8 166 (.int .i64 (q:Int)) rfl rfl (by kernel_rfl) (fun _ _ _ h => h) (by kernel_rfl) (fun W hW => by go_simp) s0 ?_
        refine regS_take 9 167 (.pointer (some ⟨g,q * 2,none⟩)) rfl rfl (by kernel_rfl) (fun _ _ _ h => h) (by kernel_rfl) (fun W hW => by go_simp) s0 ?_
        simp only [Act.put,List.setIfInBounds_toArray,List.set_cons_succ,List.set_cons_zero]
        refine regS_take 10 168 (.agg (enc (nth d q)).toArray) rfl rfl (by kernel_rfl) (fun _ _ _ h => h) (by kernel_rfl) (fun W hW => exec_load 242 _ rfl ⟨g,q * 2,none⟩ rfl _ (SS.load hk Tryz.isAgg242 szE (SS.blk hW) HBQ.out)) s0 ?_
        simp only [Act.put,List.setIfInBounds_toArray,List.set_cons_succ,List.set_cons_zero]
        refine regS_one 11 rfl (by kernel_rfl) (by kernel_rfl) (fun K hK => ?_)
        have HCA:Hid _:=HCC.out wr.drew s0.upd (nth d y) (SS.mem s0 HBY.out) (nth d q) (SS.mem s0 HBQ.out)
        go_wp2_with fail
        refine Calls.mono HCA.out ?_
        rintro e w1 ⟨rfl,g1⟩
        have s1:=s0.grown g1
        refine hK _ _ s1 ?_
        clear hK K HCA g1 s0
        obtain ⟨cv,hcv⟩:∃ cv,cf (nth d y) (nth d q) = cv:=⟨_,rfl⟩
        have HCV:Hid (cf (nth d y) (nth d q) = cv):=hcv
        rw [hcv]
        clear hcv
        by_cases hneg:cv < 0
        · have hd:decide (cv < 0) = true:=decide_eq_true hneg
          refine regS_take 12 170 (.bool true) rfl rfl (by kernel_rfl) (fun _ _ _ h => h) (by kernel_rfl) (fun W hW => by go_simp) s1 ?_
          refine regS_take 13 171 (.bool false) rfl rfl (by kernel_rfl) (fun _ _ _ h => h) (by kernel_rfl) (fun W hW => by go_simp) s1 ?_
          refine regS_end (by kernel_rfl) ?_
          simp only [Act.put,List.setIfInBounds_toArray,List.set_cons_succ,List.set_cons_zero]
          go_wp2_with fail
          refine ⟨⟨i,q,rfl,rfl,hmi,hiq.1,by omega,s1,HLo.out,Or.inr (by rw [show n - 1 - q = y from by have:=HP.out;have:=HY.out;omega,HCV.out];exact hneg)⟩,by simp [intOf];omega⟩
        · have hd:decide (cv < 0) = false:=decide_eq_false hneg
          refine regS_take 12 170 (.bool false) rfl rfl (by kernel_rfl) (fun _ _ _ h => h) (by kernel_rfl) (fun W hW => by go_simp) s1 ?_
          refine regS_take 13 171 (.bool true) rfl rfl (by kernel_rfl) (fun _ _ _ h => h) (by kernel_rfl) (fun W hW => by go_simp) s1 ?_
          refine regS_end (by kernel_rfl) ?_
          simp only [Act.put,List.setIfInBounds_toArray,List.set_cons_succ,List.set_cons_zero]
          go_wp2_with fail
          refine ⟨⟨q + 1,j,by go_num,rfl,by omega,by omega,hjb,s1,Or.inr (by unfold Nlt;rw [Nat.add_sub_cancel,show n - (q + 1) = y from by have:=HP.out;have:=HY.out;omega,HCV.out];exact hneg),HHi.out⟩,by simp [intOf];omega⟩
      · obtain rfl:i = j:=by omega
        obtain ⟨e,he⟩:∃ e:Nat,e + i = n:=⟨n - i,by have:=HP.out;have:=HNN.out;omega⟩
        have HE:Hid (e + i = n):=he
        have hff:=HF.out
        have hnn:=HNN.out
        have hbe:m <= e ∧ e <= b ∧ i <= m ∧ a <= i ∧ i <= mid ∧ mid <= e:=by omega
        have se:(n:Int) - (i:Int) = (e:Int):=by omega
        have xe:IntKind.i64.wrap (e:Int) = (e:Int):=by rw [IntKind.wrap_i64];omega
        have HME:Hid (mid = i + (e - m)):=by unfold Hid;omega
        have HLO:Hid (i <= a ∨ b <= e ∨ ¬ cf (nth d e) (nth d (i - 1)) < 0):=by
          rcases HLo.out with h | h
          · rcases hff.2.1 with h' | h'
            · exact Or.inl (by omega)
            · exact Or.inr (Or.inl (by omega))
          · rw [show n - i = e from by omega] at h;exact Or.inr (Or.inr h)
        have HHI:Hid (i = m ∨ m = e ∨ cf (nth d (e - 1)) (nth d i) < 0):=by
          rcases HHi.out with h | h
          · rcases hff.2.2 with h' | h'
            · exact Or.inl (by omega)
            · exact Or.inr (Or.inl (by omega))
          · rw [show n - 1 - i = e - 1 from by omega] at h;exact Or.inr (Or.inr h)
        clear he hff hnn HLo HHi hmi hjb hij
        go_upto_region 39 with fail
        go_cut [185] from 178 to 184 (fun v wx => v = .bool (decide (i < m ∧ m < e)) ∧ wx = wr)
        case first =>
          by_cases c1:i < m
          · have c1':(i:Int) < (m:Int):=by omega
            by_cases c2:m < e
            · have c2':(m:Int) < (e:Int):=by omega
              go_wp2_with fail
              go_meet
              exact ⟨by rw [decide_eq_true ⟨c1,c2⟩],rfl⟩
            · have c2':¬ ((m:Int) < (e:Int)):=by omega
              go_wp2_with fail
              go_meet
              exact ⟨by rw [decide_eq_false (fun h => c2 h.2)],rfl⟩
          · have c1':¬ ((i:Int) < (m:Int)):=by omega
            go_wp2_with fail
            go_meet
            exact ⟨by rw [decide_eq_false (fun h => c1 h.1)],rfl⟩
        case rest =>
        obtain ⟨rfl,hwc⟩:=hcut
        obtain rfl:wr = wc:=hwc.symm
        clear hwc
        go_upto_if 185 with fail
        go_cut [24] from 185 to 191 (fun v wx => v = .int .i64 e ∧ ∃ d1:Array α,Hid (SS enc tl 242 w0 g d0 wx d1) ∧ Hid (Rot (nth d) (nth d1) i m e))
        case first =>
          by_cases c:i < m ∧ m < e
          · rw [decide_eq_true c]
            have HR:Hid _:=rotate_any enc tl hk h1 g cap i m e N d0 d w0 wr (.func (.func 177) #[] #[]) HC.out HN.out c.1 c.2 (by omega) hsz
            go_wp2_with fail
            refine Calls.mono HR.out ?_
            rintro e1 w1 ⟨rfl,d1,hd1,hr1⟩
            have H1:Hid _:=hd1
            have H2:Hid _:=hr1
            clear hd1 hr1 HR
            go_wp2_with fail
            go_meet
            exact ⟨rfl,d1,H1.out,H2.out⟩
          · rw [decide_eq_false c]
            go_wp2_with fail
            go_meet
            exact ⟨rfl,d,HC.out,Rot.nothing _ (by omega) hbe.2.2.1 hbe.1⟩
        case rest =>
        obtain ⟨rfl,d1,HC1,HR1⟩:=hcut
        clear HC
        obtain ⟨wq,hwq⟩:∃ x,x = wc:=⟨_,rfl⟩
        subst hwq
        have hN1:d1.size = N:=by rw [HC1.out.size,<- HS.out.size];exact HN.out
        have HN1:Hid (d1.size = N):=hN1
        have hrs:=rot_sor P HA.out HB.out HR1.out hbe.2.2.2.1 hbe.2.2.1 hbe.1 hbe.2.1 HME.out HLO.out HHI.out
        have HRS:Hid _:=hrs
        clear hN1 hrs
        go_upto_region 41 with fail
        go_cut [199] from 192 to 198 (fun v wx => v = .bool (decide (a < i ∧ i < mid)) ∧ wx = wq)
        case first =>
          by_cases c1:a < i
          · have c1':(a:Int) < (i:Int):=by omega
            by_cases c2:i < mid
            · have c2':(i:Int) < (mid:Int):=by omega
              go_wp2_with fail
              go_meet
              exact ⟨by rw [decide_eq_true ⟨c1,c2⟩],rfl⟩
            · have c2':¬ ((i:Int) < (mid:Int)):=by omega
              go_wp2_with fail
              go_meet
              exact ⟨by rw [decide_eq_false (fun h => c2 h.2)],rfl⟩
          · have c1':¬ ((a:Int) < (i:Int)):=by omega
            go_wp2_with fail
            go_meet
            exact ⟨by rw [decide_eq_false (fun h => c1 h.1)],rfl⟩
        case rest =>
        obtain ⟨rfl,hwc⟩:=hcut
        obtain rfl:wq = wc:=hwc.symm
        clear hwc
        go_upto_if 199 with fail
        go_cut [24] from 199 to 205 (fun v wx => v = .int .i64 e ∧ ∃ d2:Array α,Hid (SS enc tl 242 w0 g d0 wx d2) ∧ Hid (Sor cf (nth d2) a mid ∧ Wi (nth d1) (nth d2) a mid))
        case first =>
          by_cases c:a < i ∧ i < mid
          · rw [decide_eq_true c]
            have HR:Hid _:=HIH.out a i mid d1 wq (by have:=HSS.out;omega) HC1.out HN1.out c.1 c.2 (by omega) HRS.out.1 HRS.out.2.1
            go_wp2_with fail
            refine Calls.mono HR.out ?_
            rintro e1 w1 ⟨rfl,d2,hd1,hr1⟩
            have H1:Hid _:=hd1
            have H2:Hid _:=hr1
            clear hd1 hr1 HR
            go_wp2_with fail
            go_meet
            exact ⟨rfl,d2,H1.out,H2.out⟩
          · rw [decide_eq_false c]
            go_wp2_with fail
            go_meet
            exact ⟨rfl,d1,HC1.out,Sor.join P HRS.out.1 HRS.out.2.1 (by omega),Wi.refl _ _ _⟩
        case rest =>
        obtain ⟨rfl,d2,HC2,HR2⟩:=hcut
        clear HC1
        have HN2:Hid (d2.size = N):=by unfold Hid;rw [HC2.out.size,<- HS.out.size];exact HN.out
        have HQ1:Hid (Sor cf (nth d2) mid e ∧ Sor cf (nth d2) e b):=⟨HRS.out.2.2.1.out HR2.out.2 (Or.inr (Nat.le_refl _)),HRS.out.2.2.2.1.out HR2.out.2 (Or.inr (by omega))⟩
        by_cases c:mid < e ∧ e < b
        · have c1:(mid:Int) < (e:Int):=by omega
          have c2:(e:Int) < (b:Int):=by omega
          have HR:Hid _:=HIH.out mid e b d2 wc (by have:=HSS.out;omega) HC2.out HN2.out c.1 c.2 hbN HQ1.out.1 HQ1.out.2
          go_wp2_with fail
          refine Calls.mono HR.out ?_
          rintro e1 w1 ⟨rfl,d3,hd1,hr1⟩
          have H1:Hid _:=hd1
          have H2:Hid _:=hr1
          clear hd1 hr1 HR
          go_wp2_with fail
          go_end0
          exact ⟨rfl,d3,H1.out,mrg_all HR1.out hbe.2.2.2.1 hbe.2.2.1 hbe.1 hbe.2.1 HRS.out.2.2.2.2 HR2.out.1 HR2.out.2 H2.out.1 H2.out.2 (by omega) (by omega)⟩
        · by_cases c1:mid < e
          · have c1':(mid:Int) < (e:Int):=by omega
            have c2':¬ ((e:Int) < (b:Int)):=by omega
            go_wp2_with fail
            go_end0
            exact ⟨rfl,d2,HC2.out,mrg_all HR1.out hbe.2.2.2.1 hbe.2.2.1 hbe.1 hbe.2.1 HRS.out.2.2.2.2 HR2.out.1 HR2.out.2 (Sor.join P HQ1.out.1 HQ1.out.2 (by omega)) (Wi.refl _ _ _) (by omega) (by omega)⟩
          · have c1':¬ ((mid:Int) < (e:Int)):=by omega
            go_wp2_with fail
            go_end0
            exact ⟨rfl,d2,HC2.out,mrg_all HR1.out hbe.2.2.2.1 hbe.2.2.1 hbe.1 hbe.2.1 HRS.out.2.2.2.2 HR2.out.1 HR2.out.2 (Sor.join P HQ1.out.1 HQ1.out.2 (by omega)) (Wi.refl _ _ _) (by omega) (by omega)⟩
theorem sym_any {α:Type} [Inhabited α] (enc:α -> List Value) (tl:Array Value) (hk:∀ x,(enc x).length = 2) (h1:∀ x,∀ v ∈ enc x,v.oneCell' = true) (cf:α -> α -> Int) (P:Pre cf) (g cap N:Nat) (d0:Array α) (w0:World) (HCM:Cmp Tryz.prog 177 #[] enc cf w0 g d0) (hsz:N <= 100000) :
    ∀ (s a m b:Nat) (d:Array α) (w:World),b - a <= s -> SS enc tl 242 w0 g d0 w d -> d.size = N -> a < m -> m < b -> b <= N -> Sor cf (nth d) a m -> Sor cf (nth d) m b -> Calls Tryz.prog 302 #[.slice (some ⟨g,0,none⟩) N cap,.int .i64 a,.int .i64 m,.int .i64 b,.func (.func 177) #[] #[]] w fun e w' => e = .returned (.tuple #[]) ∧ ∃ d',SS enc tl 242 w0 g d0 w' d' ∧ Sor cf (nth d') a b ∧ Wi (nth d) (nth d') a b:=by
  intro s
  induction s with
  | zero => intro a m b d w hs _ _ ham hmb;omega
  | succ s ih =>
    intro a m b d w hs h hN ham hmb hbN ha hb
    by_cases c1:m = a + 1
    · exact sym_one enc tl hk h1 cf P g cap a m b N d0 d w0 w HCM h hN ham hmb hbN hsz ha hb c1
    by_cases c2:b = m + 1
    · exact sym_last enc tl hk h1 cf P g cap a m b N d0 d w0 w HCM h hN ham hmb hbN hsz ha hb c1 c2
    exact sym_gen enc tl hk h1 s cf P g cap N d0 w0 HCM hsz ih a m b d w hs h hN ham hmb hbN ha hb c1 c2
end Go.Proofs.YtjmpjfikcgccdaaGreatDoor.SyC
