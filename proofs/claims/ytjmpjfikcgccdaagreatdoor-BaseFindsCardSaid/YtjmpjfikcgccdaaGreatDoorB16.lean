/-
  Part of the proof of BaseFindsCard (SyR6 and on).
-/
import Derived.Test.YtjmpjfikcgccdaaGreatDoorB15
import Derived.Deep.CutRange
import Derived.Test.YtjmpjfikcgccdaaGreatDoorB14
namespace Go.Proofs.YtjmpjfikcgccdaaGreatDoor.SyR
open Go.RowKit
open It Nr Sy
set_option maxRecDepth 100000 in
set_option maxHeartbeats 8000000 in
theorem sym_gen {α:Type} [Inhabited α] (enc:α -> List Value) (tl:Array Value) (hk:∀ x,(enc x).length = 3) (h1:∀ x,∀ v ∈ enc x,v.oneCell' = true) (s:Nat) (cf:α -> α -> Int) (P:Pre cf) (g cap N:Nat) (d0:Array α) (w0:World) (HCM:Cmp Tryz.prog 220 #[] enc cf w0 g d0) (hsz:N <= 100000)
    (IH:∀ (a m b:Nat) (d:Array α) (w:World),b - a <= s -> SS enc tl 309 w0 g d0 w d -> d.size = N -> a < m -> m < b -> b <= N -> Sor cf (nth d) a m -> Sor cf (nth d) m b -> Calls Tryz.prog 329 #[.slice (some ⟨g,0,none⟩) N cap,.int .i64 a,.int .i64 m,.int .i64 b,.func (.func 220) #[] #[]] w fun e w' => e = .returned (.tuple #[]) ∧ ∃ d',SS enc tl 309 w0 g d0 w' d' ∧ Sor cf (nth d') a b ∧ Wi (nth d) (nth d') a b)
    (a m b:Nat) (d:Array α) (w:World) (hs:b - a <= s + 1) (h:SS enc tl 309 w0 g d0 w d) (hN:d.size = N) (ham:a < m) (hmb:m < b) (hbN:b <= N) (ha:Sor cf (nth d) a m) (hb:Sor cf (nth d) m b) (hm1:m ≠ a + 1) (hb1:b ≠ m + 1) :
    Calls Tryz.prog 329 #[.slice (some ⟨g,0,none⟩) N cap,.int .i64 a,.int .i64 m,.int .i64 b,.func (.func 220) #[] #[]] w fun e w' => e = .returned (.tuple #[]) ∧ ∃ d',SS enc tl 309 w0 g d0 w' d' ∧ Sor cf (nth d') a b ∧ Wi (nth d) (nth d') a b:=by
  have HS:Hid (SS enc tl 309 w0 g d0 w d):=h
  have HN:Hid (d.size = N):=hN
  have HCC:Hid _:=HCM
  have HIH:Hid _:=IH
  have HA:Hid (Sor cf (nth d) a m):=ha
  have HB:Hid (Sor cf (nth d) m b):=hb
  have HSS:Hid (b - a <= s + 1):=hs
  obtain ⟨mid,hmid⟩:∃ mid:Nat,mid = (a + b) / 2:=⟨_,rfl⟩
  obtain ⟨n,hn⟩:∃ n:Nat,n = mid + m:=⟨_,rfl⟩
  have hmb2:a < mid ∧ mid < b:=by omega
  have hM2:a + b <= mid + mid + 1 ∧ mid + mid <= a + b:=by omega
  have HNN:Hid (n = mid + m):=hn
  have e1:((m:Int) - (a:Int) == 1) = false:=by rw [beq_eq_false_iff_ne];omega
  have e2:((b:Int) - (m:Int) == 1) = false:=by rw [beq_eq_false_iff_ne];omega
  have sm:((a:Int) + (b:Int)) / 2 = (mid:Int):=by omega
  have sn:(mid:Int) + (m:Int) = (n:Int):=by omega
  have xn:IntKind.i64.wrap (n:Int) = (n:Int):=by rw [IntKind.wrap_i64];omega
  obtain ⟨s0,r0,hsr⟩:∃ s0 r0:Nat,(mid < m ∧ s0 + b = n ∧ r0 = mid) ∨ (m <= mid ∧ s0 = a ∧ r0 = m):=by
    by_cases c:mid < m
    · exact ⟨n - b,mid,Or.inl ⟨c,by omega,rfl⟩⟩
    · exact ⟨a,m,Or.inr ⟨by omega,rfl,rfl⟩⟩
  have HSR:Hid _:=hsr
  have hb0:a <= s0 ∧ s0 <= r0 ∧ r0 <= m ∧ r0 <= mid:=by omega
  have HF:Hid ((n - s0 <= b ∧ m <= n - r0) ∧ (s0 = a ∨ n - s0 = b) ∧ (r0 = m ∨ n - r0 = m)):=by unfold Hid;omega
  obtain ⟨p,hp⟩:∃ p:Nat,p + 1 = n:=⟨n - 1,by omega⟩
  have HP:Hid (p + 1 = n):=hp
  have sp:(n:Int) - 1 = (p:Int):=by omega
  have xp:IntKind.i64.wrap (p:Int) = (p:Int):=by rw [IntKind.wrap_i64];omega
  clear h hN HCM IH ha hb hs hm1 hb1 hmid hn hsr hp
  go_enter Tryz.func329,Tryz.ntmps329
  go_upto_if 140 with fail
  go_cut [20,21] from 140 to 146 (fun vs vr wx => vs = .int .i64 s0 ∧ vr = .int .i64 r0 ∧ wx = w)
  case first =>
    rcases HSR.out with ⟨c,h1,rfl⟩ | ⟨c,rfl,rfl⟩
    · have c':(r0:Int) < (m:Int):=by omega
      have s1:(n:Int) - (b:Int) = (s0:Int):=by omega
      have x1:IntKind.i64.wrap (s0:Int) = (s0:Int):=by rw [IntKind.wrap_i64];omega
      go_wp2_with fail
      go_meet
      exact ⟨rfl,rfl,rfl⟩
    · have c':¬ ((mid:Int) < (r0:Int)):=by omega
      go_wp2_with fail
      go_meet
      exact ⟨rfl,rfl,rfl⟩
  case rest =>
    obtain ⟨rfl,rfl,hwc⟩:=hcut
    obtain rfl:w = wc:=hwc.symm
    clear hwc HSR
    go_wp2_with fail
    go_loopw [20,21,23] (fun vi vj _ wr => ∃ i j:Nat,vi = .int .i64 i ∧ vj = .int .i64 j ∧ s0 <= i ∧ i <= j ∧ j <= r0 ∧ Hid (SS enc tl 309 w0 g d0 wr d) ∧ Hid (i = s0 ∨ Nlt cf (nth d (n - i)) (nth d (i - 1))) ∧ Hid (j = r0 ∨ cf (nth d (n - 1 - j)) (nth d j) < 0)) (fun vi vj _ _ => (intOf vj).toNat - (intOf vi).toNat)
    case atStart => exact ⟨s0,r0,rfl,rfl,Nat.le_refl _,hb0.2.1,Nat.le_refl _,HS.out,Or.inl rfl,Or.inl rfl⟩
    case round =>
      obtain ⟨i,j,rfl,rfl,hmi,hij,hjb,HC,HLo,HHi⟩:=hrel
      by_cases hlt:i < j
      · have hlt':(i:Int) < (j:Int):=by omega
        obtain ⟨q,hq⟩:∃ q:Nat,q = (i + j) / 2:=⟨_,rfl⟩
        have hiq:i <= q ∧ q < j:=by omega
        have s2:((i:Int) + (j:Int)) / 2 = (q:Int):=by omega
        have q1:(q:Int) < (N:Int):=by omega
        have hnp:=HP.out
        have hff:=HF.out
        obtain ⟨y,hy⟩:∃ y:Nat,y + q = p:=⟨p - q,by omega⟩
        have HY:Hid (y + q = p):=hy
        have s3:(p:Int) - (q:Int) = (y:Int):=by omega
        have x3:IntKind.i64.wrap (y:Int) = (y:Int):=by rw [IntKind.wrap_i64];omega
        have y1:(y:Int) < (N:Int):=by omega
        have HBQ:Hid (q < d.size):=by unfold Hid;rw [HN.out];omega
        have HBY:Hid (y < d.size):=by unfold Hid;rw [HN.out];omega
        clear hq hy hnp hff
        go_wp2_with fail
        have s0:SS enc tl 309 w0 g d0 wr.drew d:=HC.out.grown (below_drewN (Below.refl _ _) 1)
        refine regS_in 14 (fun W => SS enc tl 309 w0 g d0 W d) Nr.mixed rfl ?_
        refine regS_take 0 158 (.func (.func 220) #[] #[]) rfl rfl (by kernel_rfl) (fun _ _ _ h => h) (by kernel_rfl) (fun W hW => by go_simp) s0 ?_
        refine regS_take 1 159 (.slice (some ⟨g,0,none⟩) N cap) rfl rfl (by kernel_rfl) (fun _ _ _ h => h) (by kernel_rfl) (fun W hW => by go_simp) s0 ?_
        refine regS_take 2 160 (.int .i64 (p:Int)) rfl rfl (by kernel_rfl) (fun _ _ _ h => h) (by kernel_rfl) (fun W hW => by go_simp) s0 ?_
        refine regS_take 3 161 (.int .i64 (q:Int)) rfl rfl (by kernel_rfl) (fun _ _ _ h => h) (by kernel_rfl) (fun W hW => by go_simp) s0 ?_
        refine regS_take 4 162 (.int .i64 (y:Int)) rfl rfl (by kernel_rfl) (fun _ _ _ h => h) (by kernel_rfl) (fun W hW => by go_simp) s0 ?_
        refine regS_take 5 163 (.pointer (some ⟨g,y * 3,none⟩)) rfl rfl (by kernel_rfl) (fun _ _ _ h => h) (by kernel_rfl) (fun W hW => by go_simp) s0 ?_
        simp only [Act.put,List.setIfInBounds_toArray,List.set_cons_succ,List.set_cons_zero]
        refine regS_take 6 164 (.agg (enc (nth d y)).toArray) rfl rfl (by kernel_rfl) (fun _ _ _ h => h) (by kernel_rfl) (fun W hW => exec_load 309 _ rfl ⟨g,y * 3,none⟩ rfl _ (SS.load hk Tryz.isAgg309 szE (SS.blk hW) HBY.out)) s0 ?_
        refine regS_take 7 165 (.slice (some ⟨g,0,none⟩) N cap) rfl rfl (by kernel_rfl) (fun _ _ _ h => h) (by kernel_rfl) (fun W hW => by go_simp) s0 ?_
        refine regS_take 8 166 (.int .i64 (q:Int)) rfl rfl (by kernel_rfl) (fun _ _ _ h => h) (by kernel_rfl) (fun W hW => by go_simp) s0 ?_
        refine regS_take 9 167 (.pointer (some ⟨g,q * 3,none⟩)) rfl rfl (by kernel_rfl) (fun _ _ _ h => h) (by kernel_rfl) (fun W hW => by go_simp) s0 ?_
        simp only [Act.put,List.setIfInBounds_toArray,List.set_cons_succ,List.set_cons_zero]
        refine regS_take 10 168 (.agg (enc (nth d q)).toArray) rfl rfl (by kernel_rfl) (fun _ _ _ h => h) (by kernel_rfl) (fun W hW => exec_load 309 _ rfl ⟨g,q * 3,none⟩ rfl _ (SS.load hk Tryz.isAgg309 szE (SS.blk hW) HBQ.out)) s0 ?_
        simp only [Act.put,List.setIfInBounds_toArray,List.set_cons_succ,List.set_cons_zero]
        refine regS_one 11 rfl (by kernel_rfl) (by kernel_rfl) (fun K hK => ?_)
        have HCA:Hid _:=HCC.out wr.drew s0.upd (nth d y) (SS.mem s0 HBY.out) (nth d q) (SS.mem s0 HBQ.out)
        go_wp2_with fail
        refine Calls.mono HCA.out ?_
        rintro e w1 ⟨rfl,g1⟩
        have s1:=s0.grown g1
        refine hK _ _ s1 ?_
        clear hK K HCA g1 s0
        obtain ⟨cv,hcv⟩:∃ cv,cf (nth d y) (nth d q) = cv:=⟨_,rfl⟩
        have HCV:Hid (cf (nth d y) (nth d q) = cv):=hcv
        rw [hcv]
        clear hcv
        by_cases hneg:cv < 0
        · have hd:decide (cv < 0) = true:=decide_eq_true hneg
          refine regS_take 12 170 (.bool true) rfl rfl (by kernel_rfl) (fun _ _ _ h => h) (by kernel_rfl) (fun W hW => by go_simp) s1 ?_
          refine regS_take 13 171 (.bool false) rfl rfl (by kernel_rfl) (fun _ _ _ h => h) (by kernel_rfl) (fun W hW => by go_simp) s1 ?_
          refine regS_end (by kernel_rfl) ?_
          simp only [Act.put,List.setIfInBounds_toArray,List.set_cons_succ,List.set_cons_zero]
          go_wp2_with fail
          refine ⟨⟨i,q,rfl,rfl,hmi,hiq.1,by omega,s1,HLo.out,Or.inr (by rw [show n - 1 - q = y from by have:=HP.out;have:=HY.out;omega,HCV.out];exact hneg)⟩,by simp [intOf];omega⟩
        · have hd:decide (cv < 0) = false:=decide_eq_false hneg
          refine regS_take 12 170 (.bool false) rfl rfl (by kernel_rfl) (fun _ _ _ h => h) (by kernel_rfl) (fun W hW => by go_simp) s1 ?_
          refine regS_take 13 171 (.bool true) rfl rfl (by kernel_rfl) (fun _ _ _ h => h) (by kernel_rfl) (fun W hW => by go_simp) s1 ?_
          refine regS_end (by kernel_rfl) ?_
          simp only [Act.put,List.setIfInBounds_toArray,List.set_cons_succ,List.set_cons_zero]
          go_wp2_with fail
          refine ⟨⟨q + 1,j,by go_num,rfl,by omega,by omega,hjb,s1,Or.inr (by unfold Nlt;rw [Nat.add_sub_cancel,show n - (q + 1) = y from by have:=HP.out;have:=HY.out;omega,HCV.out];exact hneg),HHi.out⟩,by simp [intOf];omega⟩
      · obtain rfl:i = j:=by omega
        obtain ⟨e,he⟩:∃ e:Nat,e + i = n:=⟨n - i,by have:=HP.out;have:=HNN.out;omega⟩
        have HE:Hid (e + i = n):=he
        have hff:=HF.out
        have hnn:=HNN.out
        have hbe:m <= e ∧ e <= b ∧ i <= m ∧ a <= i ∧ i <= mid ∧ mid <= e:=by omega
        have se:(n:Int) - (i:Int) = (e:Int):=by omega
        have xe:IntKind.i64.wrap (e:Int) = (e:Int):=by rw [IntKind.wrap_i64];omega
        have HME:Hid (mid = i + (e - m)):=by unfold Hid;omega
        have HLO:Hid (i <= a ∨ b <= e ∨ ¬ cf (nth d e) (nth d (i - 1)) < 0):=by
          rcases HLo.out with h | h
          · rcases hff.2.1 with h' | h'
            · exact Or.inl (by omega)
            · exact Or.inr (Or.inl (by omega))
          · rw [show n - i = e from by omega] at h;exact Or.inr (Or.inr h)
        have HHI:Hid (i = m ∨ m = e ∨ cf (nth d (e - 1)) (nth d i) < 0):=by
          rcases HHi.out with h | h
          · rcases hff.2.2 with h' | h'
            · exact Or.inl (by omega)
            · exact Or.inr (Or.inl (by omega))
          · rw [show n - 1 - i = e - 1 from by omega] at h;exact Or.inr (Or.inr h)
        clear he hff hnn HLo HHi hmi hjb hij
        go_upto_region 39 with fail
        go_cut [185] from 178 to 184 (fun v wx => v = .bool (decide (i < m ∧ m < e)) ∧ wx = wr)
        case first =>
          by_cases c1:i < m
          · have c1':(i:Int) < (m:Int):=by omega
            by_cases c2:m < e
            · have c2':(m:Int) < (e:Int):=by omega
              go_wp2_with fail
              go_meet
              exact ⟨by rw [decide_eq_true ⟨c1,c2⟩],rfl⟩
            · have c2':¬ ((m:Int) < (e:Int)):=by omega
              go_wp2_with fail
              go_meet
              exact ⟨by rw [decide_eq_false (fun h => c2 h.2)],rfl⟩
          · have c1':¬ ((i:Int) < (m:Int)):=by omega
            go_wp2_with fail
            go_meet
            exact ⟨by rw [decide_eq_false (fun h => c1 h.1)],rfl⟩
        case rest =>
        obtain ⟨rfl,hwc⟩:=hcut
        obtain rfl:wr = wc:=hwc.symm
        clear hwc
        go_upto_if 185 with fail
        go_cut [24] from 185 to 191 (fun v wx => v = .int .i64 e ∧ ∃ d1:Array α,Hid (SS enc tl 309 w0 g d0 wx d1) ∧ Hid (Rot (nth d) (nth d1) i m e))
        case first =>
          by_cases c:i < m ∧ m < e
          · rw [decide_eq_true c]
            have HR:Hid _:=rotate_any enc tl hk h1 g cap i m e N d0 d w0 wr (.func (.func 220) #[] #[]) HC.out HN.out c.1 c.2 (by omega) hsz
            go_wp2_with fail
            refine Calls.mono HR.out ?_
            rintro e1 w1 ⟨rfl,d1,hd1,hr1⟩
            have H1:Hid _:=hd1
            have H2:Hid _:=hr1
            clear hd1 hr1 HR
            go_wp2_with fail
            go_meet
            exact ⟨rfl,d1,H1.out,H2.out⟩
          · rw [decide_eq_false c]
            go_wp2_with fail
            go_meet
            exact ⟨rfl,d,HC.out,Rot.nothing _ (by omega) hbe.2.2.1 hbe.1⟩
        case rest =>
        obtain ⟨rfl,d1,HC1,HR1⟩:=hcut
        clear HC
        obtain ⟨wq,hwq⟩:∃ x,x = wc:=⟨_,rfl⟩
        subst hwq
        have hN1:d1.size = N:=by rw [HC1.out.size,<- HS.out.size];exact HN.out
        have HN1:Hid (d1.size = N):=hN1
        have hrs:=rot_sor P HA.out HB.out HR1.out hbe.2.2.2.1 hbe.2.2.1 hbe.1 hbe.2.1 HME.out HLO.out HHI.out
        have HRS:Hid _:=hrs
        clear hN1 hrs
        go_upto_region 41 with fail
        go_cut [199] from 192 to 198 (fun v wx => v = .bool (decide (a < i ∧ i < mid)) ∧ wx = wq)
        case first =>
          by_cases c1:a < i
          · have c1':(a:Int) < (i:Int):=by omega
            by_cases c2:i < mid
            · have c2':(i:Int) < (mid:Int):=by omega
              go_wp2_with fail
              go_meet
              exact ⟨by rw [decide_eq_true ⟨c1,c2⟩],rfl⟩
            · have c2':¬ ((i:Int) < (mid:Int)):=by omega
              go_wp2_with fail
              go_meet
              exact ⟨by rw [decide_eq_false (fun h => c2 h.2)],rfl⟩
          · have c1':¬ ((a:Int) < (i:Int)):=by omega
            go_wp2_with fail
            go_meet
            exact ⟨by rw [decide_eq_false (fun h => c1 h.1)],rfl⟩
        case rest =>
        obtain ⟨rfl,hwc⟩:=hcut
        obtain rfl:wq = wc:=hwc.symm
        clear hwc
        go_upto_if 199 with fail
        go_cut [24] from 199 to 205 (fun v wx => v = .int .i64 e ∧ ∃ d2:Array α,Hid (SS enc tl 309 w0 g d0 wx d2) ∧ Hid (Sor cf (nth d2) a mid ∧ Wi (nth d1) (nth d2) a mid))
        case first =>
          by_cases c:a < i ∧ i < mid
          · rw [decide_eq_true c]
            have HR:Hid _:=HIH.out a i mid d1 wq (by have:=HSS.out;omega) HC1.out HN1.out c.1 c.2 (by omega) HRS.out.1 HRS.out.2.1
            go_wp2_with fail
            refine Calls.mono HR.out ?_
            rintro e1 w1 ⟨rfl,d2,hd1,hr1⟩
            have H1:Hid _:=hd1
            have H2:Hid _:=hr1
            clear hd1 hr1 HR
            go_wp2_with fail
            go_meet
            exact ⟨rfl,d2,H1.out,H2.out⟩
          · rw [decide_eq_false c]
            go_wp2_with fail
            go_meet
            exact ⟨rfl,d1,HC1.out,Sor.join P HRS.out.1 HRS.out.2.1 (by omega),Wi.refl _ _ _⟩
        case rest =>
        obtain ⟨rfl,d2,HC2,HR2⟩:=hcut
        clear HC1
        have HN2:Hid (d2.size = N):=by unfold Hid;rw [HC2.out.size,<- HS.out.size];exact HN.out
        have HQ1:Hid (Sor cf (nth d2) mid e ∧ Sor cf (nth d2) e b):=⟨HRS.out.2.2.1.out HR2.out.2 (Or.inr (Nat.le_refl _)),HRS.out.2.2.2.1.out HR2.out.2 (Or.inr (by omega))⟩
        by_cases c:mid < e ∧ e < b
        · have c1:(mid:Int) < (e:Int):=by omega
          have c2:(e:Int) < (b:Int):=by omega
          have HR:Hid _:=HIH.out mid e b d2 wc (by have:=HSS.out;omega) HC2.out HN2.out c.1 c.2 hbN HQ1.out.1 HQ1.out.2
          go_wp2_with fail
          refine Calls.mono HR.out ?_
          rintro e1 w1 ⟨rfl,d3,hd1,hr1⟩
          have H1:Hid _:=hd1
          have H2:Hid _:=hr1
          clear hd1 hr1 HR
          go_wp2_with fail
          go_end0
          exact ⟨rfl,d3,H1.out,mrg_all HR1.out hbe.2.2.2.1 hbe.2.2.1 hbe.1 hbe.2.1 HRS.out.2.2.2.2 HR2.out.1 HR2.out.2 H2.out.1 H2.out.2 (by omega) (by omega)⟩
        · by_cases c1:mid < e
          · have c1':(mid:Int) < (e:Int):=by omega
            have c2':¬ ((e:Int) < (b:Int)):=by omega
            go_wp2_with fail
            go_end0
            exact ⟨rfl,d2,HC2.out,mrg_all HR1.out hbe.2.2.2.1 hbe.2.2.1 hbe.1 hbe.2.1 HRS.out.2.2.2.2 HR2.out.1 HR2.out.2 (Sor.join P HQ1.out.1 HQ1.out.2 (by omega)) (Wi.refl _ _ _) (by omega) (by omega)⟩
          · have c1':¬ ((mid:Int) < (e:Int)):=by omega
            go_wp2_with fail
            go_end0
            exact ⟨rfl,d2,HC2.out,mrg_all HR1.out hbe.2.2.2.1 hbe.2.2.1 hbe.1 hbe.2.1 HRS.out.2.2.2.2 HR2.out.1 HR2.out.2 (Sor.join P HQ1.out.1 HQ1.out.2 (by omega)) (Wi.refl _ _ _) (by omega) (by omega)⟩
theorem sym_any {α:Type} [Inhabited α] (enc:α -> List Value) (tl:Array Value) (hk:∀ x,(enc x).length = 3) (h1:∀ x,∀ v ∈ enc x,v.oneCell' = true) (cf:α -> α -> Int) (P:Pre cf) (g cap N:Nat) (d0:Array α) (w0:World) (HCM:Cmp Tryz.prog 220 #[] enc cf w0 g d0) (hsz:N <= 100000) :
    ∀ (s a m b:Nat) (d:Array α) (w:World),b - a <= s -> SS enc tl 309 w0 g d0 w d -> d.size = N -> a < m -> m < b -> b <= N -> Sor cf (nth d) a m -> Sor cf (nth d) m b -> Calls Tryz.prog 329 #[.slice (some ⟨g,0,none⟩) N cap,.int .i64 a,.int .i64 m,.int .i64 b,.func (.func 220) #[] #[]] w fun e w' => e = .returned (.tuple #[]) ∧ ∃ d',SS enc tl 309 w0 g d0 w' d' ∧ Sor cf (nth d') a b ∧ Wi (nth d) (nth d') a b:=by
  intro s
  induction s with
  | zero => intro a m b d w hs _ _ ham hmb;omega
  | succ s ih =>
    intro a m b d w hs h hN ham hmb hbN ha hb
    by_cases c1:m = a + 1
    · exact sym_one enc tl hk h1 cf P g cap a m b N d0 d w0 w HCM h hN ham hmb hbN hsz ha hb c1
    by_cases c2:b = m + 1
    · exact sym_last enc tl hk h1 cf P g cap a m b N d0 d w0 w HCM h hN ham hmb hbN hsz ha hb c1 c2
    exact sym_gen enc tl hk h1 s cf P g cap N d0 w0 HCM hsz ih a m b d w hs h hN ham hmb hbN ha hb c1 c2
set_option maxRecDepth 100000 in
set_option maxHeartbeats 4000000 in
theorem stable_any {α:Type} [Inhabited α] (enc:α -> List Value) (tl:Array Value) (hk:∀ x,(enc x).length = 3) (h1:∀ x,∀ v ∈ enc x,v.oneCell' = true) (cf:α -> α -> Int) (P:Pre cf) (g cap N:Nat) (d0 d:Array α) (w0 w:World) (HCM:Cmp Tryz.prog 220 #[] enc cf w0 g d0) (h:SS enc tl 309 w0 g d0 w d) (hN:d.size = N) (hsz:N <= 100000) :
    Calls Tryz.prog 283 #[.slice (some ⟨g,0,none⟩) N cap,.int .i64 N,.func (.func 220) #[] #[]] w fun e w' => e = .returned (.tuple #[]) ∧ ∃ d',SS enc tl 309 w0 g d0 w' d' ∧ Sor cf (nth d') 0 N:=by
  have HS:Hid (SS enc tl 309 w0 g d0 w d):=h
  have HN:Hid (d.size = N):=hN
  have HCC:Hid _:=HCM
  clear h hN HCM
  go_enter Tryz.func283,Tryz.ntmps283
  go_wp2_with fail
  go_loopw [7,8] (fun va vb wr => ∃ (a q:Nat) (c:Array α),va = .int .i64 a ∧ vb = .int .i64 ((a + 20:Nat):Int) ∧ a <= N ∧ Hid (a = q * 20) ∧ Hid (SS enc tl 309 w0 g d0 wr c) ∧ Hid (∀ t,t < q -> Sor cf (nth c) (t * 20) (t * 20 + 20))) (fun va _ _ => N - (intOf va).toNat)
  case atStart => exact ⟨0,0,d,rfl,rfl,Nat.zero_le _,rfl,HS.out,fun t ht => by omega⟩
  case round =>
    obtain ⟨a,q,c,rfl,rfl,haN,HA,HC,HQ⟩:=hrel
    have HCS:Hid (c.size = N):=by unfold Hid;rw [HC.out.size,<- HS.out.size];exact HN.out
    by_cases hlt:a + 20 <= N
    · have hlt':((a + 20:Nat):Int) <= (N:Int):=by omega
      have HI:Hid _:=insertion_any enc tl hk h1 cf P g cap a (a + 20) N d0 c w0 wr HCC.out HC.out HCS.out (by omega) hlt hsz
      have x1:IntKind.i64.wrap (((a + 20:Nat):Int) + 20) = ((a + 20:Nat):Int) + 20:=by rw [IntKind.wrap_i64];omega
      obtain ⟨b,hb⟩:∃ b:Nat,b = a + 20:=⟨_,rfl⟩
      have HB:Hid (b = a + 20):=hb
      rw [<- hb] at hlt' HI x1 ⊢
      clear hb
      go_wp2_with fail
      refine Calls.mono HI.out ?_
      rintro e w1 ⟨rfl,c',hc',hs',hw'⟩
      have H1:Hid _:=hc'
      have H2:Hid (Sor cf (nth c') a b):=hs'
      have H3:Hid _:=hw'
      clear hc' hs' hw' HI
      go_wp2_with fail
      have hb:=HB.out
      refine ⟨⟨b,q + 1,c',rfl,by go_num,by omega,?_,H1.out,blks_step HQ.out a b HA.out H2.out HB.out H3.out⟩,by simp [intOf];omega⟩
      unfold Hid
      have:=HA.out
      omega
    · have hlt':¬ ((a + 20:Nat):Int) <= (N:Int):=by omega
      have HI:Hid _:=insertion_any enc tl hk h1 cf P g cap a N N d0 c w0 wr HCC.out HC.out HCS.out haN (Nat.le_refl _) hsz
      have HL:Hid (N < a + 20):=by unfold Hid;omega
      clear hlt
      go_wp2_with fail
      refine Calls.mono HI.out ?_
      rintro e w1 ⟨rfl,c',hc',hs',hw'⟩
      have H1:Hid _:=hc'
      have HBK:Hid (Blks cf (nth c') 20 N):=blks_fin HQ.out a HA.out HL.out hs' hw'
      clear hc' hs' hw' HI HA HL hlt' haN HQ HC
      go_wp2_with fail
      go_loopw [6,7,8,9] (fun vB _ _ _ wr => ∃ (B:Nat) (c:Array α),vB = .int .i64 B ∧ 0 < B ∧ B <= 200020 ∧ Hid (SS enc tl 309 w0 g d0 wr c) ∧ Hid (Blks cf (nth c) B N)) (fun vB _ _ _ _ => N - (intOf vB).toNat)
      case atStart => exact ⟨20,c',rfl,by omega,by omega,H1.out,HBK.out⟩
      case round =>
        clear H1 HBK
        obtain ⟨B,c,rfl,hB0,hB1,HC,HBK⟩:=hrel
        by_cases hlt:B < N
        · have hlt':(B:Int) < (N:Int):=by omega
          have x1:IntKind.i64.wrap (2 * (B:Int)) = ((2 * B:Nat):Int):=by rw [IntKind.wrap_i64];omega
          obtain ⟨C,hC⟩:∃ C:Nat,C = 2 * B:=⟨_,rfl⟩
          have HCB:Hid (C = 2 * B):=hC
          rw [<- hC] at x1
          have hC2:C <= 200000 ∧ 0 < C ∧ B <= C:=by omega
          clear hC
          go_wp2_with fail
          go_loopw [7,8] (fun va vb wr => ∃ (a q:Nat) (c:Array α),va = .int .i64 a ∧ vb = .int .i64 ((a + C:Nat):Int) ∧ a <= N ∧ Hid (a = q * (2 * B)) ∧ Hid (SS enc tl 309 w0 g d0 wr c) ∧ Hid (Mid cf (nth c) B N q)) (fun va _ _ => N - (intOf va).toNat)
          case atStart => exact ⟨0,0,c,rfl,by go_num,Nat.zero_le _,by unfold Hid;omega,HC.out,Mid.start HBK.out⟩
          case round =>
            clear HC HBK
            obtain ⟨a,q,c,rfl,rfl,haN,HA,HC,HQ⟩:=hrel
            have HCS:Hid (c.size = N):=by unfold Hid;rw [HC.out.size,<- HS.out.size];exact HN.out
            obtain ⟨b,hb⟩:∃ b:Nat,b = a + C:=⟨_,rfl⟩
            have HB:Hid (b = a + C):=hb
            obtain ⟨m,hm⟩:∃ m:Nat,m = a + B:=⟨_,rfl⟩
            have HM:Hid (m = a + B):=hm
            rw [<- hb]
            have sm:(a:Int) + (B:Int) = (m:Int):=by omega
            have xm:IntKind.i64.wrap (m:Int) = (m:Int):=by rw [IntKind.wrap_i64];omega
            have x2:IntKind.i64.wrap ((b:Int) + (C:Int)) = (b:Int) + (C:Int):=by rw [IntKind.wrap_i64];omega
            by_cases hbN:b <= N
            · have hbN':(b:Int) <= (N:Int):=by omega
              have hcb:=HCB.out
              have hpre:=Mid.pre HQ.out a b HA.out hbN (by omega)
              rw [show min (a + B) b = m from by omega,<- hm] at hpre
              have HI:Hid _:=sym_any enc tl hk h1 cf P g cap N d0 w0 HCC.out hsz (b - a) a m b c wr (Nat.le_refl _) HC.out HCS.out (by omega) (by omega) hbN hpre.1 hpre.2
              clear hb hm hpre hcb
              go_wp2_with fail
              refine Calls.mono HI.out ?_
              rintro e w2 ⟨rfl,c2,hc',hs',hw'⟩
              have H1:Hid _:=hc'
              have H2:Hid (Sor cf (nth c2) a b):=hs'
              have H3:Hid _:=hw'
              clear hc' hs' hw' HI
              go_wp2_with fail
              have hb:=HB.out
              have hcb:=HCB.out
              refine ⟨⟨b,q + 1,c2,rfl,by go_num,hbN,?_,H1.out,Mid.step HQ.out a b HA.out (by omega) H2.out H3.out⟩,by simp [intOf];omega⟩
              unfold Hid
              rw [Nat.add_mul,Nat.one_mul,<- HA.out]
              omega
            · have hbN':¬ (b:Int) <= (N:Int):=by omega
              have HLN:Hid (N < a + 2 * B):=by unfold Hid;have:=HCB.out;omega
              have xB:IntKind.i64.wrap ((B:Int) * 2) = ((B * 2:Nat):Int):=by rw [IntKind.wrap_i64];omega
              by_cases hmN:m < N
              · have hmN':(m:Int) < (N:Int):=by omega
                have hpre:=Mid.pre HQ.out a N HA.out (Nat.le_refl _) (by have:=HLN.out;omega)
                rw [show min (a + B) N = m from by omega,<- hm] at hpre
                have HI:Hid _:=sym_any enc tl hk h1 cf P g cap N d0 w0 HCC.out hsz (N - a) a m N c wr (Nat.le_refl _) HC.out HCS.out (by omega) hmN (Nat.le_refl _) hpre.1 hpre.2
                clear hb hm hpre
                go_wp2_with fail
                refine Calls.mono HI.out ?_
                rintro e w2 ⟨rfl,c2,hc',hs',hw'⟩
                have H1:Hid _:=hc'
                have H2:Hid (Blks cf (nth c2) (B * 2) N):=Mid.fin HQ.out a HA.out HLN.out hs' hw'
                clear hc' hs' hw' HI
                go_wp2_with fail
                exact ⟨⟨B * 2,c2,rfl,by omega,by omega,H1.out,H2.out⟩,by simp [intOf];omega⟩
              · have hmN':¬ (m:Int) < (N:Int):=by omega
                have hpre:=Mid.pre HQ.out a N HA.out (Nat.le_refl _) (by have:=HLN.out;omega)
                rw [show min (a + B) N = N from by omega] at hpre
                have H2:Hid (Blks cf (nth c) (B * 2) N):=Mid.fin HQ.out a HA.out HLN.out hpre.1 (Wi.refl _ _ _)
                clear hb hm hpre
                go_wp2_with fail
                exact ⟨⟨B * 2,c,rfl,by omega,by omega,HC.out,H2.out⟩,by simp [intOf];omega⟩
        · go_wp2_with fail
          go_end0
          exact ⟨rfl,c,HC.out,Blks.all HBK.out (by omega)⟩
set_option maxHeartbeats 1000000 in
theorem sort_stable {α:Type} [Inhabited α] (enc:α -> List Value) (tl:Array Value) (hk:∀ x,(enc x).length = 3) (h1:∀ x,∀ v ∈ enc x,v.oneCell' = true) (cf:α -> α -> Int) (P:Pre cf) (g cap N:Nat) (d0:Array α) (w:World) (HCM:Cmp Tryz.prog 220 #[] enc cf w g d0) (hb:Blk w g (fl enc tl d0) 309) (hN:d0.size = N) (hsz:N <= 100000) :
    Calls Tryz.prog 219 #[.slice (some ⟨g,0,none⟩) N cap,.func (.func 220) #[] #[]] w fun e w' => e = .returned (.tuple #[]) ∧ ∃ d',UpdG w w' g ∧ Blk w' g (fl enc tl d') 309 ∧ d'.toList.Perm d0.toList ∧ Sor cf (nth d') 0 N:=by
  have HI:Hid _:=stable_any enc tl hk h1 cf P g cap N d0 d0 w w HCM ⟨UpdG.refl _ _,hb,List.Perm.refl _⟩ hN hsz
  clear HCM hb hN
  go_enter Tryz.func219,Tryz.ntmps219
  go_wp2_with fail
  refine Calls.mono HI.out ?_
  rintro e w2 ⟨rfl,d',hd,hs⟩
  have H1:Hid _:=hd
  have H2:Hid (Sor cf (nth d') 0 N):=hs
  clear hd hs HI
  go_wp2_with fail
  go_end0
  exact ⟨rfl,d',H1.out.upd,H1.out.blk,H1.out.perm,H2.out⟩
end Go.Proofs.YtjmpjfikcgccdaaGreatDoor.SyR
namespace Go.Proofs.YtjmpjfikcgccdaaGreatDoor.Ce
open Go.RowKit
open It Nr Sy
def reF (ys:List Int) (x:CeD):ReD:=⟨x,leastI x.co ys⟩
theorem begF_num {n:Int} (h:numB n = true):numB (begF n) = true:=by
  unfold numB at *
  rw [Bool.and_eq_true,decide_eq_true_eq,decide_eq_true_eq] at *
  unfold begF
  omega
theorem infoR:(Tryz.prog.info? 309).map (fun i => (i.zero,i.size,i.bytes)) = some (some (.agg #[.slice none 0 0,.slice none 0 0,.int .i64 0]),3,56):=by kernel_rfl
theorem mkReach (c:Nat) (hc:c <= 100000) (w:World) (B:Nat) (hB:B <= w.heap.size):∃ w',(Instr.makeSlice 306 (.int .i64 0) (.int .i64 (c:Int))).run Tryz.prog w = .ok (.slice (some ⟨w.heap.size,0,none⟩) 0 c) w' ∧
    w'.ownsRow B 309 3 (.slice (some ⟨w.heap.size,0,none⟩) 0 c) 0 [] ∧ Below w.heap.size w w':=by
  obtain ⟨i0,hi0,hz0,hz1,hz2⟩:=info_parts infoR
  obtain ⟨w',h1,h2,h3⟩:=run_make_own w B 306 309 i0 _ 3 Tryz.underlying306 hi0 hz0 hz1 .i64 .i64 c (by rw [hz2];omega) (by unfold maxLen;omega) hB
  exact ⟨w',h1,h2,below_of_grown h3⟩
theorem blk_apart {w:World} {b:Nat} {arr:Array Value} {T:TypeId} {B:Nat} {e:TypeId} {z:Nat} {v:Value} {n:Nat} {xs:List Value} (h:Blk w b arr T) (h':w.ownsRow B e z v n xs) (he:T ≠ e):v.ownBlock ≠ some b:=by
  obtain ⟨_,⟨h2,_⟩ | ⟨g,cap,cur,hv,_,hh,_⟩⟩:=h'
  · rw [h2];intro e;cases e
  · rw [hv]
    intro e2
    simp only [Value.ownBlock,Option.some.injEq] at e2
    subst e2
    unfold Blk at h
    rw [h] at hh
    injection hh with hh
    injection hh with _ h3
    exact he h3
structure CG (os:List CeD):Prop where
  pos:∀ x ∈ os,0 < x.co.length ∧ x.co.length <= 100
  num:∀ x ∈ os,x.co.all numB = true
set_option maxRecDepth 100000 in
set_option maxHeartbeats 8000000 in
theorem finder_any (p:Nat) (dim:Int) (av:Option Addr) (cv:Nat) (os:List CeD) (C:Nat) (b:Option Addr) (d:Nat) (ys:List Int) (w:World) (hp:Blk w p #[.int .i64 dim,.slice av os.length cv] 238)
    (hr:w.ownsRow C 242 2 (.slice av os.length cv) os.length (flatC os)) (hs:CS w C os) (hl:os.length <= 100) (hg:CG os) (hy:Ints w b ys) (hyn:ys.all numB = true) :
    Calls Tryz.prog 147 #[.pointer (some ⟨p,0,none⟩),.slice b ys.length d] w fun e w' => (∃ lb g cap tl d',e = .returned (.func (.func 221) #[] #[.pointer (some ⟨lb,0,none⟩)]) ∧ Blk w' lb #[.slice (some ⟨g,0,none⟩) os.length cap] 306 ∧ Blk w' g (fl encR tl d') 309 ∧ os.length <= cap ∧ d'.toList.Perm (os.map (reF ys)) ∧ Sor cfR (nth d') 0 os.length ∧ w.heap.size <= g ∧ w.heap.size <= lb) ∧ Below w.heap.size w w':=by
  have HP:Hid _:=hp
  have HR:Hid (w.ownsRow C 242 2 (.slice av os.length cv) os.length (flatC os)):=hr
  have HS:Hid (CS w C os):=hs
  have HG:Hid (CG os):=hg
  have HY:Hid (Ints w b ys):=hy
  have HYN:Hid (ys.all numB = true):=hyn
  obtain ⟨w1,k1,k2,k3⟩:=mkReach os.length (by omega) w w.heap.size (Nat.le_refl _)
  have K2:Hid (w1.ownsRow w.heap.size 309 3 (.slice (some ⟨w.heap.size,0,none⟩) 0 os.length) 0 []):=k2
  have p0:=hp.cell 1
  have p1:w1.cell? ⟨p,1,none⟩ = some (.slice av os.length cv):=(hp.below k3 hp.lt).cell 1
  obtain ⟨lb,hlb⟩:∃ lb,w1.heap.size = lb:=⟨_,rfl⟩
  have a2:=below_alloc w1 (.cells #[.slice (some ⟨w.heap.size,0,none⟩) 0 os.length] 306)
  have p2:(w1.alloc (.cells #[.slice (some ⟨w.heap.size,0,none⟩) 0 os.length] 306)).cell? ⟨p,1,none⟩ = some (.slice av os.length cv):=(Blk.below (hp.below k3 hp.lt) a2 (hp.below k3 hp.lt).lt).cell 1
  have b2:=k3.trans (a2.mono k3.size)
  have HB2:Hid _:=Blk.new' w1 #[.slice (some ⟨w.heap.size,0,none⟩) 0 os.length] 306 hlb.symm
  have HO2:Hid ((w1.alloc (.cells #[.slice (some ⟨w.heap.size,0,none⟩) 0 os.length] 306)).ownsRow w.heap.size 309 3 (.slice (some ⟨w.heap.size,0,none⟩) 0 os.length) 0 []):=ownsRow_below K2.out a2
  have HLB:Hid (w.heap.size <= lb):=by rw [<- hlb];exact k3.size
  clear hp hr hs hg hy hyn k2 K2 k3 a2
  go_enter Tryz.func147,Tryz.ntmps147
  go_wp2_with fail
  clear hlb p0 p1 p2
  go_loopw [7,19] (fun _ i wr => ∃ (j g cap:Nat) (rs:List ReD),j <= os.length ∧ i = .int .i64 j ∧ Hid (Blk wr lb #[.slice (some ⟨g,0,none⟩) j cap] 306) ∧ Hid (wr.ownsRow w.heap.size 309 3 (.slice (some ⟨g,0,none⟩) j cap) j (rs.flatMap encR)) ∧ Hid (rs = (os.take j).map (reF ys)) ∧ Below w.heap.size w wr) (fun _ i _ => os.length - (intOf i).toNat)
  case atStart => exact ⟨0,w.heap.size,os.length,[],by omega,rfl,HB2.out,HO2.out,rfl,b2⟩
  case round =>
    clear HB2 HO2 b2
    obtain ⟨j,g,cap,rs,hj,rfl,HB,HO,HF,br⟩:=hrel
    by_cases hlt:j < os.length
    · have hlt':(j:Int) < (os.length:Int):=by omega
      have hxj:os[j]? = some os[j]:=List.getElem?_eq_getElem hlt
      obtain ⟨q1,q2⟩:=flatC_cell hxj
      have hrr:=ownsRow_below HR.out br
      obtain ⟨go,_,_,hva,_,_,_⟩:=own_parts hrr (by omega)
      injection hva with hva1 hva2 hva3
      subst hva1
      replace q1:=row_cell hrr _ _ q1
      replace q2:=row_cell hrr _ _ q2
      have hxm:os[j] ∈ os:=List.mem_of_getElem? hxj
      have HXI:Hid (Ints wr os[j].ca os[j].co):=co_ints (CS.below HS.out br) hxm
      have HXG:Hid (0 < os[j].co.length ∧ os[j].co.length <= 100 ∧ os[j].co.all numB = true):=⟨(HG.out.pos _ hxm).1,(HG.out.pos _ hxm).2,HG.out.num _ hxm⟩
      have HTK:Hid ((os.take (j + 1)).map (reF ys) = (os.take j).map (reF ys) ++ [reF ys os[j]]):=by unfold Hid;rw [List.take_add_one,hxj,List.map_append];rfl
      generalize os[j] = x at *
      obtain ⟨co,ca,cc,it,ia,ic⟩:=x
      simp only [CeD.e0,CeD.e1] at q1 q2
      have HXI':Hid (Ints wr ca co):=HXI.out
      have HXG':Hid (0 < co.length ∧ co.length <= 100 ∧ co.all numB = true):=HXG.out
      clear hxj hxm hrr HXI HXG hva2 hva3
      obtain ⟨xb,hxb⟩:∃ xb,wr.heap.size = xb:=⟨_,rfl⟩
      have jb:Blk (wr.alloc (.cells #[.slice ca co.length cc,.slice ia it.length ic] 242)) xb #[.slice ca co.length cc,.slice ia it.length ic] 242:=Blk.new' wr _ _ hxb.symm
      obtain ⟨wq,hwq⟩:∃ wq,wr.alloc (.cells #[.slice ca co.length cc,.slice ia it.length ic] 242) = wq:=⟨_,rfl⟩
      have HSQ:Hid (Below wr.heap.size wr wq):=by rw [<- hwq];exact below_alloc wr _
      rw [hwq] at jb
      have HJB:Hid (∀ W,Below wq.heap.size wq W -> Blk W xb #[.slice ca co.length cc,.slice ia it.length ic] 242):=fun W hW => jb.below hW jb.lt
      have lb1:=HB.out.below HSQ.out HB.out.lt
      have HLBB:Hid (∀ W,Below wq.heap.size wq W -> Blk W lb #[.slice (some ⟨g,0,none⟩) j cap] 306):=fun W hW => lb1.below hW lb1.lt
      have HOQ:Hid (wq.ownsRow w.heap.size 309 3 (.slice (some ⟨g,0,none⟩) j cap) j (rs.flatMap encR)):=ownsRow_below HO.out HSQ.out
      have HBQ:Hid (Below w.heap.size w wq):=br.trans (HSQ.out.mono br.size)
      have HXQ:Hid (Ints wq ca co):=HXI'.out.below HSQ.out
      have HYQ:Hid (Ints wq b ys):=Ints.below HY.out HBQ.out
      have hww:w.heap.size <= wq.heap.size:=HBQ.out.size
      clear HB HO jb lb1 br HXI'
      go_wp2_with fail
      clear hwq hxb q1 q2
      have d0:Below wq.heap.size wq wq.drew:=below_drewN (Below.refl _ _) 1
      have s0:Blk wq.drew lb #[.slice (some ⟨g,0,none⟩) j cap] 306 ∧ Blk wq.drew xb #[.slice ca co.length cc,.slice ia it.length ic] 242:=⟨HLBB.out _ d0,HJB.out _ d0⟩
      refine region_s [(0,false),(1,false),(2,false),(3,true)] [4,5,6] [7,8] (fun W => Blk W lb #[.slice (some ⟨g,0,none⟩) j cap] 306 ∧ Blk W xb #[.slice ca co.length cc,.slice ia it.length ic] 242) Nr.mixed (by kernel_rfl) (fun _ _ _ _ _ h => h) s0 ?_
      refine lead_read _ rfl _ rfl rfl (.slice (some ⟨g,0,none⟩) j cap) (fun W hW => by have a0:=hW.1.cell 0;go_simp) ?_
      refine lead_read _ rfl _ rfl rfl (.agg #[.slice ca co.length cc,.slice ia it.length ic]) (fun W hW => by have a0:=hW.2.cell 0;have a1:=hW.2.cell 1;go_simp) ?_
      refine lead_read _ rfl _ rfl rfl (.agg #[.slice ca co.length cc,.slice ia it.length ic]) (fun W hW => by have a0:=hW.2.cell 0;have a1:=hW.2.cell 1;go_simp) ?_
      refine lead_pure _ rfl _ rfl rfl (.slice b ys.length d) (fun W => by go_simp) ?_
      simp only [lead_nil_eq]
      simp only [Act.put,List.setIfInBounds_toArray,List.set_cons_succ,List.set_cons_zero]
      refine mid_cons _ rfl rfl fun K hK => ?_
      go_wp2_with fail
      refine (least_any ⟨co,ca,cc,it,ia,ic⟩ b d ys wq.drew (HXQ.out.below d0) (HYQ.out.below d0) HXG'.out.1 HXG'.out.2.1 HXG'.out.2.2 HYN.out).mono ?_
      rintro e w3 ⟨he,g3⟩
      obtain ⟨lv,hlv⟩:∃ lv,leastI co ys = lv:=⟨_,rfl⟩
      have he':e = .returned (.int .i64 lv):=by rw [he,<- hlv]
      have HLV:Hid (leastI co ys = lv):=hlv
      subst he'
      clear he hlv
      have B3:=d0.trans g3
      refine hK _ _ ⟨HLBB.out _ B3,HJB.out _ B3⟩ ?_
      clear hK K g3
      refine mid_cons _ rfl rfl fun K hK => ?_
      go_wp2_with fail
      refine hK _ _ ⟨HLBB.out _ B3,HJB.out _ B3⟩ ?_
      clear hK K
      refine mid_cons _ rfl rfl fun K hK => ?_
      go_wp2_with fail
      have a4:=below_alloc w3 (.cells #[.slice ca co.length cc,.slice ia it.length ic,.int .i64 lv] 309)
      have B4:=B3.trans (a4.mono B3.size)
      refine hK _ _ ⟨HLBB.out _ B4,HJB.out _ B4⟩ ?_
      clear hK K
      simp only [mid_nil_eq]
      simp only [List.filterMap_cons,List.getElem?_toArray,List.getElem?_cons_succ,List.getElem?_cons_zero,List.filterMap_nil]
      have O4:=ownsRow_below HOQ.out B4
      have L4:=HLBB.out _ B4
      have z4:=Nat.le_trans hww B4.size
      refine wpl_pushZ rfl _ _ 306 rfl w.heap.size 309 (.agg #[.slice none 0 0,.slice none 0 0,.int .i64 0]) 3 56 Tryz.underlying306 infoR rfl (by decide) (.slice (some ⟨g,0,none⟩) j cap) j (rs.flatMap encR) rfl O4 w3.heap.size 1 [.slice ca co.length cc,.slice ia it.length ic,.int .i64 lv] rfl 309 (Blk.new w3 _ _) rfl (fun u hu => by simp at hu;rcases hu with rfl | rfl | rfl <;> rfl) (by omega) (by decide) z4 ?_
      intro g6 c6 w6 ow6 gr6 hat6 hlt6
      have L6:=blk_grown L4 gr6 (blk_apart L4 O4 (by decide))
      have B6:Below w.heap.size w w6:=row_grownBelow (HBQ.out.trans (B4.mono hww)) O4 gr6 z4
      have c6c:=L6.cell 0
      have f6:w6.frozen? ⟨lb,0,none⟩ = false:=L6.frozen 0
      have L7:Blk (w6.setCell ⟨lb,0,none⟩ (.slice (some ⟨g6,0,none⟩) (j + 1) c6)) lb #[.slice (some ⟨g6,0,none⟩) (j + 1) c6] 306:=L6.set 0 _
      have u7:=setCell_upd w6 lb 0 (.slice (some ⟨g6,0,none⟩) (j + 1) c6)
      have HO7:Hid ((w6.setCell ⟨lb,0,none⟩ (.slice (some ⟨g6,0,none⟩) (j + 1) c6)).ownsRow w.heap.size 309 3 (.slice (some ⟨g6,0,none⟩) (j + 1) c6) (j + 1) (rs.flatMap encR ++ [.slice ca co.length cc,.slice ia it.length ic,.int .i64 lv])):=own_kept ow6 (upd_grown u7) (Or.inr (blk_apart L6 ow6 (by decide)))
      have HL7:Hid _:=L7
      have B7:=below_upd B6 u7 HLB.out
      clear L6 L7 ow6 L4 O4 gr6 hat6
      go_wp2_with fail
      refine ⟨⟨j + 1,g6,c6,rs ++ [⟨⟨co,ca,cc,it,ia,ic⟩,lv⟩],by omega,by go_num,HL7.out,?_,?_,B7⟩,by simp [intOf];omega⟩
      · unfold Hid
        rw [List.flatMap_append]
        exact HO7.out
      · unfold Hid
        rw [HTK.out,HF.out]
        unfold reF
        rw [HLV.out]
    · obtain rfl:j = os.length:=by omega
      have hrsl:rs.length = os.length:=by rw [HF.out,List.length_map,List.length_take];omega
      have hrow:wr.ownsRow w.heap.size 309 3 (.slice (some ⟨g,0,none⟩) rs.length cap) rs.length (rs.flatMap encR):=by rw [hrsl];exact HO.out
      obtain ⟨tl,hbk,hsz,hcap,hmx,hgB⟩:=row_fl hrow
      have hlbg:lb ≠ g:=fun e => blk_apart HB.out HO.out (by decide) (by show some g = some lb;rw [e])
      have HSO:Hid _:=SyR.sort_stable encR tl encR_len encR_one cfR preR g cap os.length rs.toArray wr (fun W _ x _ y _ => by
        have:=find1_any x y W
        exact this) hbk (by simp [hrsl]) (by omega)
      have hc0:=HB.out.cell 0
      have HCAP:Hid (os.length <= cap):=by rw [<- hrsl];exact hcap
      have HRS:Hid (rs = os.map (reF ys)):=by have:=HF.out;rw [List.take_length] at this;exact this
      clear hlt hj hrow hbk hsz hcap hrsl HO HF
      go_wp2_with fail
      refine Calls.mono HSO.out ?_
      rintro e w5 ⟨rfl,d',hu,hb',hp',hso⟩
      have L5:=Blk.updG HB.out hu hlbg
      have B5:=hu.below br br.size hgB
      have HFIN:Hid (Blk w5 g (fl encR tl d') 309 ∧ d'.toList.Perm (os.map (reF ys)) ∧ Sor cfR (nth d') 0 os.length):=⟨hb',by rw [<- HRS.out];simpa using hp',hso⟩
      have HL5:Hid _:=L5
      clear HSO hu hb' hp' hso L5
      go_wp2_with fail
      go_ret
      exact ⟨⟨lb,g,cap,tl,d',rfl,HL5.out,HFIN.out.1,HCAP.out,HFIN.out.2.1,HFIN.out.2.2,hgB,HLB.out⟩,B5⟩
end Go.Proofs.YtjmpjfikcgccdaaGreatDoor.Ce
