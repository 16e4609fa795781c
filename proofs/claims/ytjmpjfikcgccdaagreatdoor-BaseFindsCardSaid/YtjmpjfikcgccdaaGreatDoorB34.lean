/-
  Part of the proof of BaseFindsCard (BA16 and on).
-/
import Derived.Test.YtjmpjfikcgccdaaGreatDoorB33
namespace Go.Proofs.YtjmpjfikcgccdaaGreatDoor.Bs
open Go.RowKit Go.Shelf Go.Maps
open It Nr Ce
theorem del_no (bb vb mt mn pc:Nat) (dim:Int) (L N:List ItD) (Z:Nat -> Prop) (s:ByteArray) (w:World) (hB:Bse w Z bb vb dim L N mt mn pc) (hs:s.size <= maxLen) (hN:isN N s = false) :
    Calls Tryz.prog 19 #[.pointer (some ⟨bb,0,none⟩),.string s] w fun e w' => e = .returned (.iface 34 (.int .i64 7)) ∧ Below w.heap.size w w':=by
  have c3:=hB.blk.cell 3
  have hlk:=run_lookTok Tryz.underlying9 pt45 _ It.zeroIt (MapT.of hB.next.mapS) (i:=s) hs
  have hq:lk N s = none:=by
    have h:=lk_isSome N s
    rw [hN] at h
    cases h2:lk N s with
    | none => rfl
    | some v => rw [h2] at h;cases h
  rw [hq] at hlk
  have s1:=below_alloc w (.cells #[.string ⟨#[]⟩,.string ⟨#[]⟩,.slice none 0 0] 45)
  have j1:Blk (w.alloc (.cells #[.string ⟨#[]⟩,.string ⟨#[]⟩,.slice none 0 0] 45)) w.heap.size #[.string ⟨#[]⟩,.string ⟨#[]⟩,.slice none 0 0] 45:=Blk.new w _ _
  have hlk2:(Instr.lookup 128 (.map (some mn)) (.string s) true).run Tryz.prog w = .ok (.tuple #[.agg #[.string ⟨#[]⟩,.string ⟨#[]⟩,.slice none 0 0],.bool false]) w:=hlk
  clear hlk hq hB hs
  go_enter Tryz.func19,Tryz.ntmps19
  go_wp2_with (first
    | (refine Su.wpl_storeV rfl rfl 45 _ _ rfl 3 It.szIt w.heap.size _ 45 #[.string ⟨#[]⟩,.string ⟨#[]⟩,.slice none 0 0] (hone3 _ _ _ rfl) rfl rfl j1 rfl rfl ?_;intro w2 hu2 j2)
    | fail)
  go_ret
  exact ⟨rfl,below_upd s1 hu2 (Nat.le_refl _)⟩
theorem del_ok (bb vb mt mn pc:Nat) (dim:Int) (L N:List ItD) (Z:Nat -> Prop) (s:ByteArray) (w:World) (hB:Bse w Z bb vb dim L N mt mn pc) (hz:∀ k,Z k -> k < w.heap.size) (hs:s.size <= maxLen) (hN:isN N s = true) :
    Calls Tryz.prog 19 #[.pointer (some ⟨bb,0,none⟩),.string s] w fun e w' => e = .returned .nilIface ∧ Bse w' (more Z w w') bb vb dim L (noI N s) mt mn pc ∧ Dv.Chg w w' (fun k => k = mn):=by
  have c3:=hB.blk.cell 3
  have hlk:=run_lookTok Tryz.underlying9 pt45 _ It.zeroIt (MapT.of hB.next.mapS) (i:=s) hs
  rw [lk_isSome,hN] at hlk
  obtain ⟨arr,hq,ha1,ha2⟩:∃ arr:Array Value,(lk N s).getD (.agg #[.string ByteArray.empty,.string ByteArray.empty,.slice none 0 0]) = .agg arr ∧ arr.size = 3 ∧ ∀ v ∈ arr.toList,v.oneCell' = true:=by
    have h:=lk_isSome N s
    rw [hN] at h
    obtain ⟨u,hu⟩:=Option.isSome_iff_exists.1 h
    obtain ⟨d,_,_,rfl⟩:=lk_some hu
    exact ⟨d.arr,by rw [hu];rfl,rfl,hone3 _ _ _ rfl⟩
  rw [hq] at hlk
  have s1:=below_alloc w (.cells #[.string ⟨#[]⟩,.string ⟨#[]⟩,.slice none 0 0] 45)
  have j1:Blk (w.alloc (.cells #[.string ⟨#[]⟩,.string ⟨#[]⟩,.slice none 0 0] 45)) w.heap.size #[.string ⟨#[]⟩,.string ⟨#[]⟩,.slice none 0 0] 45:=Blk.new w _ _
  have HB:Hid (Bse w Z bb vb dim L N mt mn pc):=hB
  have HZ:Hid (∀ k,Z k -> k < w.heap.size):=hz
  have HS:Hid (s.size <= maxLen):=hs
  clear hq hB hs hz
  go_enter Tryz.func19,Tryz.ntmps19
  go_wp2_with (first
    | (refine Su.wpl_storeV rfl rfl 45 _ _ rfl 3 It.szIt w.heap.size _ 45 arr ha2 rfl rfl j1 rfl ha1 ?_;intro w2 hu2 j2;have s2:Below w.heap.size w w2:=below_upd s1 hu2 (Nat.le_refl _);have HN2:Hid (IM w2 mn N):=HB.out.next.below s2 HB.out.next.lt;have k3:=(HB.out.blk.below s2 HB.out.blk.lt).cell 3;obtain ⟨w3,hdrop,hM3,hu3⟩:=HN2.out.drop pt45 s HS.out 0)
    | fail)
  go_ret
  have hc:Dv.Chg w w3 (fun k => k = mn):=(Dv.Chg.of s2 _).upd hu3 (Or.inl rfl)
  refine ⟨rfl,bse_next HB.out (fun k hk hn => hc.block k hk hn) HZ.out hM3 ⟨fun d hd => ?_,?_⟩,hc⟩
  · have h0:=HB.out.okN.1 d (noI_mem.1 hd).1
    exact ⟨ok_same h0.1 h0.2.2 (fun k hk => hc.block k (HZ.out k hk) (fun e => HB.out.zn (by rw [<- e];exact hk))),h0.2.1,fun b o e => Or.inl (h0.2.2 b o e)⟩
  · have:=noI_len HB.out.next.nodup s
    have:=HB.out.okN.2
    omega
theorem mkPoints (w:World):(Instr.makeMap 128 none).run Tryz.prog w = .ok (.map (some w.heap.size)) (w.alloc (.map #[] 0)):=by kernel_rfl
theorem okl_nil (w:World) (Z:Nat -> Prop) (dim:Int):Okl w Z dim []:=⟨fun d hd => (by cases hd),Nat.zero_le _⟩
theorem make_any (bb vb mt mn pc:Nat) (dim:Int) (Z:Nat -> Prop) (w:World) (hB:Bse w Z bb vb 0 [] [] mt mn pc) (h1:1 <= dim) (h8:dim <= 8) :
    Calls Tryz.prog 15 #[.pointer (some ⟨bb,0,none⟩),.int .i64 dim] w fun e w' => e = .returned .nilIface ∧ (∃ Z' mt' mn' pc',Bse w' Z' bb vb dim [] [] mt' mn' pc' ∧ (∀ k,Z' k -> w.heap.size <= k ∧ k < w'.heap.size) ∧ w.heap.size <= mn' ∧ mn' < w'.heap.size) ∧ Dv.Chg w w' (fun k => k = bb):=by
  have c1:=hB.blk.cell 1
  have hmk:=mkPoints w
  have s1:=below_alloc w (.map #[] 0)
  have hb1:=hB.blk.below s1 hB.blk.lt
  have hM:=im_made w
  have hlt:=hB.blk.lt
  have HBC:Hid _:=become_any bb vb w.heap.size dim (.int .i64 0) (.map (some mt)) (.map (some mn)) (.pointer (some ⟨pc,0,none⟩)) [] (fun k => k = w.heap.size) (w.alloc (.map #[] 0)) hb1 hM (okl_nil _ _ _) (by omega) rfl (fun k hk => by simp;omega)
  have HS1:Hid (Below w.heap.size w (w.alloc (.map #[] 0))):=s1
  have d1:¬ dim < 1:=by omega
  have d8:¬ 8 < dim:=by omega
  have hsz:(w.alloc (.map #[] 0)).heap.size = w.heap.size + 1:=by simp
  clear hB hb1 hM s1
  go_enter Tryz.func15,Tryz.ntmps15
  go_wp2_with fail
  refine Calls.mono HBC.out ?_
  rintro e w2 ⟨rfl,⟨mn',pc',hB2,q1,q2⟩,c2⟩
  have HB2:Hid _:=hB2
  clear hB2 HBC
  go_wp2_with fail
  go_ret
  refine ⟨rfl,⟨_,_,mn',pc',HB2.out,fun k hk => ?_,by omega,q2⟩,?_⟩
  · have:=c2.size
    rcases hk.1 with h | h
    · omega
    · omega
  · exact (Dv.Chg.of HS1.out _).trans c2
theorem find_any (bb vb mt mn pc:Nat) (dim:Int) (L N:List ItD) (Z:Nat -> Prop) (b:Option Addr) (d:Nat) (ys:List Int) (k:Int) (tag:ByteArray) (w:World) (hB:Bse w Z bb vb dim L N mt mn pc) (hd:1 <= dim) (hy:Ints w b ys) (hyl:ys.length <= maxLen) :
    Calls Tryz.prog 32 #[.pointer (some ⟨bb,0,none⟩),.slice b ys.length d,.int .i64 k,.string tag] w fun e w' => (∃ v lk,e = .returned (.tuple #[v,.int .i64 lk,ev (askB dim ys k)]) ∧ Fnds w' v (XK (askB dim ys k) ys tag k L) ∧ 0 <= lk ∧ lk <= (L.length:Int)) ∧ Below w.heap.size w w':=by
  obtain ⟨C,v,os,hc⟩:=hB.cel
  have hd':(dim == 0) = false:=by rw [beq_eq_false_iff_ne];omega
  have HD:Hid _:=dim_any bb (.pointer (some ⟨vb,0,none⟩)) (.map (some mt)) (.map (some mn)) (.pointer (some ⟨pc,0,none⟩)) dim w hB.blk
  have HT:Hid _:=topC pc dim v os C L b d ys k tag w hc.blk hc.row hc.cs hc.perm (by have:=hB.okL.2;omega) hc.len (fun x hx => (hB.okL.1 x hx).1) (fun x hx => by
    obtain ⟨_,h2,_,_,h5⟩:=right_parts (hB.okL.1 x hx).2.1
    exact ⟨h5,by omega,by have:=(hB.okL.nums x hx).2;omega⟩) hy hyl
  have c4:=hB.blk.cell 4
  obtain ⟨er,her⟩:∃ er,ev (askB dim ys k) = er:=⟨_,rfl⟩
  have HER:Hid (ev (askB dim ys k) = er):=her
  rw [her] at HT
  clear hc hB hy her
  go_enter Tryz.func32,Tryz.ntmps32
  go_wp2_with fail
  refine Calls.mono HD.out ?_
  rintro e w2 ⟨rfl,hw⟩
  obtain rfl:w = w2:=hw.symm
  clear hw HD
  go_wp2_with fail
  refine Calls.mono HT.out ?_
  rintro e w3 ⟨⟨u,lk,rfl,hF,q1,q2⟩,g3⟩
  have HF:Hid _:=hF
  clear hF HT
  go_wp2_with fail
  go_ret3
  exact ⟨⟨u,lk,by rw [HER.out];rfl,HF.out,q1,q2⟩,g3⟩
end Go.Proofs.YtjmpjfikcgccdaaGreatDoor.Bs
namespace Go.Proofs.YtjmpjfikcgccdaaGreatDoor.Bs
open Go.RowKit Go.Shelf Go.Maps
open It Nr Ce Sy
theorem fl_put {α:Type} {enc:α -> List Value} {tl:Array Value} {k:Nat} {d:Array α} {i:Nat} (hk:∀ x,(enc x).length = k) (hi:i < d.size) (y:α):foldset (fl enc tl d) (i * k) (enc y) = fl enc tl (d.setIfInBounds i y):=by
  have hs:=fl_size hk tl d
  have hri:=row_le hi k
  apply Array.ext_getElem?
  intro t
  rw [foldset_get _ _ _ _ (by rw [hk,hs];omega),hk]
  by_cases ht:t < d.size * k
  · have hk0:0 < k:=by
      rcases Nat.eq_zero_or_pos k with h | h
      · rw [h] at ht;simp at ht
      · exact h
    obtain ⟨q,r,rfl,hr⟩:∃ q r,t = q * k + r ∧ r < k:=⟨t / k,t % k,by have:=Nat.div_add_mod t k;rw [Nat.mul_comm] at this;exact this.symm,Nat.mod_lt _ hk0⟩
    have hq:q < d.size:=by
      rcases Nat.lt_or_ge q d.size with h | h
      · exact h
      · have:=Nat.mul_le_mul_right k h;omega
    have hL:∀ (d':Array α) (x:α),d'.toList[q]? = some x -> (fl enc tl d')[q * k + r]? = (enc x)[r]?:=fun d' x hx => by
      unfold fl
      have hl:q * k + r < (d'.toList.flatMap enc).toArray.size:=by
        simp only [List.size_toArray];rw [flat_len hk]
        have h1:=(List.getElem?_eq_some_iff.1 hx).1
        have:=Nat.mul_le_mul_right k (show q + 1 <= d'.toList.length from h1)
        rw [Nat.add_mul,Nat.one_mul] at this;omega
      rw [Array.getElem?_append_left hl,List.getElem?_toArray,flat_get hk _ _ _ _ hx hr]
    by_cases e:q = i
    · subst e
      rw [if_pos ((in_row hr).2 rfl),hL (d.setIfInBounds q y) y (by rw [Array.toList_setIfInBounds,List.getElem?_set_self (by simpa using hq)])]
      rw [show q * k + r - q * k = r from by omega]
    · rw [if_neg (fun h => e ((in_row hr).1 h))]
      have hx:d.toList[q]? = some d[q]:=by simp [hq]
      rw [hL d _ hx,hL (d.setIfInBounds i y) d[q] (by rw [Array.toList_setIfInBounds,List.getElem?_set_ne (Ne.symm e)];exact hx)]
  · have hs':(d.setIfInBounds i y).size = d.size:=by simp
    rw [if_neg (by omega),fl_tail hk (by omega),fl_tail hk (by rw [hs'];omega),hs']
theorem encI_len (x:ItD):(Nr.encI x).length = 3:=rfl
theorem fl_of_row {w:World} {B g n cap:Nat} {l:List ItD} (h:w.ownsRow B 45 3 (.slice (some ⟨g,0,none⟩) n cap) l.length (flatI l)):∃ tl,Blk w g (fl Nr.encI tl l.toArray) 45 ∧ n = l.length ∧ B <= g:=by
  obtain ⟨h1,⟨h2,_⟩ | ⟨g',cap',cur,hv,hgB,hh,_,_,_,ht⟩⟩:=h
  · cases h2
  · injection hv with hv1 hv2 hv3
    injection hv1 with hv1
    injection hv1 with hv1
    subst hv1 hv3
    refine ⟨(cur.toList.drop (l.length * 3)).toArray,?_,hv2,hgB⟩
    have e:cur = fl Nr.encI (cur.toList.drop (l.length * 3)).toArray l.toArray:=by
      unfold fl
      apply Array.ext'
      rw [Array.toList_append]
      show cur.toList = flatI l ++ cur.toList.drop (l.length * 3)
      rw [<- ht,List.take_append_drop]
    rw [<- e];exact hh
theorem its_of_fl {w:World} {g:Nat} {tl:Array Value} {d:Array ItD} (h:Blk w g (fl Nr.encI tl d) 45) (hok:∀ x ∈ d.toList,x.Ok w):Its w (some ⟨g,0,none⟩) d.toList:=by
  intro i x hx
  have hc:∀ t,t < 3 -> w.cell? ⟨g,0 + i * 3 + t,none⟩ = (Nr.encI x)[t]?:=fun t ht => by
    rw [h.cell,Nat.zero_add]
    unfold fl
    have hl:i * 3 + t < (d.toList.flatMap Nr.encI).toArray.size:=by
      simp only [List.size_toArray];rw [flat_len encI_len]
      have h1:=(List.getElem?_eq_some_iff.1 hx).1
      omega
    rw [Array.getElem?_append_left hl,List.getElem?_toArray,flat_get encI_len _ _ _ _ hx ht]
  exact ⟨g,0,rfl,hc 0 (by decide),hc 1 (by decide),hc 2 (by decide),hok x (List.mem_of_getElem? hx)⟩
def ItsLow (B:Nat) (a:Option Addr) (ds:List ItD):Prop:=(ds ≠ [] -> ∀ g o,a = some ⟨g,o,none⟩ -> B <= g) ∧ ∀ x ∈ ds,∀ b o,x.a = some ⟨b,o,none⟩ -> B <= b
set_option maxRecDepth 100000 in
set_option maxHeartbeats 2000000 in
theorem items_at (bb vb mt mn pc:Nat) (dim:Int) (L N:List ItD) (Z:Nat -> Prop) (w:World) (hB:Bse w Z bb vb dim L N mt mn pc) (hz:∀ k,Z k -> k < w.heap.size) :
    Calls Tryz.prog 31 #[.pointer (some ⟨bb,0,none⟩)] w fun e w' => (∃ a c ds,e = .returned (.slice a L.length c) ∧ xsOf ds = xsOf (srtI L) ∧ ds.length = L.length ∧ Its w' a ds ∧ ItsLow w.heap.size a ds) ∧ Below w.heap.size w w':=by
  have c2:=hB.blk.cell 2
  have hll:=hB.okL.2
  have HR:Hid _:=rising_any mt L (okl_name hB.okL) (by omega) w hB.there
  have HOK:Hid (Okl w Z dim L):=hB.okL
  have HZ:Hid (∀ k,Z k -> k < w.heap.size):=hz
  clear hB hz
  go_enter Tryz.func31,Tryz.ntmps31
  go_wp2_with fail
  refine Calls.mono HR.out ?_
  rintro e w1 ⟨v,rfl,ho,g1⟩
  have HOK1:Hid (Okl w1 Z dim L):=HOK.out.same (fun k hk => g1.block k (HZ.out k hk))
  have hv:=okl_its HOK1.out ho
  obtain ⟨a,c,rfl,hI⟩:=hv
  have HI:Hid (Its w1 a (srtI L)):=hI
  have HO:Hid (w1.ownsRow w.heap.size 45 3 (.slice a L.length c) L.length (flatI (srtI L))):=ho
  have HG:Hid (Below w.heap.size w w1):=g1
  clear HR hI ho g1 c2
  by_cases h0:L.length = 0
  · rw [h0]
    go_wp2_with fail
    refine wp_loop_rounds 1 ?_
    rw [rounds_succ]
    go_wp2_with fail
    go_ret
    have e:srtI L = []:=List.eq_nil_of_length_eq_zero (by rw [srtI_len];exact h0)
    exact ⟨⟨a,c,[],by rw [h0];rfl,by rw [e],h0.symm,fun i x hx => by simp at hx,fun h => absurd rfl h,fun x hx => by simp at hx⟩,HG.out⟩
  · obtain ⟨g,cap,cur,hv,_⟩:=own_parts HO.out (by omega)
    injection hv with hv1 hv2 hv3
    subst hv1 hv3
    have hO':=HO.out
    rw [show L.length = (srtI L).length from (srtI_len L).symm] at hO'
    obtain ⟨tl,hb,_,hgB⟩:=fl_of_row hO'
    have hgl:=hb.lt
    have HD:Hid (∀ x ∈ (srtI L).toArray.toList,x.Ok w1 ∧ 0 < x.x.nums.length ∧ x.x.nums.length <= 100 ∧ ∀ b o,x.a = some ⟨b,o,none⟩ -> b ≠ g):=fun x hx => by
      have hm:=(srtI_perm L).mem_iff.1 (by simpa using hx)
      obtain ⟨h1,h2,h3⟩:=HOK1.out.1 x hm
      obtain ⟨h4,h5,_⟩:=right_parts h2
      exact ⟨h1,by omega,by omega,fun b o e => by have:=HZ.out b (h3 b o e);omega⟩
    have HBL:Hid (Blk w1 g (fl Nr.encI tl (srtI L).toArray) 45):=hb
    clear hO' hb HI HO
    go_wp2_with fail
    go_loopw [15] (fun i wr => ∃ (k:Nat) (d:Array ItD),k <= L.length ∧ i = .int .i64 k ∧ Hid (d.size = L.length) ∧ Hid (d.toList.map ItD.x = xsOf (srtI L)) ∧ Hid (Blk wr g (fl Nr.encI tl d) 45) ∧ Hid (∀ x ∈ d.toList,x.Ok wr ∧ 0 < x.x.nums.length ∧ x.x.nums.length <= 100 ∧ ∀ b o,x.a = some ⟨b,o,none⟩ -> b ≠ g) ∧ Hid (∀ i x,i < k -> d.toList[i]? = some x -> ∀ b o,x.a = some ⟨b,o,none⟩ -> w.heap.size <= b) ∧ Hid (Below w.heap.size w wr)) (fun i _ => L.length - (intOf i).toNat)
    case atStart => exact ⟨0,_,by omega,rfl,(show (srtI L).toArray.size = L.length from srtI_len L),rfl,HBL.out,HD.out,fun i x hi => absurd hi (Nat.not_lt_zero _),HG.out⟩
    case round =>
      clear HBL HD HG HOK HOK1
      obtain ⟨k,d,hk,rfl,HSZ,HXS,HBL,HD,HW,HG⟩:=hrel
      by_cases hlt:k < L.length
      · have hlt':(k:Int) < (L.length:Int):=by omega
        have hkd:k < d.size:=by rw [HSZ.out];exact hlt
        obtain ⟨x,hx⟩:∃ x,d.toList[k]? = some x:=⟨_,List.getElem?_eq_getElem (by simpa using hkd)⟩
        obtain ⟨hxo,hx0,hx1,hxg⟩:=HD.out x (List.mem_of_getElem? hx)
        obtain ⟨g',o',e,q1,q2,q3,_⟩:=its_of_fl HBL.out (fun x hx => (HD.out x hx).1) k x hx
        injection e with e
        injection e with e1 e2
        subst e1 e2
        obtain ⟨⟨nm,tg,zs⟩,xa,xc⟩:=x
        simp only [ItD.val,Nat.zero_add] at q1 q2 q3
        have HXK:Hid (d.toList[k]? = some ⟨⟨nm,tg,zs⟩,xa,xc⟩):=hx
        have hxo':ItD.Ok wr ⟨⟨nm,tg,zs⟩,xa,xc⟩:=hxo
        have s1:=below_alloc wr (.cells #[.string ⟨#[]⟩,.string ⟨#[]⟩,.slice none 0 0] 45)
        have j1:Blk (wr.alloc (.cells #[.string ⟨#[]⟩,.string ⟨#[]⟩,.slice none 0 0] 45)) wr.heap.size #[.string ⟨#[]⟩,.string ⟨#[]⟩,.slice none 0 0] 45:=Blk.new wr _ _
        clear hx hxo hx0 hx1 hxg
        go_wp2_with (first
          | (refine Su.wpl_storeV rfl rfl 45 _ _ rfl 3 It.szIt wr.heap.size _ 45 #[.string nm,.string tg,.slice xa zs.length xc] (hone3 _ _ _ rfl) rfl rfl j1 rfl rfl ?_;intro w2 hu2 j2)
          | (refine Su.wpl_loadV rfl 45 _ rfl Tryz.isAgg45 3 It.szIt wr.heap.size 0 _ 45 rfl j2 (Nat.le_refl _) ?_)
          | fail)
        have s2:Below wr.heap.size wr w2:=below_upd s1 hu2 (Nat.le_refl _)
        obtain ⟨_,hx0,hx1,_⟩:=HD.out _ (List.mem_of_getElem? HXK.out)
        refine (copied_any ⟨⟨nm,tg,zs⟩,xa,xc⟩ w2 (hxo'.below s2) hx0 hx1).mono ?_
        rintro e w3 ⟨⟨y,rfl,hy,hyo,hyz⟩,g3⟩
        have s3:=s2.trans (g3.mono s2.size)
        have j3:=HBL.out.below s3 HBL.out.lt
        have hrl:k * 3 + 3 <= (fl Nr.encI tl d).size:=row_leT encI_len hkd tl
        have hone:∀ v ∈ y.arr.toList,v.oneCell' = true:=hone3 _ _ _ rfl
        clear hx0 hx1 q1 q2 q3 s1 j1 hu2 j2 hxo'
        go_wp2_with (first
          | (refine Nr.wpl_storeAt rfl rfl 45 _ _ rfl 3 It.szIt g (k * 3) _ 45 y.arr rfl rfl rfl hone j3 hrl ?_;intro w4 hu4 j4)
          | fail)
        have hf:foldset (fl Nr.encI tl d) (k * 3) y.arr.toList = fl Nr.encI tl (d.setIfInBounds k y):=fl_put encI_len hkd y
        rw [hf] at j4
        have hgs:=HBL.out.lt
        have h34:w4.heap.size = w3.heap.size:=hu4.size
        refine ⟨⟨k + 1,d.setIfInBounds k y,by omega,by go_num,by unfold Hid;simp;exact HSZ.out,?_,j4,fun x hx => ?_,fun i x hi hx => ?_,?_⟩,by simp [intOf];omega⟩
        · unfold Hid
          rw [Array.toList_setIfInBounds,List.map_set,hy,<- HXS.out]
          apply List.ext_getElem?
          intro i
          rw [List.getElem?_set]
          by_cases e:k = i
          · subst e;rw [if_pos rfl,List.getElem?_map,HXK.out];simp [hkd]
          · rw [if_neg e]
        · rw [Array.toList_setIfInBounds] at hx
          rcases List.mem_or_eq_of_mem_set hx with hx | rfl
          · obtain ⟨h1,h2,h3,h4⟩:=HD.out x hx
            exact ⟨⟨ints_same (Ints.below h1.1 s3) (fun b o e => hu4.block b (h4 b o e)),h1.2⟩,h2,h3,h4⟩
          · have hzn:∀ b o,x.a = some ⟨b,o,none⟩ -> b ≠ g:=fun b o e => by have:=hyz b o e;have:=s2.size;omega
            have hzl:x.x.nums = zs:=by rw [hy]
            obtain ⟨_,hx0,hx1,_⟩:=HD.out _ (List.mem_of_getElem? HXK.out)
            exact ⟨⟨ints_same hyo.1 (fun b o e => hu4.block b (hzn b o e)),hyo.2⟩,by rw [hzl];exact hx0,by rw [hzl];exact hx1,hzn⟩
        · rw [Array.toList_setIfInBounds,List.getElem?_set] at hx
          by_cases e:k = i
          · subst e
            rw [if_pos rfl,if_pos (by simpa using hkd)] at hx
            obtain rfl:y = x:=by simpa using hx
            intro b o e
            have:=hyz b o e
            have:=s2.size
            have:=HG.out.size
            omega
          · rw [if_neg e] at hx
            exact HW.out i x (by omega) hx
        · exact below_upd (HG.out.trans (s3.mono HG.out.size)) hu4 hgB
      · have hk':k = L.length:=by omega
        subst hk'
        go_wp2_with fail
        go_ret
        exact ⟨⟨some ⟨g,0,none⟩,c,d.toList,rfl,HXS.out,by simp;exact HSZ.out,its_of_fl HBL.out (fun x hx => (HD.out x hx).1),fun _ g' o' e => by injection e with e;injection e with e;omega,fun x hx => (by
          obtain ⟨i,hi⟩:=List.getElem?_of_mem hx
          exact HW.out i x (by have h1:=(List.getElem?_eq_some_iff.1 hi).1;have h2:=HSZ.out;simp at h1;omega) hi)⟩,HG.out⟩
theorem items_any (bb vb mt mn pc:Nat) (dim:Int) (L N:List ItD) (Z:Nat -> Prop) (w:World) (hB:Bse w Z bb vb dim L N mt mn pc) (hz:∀ k,Z k -> k < w.heap.size) :
    Calls Tryz.prog 31 #[.pointer (some ⟨bb,0,none⟩)] w fun e w' => (∃ a c ds,e = .returned (.slice a L.length c) ∧ xsOf ds = xsOf (srtI L) ∧ ds.length = L.length ∧ Its w' a ds) ∧ Below w.heap.size w w':=
  (items_at bb vb mt mn pc dim L N Z w hB hz).mono fun _ _ ⟨⟨a,c,ds,h1,h2,h3,h4,_⟩,h5⟩ => ⟨⟨a,c,ds,h1,h2,h3,h4⟩,h5⟩
end Go.Proofs.YtjmpjfikcgccdaaGreatDoor.Bs
namespace Go.Proofs.YtjmpjfikcgccdaaGreatDoor.Bs
open Go.RowKit Go.Shelf Go.Maps
open It Nr Ce Vt
structure Vs (w:World) (Y:Nat -> Prop) (d c vb:Nat) (sec:ByteArray) (n en:Nat) (p:Int -> Option (Int × ByteArray)) (F:Int):Prop where
  ex:∃ O S v lf f r mb nn,Vlt w vb d c sec (n:Int) (en:Int) f r mb nn p false ∧ Dv.Dev w O d S [] F v lf ∧ Dv.Cnt w c (n:Int) ∧ TldE S sec n en f p ∧ nn <= 32 * n ∧ (∀ k,O k -> Y k) ∧ ¬ O vb ∧ ¬ O c ∧ vb ≠ c ∧ Y mb
  yv:Y vb
  yc:Y c
  lt:∀ k,Y k -> k < w.heap.size
section
variable {w w':World} {Y:Nat -> Prop} {d c vb:Nat} {sec:ByteArray} {n en:Nat} {p:Int -> Option (Int × ByteArray)} {F:Int}
theorem Vs.chg {P:Nat -> Prop} (h:Vs w Y d c vb sec n en p F) (hc:Dv.Chg w w' P) (hP:∀ k,Y k -> ¬ P k):Vs w' Y d c vb sec n en p F:=by
  obtain ⟨O,S,v,lf,f,r,mb,nn,h1,h2,h3,h4,h5,h6,h7,h8,h9,h10⟩:=h.ex
  exact ⟨⟨O,S,v,lf,f,r,mb,nn,h1.same (hc.block _ (h.lt _ h.yv) (hP _ h.yv)) (hc.block _ (h.lt _ h10) (hP _ h10)),h2.chg hc (fun k hk => hP k (h6 k hk)),h3.chg hc (hP _ h.yc),h4,h5,h6,h7,h8,h9,h10⟩,h.yv,h.yc,fun k hk => Nat.lt_of_lt_of_le (h.lt k hk) hc.size⟩
theorem Vs.below (h:Vs w Y d c vb sec n en p F) (hb:Below w.heap.size w w'):Vs w' Y d c vb sec n en p F:=h.chg (Dv.Chg.of hb (fun _ => False)) (fun _ _ h => h)
theorem Vs.size (h:Vs w Y d c vb sec n en p F) (j:Nat) (hj:j < 32):(rd p (j:Int)).2.size <= 200:=by
  obtain ⟨O,S,v,lf,f,r,mb,nn,h1,h2,h3,h4,_⟩:=h.ex
  exact h4.size j hj
end
theorem vs_tell (w:World) (Y:Nat -> Prop) (d c vb:Nat) (sec:ByteArray) (n en:Nat) (p:Int -> Option (Int × ByteArray)) (m:Value) (g:Int -> Option ByteArray) (h:Vs w Y d c vb sec n en p (-1)) (hM:MapV Tryz.prog w m 32 (sv g)) (hg:∀ i s,g i = some s -> (0 <= i ∧ i < 32) ∧ s.size <= 200) (hn:n < 1000) (hsec:sec.size <= 300) (hK:Sm.KB w) :
    Calls Tryz.prog 68 #[.pointer (some ⟨vb,0,none⟩),m] w fun e w' => e = .returned .nilIface ∧ Vs w' (more Y w w') d c vb sec (n + 1) en (nxP p (tel g p ((n + 1:Nat):Int))) (-1) ∧ Dv.Chg w w' Y:=by
  obtain ⟨O,S,v,lf,f,r,mb,nn,h1,h2,h3,h4,h5,h6,h7,h8,h9,h10⟩:=h.ex
  refine (tellE vb d c sec n en f r mb nn p m 32 g O S v lf w h1 hM hg h2 h3 h4 (by omega) (by omega) hsec (fun k hk => h.lt k (h6 k hk)) h7 h8 h9 hK).mono ?_
  rintro e w' ⟨rfl,S',f',r',CB,n',O',v',l',k1,k2,k3,k4,k5,k6,k7,k8⟩
  have hv:=h.lt vb h.yv
  have hcl:=h.lt c h.yc
  have hCB:=k1.map.lt
  refine ⟨rfl,⟨⟨O',S',v',l',f',r',CB,n',k1,k5,k7,k4,by omega,fun k hk => ?_,fun hk => ?_,fun hk => ?_,h9,Or.inr ⟨k2,hCB⟩⟩,Or.inl h.yv,Or.inl h.yc,fun k hk => ?_⟩,k8.mono fun k _ hk => ?_⟩
  · rcases k6 k hk with h' | h'
    · exact Or.inl (h6 k h')
    · exact Or.inr h'
  · rcases k6 vb hk with h' | h'
    · exact h7 h'
    · omega
  · rcases k6 c hk with h' | h'
    · exact h8 h'
    · omega
  · rcases hk with h' | h'
    · exact Nat.lt_of_lt_of_le (h.lt k h') k8.size
    · exact h'.2
  · rcases hk with h' | rfl | rfl
    · exact h6 k h'
    · exact h.yc
    · exact h.yv
theorem vs_turn (w:World) (Y:Nat -> Prop) (d c vb:Nat) (sec:ByteArray) (n en:Nat) (p:Int -> Option (Int × ByteArray)) (h:Vs w Y d c vb sec n en p (-1)) (hn:n < 1000) (he:en < 1000) (hsec:sec.size <= 300) (hK:Sm.KB w) :
    Calls Tryz.prog 71 #[.pointer (some ⟨vb,0,none⟩)] w fun e w' => e = .returned .nilIface ∧ Vs w' (more Y w w') d c vb sec (n + 1) (en + 1) (nxP p (trn p ((n + 1:Nat):Int) 32)) (-1) ∧ Dv.Chg w w' Y:=by
  obtain ⟨O,S,v,lf,f,r,mb,nn,h1,h2,h3,h4,h5,h6,h7,h8,h9,h10⟩:=h.ex
  refine (turnE vb d c sec n en f r mb nn p O S v lf w h1 h2 h3 h4 (by omega) (by omega) (by omega) hsec (fun k hk => h.lt k (h6 k hk)) h7 h8 h9 hK).mono ?_
  rintro e w' ⟨rfl,S',f',r',CB,n',O',v',l',k1,k2,k3,k4,k5,k6,k7,k8⟩
  have hv:=h.lt vb h.yv
  have hcl:=h.lt c h.yc
  have hCB:=k1.map.lt
  refine ⟨rfl,⟨⟨O',S',v',l',f',r',CB,n',k1,k5,k7,k4,by omega,fun k hk => ?_,fun hk => ?_,fun hk => ?_,h9,Or.inr ⟨k2,hCB⟩⟩,Or.inl h.yv,Or.inl h.yc,fun k hk => ?_⟩,k8.mono fun k _ hk => ?_⟩
  · rcases k6 k hk with h' | h'
    · exact Or.inl (h6 k h')
    · exact Or.inr h'
  · rcases k6 vb hk with h' | h'
    · exact h7 h'
    · omega
  · rcases k6 c hk with h' | h'
    · exact h8 h'
    · omega
  · rcases hk with h' | h'
    · exact Nat.lt_of_lt_of_le (h.lt k h') k8.size
    · exact h'.2
  · rcases hk with h' | rfl | rfl
    · exact h6 k h'
    · exact h.yc
    · exact h.yv
structure Bas (w:World) (X:Nat -> Prop) (d c bb:Nat) (sec:ByteArray) (n en:Nat) (F:Int) (T:Bool) (dim:Int) (L N:List ItD):Prop where
  ex:∃ Y Z vb p mt mn pc,Vs w Y d c vb sec n en p F ∧ Bse w Z bb vb dim L N mt mn pc ∧ (∀ k,Y k -> ¬ Z k ∧ k ≠ bb ∧ k ≠ mn) ∧ (∀ k,Y k ∨ Z k ∨ k = bb ∨ k = mn -> X k) ∧ Says p (tx T dim L)
  lt:∀ k,X k -> k < w.heap.size
  dm:(1 <= dim ∧ dim <= 8) ∨ (dim = 0 ∧ L = [] ∧ N = [])
  tt:T = true -> 1 <= dim ∧ dim <= 8
  tf:T = false -> L = []
section
variable {w w':World} {X:Nat -> Prop} {d c bb:Nat} {sec:ByteArray} {n en:Nat} {F:Int} {T:Bool} {dim:Int} {L N:List ItD}
theorem Bas.chg {P:Nat -> Prop} (h:Bas w X d c bb sec n en F T dim L N) (hc:Dv.Chg w w' P) (hP:∀ k,X k -> ¬ P k):Bas w' X d c bb sec n en F T dim L N:=by
  obtain ⟨Y,Z,vb,p,mt,mn,pc,h1,h2,h3,h4,h5⟩:=h.ex
  exact ⟨⟨Y,Z,vb,p,mt,mn,pc,h1.chg hc (fun k hk => hP k (h4 k (Or.inl hk))),h2.same (fun k hk => hc.block k (h.lt k (h4 k (Or.inr hk))) (hP k (h4 k (Or.inr hk)))),h3,h4,h5⟩,fun k hk => Nat.lt_of_lt_of_le (h.lt k hk) hc.size,h.dm,h.tt,h.tf⟩
theorem Bas.below (h:Bas w X d c bb sec n en F T dim L N) (hb:Below w.heap.size w w'):Bas w' X d c bb sec n en F T dim L N:=h.chg (Dv.Chg.of hb (fun _ => False)) (fun _ _ h => h)
theorem Bas.okN (h:Bas w X d c bb sec n en F T dim L N):(∀ x ∈ N,rightB x.x dim = true) ∧ N.length <= 60:=by
  obtain ⟨Y,Z,vb,p,mt,mn,pc,h1,h2,h3,h4,h5⟩:=h.ex
  exact ⟨fun x hx => (h2.okN.1 x hx).2.1,h2.okN.2⟩
theorem Bas.okL (h:Bas w X d c bb sec n en F T dim L N):(∀ x ∈ L,rightB x.x dim = true) ∧ L.length <= 60:=by
  obtain ⟨Y,Z,vb,p,mt,mn,pc,h1,h2,h3,h4,h5⟩:=h.ex
  exact ⟨fun x hx => (h2.okL.1 x hx).2.1,h2.okL.2⟩
end
end Go.Proofs.YtjmpjfikcgccdaaGreatDoor.Bs
namespace Go.Proofs.YtjmpjfikcgccdaaGreatDoor.Bs
open Go.RowKit Go.Shelf Go.Maps
open It Nr Ce Vt
theorem mk_bas {w w':World} {X Y Z Z' P:Nat -> Prop} {d c bb vb mt mn pc mt' mn' pc':Nat} {sec:ByteArray} {n en:Nat} {F:Int} {T':Bool} {dim dim':Int} {L N L' N':List ItD} {p:Int -> Option (Int × ByteArray)} (hV:Vs w Y d c vb sec n en p F) (hO:Bse w Z bb vb dim L N mt mn pc) (hYZ:∀ k,Y k -> ¬ Z k ∧ k ≠ bb ∧ k ≠ mn) (hX:∀ k,Y k ∨ Z k ∨ k = bb ∨ k = mn -> X k) (hlt:∀ k,X k -> k < w.heap.size)
    (hc:Dv.Chg w w' P) (hP:∀ k,P k -> k = bb ∨ k = mn) (hB:Bse w' Z' bb vb dim' L' N' mt' mn' pc') (hZ':∀ k,Z' k -> more Z w w' k ∨ k = mn) (hmn':mn' = mn ∨ (w.heap.size <= mn' ∧ mn' < w'.heap.size)) (hs:Says p (tx T' dim' L'))
    (dm:(1 <= dim' ∧ dim' <= 8) ∨ (dim' = 0 ∧ L' = [] ∧ N' = [])) (tt:T' = true -> 1 <= dim' ∧ dim' <= 8) (tf:T' = false -> L' = []):Bas w' (more X w w') d c bb sec n en F T' dim' L' N':=by
  have h1:=hO.blk.lt
  have h2:=hO.next.lt
  refine ⟨⟨Y,Z',vb,p,mt',mn',pc',hV.chg hc (fun k hk hp => ?_),hB,fun k hk => ?_,fun k hk => ?_,hs⟩,fun k hk => ?_,dm,tt,tf⟩
  · rcases hP k hp with e | e
    · exact (hYZ k hk).2.1 e
    · exact (hYZ k hk).2.2 e
  · have h3:=hYZ k hk
    have h4:=hV.lt k hk
    refine ⟨fun hz => ?_,h3.2.1,fun e => ?_⟩
    · rcases hZ' k hz with (h5 | h5) | h5
      · exact h3.1 h5
      · omega
      · exact h3.2.2 h5
    · rcases hmn' with h5 | h5
      · exact h3.2.2 (e.trans h5)
      · omega
  · rcases hk with h3 | h3 | h3 | h3
    · exact Or.inl (hX k (Or.inl h3))
    · rcases hZ' k h3 with (h5 | h5) | h5
      · exact Or.inl (hX k (Or.inr (Or.inl h5)))
      · exact Or.inr h5
      · exact Or.inl (hX k (Or.inr (Or.inr (Or.inr h5))))
    · exact Or.inl (hX k (Or.inr (Or.inr (Or.inl h3))))
    · rcases hmn' with h5 | h5
      · exact Or.inl (hX k (Or.inr (Or.inr (Or.inr (h3.trans h5)))))
      · exact Or.inr (by rw [h3];exact h5)
  · rcases hk with h3 | h3
    · exact Nat.lt_of_lt_of_le (hlt k h3) hc.size
    · exact h3.2
section
variable {w:World} {X:Nat -> Prop} {d c bb:Nat} {sec:ByteArray} {n en:Nat} {F:Int} {T:Bool} {dim:Int} {L N:List ItD}
theorem bas_put_no (h:Bas w X d c bb sec n en F T dim L N) (x:ItD) (hx:x.Ok w) (hd:1 <= dim) (hr:rightB x.x dim = false) :
    Calls Tryz.prog 17 #[.pointer (some ⟨bb,0,none⟩),.agg x.arr] w fun e w' => e = .returned errA ∧ Below w.heap.size w w':=by
  obtain ⟨Y,Z,vb,p,mt,mn,pc,h1,h2,h3,h4,h5⟩:=h.ex
  exact put_no bb _ _ _ _ dim x w h2.blk hx hd hr
theorem bas_put (h:Bas w X d c bb sec n en F T dim L N) (x:ItD) (hx:x.Ok w) (hd:1 <= dim) (hr:rightB x.x dim = true) (h60:isN N x.x.name = true ∨ N.length < 60) :
    Calls Tryz.prog 17 #[.pointer (some ⟨bb,0,none⟩),.agg x.arr] w fun e w' => e = .returned .nilIface ∧ (∃ y:ItD,y.x = x.x ∧ Bas w' (more X w w') d c bb sec n en F T dim L (putI N y)) ∧ Dv.Chg w w' X:=by
  obtain ⟨Y,Z,vb,p,mt,mn,pc,h1,h2,h3,h4,h5⟩:=h.ex
  refine (put_ok bb vb mt mn pc dim L N Z x w h2 (fun k hk => h.lt k (h4 k (Or.inr (Or.inl hk)))) hx hd hr h60).mono ?_
  rintro e w' ⟨rfl,⟨y,hy,hB⟩,hc⟩
  refine ⟨rfl,⟨y,hy,mk_bas h1 h2 h3 h4 h.lt hc (fun k hk => Or.inr hk) hB (fun k hk => Or.inl hk) (Or.inl rfl) h5 ?_ h.tt h.tf⟩,hc.mono fun k _ hk => h4 k (Or.inr (Or.inr (Or.inr hk)))⟩
  rcases h.dm with h6 | h6
  · exact Or.inl h6
  · omega
theorem bas_del_no (h:Bas w X d c bb sec n en F T dim L N) (s:ByteArray) (hs:s.size <= maxLen) (hN:isN N s = false) :
    Calls Tryz.prog 19 #[.pointer (some ⟨bb,0,none⟩),.string s] w fun e w' => e = .returned (.iface 34 (.int .i64 7)) ∧ Below w.heap.size w w':=by
  obtain ⟨Y,Z,vb,p,mt,mn,pc,h1,h2,h3,h4,h5⟩:=h.ex
  exact del_no bb vb mt mn pc dim L N Z s w h2 hs hN
theorem bas_del (h:Bas w X d c bb sec n en F T dim L N) (hd:1 <= dim) (s:ByteArray) (hs:s.size <= maxLen) (hN:isN N s = true) :
    Calls Tryz.prog 19 #[.pointer (some ⟨bb,0,none⟩),.string s] w fun e w' => e = .returned .nilIface ∧ Bas w' (more X w w') d c bb sec n en F T dim L (noI N s) ∧ Dv.Chg w w' X:=by
  obtain ⟨Y,Z,vb,p,mt,mn,pc,h1,h2,h3,h4,h5⟩:=h.ex
  refine (del_ok bb vb mt mn pc dim L N Z s w h2 (fun k hk => h.lt k (h4 k (Or.inr (Or.inl hk)))) hs hN).mono ?_
  rintro e w' ⟨rfl,hB,hc⟩
  refine ⟨rfl,mk_bas h1 h2 h3 h4 h.lt hc (fun k hk => Or.inr hk) hB (fun k hk => Or.inl hk) (Or.inl rfl) h5 ?_ h.tt h.tf,hc.mono fun k _ hk => h4 k (Or.inr (Or.inr (Or.inr hk)))⟩
  rcases h.dm with h6 | h6
  · exact Or.inl h6
  · omega
theorem bas_undo (h:Bas w X d c bb sec n en F T dim L N) :
    Calls Tryz.prog 22 #[.pointer (some ⟨bb,0,none⟩)] w fun e w' => e = .returned (.tuple #[]) ∧ Bas w' (more X w w') d c bb sec n en F T dim L L ∧ Dv.Chg w w' X:=by
  obtain ⟨Y,Z,vb,p,mt,mn,pc,h1,h2,h3,h4,h5⟩:=h.ex
  have hz:∀ k,Z k -> k < w.heap.size:=fun k hk => h.lt k (h4 k (Or.inr (Or.inl hk)))
  refine (undo_any bb vb mt dim _ _ L w h2.blk h2.there (im_ne h2.there h2.blk)).mono ?_
  rintro e w' ⟨rfl,k1,k2,k3,k4,k5⟩
  obtain ⟨C,v,os,hcel⟩:=h2.cel
  have hs:∀ k,Z k -> w'.heap[k]? = w.heap[k]?:=fun k hk => k4.block k (hz k hk) (fun e => h2.zb (by rw [<- e];exact hk))
  have hB:Bse w' Z bb vb dim L L mt w.heap.size pc:=⟨k1,k3,k2,⟨C,v,os,hcel.same hs⟩,h2.zb,fun hk => by have:=hz _ hk;omega,h2.zt,h2.okL.same hs,h2.okL.same hs⟩
  refine ⟨rfl,mk_bas h1 h2 h3 h4 h.lt k4 (fun k hk => Or.inl hk) hB (fun k hk => Or.inl (Or.inl hk)) (Or.inr ⟨Nat.le_refl _,by omega⟩) h5 ?_ h.tt h.tf,k4.mono fun k _ hk => h4 k (Or.inr (Or.inr (Or.inl hk)))⟩
  rcases h.dm with h6 | h6
  · exact Or.inl h6
  · exact Or.inr ⟨h6.1,h6.2.1,h6.2.1⟩
theorem bas_make (h:Bas w X d c bb sec n en F T 0 [] []) (dim:Int) (h1':1 <= dim) (h8:dim <= 8) :
    Calls Tryz.prog 15 #[.pointer (some ⟨bb,0,none⟩),.int .i64 dim] w fun e w' => e = .returned .nilIface ∧ Bas w' (more X w w') d c bb sec n en F T dim [] [] ∧ Dv.Chg w w' X:=by
  obtain ⟨Y,Z,vb,p,mt,mn,pc,h1,h2,h3,h4,h5⟩:=h.ex
  have hT:T = false:=by
    cases hq:T with
    | false => rfl
    | true => have:=h.tt hq;omega
  subst hT
  refine (make_any bb vb mt mn pc dim Z w h2 h1' h8).mono ?_
  rintro e w' ⟨rfl,⟨Z',mt',mn',pc',hB,k2,k3,k4⟩,k5⟩
  exact ⟨rfl,mk_bas h1 h2 h3 h4 h.lt k5 (fun k hk => Or.inl hk) hB (fun k hk => Or.inl (Or.inr (k2 k hk))) (Or.inr ⟨k3,k4⟩) h5 (Or.inl ⟨h1',h8⟩) (fun e => (by cases e)) (fun _ => rfl),k5.mono fun k _ hk => h4 k (Or.inr (Or.inr (Or.inl hk)))⟩
theorem bas_find (h:Bas w X d c bb sec n en F T dim L N) (hd:1 <= dim) (b:Option Addr) (cp:Nat) (ys:List Int) (k:Int) (tag:ByteArray) (hy:Ints w b ys) (hyl:ys.length <= maxLen) :
    Calls Tryz.prog 32 #[.pointer (some ⟨bb,0,none⟩),.slice b ys.length cp,.int .i64 k,.string tag] w fun e w' => (∃ v lk,e = .returned (.tuple #[v,.int .i64 lk,ev (askB dim ys k)]) ∧ Fnds w' v (XK (askB dim ys k) ys tag k L) ∧ 0 <= lk ∧ lk <= (L.length:Int)) ∧ Below w.heap.size w w':=by
  obtain ⟨Y,Z,vb,p,mt,mn,pc,h1,h2,h3,h4,h5⟩:=h.ex
  exact find_any bb vb mt mn pc dim L N Z b cp ys k tag w h2 hd hy hyl
theorem bas_items (h:Bas w X d c bb sec n en F T dim L N) :
    Calls Tryz.prog 31 #[.pointer (some ⟨bb,0,none⟩)] w fun e w' => (∃ a c ds,e = .returned (.slice a L.length c) ∧ xsOf ds = xsOf (srtI L) ∧ ds.length = L.length ∧ Its w' a ds) ∧ Below w.heap.size w w':=by
  obtain ⟨Y,Z,vb,p,mt,mn,pc,h1,h2,h3,h4,h5⟩:=h.ex
  exact items_any bb vb mt mn pc dim L N Z w h2 (fun k hk => h.lt k (h4 k (Or.inr (Or.inl hk))))
theorem bas_dim (h:Bas w X d c bb sec n en F T dim L N) :
    Calls Tryz.prog 27 #[.pointer (some ⟨bb,0,none⟩)] w fun e w' => e = .returned (.int .i64 dim) ∧ w' = w:=by
  obtain ⟨Y,Z,vb,p,mt,mn,pc,h1,h2,h3,h4,h5⟩:=h.ex
  exact dim_any bb _ _ _ _ dim w h2.blk
theorem bas_turn (h:Bas w X d c bb sec n en (-1) T dim L N) (hn:n < 1000) (he:en < 1000) (hsec:sec.size <= 300) (hK:Sm.KB w) :
    Calls Tryz.prog 25 #[.pointer (some ⟨bb,0,none⟩)] w fun e w' => e = .returned .nilIface ∧ Bas w' (more X w w') d c bb sec (n + 1) (en + 1) (-1) T dim L N ∧ Dv.Chg w w' X:=by
  obtain ⟨Y,Z,vb,p,mt,mn,pc,h1,h2,h3,h4,h5⟩:=h.ex
  have c0:=h2.blk.cell 0
  have HT:Hid _:=vs_turn w Y d c vb sec n en p h1 hn he hsec hK
  have HB:Hid (Bse w Z bb vb dim L N mt mn pc):=h2
  have HV:Hid (Vs w Y d c vb sec n en p (-1)):=h1
  have HH:Hid (Bas w X d c bb sec n en (-1) T dim L N):=h
  have H3:Hid (∀ k,Y k -> ¬ Z k ∧ k ≠ bb ∧ k ≠ mn):=h3
  have H4:Hid (∀ k,Y k ∨ Z k ∨ k = bb ∨ k = mn -> X k):=h4
  have H5:Hid (Says p (tx T dim L)):=h5
  clear h1 h2 h3 h4 h5 h hK
  go_enter Tryz.func25,Tryz.ntmps25
  go_wp2_with fail
  refine Calls.mono HT.out ?_
  rintro e w2 ⟨rfl,hV2,hc2⟩
  have HV2:Hid _:=hV2
  clear hV2 HT
  go_wp2_with fail
  go_ret
  have hh:=HH.out
  have hl:∀ k,(Z k ∨ k = bb ∨ k = mn) -> k < w.heap.size:=fun k hk => hh.lt k (H4.out k (Or.inr hk))
  have hY:∀ k,(Z k ∨ k = bb ∨ k = mn) -> ¬ Y k:=fun k hk hy => by
    have:=H3.out k hy
    rcases hk with h | h | h
    · exact this.1 h
    · exact this.2.1 h
    · exact this.2.2 h
  refine ⟨rfl,⟨⟨more Y w w2,Z,vb,_,mt,mn,pc,HV2.out,HB.out.same (fun k hk => hc2.block k (hl k hk) (hY k hk)),fun k hk => ?_,fun k hk => ?_,says_trn H5.out _⟩,fun k hk => ?_,hh.dm,hh.tt,hh.tf⟩,hc2.mono fun k _ hk => H4.out k (Or.inl hk)⟩
  · rcases hk with hk | hk
    · exact H3.out k hk
    · exact ⟨fun hz => by have:=hl k (Or.inl hz);omega,fun e => by have:=hl k (Or.inr (Or.inl e));omega,fun e => by have:=hl k (Or.inr (Or.inr e));omega⟩
  · rcases hk with (hk | hk) | hk
    · exact Or.inl (H4.out k (Or.inl hk))
    · exact Or.inr hk
    · exact Or.inl (H4.out k (Or.inr hk))
  · rcases hk with hk | hk
    · exact Nat.lt_of_lt_of_le (hh.lt k hk) hc2.size
    · exact hk.2
end
end Go.Proofs.YtjmpjfikcgccdaaGreatDoor.Bs
