/-
  Part of the proof of BaseFindsCard (BA37 and on).
-/
import Derived.Test.YtjmpjfikcgccdaaGreatDoorB36
import Derived.Test.YtjmpjfikcgccdaaGreatDoorB38
namespace Go.Proofs.YtjmpjfikcgccdaaGreatDoor.Bs
open Go.RowKit Go.Shelf Go.Maps
open It Nr Ce Vt
theorem find_at (bb vb mt mn pc:Nat) (dim:Int) (L N:List ItD) (Z:Nat -> Prop) (b:Option Addr) (d:Nat) (ys:List Int) (k:Int) (tag:ByteArray) (w:World) (hB:Bse w Z bb vb dim L N mt mn pc) (hd:1 <= dim) (hy:Ints w b ys) (hyl:ys.length <= maxLen) :
    Calls Tryz.prog 32 #[.pointer (some ⟨bb,0,none⟩),.slice b ys.length d,.int .i64 k,.string tag] w fun e w' => (∃ v lk,e = .returned (.tuple #[v,.int .i64 lk,ev (askB dim ys k)]) ∧ w'.ownsRow w.heap.size 94 2 v (XK (askB dim ys k) ys tag k L).length (flatF (XK (askB dim ys k) ys tag k L)) ∧ 0 <= lk ∧ lk <= (L.length:Int)) ∧ Below w.heap.size w w':=by
  obtain ⟨C,v,os,hc⟩:=hB.cel
  have hd':(dim == 0) = false:=by rw [beq_eq_false_iff_ne];omega
  have HD:Hid _:=dim_any bb (.pointer (some ⟨vb,0,none⟩)) (.map (some mt)) (.map (some mn)) (.pointer (some ⟨pc,0,none⟩)) dim w hB.blk
  have HT:Hid _:=topC_at pc dim v os C L b d ys k tag w hc.blk hc.row hc.cs hc.perm (by have:=hB.okL.2;omega) hc.len (fun x hx => (hB.okL.1 x hx).1) (fun x hx => by
    obtain ⟨_,h2,_,_,h5⟩:=right_parts (hB.okL.1 x hx).2.1
    exact ⟨h5,by omega,by have:=(hB.okL.nums x hx).2;omega⟩) hy hyl
  have c4:=hB.blk.cell 4
  obtain ⟨er,her⟩:∃ er,ev (askB dim ys k) = er:=⟨_,rfl⟩
  have HER:Hid (ev (askB dim ys k) = er):=her
  rw [her] at HT
  clear hc hB hy her
  go_enter Tryz.func32,Tryz.ntmps32
  go_wp2_with fail
  refine Calls.mono HD.out ?_
  rintro e w2 ⟨rfl,hw⟩
  obtain rfl:w = w2:=hw.symm
  clear hw HD
  go_wp2_with fail
  refine Calls.mono HT.out ?_
  rintro e w3 ⟨⟨u,lk,rfl,hF,q1,q2⟩,g3⟩
  have HF:Hid _:=hF
  clear hF HT
  go_wp2_with fail
  go_ret3
  exact ⟨⟨u,lk,by rw [HER.out];rfl,HF.out,q1,q2⟩,g3⟩
theorem its_far {w w':World} {B:Nat} {a:Option Addr} {ds:List ItD} (h:Its w a ds) (hl:ItsLow B a ds) (hs:∀ k,B <= k -> k < w.heap.size -> w'.heap[k]? = w.heap[k]?):Its w' a ds:=by
  intro i d hd
  obtain ⟨g,o,h1,h2,h3,h4,h5⟩:=h i d hd
  have hg:=hl.1 (fun e => by rw [e] at hd;simp at hd) g o h1
  have hgl:=World.block_lt_of_cell? w _ h2
  have hb:=hs g hg hgl
  exact ⟨g,o,h1,(World.cell?_of_block hb).trans h2,(World.cell?_of_block hb).trans h3,(World.cell?_of_block hb).trans h4,⟨fun j z hz => (by
    obtain ⟨b,o',e,hc⟩:=h5.1 j z hz
    exact ⟨b,o',e,(World.cell?_of_block (hs b (hl.2 d (List.mem_of_getElem? hd) b o' e) (World.block_lt_of_cell? w _ hc))).trans hc⟩),h5.2⟩⟩
def FLow (B:Nat) (v:Value) (l:List (ByteArray × Int)):Prop:=l ≠ [] -> ∀ g o n c,v = .slice (some ⟨g,o,none⟩) n c -> B <= g
theorem flow_own {w:World} {B:Nat} {v:Value} {l:List (ByteArray × Int)} (h:w.ownsRow B 94 2 v l.length (flatF l)):FLow B v l:=by
  intro hl g o n c e
  obtain ⟨g',cap,cur,hv,hB,_⟩:=own_parts h (by have:=List.length_pos_iff.2 hl;omega)
  rw [hv] at e
  injection e with e
  injection e with e
  injection e with e
  omega
theorem fnds_far {w w':World} {B:Nat} {v:Value} {l:List (ByteArray × Int)} (h:Fnds w v l) (hl:FLow B v l) (hs:∀ k,B <= k -> k < w.heap.size -> w'.heap[k]? = w.heap[k]?) (hz:w.heap.size <= w'.heap.size):Fnds w' v l:=by
  obtain ⟨a,c,h1,h2,h3⟩:=h
  refine ⟨a,c,h1,h2,fun i x hx => ?_⟩
  obtain ⟨g,o,q1,q2,q3,q4⟩:=h3 i x hx
  have hg:=hl (fun e => by rw [e] at hx;simp at hx) g o _ _ (by rw [h1,q1])
  have hb:=hs g hg q2
  exact ⟨g,o,q1,Nat.lt_of_lt_of_le q2 hz,(World.cell?_of_block hb).trans q3,(World.cell?_of_block hb).trans q4⟩
theorem bas_find_at {w:World} {X:Nat -> Prop} {d c bb:Nat} {sec:ByteArray} {n en:Nat} {F:Int} {T:Bool} {dim:Int} {L N:List ItD} (h:Bas w X d c bb sec n en F T dim L N) (hd:1 <= dim) (b:Option Addr) (cp:Nat) (ys:List Int) (k:Int) (tag:ByteArray) (hy:Ints w b ys) (hyl:ys.length <= maxLen) :
    Calls Tryz.prog 32 #[.pointer (some ⟨bb,0,none⟩),.slice b ys.length cp,.int .i64 k,.string tag] w fun e w' => (∃ v lk,e = .returned (.tuple #[v,.int .i64 lk,ev (askB dim ys k)]) ∧ Fnds w' v (XK (askB dim ys k) ys tag k L) ∧ FLow w.heap.size v (XK (askB dim ys k) ys tag k L) ∧ 0 <= lk ∧ lk <= (L.length:Int)) ∧ Below w.heap.size w w':=by
  obtain ⟨Y,Z,vb,p,mt,mn,pc,h1,h2,h3,h4,h5⟩:=h.ex
  exact (find_at bb vb mt mn pc dim L N Z b cp ys k tag w h2 hd hy hyl).mono fun _ _ ⟨⟨v,lk,e1,e2,e3,e4⟩,e5⟩ => ⟨⟨v,lk,e1,fnds_own e2,flow_own e2,e3,e4⟩,e5⟩
theorem bas_items_at {w:World} {X:Nat -> Prop} {d c bb:Nat} {sec:ByteArray} {n en:Nat} {F:Int} {T:Bool} {dim:Int} {L N:List ItD} (h:Bas w X d c bb sec n en F T dim L N) :
    Calls Tryz.prog 31 #[.pointer (some ⟨bb,0,none⟩)] w fun e w' => (∃ a c ds,e = .returned (.slice a L.length c) ∧ xsOf ds = xsOf (srtI L) ∧ ds.length = L.length ∧ Its w' a ds ∧ ItsLow w.heap.size a ds) ∧ Below w.heap.size w w':=by
  obtain ⟨Y,Z,vb,p,mt,mn,pc,h1,h2,h3,h4,h5⟩:=h.ex
  exact items_at bb vb mt mn pc dim L N Z w h2 (fun k hk => h.lt k (h4 k (Or.inr (Or.inl hk))))
theorem XK_xs {ask:Bool} {ys:List Int} {tag:ByteArray} {k:Int} {L ds:List ItD} (h:xsOf ds = xsOf (srtI L)):XK ask ys tag k ds = XK ask ys tag k L:=by
  rw [<- XK_perm (srtI_perm L)]
  unfold XK
  rw [h]
theorem nums_xs {w:World} {X:Nat -> Prop} {d c bb:Nat} {sec:ByteArray} {n en:Nat} {F:Int} {T:Bool} {L N ds:List ItD} (hB:Bas w X d c bb sec n en F T 2 L N) (h:xsOf ds = xsOf (srtI L)):∀ x ∈ ds,x.x.nums.all numB = true ∧ x.x.nums.length <= 100:=by
  obtain ⟨Y,Z,vb,p,mt,mn,pc,h1,h2,_⟩:=hB.ex
  intro x hx
  have hm:x.x ∈ xsOf ds:=List.mem_map_of_mem hx
  rw [h] at hm
  obtain ⟨y,hy,e⟩:=List.mem_map.1 hm
  rw [<- e]
  exact h2.okL.nums y ((srtI_perm L).mem_iff.1 hy)
theorem tellV (ask:Bool):∃ er tl,ev ask = er ∧ ((er = .nilIface ∧ tl = 0) ∨ (er = .iface 34 (.int .i64 1) ∧ tl = 1)) ∧ ∀ w,EB w -> Calls Tryz.prog 41 #[er] w fun e w' => e = .returned (.int .i64 tl) ∧ Below w.heap.size w w':=by
  cases ask with
  | true => exact ⟨_,_,rfl,Or.inl ⟨rfl,rfl⟩,fun w h => Ce.tellE true w h⟩
  | false => exact ⟨_,_,rfl,Or.inr ⟨rfl,rfl⟩,fun w h => Ce.tellE false w h⟩
set_option maxRecDepth 100000 in
set_option maxHeartbeats 8000000 in
theorem finds_yes (a:Option Addr) (cp:Nat) (ds:List DeD) (b:Option Addr) (cq:Nat) (ys:List Int) (kk:Int) (tag:ByteArray) (w:World) (h:Dds w a ds) (hh:dedsB ds = true) (hy:Ints w b ys) (hyl:(ys.length:Int) <= 12) (htg:(tag.size:Int) <= 40) (hK:Sm.KB w) (hL:LB w) (hE:EB w) :
    Calls Tryz.prog 5 #[.slice a ds.length cp,.slice b ys.length cq,.int .i64 kk,.string tag] w fun e w' => e = .returned (.bool true) ∧ Below w.heap.size w w':=by
  obtain ⟨h40,h12⟩:=deds_ok hh
  obtain ⟨ask,hask⟩:∃ q,askB 2 ys kk = q:=⟨_,rfl⟩
  obtain ⟨er,tl,her,hev,hte⟩:=tellV ask
  have HAS:Hid (askB 2 ys kk = ask):=hask
  have HER:Hid (ev ask = er):=her
  have HEV:Hid ((er = .nilIface ∧ tl = 0) ∨ (er = .iface 34 (.int .i64 1) ∧ tl = 1)):=hev
  have HTE:Hid (∀ w,EB w -> Calls Tryz.prog 41 #[er] w fun e w' => e = .returned (.int .i64 tl) ∧ Below w.heap.size w w'):=hte
  have HDS:Hid (Dds w a ds):=h
  have HY:Hid (Ints w b ys):=hy
  have HYM:Hid (ys.length <= maxLen):=Nat.le_trans (by omega:ys.length <= 12) (by decide)
  have HK:Hid (Sm.KB w):=hK
  have HL:Hid (LB w):=hL
  have HE:Hid (EB w):=hE
  have H12:Hid (∀ d ∈ ds,d.it.x.nums.length <= 12):=h12
  have HD0:Hid _:=deeds_any a cp ds w h
  rw [hh] at HD0
  clear h hh hK hL hE h12 hask her hev hte hy
  go_enter Tryz.func5,Tryz.ntmps5
  go_wp2_with fail
  refine Calls.mono HD0.out ?_
  rintro e wa ⟨rfl,ga⟩
  have HBS:Hid _:=based_any wa (HK.out.below ga) (HL.out.below ga) (HE.out.below ga)
  have HGA:Hid (Below w.heap.size w wa):=ga
  clear HD0 ga
  go_wp2_with fail
  refine Calls.mono HBS.out ?_
  rintro e wb ⟨rfl,gb⟩
  have HGB:Hid (Below w.heap.size w wb):=HGA.out.trans (gb.mono HGA.out.size)
  clear HBS gb HGA
  go_wp2_with fail
  refine (Dv.dnew_any wb).mono ?_
  rintro e w2 ⟨rfl,hD,g2,z2⟩
  have HDK:Hid _:=new_dsk hD z2
  have s3:=below_alloc w2 (.cells #[.int .i64 0] 32)
  have HG3:Hid (Below w.heap.size w (w2.alloc (.cells #[.int .i64 0] 32))):=(HGB.out.trans (g2.mono HGB.out.size)).trans (s3.mono (Nat.le_trans HGB.out.size g2.size))
  have HO:Hid _:=fun (s:ByteArray) (h:s = scr) => show Calls Tryz.prog 12 #[.pointer (some ⟨wb.heap.size,0,none⟩),.pointer (some ⟨w2.heap.size,0,none⟩),.string s] (w2.alloc (.cells #[.int .i64 0] 32)) _ from h ▸ open_none _ _ wb.heap.size w2.heap.size scr 0 1 (fun _ => none) (-1) HDK.out says_none rfl (HK.out.below HG3.out)
  have HWB:Hid (w.heap.size <= wb.heap.size ∧ wb.heap.size <= w2.heap.size):=⟨HGB.out.size,g2.size⟩
  clear hD g2 z2 s3 HDK HGB
  go_wp2_with fail
  generalize w2.alloc (.cells #[.int .i64 0] 32) = w3 at *
  obtain ⟨d,hd⟩:∃ d,wb.heap.size = d:=⟨_,rfl⟩
  obtain ⟨c,hc⟩:∃ c,w2.heap.size = c:=⟨_,rfl⟩
  rw [hd,hc] at HO HWB
  rw [hd,hc]
  clear hd hc
  refine Calls.mono (HO.out _ rfl) ?_
  rintro e w4 ⟨⟨bb,X,rfl,hB,hX⟩,g4⟩
  have HB:Hid (Bas w4 X d c bb scr 0 1 (-1) false 0 [] []):=hB
  have HG4:Hid (Below w.heap.size w w4):=HG3.out.trans (g4.mono HG3.out.size)
  have HX:Hid (∀ k,X k -> w.heap.size <= k):=fun k hk => by
    have:=HG3.out.size
    have:=HWB.out
    rcases hX k hk with h | h | h <;> omega
  clear HO hB hX g4 HG3 HWB
  go_wp2_with fail
  have HM:Hid _:=bas_make HB.out 2 (by decide) (by decide)
  refine Calls.mono HM.out ?_
  rintro e w6 ⟨rfl,hB6,c6⟩
  have HB6:Hid (Bas w6 (more X w4 w6) d c bb scr 0 1 (-1) false 2 [] []):=hB6
  have HG6:Hid (Below w.heap.size w w6):=c6.to HG4.out HG4.out.size HX.out
  have HX6:Hid (∀ k,more X w4 w6 k -> w.heap.size <= k):=more_lo HX.out HG4.out.size
  clear HM hB6 c6 HB HG4 HX
  generalize more X w4 w6 = X6 at *
  have hmk1:=mkLaw w6
  have hmk2:=mkLaw (w6.alloc (.map #[] 0))
  have HW8:Hid (Wt w ((w6.alloc (.map #[] 0)).alloc (.map #[] 0)) X6 d c bb scr 0 1 (-1) false [] [] w6.heap.size (w6.alloc (.map #[] 0)).heap.size [] []):=by
    have a1:=below_alloc w6 (.map #[] 0)
    have a2:=below_alloc (w6.alloc (.map #[] 0)) (.map #[] 0)
    have a3:=a1.trans (a2.mono a1.size)
    exact wt_new (HB6.out.below a3) ((im_made w6).below a2 (im_made w6).lt) (im_made _) (fun hx => by have:=HB6.out.lt _ hx;omega) (fun hx => by have:=HB6.out.lt _ hx;have:=a1.size;omega) HX6.out (HG6.out.trans (a3.mono HG6.out.size))
  clear HB6 HG6 HX6
  go_wp2_with fail
  clear hmk1 hmk2
  go_loopw [13,14,15] (fun v1 v2 vi wr => ∃ (k n en:Nat) (T:Bool) (L N:List ItD) (m1 m2:Nat) (M1 M2:List ItD) (X:Nat -> Prop),k <= ds.length ∧ vi = .int .i64 k ∧ v1 = .map (some m1) ∧ v2 = .map (some m2) ∧ n <= k ∧ en <= k + 1 ∧ Hid (Wt w wr X d c bb scr n en (-1) T L N m1 m2 M1 M2) ∧ M1.length <= k ∧ M2.length <= k) (fun _ _ vi _ => ds.length - (intOf vi).toNat)
  case atStart => exact ⟨0,0,1,false,[],[],_,_,[],[],X6,by omega,rfl,rfl,by simp,by omega,by omega,HW8.out,by simp,by simp⟩
  case round =>
    clear HW8
    obtain ⟨k,n,en,T,L,N,m1,m2,M1,M2,X,hk,rfl,rfl,rfl,hnk,hek,HW,hM1,hM2⟩:=hrel
    by_cases hlt:k < ds.length
    · have hlt':(k:Int) < (ds.length:Int):=by omega
      have hr:=HDS.out.below HW.out.bel
      obtain ⟨x,hx⟩:∃ x,ds[k]? = some x:=⟨_,List.getElem?_eq_getElem hlt⟩
      obtain ⟨g,o,rfl,q0,q1,q2,q3,q4⟩:=hr k x hx
      obtain ⟨g',o',e',p0,_,_,_,p4⟩:=HDS.out k x hx
      injection e' with e'
      injection e' with e1 e2
      subst e1 e2
      have hx12:=H12.out x (List.mem_of_getElem? hx)
      have HDO:Hid _:=does_any HW.out x.wh x.it q4 (by omega) p4 k (by omega) hM1 hM2 (by omega) (by omega) (by decide) HK.out HL.out
      obtain ⟨wh,⟨⟨nm,tg,zs⟩,xa,xc⟩⟩:=x
      simp only [ItD.val] at q0 q1 q2 q3
      clear hr hx q4 p0 p4 hx12
      go_wp2_with fail
      refine Calls.mono HDO.out ?_
      rintro e w5 ⟨X',n',en',T',L',N',m1',m2',M1',M2',er',rfl,hW5,hM1',hM2',hen',hcase⟩
      have HW5:Hid (Wt w w5 X' d c bb scr n' en' (-1) T' L' N' m1' m2' M1' M2'):=hW5
      have hnn:n' <= n + 1:=by
        rcases hcase with ⟨h1,h2 | h2,h3⟩ | ⟨h1,h2,h3,h4⟩ | ⟨h1,h2⟩ <;> omega
      have HFI:Hid _:=bas_find HW5.out.bas (by decide) b cq ys kk tag (HY.out.below HW5.out.bel) HYM.out
      rw [HAS.out,HER.out] at HFI
      clear HDO hW5 q0 q1 q2 q3 hcase
      go_wp2_with fail
      refine Calls.mono HFI.out ?_
      rintro e w6 ⟨⟨v6,lk,rfl,hF6,hl0,hl1⟩,g6⟩
      have HW6:Hid (Wt w w6 X' d c bb scr n' en' (-1) T' L' N' m1' m2' M1' M2'):=HW5.out.below g6
      have HF6:Hid (Fnds w6 v6 (XK ask ys tag kk L')):=hF6
      have HIT:Hid _:=bas_items HW6.out.bas
      clear HFI hF6 g6 HW5
      go_wp2_with fail
      refine Calls.mono HIT.out ?_
      rintro e w7 ⟨⟨a7,c7,ds7,rfl,hxs,hl7,hI7⟩,g7⟩
      have HW7:Hid (Wt w w7 X' d c bb scr n' en' (-1) T' L' N' m1' m2' M1' M2'):=HW6.out.below g7
      have HF7:Hid (Fnds w7 v6 (XK ask ys tag kk L')):=HF6.out.below g7
      have HTP:Hid _:=topN 2 a7 c7 ds7 b cq ys kk tag w7 hI7 (by have:=HW7.out.bas.okL.2;omega) (HY.out.below HW7.out.bel) HYM.out (nums_xs HW7.out.bas hxs)
      rw [HAS.out,HER.out,hl7,XK_xs hxs] at HTP
      clear HIT hxs hl7 hI7 g7 HW6 HF6
      go_wp2_with fail
      refine Calls.mono HTP.out ?_
      rintro e w8 ⟨⟨v8,rfl,hF8⟩,g8⟩
      have HW8:Hid (Wt w w8 X' d c bb scr n' en' (-1) T' L' N' m1' m2' M1' M2'):=HW7.out.below g8
      have HF8:Hid (Fnds w8 v6 (XK ask ys tag kk L') ∧ Fnds w8 v8 (XK ask ys tag kk L')):=⟨HF7.out.below g8,hF8⟩
      clear HTP hF8 g8 HW7 HF7
      have HT8:Hid _:=HTE.out w8 (HE.out.below HW8.out.bel)
      rcases HEV.out with ⟨rfl,rfl⟩ | ⟨rfl,rfl⟩
      all_goals (
        go_wp2_with fail
        refine Calls.mono HT8.out ?_
        rintro e w9 ⟨rfl,g9⟩
        have HW9:Hid (Wt w w9 X' d c bb scr n' en' (-1) T' L' N' m1' m2' M1' M2'):=HW8.out.below g9
        have HF9:Hid (Fnds w9 v6 (XK ask ys tag kk L') ∧ Fnds w9 v8 (XK ask ys tag kk L')):=⟨HF8.out.1.below g9,HF8.out.2.below g9⟩
        have HT9:Hid _:=HTE.out w9 (HE.out.below HW9.out.bel)
        clear HT8 g9 HW8 HF8
        go_wp2_with fail
        refine Calls.mono HT9.out ?_
        rintro e w10 ⟨rfl,g10⟩
        have HW10:Hid (Wt w w10 X' d c bb scr n' en' (-1) T' L' N' m1' m2' M1' M2'):=HW9.out.below g10
        have HEQ:Hid _:=feq_any v6 v8 _ w10 (HF9.out.1.below g10) (HF9.out.2.below g10) (by have:=XK_len ask ys tag kk L';have:=HW10.out.bas.okL.2;omega)
        clear HT9 g10 HW9 HF9
        go_wp2_with fail
        refine Calls.mono HEQ.out ?_
        rintro e w11 ⟨rfl,nd,rfl⟩
        have HW11:Hid (Wt w (w10.drewN nd) X' d c bb scr n' en' (-1) T' L' N' m1' m2' M1' M2'):=HW10.out.below (below_drawn w10 nd)
        have HI11:Hid _:=bas_items HW11.out.bas
        clear HEQ HW10
        generalize w10.drewN nd = w11 at *
        go_wp2_with fail
        refine Calls.mono HI11.out ?_
        rintro e w12 ⟨⟨a12,c12,ds12,rfl,_,_,_⟩,g12⟩
        have HW12:Hid (Wt w w12 X' d c bb scr n' en' (-1) T' L' N' m1' m2' M1' M2'):=HW11.out.below g12
        have HT12:Hid _:=HTE.out w12 (HE.out.below HW12.out.bel)
        clear HI11 g12 HW11
        go_wp2_with fail
        first
          | (refine Calls.mono HT12.out ?_
             rintro e w13 ⟨rfl,g13⟩
             have HW13:Hid (Wt w w13 X' d c bb scr n' en' (-1) T' L' N' m1' m2' M1' M2'):=HW12.out.below g13
             clear HT12 g13 HW12
             go_wp2_with fail
             exact ⟨⟨k + 1,n',en',T',L',N',m1',m2',M1',M2',X',by omega,by go_num,rfl,rfl,by omega,by omega,HW13.out,hM1',hM2'⟩,by simp [intOf];omega⟩)
          | exact ⟨⟨k + 1,n',en',T',L',N',m1',m2',M1',M2',X',by omega,by go_num,rfl,rfl,by omega,by omega,HW12.out,hM1',hM2'⟩,by simp [intOf];omega⟩)
    · have hk':k = ds.length:=by omega
      subst hk'
      have HU:Hid _:=bas_undo HW.out.bas
      go_wp2_with fail
      refine Calls.mono HU.out ?_
      rintro e w1 ⟨rfl,hB1,c1⟩
      have HB1:Hid (Bas w1 (more X wr w1) d c bb scr n en (-1) T 2 L L):=hB1
      have HG1:Hid (Below w.heap.size w w1):=c1.to HW.out.bel HW.out.bel.size HW.out.xlo
      have HX1:Hid (∀ k,more X wr w1 k -> w.heap.size <= k):=more_lo HW.out.xlo HW.out.bel.size
      clear HU hB1 c1 HW
      generalize more X wr w1 = X1 at *
      have HI1:Hid _:=bas_items_at HB1.out
      go_wp2_with fail
      refine Calls.mono HI1.out ?_
      rintro e w2 ⟨⟨a2,c2,ds2,rfl,hx2,hl2,hI2,hw2⟩,g2⟩
      have HB2:Hid (Bas w2 X1 d c bb scr n en (-1) T 2 L L):=HB1.out.below g2
      have HG2:Hid (Below w.heap.size w w2):=HG1.out.trans (g2.mono HG1.out.size)
      have HS2:Hid (w1.heap.size <= w2.heap.size):=g2.size
      have HI2:Hid (Its w2 a2 ds2 ∧ ItsLow w1.heap.size a2 ds2):=⟨hI2,hw2⟩
      have HX2:Hid (xsOf ds2 = xsOf (srtI L) ∧ ds2.length = L.length):=⟨hx2,hl2⟩
      have HFI:Hid _:=bas_find_at HB2.out (by decide) b cq ys kk tag (HY.out.below HG2.out) HYM.out
      rw [HAS.out,HER.out] at HFI
      clear HI1 hx2 hl2 hI2 hw2 g2
      go_wp2_with fail
      refine Calls.mono HFI.out ?_
      rintro e w3 ⟨⟨v3,lk3,rfl,hF3,hw3,_,_⟩,g3⟩
      have HB3:Hid (Bas w3 X1 d c bb scr n en (-1) T 2 L L):=HB2.out.below g3
      have HG3:Hid (Below w.heap.size w w3):=HG2.out.trans (g3.mono HG2.out.size)
      have HI3:Hid (Its w3 a2 ds2 ∧ ItsLow w1.heap.size a2 ds2):=⟨HI2.out.1.below g3,HI2.out.2⟩
      have HF3:Hid (Fnds w3 v3 (XK ask ys tag kk L) ∧ FLow w1.heap.size v3 (XK ask ys tag kk L)):=⟨hF3,fun h g o n c e => Nat.le_trans HS2.out (hw3 h g o n c e)⟩
      have HCM:Hid _:=bas_commit HB3.out (by decide) (by omega) (by decide) (HK.out.below HG3.out) (HL.out.below HG3.out)
      clear HFI hF3 hw3 g3 HB2 HG2 HI2
      go_wp2_with fail
      refine Calls.mono HCM.out ?_
      rintro e w4 ⟨rfl,hB4,c4⟩
      have hfar:∀ k,w1.heap.size <= k -> k < w3.heap.size -> w4.heap[k]? = w3.heap[k]?:=fun k h1 h2 => c4.block k h2 (fun hx => by have:=HB1.out.lt k hx;omega)
      have HI4:Hid (Its w4 a2 ds2):=its_far HI3.out.1 HI3.out.2 hfar
      have HF4:Hid (Fnds w4 v3 (XK ask ys tag kk L)):=fnds_far HF3.out.1 HF3.out.2 hfar c4.size
      have HB4:Hid (Bas w4 (more X1 w3 w4) d c bb scr (n + 1) en (-1) true 2 L L):=hB4
      have HG4:Hid (Below w.heap.size w w4):=c4.to HG3.out HG3.out.size HX1.out
      have HIT:Hid _:=bas_items HB4.out
      clear HCM hfar hB4 c4 HB3 HG3 HI3 HF3
      go_wp2_with fail
      refine Calls.mono HIT.out ?_
      rintro e w5 ⟨⟨a5,c5,ds5,rfl,hx5,hl5,hI5⟩,g5⟩
      have HB5:Hid (Bas w5 (more X1 w3 w4) d c bb scr (n + 1) en (-1) true 2 L L):=HB4.out.below g5
      have HG5:Hid (Below w.heap.size w w5):=HG4.out.trans (g5.mono HG4.out.size)
      have HF5:Hid (Fnds w5 v3 (XK ask ys tag kk L)):=HF4.out.below g5
      have HAL:Hid _:=alike_any a5 a2 c5 c2 ds5 ds2 w5 hI5 (HI4.out.below g5) (hx5.trans HX2.out.1.symm) (by have:=HB5.out.okL.2;omega) (fun z hz => by
        obtain ⟨y,hy,rfl⟩:=List.mem_map.1 hz
        have:=(nums_xs HB5.out hx5 y hy).2
        omega)
      rw [hl5,HX2.out.2] at HAL
      clear HIT hx5 hl5 hI5 g5 HB4 HG4 HI4 HF4
      go_wp2_with fail
      refine Calls.mono HAL.out ?_
      rintro e w6 ⟨rfl,g6⟩
      have HB6:Hid (Bas w6 (more X1 w3 w4) d c bb scr (n + 1) en (-1) true 2 L L):=HB5.out.below g6
      have HG6:Hid (Below w.heap.size w w6):=HG5.out.trans (g6.mono HG5.out.size)
      have HF6:Hid (Fnds w6 v3 (XK ask ys tag kk L)):=HF5.out.below g6
      have HFJ:Hid _:=bas_find HB6.out (by decide) b cq ys kk tag (HY.out.below HG6.out) HYM.out
      rw [HAS.out,HER.out] at HFJ
      clear HAL g6 HB5 HG5 HF5
      go_wp2_with fail
      refine Calls.mono HFJ.out ?_
      rintro e w7 ⟨⟨v7,lk7,rfl,hF7,_,_⟩,g7⟩
      have HG7:Hid (Below w.heap.size w w7):=HG6.out.trans (g7.mono HG6.out.size)
      have HEQ:Hid _:=feq_any v3 v7 _ w7 (HF6.out.below g7) hF7 (by have:=XK_len ask ys tag kk L;have:=HB6.out.okL.2;omega)
      clear HFJ hF7 g7 HG6 HF6
      go_wp2_with fail
      refine Calls.mono HEQ.out ?_
      rintro e w8 ⟨rfl,nd,rfl⟩
      have HG8:Hid (Below w.heap.size w (w7.drewN nd)):=HG7.out.trans ((below_drawn w7 nd).mono HG7.out.size)
      clear HEQ HG7
      go_wp2_with fail
      go_ret
      exact ⟨rfl,HG8.out⟩
set_option maxRecDepth 100000 in
theorem finds_any (a:Option Addr) (cp:Nat) (ds:List DeD) (b:Option Addr) (cq:Nat) (ys:List Int) (kk:Int) (tag:ByteArray) (w:World) (h:Dds w a ds) (hy:Ints w b ys) (hK:Sm.KB w) (hL:LB w) (hE:EB w) :
    Calls Tryz.prog 5 #[.slice a ds.length cp,.slice b ys.length cq,.int .i64 kk,.string tag] w fun e w' => e = .returned (.bool true) ∧ Below w.heap.size w w':=by
  by_cases hall:dedsB ds = true ∧ (ys.length:Int) <= 12 ∧ (tag.size:Int) <= 40
  · exact finds_yes a cp ds b cq ys kk tag w h hall.1 hy hall.2.1 hall.2.2 hK hL hE
  have HD0:Hid _:=deeds_any a cp ds w h
  clear h hy hK hL hE
  cases hh:dedsB ds with
  | false =>
    rw [hh] at HD0
    clear hall hh
    go_enter Tryz.func5,Tryz.ntmps5
    go_wp2_with fail
    refine Calls.mono HD0.out ?_
    rintro e wa ⟨rfl,ga⟩
    go_wp2_with fail
    go_ret
    exact ⟨rfl,ga⟩
  | true =>
    rw [hh] at HD0
    by_cases h12:(ys.length:Int) <= 12
    · have h40:¬ (tag.size:Int) <= 40:=fun h => hall ⟨hh,h12,h⟩
      clear hall hh
      go_enter Tryz.func5,Tryz.ntmps5
      go_wp2_with fail
      refine Calls.mono HD0.out ?_
      rintro e wa ⟨rfl,ga⟩
      go_wp2_with fail
      go_ret
      exact ⟨rfl,ga⟩
    · clear hall hh
      go_enter Tryz.func5,Tryz.ntmps5
      go_wp2_with fail
      refine Calls.mono HD0.out ?_
      rintro e wa ⟨rfl,ga⟩
      go_wp2_with fail
      go_ret
      exact ⟨rfl,ga⟩
end Go.Proofs.YtjmpjfikcgccdaaGreatDoor.Bs
namespace Go.Proofs.YtjmpjfikcgccdaaGreatDoor.Bs
open Go.ChangeShapes Go.WideShapes Go.ChangeAt Go.ChangeMaps Go.RowKit
open It Nr Vt
set_option maxRecDepth 100000 in
theorem baseFinds_lifted (os:Os) (started:os.Started) (H:Type) (enc:TypeId × Value -> H) :
    ReturnsInHanded {} Tryz.checked os 5 .any (fun w args => (Rows.baseFindsSpec.pre enc Tryz.prog Tryz.f5 [] false w args ∧ laidMetH Tryz.prog laidW w) ∧ sizedMet enc Tryz.prog Tryz.f5 (OpenSpec.ofChange Rows.baseFindsSpec) false w args)
      (Rows.baseFindsSpec.post enc Tryz.prog Tryz.f5 false true false false):=by
  refine handed_both (C:=Tryz.checked) (X:=fun w _ => laidMetH Tryz.prog laidW w) (fun _ _ _ hh h => h.of_heap hh) own started (by kernel_rfl) Tryz.func5
    (ChangeSpec.witness_shaped (enc:=enc) (C:=Tryz.checked) (os:=os) (X:=fun w _ => laidMetH Tryz.prog laidW w) false (wit os) #[.slice none 0 0,.slice none 0 0,.int .i64 0,.string ⟨#[]⟩] 8 (wit_os os)
      (World.shaped_of_ZipB (by kernel_rfl) (by kernel_rfl)) (by kernel_rfl) (by kernel_rfl) (by kernel_rfl)
      (wit_laid os _)) ?_
  intro W base args ds gs before hval0 hW hsh hL
  have hval:∀ (j:Nat) t v,Tryz.f5.params[j]? = some t -> args[j]? = some v -> Value.okWide Tryz.prog W .any base t v:=hval0
  have hW':=hW
  obtain ⟨p,q,hA0,hV,rfl,_,_⟩:=hW
  have hA:DataW.TrodAll enc Tryz.prog W 0 (fun _ => true) true Tryz.f5.params.toList args.toList ds p:=hA0
  rw [Tryz.params5] at hA hval
  obtain ⟨v0,vs0,d0,ds0,p0,q0,hargs,rfl,rfl,h0,r0⟩:=trodAll_cons hA
  obtain ⟨v1,vs1,d1,ds1,p1,q1,rfl,rfl,rfl,h1,r1⟩:=trodAll_cons r0
  obtain ⟨v2,vs2,d2,ds2,p2,q2,rfl,rfl,rfl,h2,r2⟩:=trodAll_cons r1
  obtain ⟨v3,vs3,d3,ds3,p3,q3,rfl,rfl,rfl,h3,r3⟩:=trodAll_cons r2
  obtain ⟨rfl,rfl,rfl⟩:=trodAll_nil r3
  obtain rfl:args = #[v0,v1,v2,v3]:=by cases args;simp_all
  obtain ⟨rfl,rfl⟩:=trodVars_none hV
  obtain ⟨a0,len,cap,rfl⟩:=okWide_slice Tryz.underlying80 (hval 0 80 v0 rfl rfl)
  obtain ⟨a1,len1,cap1,rfl⟩:=okWide_slice Tryz.underlying23 (hval 1 23 v1 rfl rfl)
  obtain ⟨a2,rfl,rfl,rfl,w2⟩:=open_int Tryz.underlying3 (hval 2 3 v2 rfl rfl) h2
  obtain ⟨a3,rfl,rfl,rfl,w3⟩:=open_string Tryz.underlying9 (hval 3 9 v3 rfl rfl) h3
  clear hA0 hval0
  have h0k:=h0
  have h1k:=h1
  obtain ⟨fu0,hf0⟩:=h0
  obtain ⟨fu1,hf1⟩:=h1
  have hlt:∀ x,x ∈ p0 ∨ x ∈ p1 -> x.block < W.heap.size:=fun x hx => by
    refine hW'.lt x ?_
    rcases hx with h | h <;> simp [h]
  obtain ⟨dd,rfl,hm,hD⟩:=deeds_open (w:=W) (by simpa [Value.cells] using hf0)
  obtain ⟨ys,rfl,hym,_,hInts⟩:=Nr.ints_open (w:=W) (by simpa [Value.cells] using hf1)
  obtain ⟨hK,hLB,hE⟩:=of_laid hL hsh
  refine (finds_any a0 cap dd a1 cap1 ys a2 a3 W hD hInts hK hLB hE).mono fun e' W' ⟨he,hb⟩ => ?_
  subst he
  simp only [List.append_nil] at hW'
  refine ⟨_,rfl,_,_,_,[],p0 ++ (p1 ++ ([] ++ ([] ++ []))),[],hW',trodAll_mk1 (shut_bool Tryz.underlying4 _),?_,rfl,hb.frame _,fun h => by cases h⟩
  exact trodAll_cons_mk (Below.trod laidOut (by kernel_rfl) (of_decide_eq_true (by kernel_rfl)) h0k hb (fun x hx => hlt x (Or.inl hx))) (trodAll_cons_mk (Below.trod laidOut (by kernel_rfl) (of_decide_eq_true (by kernel_rfl)) h1k hb (fun x hx => hlt x (Or.inr hx))) (trodAll_cons_mk (shut_int Tryz.underlying3 w2) (trodAll_cons_mk (shut_string Tryz.underlying9 w3) trodAll_mk0)))
end Go.Proofs.YtjmpjfikcgccdaaGreatDoor.Bs
