/-
  Part of the proof of BaseWaitsCard (BA25 and on).
-/
import Derived.Test.YtjmpjfikcgccdaaGreatDoorB37
namespace Go.Proofs.YtjmpjfikcgccdaaGreatDoor.Bs
open Go.RowKit Go.Shelf Go.Maps
open It Nr Ce Vt
theorem names_of {L:List ItD}:nm L = (xsOf L).map Itm.name:=by unfold nm xsOf;rw [List.map_map];rfl
theorem mem_xs {M:List ItD} {x:Itm} (h:x ∈ xsOf M):∃ e ∈ M,e.x = x:=by
  obtain ⟨e,he,rfl⟩:=List.mem_map.1 h
  exact ⟨e,he,rfl⟩
def Lok (w:World) (B:Nat) (M:List ItD):Prop:=∀ d ∈ M,d.Ok w ∧ d.x.nums.length <= 100 ∧ ∀ b o,d.a = some ⟨b,o,none⟩ -> b < B
theorem Lok.below {w w':World} {B:Nat} {M:List ItD} (h:Lok w B M) (hb:Below w.heap.size w w'):Lok w' B M:=fun d hd => ⟨(h d hd).1.below hb,(h d hd).2⟩
theorem Lok.same {w w':World} {B:Nat} {M:List ItD} (h:Lok w B M) (hs:∀ k,k < B -> w'.heap[k]? = w.heap[k]?):Lok w' B M:=fun d hd => ⟨ok_same (Z:=fun k => k < B) (h d hd).1 (h d hd).2.2 hs,(h d hd).2⟩
set_option maxRecDepth 100000 in
set_option maxHeartbeats 4000000 in
theorem has_yes {w:World} {X:Nat -> Prop} {d c bb:Nat} {sec:ByteArray} {n en:Nat} {F:Int} {T:Bool} {dim:Int} {L N:List ItD} (h:Bas w X d c bb sec n en F T dim L N) (m:Nat) (M:List ItD) (B:Nat) (hM:IM w m M) (hok:Lok w B M) (hp:(xsOf L).Perm (xsOf M)) :
    Calls Tryz.prog 38 #[.pointer (some ⟨bb,0,none⟩),.map (some m)] w fun e w' => e = .returned (.bool true) ∧ Below w.heap.size w w':=by
  have HI:Hid _:=bas_items h
  have hlen:L.length = M.length:=by have:=hp.length_eq;simpa [xsOf] using this
  have hl60:=h.okL.2
  have HM:Hid (IM w m M):=hM
  have HOK:Hid (Lok w B M):=hok
  have HP:Hid ((xsOf L).Perm (xsOf M)):=hp
  clear h hM hok hp
  go_enter Tryz.func38,Tryz.ntmps38
  go_wp2_with fail
  refine Calls.mono HI.out ?_
  rintro e w1 ⟨⟨a,cp,ds,rfl,hxs,hdl,hI⟩,g1⟩
  have HM1:Hid (IM w1 m M):=HM.out.below g1 HM.out.lt
  have HOK1:Hid (Lok w1 B M):=HOK.out.below g1
  have HI1:Hid (Its w1 a ds):=hI
  have HG1:Hid (Below w.heap.size w w1):=g1
  have HXS:Hid (xsOf ds = xsOf (srtI L)):=hxs
  have HDL:Hid (ds.length = L.length):=hdl
  have hlm:∀ ty,(Builtin.len_ #[83] ty #[.map (some m)]).run Tryz.prog w1 = .ok (.int .i64 M.length) w1:=fun ty => HM1.out.len pt83 ty
  have hne:((L.length:Int) != (M.length:Int)) = false:=by rw [hlen];simp
  have HLEN:Hid (L.length = M.length):=hlen
  clear HI hI g1 hxs hdl HM HOK hlen
  go_wp2_with fail
  clear hlm hne
  go_loopw [6] (fun i wr => ∃ k:Nat,k <= L.length ∧ i = .int .i64 k ∧ Hid (Below w1.heap.size w1 wr)) (fun i _ => L.length - (intOf i).toNat)
  case atStart => exact ⟨0,by omega,rfl,Below.refl _ _⟩
  case round =>
    obtain ⟨k,hk,rfl,HB⟩:=hrel
    by_cases hlt:k < L.length
    · have hlt':(k:Int) < (L.length:Int):=by omega
      obtain ⟨x,hx⟩:∃ x,ds[k]? = some x:=⟨_,List.getElem?_eq_getElem (by rw [HDL.out];exact hlt)⟩
      obtain ⟨g,o,rfl,q1,q2,q3,q4⟩:=(HI1.out.below HB.out) k x hx
      have hxm:x.x ∈ xsOf M:=by
        have h1:x.x ∈ xsOf ds:=List.mem_map.2 ⟨x,List.mem_of_getElem? hx,rfl⟩
        rw [HXS.out] at h1
        exact HP.out.mem_iff.1 (((srtI_perm L).map _).mem_iff.1 h1)
      obtain ⟨y,hyM,hyx⟩:=mem_xs hxm
      have hyn:x.x.name = y.x.name:=by rw [hyx]
      have HMr:Hid (IM wr m M):=HM1.out.below HB.out HM1.out.lt
      have hlk:=run_lookTok Tryz.underlying9 pt83 _ It.zeroIt (MapT.of HMr.out.mapS) (i:=x.x.name) q4.2.2.1
      rw [hyn,lk_mem HMr.out.nodup hyM] at hlk
      obtain ⟨hyo,hyl,_⟩:=HOK1.out.below HB.out y hyM
      obtain ⟨⟨nm,tg,zs⟩,xa,xc⟩:=x
      obtain ⟨⟨nm',tg',zs'⟩,ya,yc⟩:=y
      simp only [Itm.mk.injEq] at hyx
      obtain ⟨rfl,rfl,rfl⟩:=hyx
      simp only [ItD.val] at q1 q2 q3
      have hlk2:(Instr.lookup 83 (.map (some m)) (.string nm') true).run Tryz.prog wr = .ok (.tuple #[.agg #[.string nm',.string tg',.slice ya zs'.length yc],.bool true]) wr:=hlk
      have HE:Hid (∀ W,Below wr.heap.size wr W -> Calls Tryz.prog 94 #[.slice ya zs'.length yc,.slice xa zs'.length xc] W fun e w' => e = .returned (.bool true) ∧ Below W.heap.size W w'):=fun W hW => by
        have h0:=equal_any ya xa yc xc zs' W (Ints.below hyo.1 hW) (Ints.below q4.1 hW) (by have h9:zs'.length <= 100:=hyl;omega)
        refine h0.mono ?_
        rintro e w' ⟨rfl,h2⟩
        exact ⟨rfl,h2⟩
      clear hlk hx hxm hyM hyn q4 hyo hyl
      go_wp2_with fail
      have sA:=below_alloc wr (.cells #[.string nm',.string tg',.slice ya zs'.length yc] 45)
      have jA:Blk (wr.alloc (.cells #[.string nm',.string tg',.slice ya zs'.length yc] 45)) wr.heap.size #[.string nm',.string tg',.slice ya zs'.length yc] 45:=Blk.new wr _ _
      have hlA:=jA.lt
      have c2:=It.cell_below sA q2
      have c3:=It.cell_below sA q3
      have s0':Below wr.heap.size wr (wr.alloc (.cells #[.string nm',.string tg',.slice ya zs'.length yc] 45)).drew:=below_drewN sA 1
      have s0:=below_drewN (Below.refl (wr.alloc (.cells #[.string nm',.string tg',.slice ya zs'.length yc] 45)).heap.size (wr.alloc (.cells #[.string nm',.string tg',.slice ya zs'.length yc] 45))) 1
      clear q1 q2 q3 hlk2
      refine regS_in 23 (fun W => Below (wr.alloc (.cells #[.string nm',.string tg',.slice ya zs'.length yc] 45)).heap.size (wr.alloc (.cells #[.string nm',.string tg',.slice ya zs'.length yc] 45)) W) Nr.mixed rfl ?_
      have s0:Below (wr.alloc (.cells #[.string nm',.string tg',.slice ya zs'.length yc] 45)).heap.size (wr.alloc (.cells #[.string nm',.string tg',.slice ya zs'.length yc] 45)) (wr.alloc (.cells #[.string nm',.string tg',.slice ya zs'.length yc] 45)).drew:=s0
      generalize wr.alloc (.cells #[.string nm',.string tg',.slice ya zs'.length yc] 45) = wA at *
      generalize wA.drew = wD at *
      have HJ:Hid _:=jA
      have HC2:Hid _:=c2
      have HC3:Hid _:=c3
      clear jA c2 c3
      refine regS_take 0 32 (.bool true) rfl rfl (by kernel_rfl) (fun _ _ _ h => h) (by kernel_rfl) (fun W hW => by go_simp) s0 ?_
      refine regS_take 1 33 (.bool false) rfl rfl (by kernel_rfl) (fun _ _ _ h => h) (by kernel_rfl) (fun W hW => by go_simp) s0 ?_
      refine regS_take 2 34 (.bool false) rfl rfl (by kernel_rfl) (fun _ _ _ h => h) (by kernel_rfl) (fun W hW => by go_simp) s0 ?_
      refine regS_take 3 35 (.pointer (some ⟨wr.heap.size,1,none⟩)) rfl rfl (by kernel_rfl) (fun _ _ _ h => h) (by kernel_rfl) (fun W hW => by go_simp) s0 ?_
      refine regS_take 4 36 (.string tg') rfl rfl (by kernel_rfl) (fun _ _ _ h => h) (by kernel_rfl) (fun W hW => by have a0:=(Blk.below HJ.out hW hlA).cell 1;go_simp) s0 ?_
      refine regS_take 5 37 (.slice (some ⟨g,o,none⟩) L.length cp) rfl rfl (by kernel_rfl) (fun _ _ _ h => h) (by kernel_rfl) (fun W hW => by go_simp) s0 ?_
      refine regS_take 6 38 (.int .i64 (k:Int)) rfl rfl (by kernel_rfl) (fun _ _ _ h => h) (by kernel_rfl) (fun W hW => by go_simp) s0 ?_
      refine regS_take 7 39 (.pointer (some ⟨g,o + k * 3,none⟩)) rfl rfl (by kernel_rfl) (fun _ _ _ h => h) (by kernel_rfl) (fun W hW => by go_simp) s0 ?_
      refine regS_take 8 40 (.pointer (some ⟨g,o + k * 3 + 1,none⟩)) rfl rfl (by kernel_rfl) (fun _ _ _ h => h) (by kernel_rfl) (fun W hW => by go_simp) s0 ?_
      refine regS_take 9 41 (.string tg') rfl rfl (by kernel_rfl) (fun _ _ _ h => h) (by kernel_rfl) (fun W hW => by have a0:=It.cell_below hW HC2.out;go_simp) s0 ?_
      refine regS_take 10 42 (.bool false) rfl rfl (by kernel_rfl) (fun _ _ _ h => h) (by kernel_rfl) (fun W hW => by go_simp) s0 ?_
      refine regS_take 11 43 (.bool false) rfl rfl (by kernel_rfl) (fun _ _ _ h => h) (by kernel_rfl) (fun W hW => by go_simp) s0 ?_
      refine regS_take 12 44 (.bool false) rfl rfl (by kernel_rfl) (fun _ _ _ h => h) (by kernel_rfl) (fun W hW => by go_simp) s0 ?_
      refine regS_take 13 45 (.pointer (some ⟨wr.heap.size,2,none⟩)) rfl rfl (by kernel_rfl) (fun _ _ _ h => h) (by kernel_rfl) (fun W hW => by go_simp) s0 ?_
      refine regS_take 14 46 (.slice ya zs'.length yc) rfl rfl (by kernel_rfl) (fun _ _ _ h => h) (by kernel_rfl) (fun W hW => by have a0:=(Blk.below HJ.out hW hlA).cell 2;go_simp) s0 ?_
      refine regS_take 15 47 (.slice (some ⟨g,o,none⟩) L.length cp) rfl rfl (by kernel_rfl) (fun _ _ _ h => h) (by kernel_rfl) (fun W hW => by go_simp) s0 ?_
      refine regS_take 16 48 (.int .i64 (k:Int)) rfl rfl (by kernel_rfl) (fun _ _ _ h => h) (by kernel_rfl) (fun W hW => by go_simp) s0 ?_
      refine regS_take 17 49 (.pointer (some ⟨g,o + k * 3,none⟩)) rfl rfl (by kernel_rfl) (fun _ _ _ h => h) (by kernel_rfl) (fun W hW => by go_simp) s0 ?_
      refine regS_take 18 50 (.pointer (some ⟨g,o + k * 3 + 2,none⟩)) rfl rfl (by kernel_rfl) (fun _ _ _ h => h) (by kernel_rfl) (fun W hW => by go_simp) s0 ?_
      refine regS_take 19 51 (.slice xa zs'.length xc) rfl rfl (by kernel_rfl) (fun _ _ _ h => h) (by kernel_rfl) (fun W hW => by have a0:=It.cell_below hW HC3.out;go_simp) s0 ?_
      simp only [Act.put,List.setIfInBounds_toArray,List.set_cons_succ,List.set_cons_zero]
      refine regS_one 20 rfl (by kernel_rfl) (by kernel_rfl) (fun K hK => ?_)
      have HKK:Hid _:=hK
      clear hK
      go_wp2_with fail
      refine Calls.mono (HE.out _ s0') ?_
      rintro e w5 ⟨rfl,g5⟩
      have s5:=s0.trans (g5.mono s0.size)
      have t5:=s0'.trans (g5.mono s0'.size)
      refine HKK.out _ _ s5 ?_
      clear HKK K HE g5 s0 s0'
      refine regS_take 21 53 (.bool false) rfl rfl (by kernel_rfl) (fun _ _ _ h => h) (by kernel_rfl) (fun W hW => by go_simp) s5 ?_
      refine regS_take 22 54 (.bool false) rfl rfl (by kernel_rfl) (fun _ _ _ h => h) (by kernel_rfl) (fun W hW => by go_simp) s5 ?_
      refine regS_end (by kernel_rfl) ?_
      simp only [Act.put,List.setIfInBounds_toArray,List.set_cons_succ,List.set_cons_zero]
      have HB5:Hid (Below w1.heap.size w1 w5):=HB.out.trans (t5.mono HB.out.size)
      clear s5 t5 sA HJ HC2 HC3
      go_wp2_with fail
      exact ⟨⟨k + 1,by omega,by go_num,HB5.out⟩,by simp [intOf];omega⟩
    · have hk':k = L.length:=by omega
      subst hk'
      go_wp2_with fail
      go_ret
      exact ⟨rfl,HG1.out.trans (HB.out.mono HG1.out.size)⟩
structure Wt (w0 w:World) (X:Nat -> Prop) (d c bb:Nat) (sec:ByteArray) (n en:Nat) (F:Int) (T:Bool) (L N:List ItD) (m1 m2:Nat) (M1 M2:List ItD):Prop where
  bas:Bas w X d c bb sec n en F T 2 L N
  im1:IM w m1 M1
  im2:IM w m2 M2
  x1:¬ X m1
  x2:¬ X m2
  lk1:Lok w w0.heap.size M1
  lk2:Lok w w0.heap.size M2
  p1:(xsOf L).Perm (xsOf M1)
  p2:(xsOf N).Perm (xsOf M2)
  xlo:∀ k,X k -> w0.heap.size <= k
  bel:Below w0.heap.size w0 w
theorem lok_two {w0 w w':World} {M:List ItD} (h:Lok w w0.heap.size M) (b1:Below w0.heap.size w0 w) (b2:Below w0.heap.size w0 w'):Lok w' w0.heap.size M:=h.same fun k hk => (b2.block k hk).trans (b1.block k hk).symm
theorem xs_noI (L:List ItD) (s:ByteArray):xsOf (noI L s) = (xsOf L).filter (fun z => !decide (z.name = s)):=by
  unfold xsOf noI
  rw [List.filter_map];rfl
theorem perm_noI {N M:List ItD} (h:(xsOf N).Perm (xsOf M)) (s:ByteArray):(xsOf (noI N s)).Perm (xsOf (noI M s)):=by
  rw [xs_noI,xs_noI];exact h.filter _
theorem perm_putI {N M:List ItD} {x y:ItD} (h:(xsOf N).Perm (xsOf M)) (e:y.x = x.x):(xsOf (putI N y)).Perm (xsOf (putI M x)):=by
  show (y.x :: xsOf (noI N y.x.name)).Perm (x.x :: xsOf (noI M x.x.name))
  rw [e]
  exact (perm_noI h _).cons _
theorem perm_isN {N M:List ItD} (h:(xsOf N).Perm (xsOf M)) (s:ByteArray):isN N s = isN M s:=by
  rw [Bool.eq_iff_iff,isN_iff,isN_iff,names_of,names_of]
  exact (h.map Itm.name).mem_iff
theorem perm_len {N M:List ItD} (h:(xsOf N).Perm (xsOf M)):N.length = M.length:=by have:=h.length_eq;simpa [xsOf] using this
section
variable {w0 w:World} {X:Nat -> Prop} {d c bb:Nat} {sec:ByteArray} {n en:Nat} {F:Int} {T:Bool} {L N:List ItD} {m1 m2:Nat} {M1 M2:List ItD}
theorem Wt.below {w':World} (h:Wt w0 w X d c bb sec n en F T L N m1 m2 M1 M2) (hb:Below w.heap.size w w'):Wt w0 w' X d c bb sec n en F T L N m1 m2 M1 M2:=
  ⟨h.bas.below hb,h.im1.below hb h.im1.lt,h.im2.below hb h.im2.lt,h.x1,h.x2,h.lk1.below hb,h.lk2.below hb,h.p1,h.p2,h.xlo,h.bel.trans (hb.mono h.bel.size)⟩
theorem lok_names {w:World} {B:Nat} {M:List ItD} (h:Lok w B M):∀ e ∈ M,e.x.name.size <= maxLen:=fun e he => (h e he).1.2.2.1
theorem more_lo {X:Nat -> Prop} {w w':World} {B:Nat} (h:∀ k,X k -> B <= k) (hB:B <= w.heap.size):∀ k,more X w w' k -> B <= k:=fun k hk => by
  rcases hk with hk | hk
  · exact h k hk
  · omega
theorem more_no {X:Nat -> Prop} {w w':World} {m:Nat} (h:¬ X m) (hm:m < w.heap.size):¬ more X w w' m:=fun hk => by
  rcases hk with hk | hk
  · exact h hk
  · omega
set_option maxRecDepth 100000 in
set_option maxHeartbeats 4000000 in
theorem does_put (h:Wt w0 w X d c bb sec n en F T L N m1 m2 M1 M2) (x:ItD) (hxo:x.Ok w) (hxl:x.x.nums.length <= 100) (hxa:∀ b o,x.a = some ⟨b,o,none⟩ -> b < w0.heap.size) (hr:rightB x.x 2 = true) (h60:M2.length < 60) :
    Calls Tryz.prog 37 #[.pointer (some ⟨bb,0,none⟩),.agg #[.int .i64 0,.string x.x.name,.string x.x.tag,.slice x.a x.x.nums.length x.c],.map (some m1),.map (some m2)] w fun e w' => (∃ X' N' m2',e = .returned (.tuple #[.map (some m1),.map (some m2'),.nilIface]) ∧ Wt w0 w' X' d c bb sec n en F T L N' m1 m2' M1 (putI M2 x)):=by
  obtain ⟨⟨nm,tg,zs⟩,xa,xc⟩:=x
  show Calls Tryz.prog 37 #[.pointer (some ⟨bb,0,none⟩),.agg #[.int .i64 0,.string nm,.string tg,.slice xa zs.length xc],.map (some m1),.map (some m2)] w _
  have sA:=below_alloc w (.cells #[.int .i64 0,.string nm,.string tg,.slice xa zs.length xc] 87)
  have jA:Blk (w.alloc (.cells #[.int .i64 0,.string nm,.string tg,.slice xa zs.length xc] 87)) w.heap.size #[.int .i64 0,.string nm,.string tg,.slice xa zs.length xc] 87:=Blk.new w _ _
  have HA:Hid (Wt w0 (w.alloc (.cells #[.int .i64 0,.string nm,.string tg,.slice xa zs.length xc] 87)) X d c bb sec n en F T L N m1 m2 M1 M2):=h.below sA
  have HXO:Hid (ItD.Ok (w.alloc (.cells #[.int .i64 0,.string nm,.string tg,.slice xa zs.length xc] 87)) ⟨⟨nm,tg,zs⟩,xa,xc⟩):=hxo.below sA
  have HXW:Hid (ItD.Ok w ⟨⟨nm,tg,zs⟩,xa,xc⟩):=hxo
  have HXL:Hid (∀ b o,xa = some ⟨b,o,none⟩ -> b < w0.heap.size):=hxa
  have hnx:¬ X w.heap.size:=fun hx => by have:=h.bas.lt _ hx;omega
  have HB0:Hid (Below w0.heap.size w0 w):=h.bel
  have hzl:zs.length <= 100:=hxl
  have hNM:N.length = M2.length:=perm_len h.p2
  clear h hxo hxa hxl
  go_enter Tryz.func37,Tryz.ntmps37
  go_wp2_with fail
  generalize w.alloc (.cells #[.int .i64 0,.string nm,.string tg,.slice xa zs.length xc] 87) = wA at *
  have HP:Hid _:=bas_put HA.out.bas ⟨⟨nm,tg,zs⟩,xa,xc⟩ HXO.out (by decide) hr (Or.inr (by omega))
  refine Calls.mono HP.out ?_
  rintro e w2 ⟨rfl,⟨y,hy,hB2⟩,c2⟩
  have HB2:Hid (Bas w2 (more X wA w2) d c bb sec n en F T 2 L (putI N y)):=hB2
  have HY:Hid (y.x = ⟨nm,tg,zs⟩):=hy
  have HC2:Hid (Dv.Chg wA w2 X):=c2
  have j2:=jA.chg c2 hnx
  have HI2:Hid (IM w2 m2 M2):=HA.out.im2.same (c2.block _ HA.out.im2.lt HA.out.x2)
  have HI1:Hid (IM w2 m1 M1):=HA.out.im1.same (c2.block _ HA.out.im1.lt HA.out.x1)
  have HBL2:Hid (Below w0.heap.size w0 w2):=c2.to HA.out.bel HA.out.bel.size HA.out.xlo
  have HL2:Hid (Lok w2 w0.heap.size M2):=lok_two HA.out.lk2 HA.out.bel HBL2.out
  have HCL:Hid _:=lclone_any m2 M2 w2 HI2.out (by omega) (lok_names HL2.out)
  have HX2:Hid (ItD.Ok w2 ⟨⟨nm,tg,zs⟩,xa,xc⟩):=ok_same (Z:=fun k => k < w0.heap.size) HXW.out HXL.out (fun k hk => (HBL2.out.block k hk).trans (HB0.out.block k hk).symm)
  have HSA:Hid (wA.heap.size <= w2.heap.size):=c2.size
  have HSW:Hid (w.heap.size <= wA.heap.size):=sA.size
  clear HP hB2 hy c2 jA sA
  go_wp2_with fail
  refine Calls.mono HCL.out ?_
  rintro e w3 ⟨⟨tm,rfl,hM3,q1,q2⟩,g3⟩
  have j3:=j2.below g3 j2.lt
  obtain ⟨w4,hup,hM4,hu4⟩:=hM3.store pt83 (by unfold maxLen;omega) ⟨⟨nm,tg,zs⟩,xa,xc⟩ HX2.out.2.2.1
  have hup':(Instr.mapUpdate 83 (.map (some tm)) (.string nm) (.agg #[.string nm,.string tg,.slice xa zs.length xc])).run Tryz.prog w3 = .ok () w4:=hup
  have e1:=j3.cell 1
  have e2:=j3.cell 2
  have e3:=j3.cell 3
  have HM4:Hid (IM w4 tm (putI M2 ⟨⟨nm,tg,zs⟩,xa,xc⟩)):=hM4
  have HU4:Hid (Upd w3 w4 tm):=hu4
  have HG3:Hid (Below w2.heap.size w2 w3):=g3
  have HQ:Hid (w2.heap.size <= tm ∧ tm < w3.heap.size):=⟨q1,q2⟩
  clear HCL hM3 hup hM4 hu4 g3 j2 q1 q2
  go_wp2_with fail
  go_ret3
  have hq:=HQ.out
  have c24:Dv.Chg w2 w4 (fun k => k = tm):=(Dv.Chg.of HG3.out _).upd HU4.out (Or.inl rfl)
  have b4:Below w0.heap.size w0 w4:=below_upd (HBL2.out.trans (HG3.out.mono HBL2.out.size)) HU4.out (by have:=HBL2.out.size;omega)
  have n1:=HA.out.im1.lt
  have n2:=HA.out.im2.lt
  have hsa:=HSA.out
  have hsw:=HSW.out
  refine ⟨more X wA w2,putI N y,tm,rfl,⟨HB2.out.chg c24 (fun k hk e => by have:=HB2.out.lt k hk;omega),HI1.out.same (c24.block _ HI1.out.lt (by omega)),HM4.out,more_no HA.out.x1 n1,fun hk => ?_,lok_two HA.out.lk1 HA.out.bel b4,?_,HA.out.p1,perm_putI HA.out.p2 HY.out,more_lo HA.out.xlo HA.out.bel.size,b4⟩⟩
  · have:=HB2.out.lt _ hk;omega
  · intro z hz
    rcases putI_mem hz with rfl | hz
    · exact ⟨ok_same (Z:=fun k => k < w0.heap.size) HXW.out HXL.out (fun k hk => (b4.block k hk).trans (HB0.out.block k hk).symm),hzl,HXL.out⟩
    · exact lok_two HA.out.lk2 HA.out.bel b4 z hz
end
end Go.Proofs.YtjmpjfikcgccdaaGreatDoor.Bs
namespace Go.Proofs.YtjmpjfikcgccdaaGreatDoor.Bs
open Go.RowKit Go.Shelf Go.Maps
open It Nr Ce Vt
section
variable {w0 w:World} {X:Nat -> Prop} {d c bb:Nat} {sec:ByteArray} {n en:Nat} {F:Int} {T:Bool} {L N:List ItD} {m1 m2:Nat} {M1 M2:List ItD}
set_option maxRecDepth 100000 in
set_option maxHeartbeats 4000000 in
theorem does_put_no (h:Wt w0 w X d c bb sec n en F T L N m1 m2 M1 M2) (x:ItD) (hxo:x.Ok w) (hr:rightB x.x 2 = false) :
    Calls Tryz.prog 37 #[.pointer (some ⟨bb,0,none⟩),.agg #[.int .i64 0,.string x.x.name,.string x.x.tag,.slice x.a x.x.nums.length x.c],.map (some m1),.map (some m2)] w fun e w' => e = .returned (.tuple #[.map (some m1),.map (some m2),.iface 34 (.int .i64 1)]) ∧ Wt w0 w' X d c bb sec n en F T L N m1 m2 M1 M2:=by
  obtain ⟨⟨nm,tg,zs⟩,xa,xc⟩:=x
  show Calls Tryz.prog 37 #[.pointer (some ⟨bb,0,none⟩),.agg #[.int .i64 0,.string nm,.string tg,.slice xa zs.length xc],.map (some m1),.map (some m2)] w _
  have sA:=below_alloc w (.cells #[.int .i64 0,.string nm,.string tg,.slice xa zs.length xc] 87)
  have jA:Blk (w.alloc (.cells #[.int .i64 0,.string nm,.string tg,.slice xa zs.length xc] 87)) w.heap.size #[.int .i64 0,.string nm,.string tg,.slice xa zs.length xc] 87:=Blk.new w _ _
  have HA:Hid (Wt w0 (w.alloc (.cells #[.int .i64 0,.string nm,.string tg,.slice xa zs.length xc] 87)) X d c bb sec n en F T L N m1 m2 M1 M2):=h.below sA
  have HXO:Hid (ItD.Ok (w.alloc (.cells #[.int .i64 0,.string nm,.string tg,.slice xa zs.length xc] 87)) ⟨⟨nm,tg,zs⟩,xa,xc⟩):=hxo.below sA
  have hnx:¬ X w.heap.size:=fun hx => by have:=h.bas.lt _ hx;omega
  have hNM:N.length = M2.length:=perm_len h.p2
  have HSW:Hid (w.heap.size <= (w.alloc (.cells #[.int .i64 0,.string nm,.string tg,.slice xa zs.length xc] 87)).heap.size):=sA.size
  clear h hxo
  go_enter Tryz.func37,Tryz.ntmps37
  go_wp2_with fail
  generalize w.alloc (.cells #[.int .i64 0,.string nm,.string tg,.slice xa zs.length xc] 87) = wA at *
  have HP:Hid _:=bas_put_no HA.out.bas ⟨⟨nm,tg,zs⟩,xa,xc⟩ HXO.out (by decide) hr
  refine Calls.mono HP.out ?_
  rintro e w2 ⟨rfl,g2⟩
  have HB2:Hid _:=HA.out.below g2
  clear HP g2
  unfold errA
  go_wp2_with fail
  go_ret3
  exact ⟨rfl,HB2.out⟩
set_option maxRecDepth 100000 in
set_option maxHeartbeats 4000000 in
theorem does_del_no (h:Wt w0 w X d c bb sec n en F T L N m1 m2 M1 M2) (x:ItD) (hxo:x.Ok w) (hN:isN M2 x.x.name = false) :
    Calls Tryz.prog 37 #[.pointer (some ⟨bb,0,none⟩),.agg #[.int .i64 1,.string x.x.name,.string x.x.tag,.slice x.a x.x.nums.length x.c],.map (some m1),.map (some m2)] w fun e w' => e = .returned (.tuple #[.map (some m1),.map (some m2),.iface 34 (.int .i64 7)]) ∧ Wt w0 w' X d c bb sec n en F T L N m1 m2 M1 M2:=by
  obtain ⟨⟨nm,tg,zs⟩,xa,xc⟩:=x
  show Calls Tryz.prog 37 #[.pointer (some ⟨bb,0,none⟩),.agg #[.int .i64 1,.string nm,.string tg,.slice xa zs.length xc],.map (some m1),.map (some m2)] w _
  have sA:=below_alloc w (.cells #[.int .i64 1,.string nm,.string tg,.slice xa zs.length xc] 87)
  have jA:Blk (w.alloc (.cells #[.int .i64 1,.string nm,.string tg,.slice xa zs.length xc] 87)) w.heap.size #[.int .i64 1,.string nm,.string tg,.slice xa zs.length xc] 87:=Blk.new w _ _
  have HA:Hid (Wt w0 (w.alloc (.cells #[.int .i64 1,.string nm,.string tg,.slice xa zs.length xc] 87)) X d c bb sec n en F T L N m1 m2 M1 M2):=h.below sA
  have HXO:Hid (ItD.Ok (w.alloc (.cells #[.int .i64 1,.string nm,.string tg,.slice xa zs.length xc] 87)) ⟨⟨nm,tg,zs⟩,xa,xc⟩):=hxo.below sA
  have hnx:¬ X w.heap.size:=fun hx => by have:=h.bas.lt _ hx;omega
  have hNM:N.length = M2.length:=perm_len h.p2
  have HSW:Hid (w.heap.size <= (w.alloc (.cells #[.int .i64 1,.string nm,.string tg,.slice xa zs.length xc] 87)).heap.size):=sA.size
  clear h hxo
  go_enter Tryz.func37,Tryz.ntmps37
  go_wp2_with fail
  generalize w.alloc (.cells #[.int .i64 1,.string nm,.string tg,.slice xa zs.length xc] 87) = wA at *
  have HP:Hid _:=bas_del_no HA.out.bas nm HXO.out.2.2.1 ((perm_isN HA.out.p2 nm).trans hN)
  refine Calls.mono HP.out ?_
  rintro e w2 ⟨rfl,g2⟩
  have HB2:Hid _:=HA.out.below g2
  clear HP g2
  go_wp2_with fail
  go_ret3
  exact ⟨rfl,HB2.out⟩
set_option maxRecDepth 100000 in
set_option maxHeartbeats 4000000 in
theorem does_del (h:Wt w0 w X d c bb sec n en F T L N m1 m2 M1 M2) (x:ItD) (hxo:x.Ok w) (hN:isN M2 x.x.name = true) (h60:M2.length <= 60) :
    Calls Tryz.prog 37 #[.pointer (some ⟨bb,0,none⟩),.agg #[.int .i64 1,.string x.x.name,.string x.x.tag,.slice x.a x.x.nums.length x.c],.map (some m1),.map (some m2)] w fun e w' => (∃ X' N' m2',e = .returned (.tuple #[.map (some m1),.map (some m2'),.nilIface]) ∧ Wt w0 w' X' d c bb sec n en F T L N' m1 m2' M1 (noI M2 x.x.name)):=by
  obtain ⟨⟨nm,tg,zs⟩,xa,xc⟩:=x
  show Calls Tryz.prog 37 #[.pointer (some ⟨bb,0,none⟩),.agg #[.int .i64 1,.string nm,.string tg,.slice xa zs.length xc],.map (some m1),.map (some m2)] w _
  have sA:=below_alloc w (.cells #[.int .i64 1,.string nm,.string tg,.slice xa zs.length xc] 87)
  have jA:Blk (w.alloc (.cells #[.int .i64 1,.string nm,.string tg,.slice xa zs.length xc] 87)) w.heap.size #[.int .i64 1,.string nm,.string tg,.slice xa zs.length xc] 87:=Blk.new w _ _
  have HA:Hid (Wt w0 (w.alloc (.cells #[.int .i64 1,.string nm,.string tg,.slice xa zs.length xc] 87)) X d c bb sec n en F T L N m1 m2 M1 M2):=h.below sA
  have HXO:Hid (ItD.Ok (w.alloc (.cells #[.int .i64 1,.string nm,.string tg,.slice xa zs.length xc] 87)) ⟨⟨nm,tg,zs⟩,xa,xc⟩):=hxo.below sA
  have hnx:¬ X w.heap.size:=fun hx => by have:=h.bas.lt _ hx;omega
  have hNM:N.length = M2.length:=perm_len h.p2
  have HSW:Hid (w.heap.size <= (w.alloc (.cells #[.int .i64 1,.string nm,.string tg,.slice xa zs.length xc] 87)).heap.size):=sA.size
  clear h hxo
  go_enter Tryz.func37,Tryz.ntmps37
  go_wp2_with fail
  generalize w.alloc (.cells #[.int .i64 1,.string nm,.string tg,.slice xa zs.length xc] 87) = wA at *
  have HP:Hid _:=bas_del HA.out.bas (by decide) nm HXO.out.2.2.1 ((perm_isN HA.out.p2 nm).trans hN)
  have HNS:Hid (nm.size <= maxLen):=HXO.out.2.2.1
  refine Calls.mono HP.out ?_
  rintro e w2 ⟨rfl,hB2,c2⟩
  have HB2:Hid (Bas w2 (more X wA w2) d c bb sec n en F T 2 L (noI N nm)):=hB2
  have HC2:Hid (Dv.Chg wA w2 X):=c2
  have j2:=jA.chg c2 hnx
  have HI2:Hid (IM w2 m2 M2):=HA.out.im2.same (c2.block _ HA.out.im2.lt HA.out.x2)
  have HI1:Hid (IM w2 m1 M1):=HA.out.im1.same (c2.block _ HA.out.im1.lt HA.out.x1)
  have HBL2:Hid (Below w0.heap.size w0 w2):=c2.to HA.out.bel HA.out.bel.size HA.out.xlo
  have HL2:Hid (Lok w2 w0.heap.size M2):=lok_two HA.out.lk2 HA.out.bel HBL2.out
  have HCL:Hid _:=lclone_any m2 M2 w2 HI2.out (by omega) (lok_names HL2.out)
  have HSA:Hid (wA.heap.size <= w2.heap.size):=c2.size
  clear HP hB2 c2 jA sA
  go_wp2_with fail
  refine Calls.mono HCL.out ?_
  rintro e w3 ⟨⟨tm,rfl,hM3,q1,q2⟩,g3⟩
  have j3:=j2.below g3 j2.lt
  obtain ⟨w4,hup,hM4,hu4⟩:=hM3.drop pt83 nm HNS.out 0
  have e1:=j3.cell 1
  have HM4:Hid (IM w4 tm (noI M2 nm)):=hM4
  have HU4:Hid (Upd w3 w4 tm):=hu4
  have HG3:Hid (Below w2.heap.size w2 w3):=g3
  have HQ:Hid (w2.heap.size <= tm ∧ tm < w3.heap.size):=⟨q1,q2⟩
  clear HCL hM3 hM4 hu4 g3 j2 q1 q2
  go_wp2_with fail
  go_ret3
  have hq:=HQ.out
  have c24:Dv.Chg w2 w4 (fun k => k = tm):=(Dv.Chg.of HG3.out _).upd HU4.out (Or.inl rfl)
  have b4:Below w0.heap.size w0 w4:=below_upd (HBL2.out.trans (HG3.out.mono HBL2.out.size)) HU4.out (by have:=HBL2.out.size;omega)
  have n1:=HA.out.im1.lt
  have n2:=HA.out.im2.lt
  have hsa:=HSA.out
  refine ⟨more X wA w2,noI N nm,tm,rfl,⟨HB2.out.chg c24 (fun k hk e => by have:=HB2.out.lt k hk;omega),HI1.out.same (c24.block _ HI1.out.lt (by omega)),HM4.out,more_no HA.out.x1 n1,fun hk => ?_,lok_two HA.out.lk1 HA.out.bel b4,fun z hz => lok_two HA.out.lk2 HA.out.bel b4 z (noI_mem.1 hz).1,HA.out.p1,perm_noI HA.out.p2 nm,more_lo HA.out.xlo HA.out.bel.size,b4⟩⟩
  have:=HB2.out.lt _ hk;omega
set_option maxRecDepth 100000 in
set_option maxHeartbeats 4000000 in
theorem does_undo (h:Wt w0 w X d c bb sec n en F T L N m1 m2 M1 M2) (x:ItD) (hxo:x.Ok w) :
    Calls Tryz.prog 37 #[.pointer (some ⟨bb,0,none⟩),.agg #[.int .i64 2,.string x.x.name,.string x.x.tag,.slice x.a x.x.nums.length x.c],.map (some m1),.map (some m2)] w fun e w' => (∃ X',e = .returned (.tuple #[.map (some m1),.map (some m1),.nilIface]) ∧ Wt w0 w' X' d c bb sec n en F T L L m1 m1 M1 M1):=by
  obtain ⟨⟨nm,tg,zs⟩,xa,xc⟩:=x
  show Calls Tryz.prog 37 #[.pointer (some ⟨bb,0,none⟩),.agg #[.int .i64 2,.string nm,.string tg,.slice xa zs.length xc],.map (some m1),.map (some m2)] w _
  have sA:=below_alloc w (.cells #[.int .i64 2,.string nm,.string tg,.slice xa zs.length xc] 87)
  have jA:Blk (w.alloc (.cells #[.int .i64 2,.string nm,.string tg,.slice xa zs.length xc] 87)) w.heap.size #[.int .i64 2,.string nm,.string tg,.slice xa zs.length xc] 87:=Blk.new w _ _
  have HA:Hid (Wt w0 (w.alloc (.cells #[.int .i64 2,.string nm,.string tg,.slice xa zs.length xc] 87)) X d c bb sec n en F T L N m1 m2 M1 M2):=h.below sA
  have HXO:Hid (ItD.Ok (w.alloc (.cells #[.int .i64 2,.string nm,.string tg,.slice xa zs.length xc] 87)) ⟨⟨nm,tg,zs⟩,xa,xc⟩):=hxo.below sA
  have hnx:¬ X w.heap.size:=fun hx => by have:=h.bas.lt _ hx;omega
  have hNM:N.length = M2.length:=perm_len h.p2
  have HSW:Hid (w.heap.size <= (w.alloc (.cells #[.int .i64 2,.string nm,.string tg,.slice xa zs.length xc] 87)).heap.size):=sA.size
  clear h hxo
  go_enter Tryz.func37,Tryz.ntmps37
  go_wp2_with fail
  generalize w.alloc (.cells #[.int .i64 2,.string nm,.string tg,.slice xa zs.length xc] 87) = wA at *
  have HP:Hid _:=bas_undo HA.out.bas
  refine Calls.mono HP.out ?_
  rintro e w2 ⟨rfl,hB2,c2⟩
  have HB2:Hid (Bas w2 (more X wA w2) d c bb sec n en F T 2 L L):=hB2
  have HI2:Hid (IM w2 m2 M2):=HA.out.im2.same (c2.block _ HA.out.im2.lt HA.out.x2)
  have HI1:Hid (IM w2 m1 M1):=HA.out.im1.same (c2.block _ HA.out.im1.lt HA.out.x1)
  have HBL2:Hid (Below w0.heap.size w0 w2):=c2.to HA.out.bel HA.out.bel.size HA.out.xlo
  have HL1:Hid (Lok w2 w0.heap.size M1):=lok_two HA.out.lk1 HA.out.bel HBL2.out
  have HL2:Hid (Lok w2 w0.heap.size M2):=lok_two HA.out.lk2 HA.out.bel HBL2.out
  have HW2:Hid (∀ X2 n2 e2 T2 L2 N2 k1 k2 K1 K2,(∀ k,X2 k -> more X wA w2 k) -> Bas w2 X2 d c bb sec n2 e2 F T2 2 L2 N2 -> (k1 = m1 ∨ k1 = m2) -> (k2 = m1 ∨ k2 = m2) -> IM w2 k1 K1 -> IM w2 k2 K2 -> Lok w2 w0.heap.size K1 -> Lok w2 w0.heap.size K2 -> (xsOf L2).Perm (xsOf K1) -> (xsOf N2).Perm (xsOf K2) -> Wt w0 w2 X2 d c bb sec n2 e2 F T2 L2 N2 k1 k2 K1 K2):=fun X2 n2 e2 T2 L2 N2 k1 k2 K1 K2 hX hb h1 h2 i1 i2 l1 l2 p1 p2 => by
    have n1:=HA.out.im1.lt
    have n2:=HA.out.im2.lt
    have no:∀ k,(k = m1 ∨ k = m2) -> ¬ X2 k:=fun k hk hx => by
      rcases hk with rfl | rfl
      · exact more_no HA.out.x1 n1 (hX _ hx)
      · exact more_no HA.out.x2 n2 (hX _ hx)
    exact ⟨hb,i1,i2,no _ h1,no _ h2,l1,l2,p1,p2,fun k hk => more_lo HA.out.xlo HA.out.bel.size k (hX k hk),HBL2.out⟩
  clear HP hB2 c2 jA sA
  go_wp2_with fail
  go_ret3
  exact ⟨_,rfl,HW2.out _ _ _ _ _ _ _ _ _ _ (fun _ h => h) HB2.out (Or.inl rfl) (Or.inl rfl) HI1.out HI1.out HL1.out HL1.out HA.out.p1 HA.out.p1⟩
set_option maxRecDepth 100000 in
set_option maxHeartbeats 4000000 in
theorem does_commit (h:Wt w0 w X d c bb sec n en (-1) T L N m1 m2 M1 M2) (x:ItD) (hxo:x.Ok w) (hn:n < 1000) (hsec:sec.size <= 300) (hK:Sm.KB w0) (hL:LB w0) :
    Calls Tryz.prog 37 #[.pointer (some ⟨bb,0,none⟩),.agg #[.int .i64 3,.string x.x.name,.string x.x.tag,.slice x.a x.x.nums.length x.c],.map (some m1),.map (some m2)] w fun e w' => (∃ X',e = .returned (.tuple #[.map (some m2),.map (some m2),.nilIface]) ∧ Wt w0 w' X' d c bb sec (n + 1) en (-1) true N N m2 m2 M2 M2):=by
  obtain ⟨⟨nm,tg,zs⟩,xa,xc⟩:=x
  show Calls Tryz.prog 37 #[.pointer (some ⟨bb,0,none⟩),.agg #[.int .i64 3,.string nm,.string tg,.slice xa zs.length xc],.map (some m1),.map (some m2)] w _
  have sA:=below_alloc w (.cells #[.int .i64 3,.string nm,.string tg,.slice xa zs.length xc] 87)
  have jA:Blk (w.alloc (.cells #[.int .i64 3,.string nm,.string tg,.slice xa zs.length xc] 87)) w.heap.size #[.int .i64 3,.string nm,.string tg,.slice xa zs.length xc] 87:=Blk.new w _ _
  have HA:Hid (Wt w0 (w.alloc (.cells #[.int .i64 3,.string nm,.string tg,.slice xa zs.length xc] 87)) X d c bb sec n en (-1) T L N m1 m2 M1 M2):=h.below sA
  have HXO:Hid (ItD.Ok (w.alloc (.cells #[.int .i64 3,.string nm,.string tg,.slice xa zs.length xc] 87)) ⟨⟨nm,tg,zs⟩,xa,xc⟩):=hxo.below sA
  have hnx:¬ X w.heap.size:=fun hx => by have:=h.bas.lt _ hx;omega
  have hNM:N.length = M2.length:=perm_len h.p2
  have HSW:Hid (w.heap.size <= (w.alloc (.cells #[.int .i64 3,.string nm,.string tg,.slice xa zs.length xc] 87)).heap.size):=sA.size
  clear h hxo
  go_enter Tryz.func37,Tryz.ntmps37
  go_wp2_with fail
  generalize w.alloc (.cells #[.int .i64 3,.string nm,.string tg,.slice xa zs.length xc] 87) = wA at *
  have HP:Hid _:=bas_commit HA.out.bas (by decide) hn hsec (hK.below HA.out.bel) (hL.below HA.out.bel)
  refine Calls.mono HP.out ?_
  rintro e w2 ⟨rfl,hB2,c2⟩
  have HB2:Hid (Bas w2 (more X wA w2) d c bb sec (n + 1) en (-1) true 2 N N):=hB2
  have HI2:Hid (IM w2 m2 M2):=HA.out.im2.same (c2.block _ HA.out.im2.lt HA.out.x2)
  have HI1:Hid (IM w2 m1 M1):=HA.out.im1.same (c2.block _ HA.out.im1.lt HA.out.x1)
  have HBL2:Hid (Below w0.heap.size w0 w2):=c2.to HA.out.bel HA.out.bel.size HA.out.xlo
  have HL1:Hid (Lok w2 w0.heap.size M1):=lok_two HA.out.lk1 HA.out.bel HBL2.out
  have HL2:Hid (Lok w2 w0.heap.size M2):=lok_two HA.out.lk2 HA.out.bel HBL2.out
  have HW2:Hid (∀ X2 n2 e2 T2 L2 N2 k1 k2 K1 K2,(∀ k,X2 k -> more X wA w2 k) -> Bas w2 X2 d c bb sec n2 e2 (-1) T2 2 L2 N2 -> (k1 = m1 ∨ k1 = m2) -> (k2 = m1 ∨ k2 = m2) -> IM w2 k1 K1 -> IM w2 k2 K2 -> Lok w2 w0.heap.size K1 -> Lok w2 w0.heap.size K2 -> (xsOf L2).Perm (xsOf K1) -> (xsOf N2).Perm (xsOf K2) -> Wt w0 w2 X2 d c bb sec n2 e2 (-1) T2 L2 N2 k1 k2 K1 K2):=fun X2 n2 e2 T2 L2 N2 k1 k2 K1 K2 hX hb h1 h2 i1 i2 l1 l2 p1 p2 => by
    have n1:=HA.out.im1.lt
    have n2:=HA.out.im2.lt
    have no:∀ k,(k = m1 ∨ k = m2) -> ¬ X2 k:=fun k hk hx => by
      rcases hk with rfl | rfl
      · exact more_no HA.out.x1 n1 (hX _ hx)
      · exact more_no HA.out.x2 n2 (hX _ hx)
    exact ⟨hb,i1,i2,no _ h1,no _ h2,l1,l2,p1,p2,fun k hk => more_lo HA.out.xlo HA.out.bel.size k (hX k hk),HBL2.out⟩
  clear HP hB2 c2 jA sA hK hL
  go_wp2_with fail
  go_ret3
  exact ⟨_,rfl,HW2.out _ _ _ _ _ _ _ _ _ _ (fun _ h => h) HB2.out (Or.inr rfl) (Or.inr rfl) HI2.out HI2.out HL2.out HL2.out HA.out.p2 HA.out.p2⟩
set_option maxRecDepth 100000 in
set_option maxHeartbeats 4000000 in
theorem does_turn (h:Wt w0 w X d c bb sec n en (-1) T L N m1 m2 M1 M2) (x:ItD) (hxo:x.Ok w) (hn:n < 1000) (he:en < 1000) (hsec:sec.size <= 300) (hK:Sm.KB w0) :
    Calls Tryz.prog 37 #[.pointer (some ⟨bb,0,none⟩),.agg #[.int .i64 4,.string x.x.name,.string x.x.tag,.slice x.a x.x.nums.length x.c],.map (some m1),.map (some m2)] w fun e w' => (∃ X',e = .returned (.tuple #[.map (some m1),.map (some m2),.nilIface]) ∧ Wt w0 w' X' d c bb sec (n + 1) (en + 1) (-1) T L N m1 m2 M1 M2):=by
  obtain ⟨⟨nm,tg,zs⟩,xa,xc⟩:=x
  show Calls Tryz.prog 37 #[.pointer (some ⟨bb,0,none⟩),.agg #[.int .i64 4,.string nm,.string tg,.slice xa zs.length xc],.map (some m1),.map (some m2)] w _
  have sA:=below_alloc w (.cells #[.int .i64 4,.string nm,.string tg,.slice xa zs.length xc] 87)
  have jA:Blk (w.alloc (.cells #[.int .i64 4,.string nm,.string tg,.slice xa zs.length xc] 87)) w.heap.size #[.int .i64 4,.string nm,.string tg,.slice xa zs.length xc] 87:=Blk.new w _ _
  have HA:Hid (Wt w0 (w.alloc (.cells #[.int .i64 4,.string nm,.string tg,.slice xa zs.length xc] 87)) X d c bb sec n en (-1) T L N m1 m2 M1 M2):=h.below sA
  have HXO:Hid (ItD.Ok (w.alloc (.cells #[.int .i64 4,.string nm,.string tg,.slice xa zs.length xc] 87)) ⟨⟨nm,tg,zs⟩,xa,xc⟩):=hxo.below sA
  have hnx:¬ X w.heap.size:=fun hx => by have:=h.bas.lt _ hx;omega
  have hNM:N.length = M2.length:=perm_len h.p2
  have HSW:Hid (w.heap.size <= (w.alloc (.cells #[.int .i64 4,.string nm,.string tg,.slice xa zs.length xc] 87)).heap.size):=sA.size
  clear h hxo
  go_enter Tryz.func37,Tryz.ntmps37
  go_wp2_with fail
  generalize w.alloc (.cells #[.int .i64 4,.string nm,.string tg,.slice xa zs.length xc] 87) = wA at *
  have HP:Hid _:=bas_turn HA.out.bas hn he hsec (hK.below HA.out.bel)
  refine Calls.mono HP.out ?_
  rintro e w2 ⟨rfl,hB2,c2⟩
  have HB2:Hid (Bas w2 (more X wA w2) d c bb sec (n + 1) (en + 1) (-1) T 2 L N):=hB2
  have HI2:Hid (IM w2 m2 M2):=HA.out.im2.same (c2.block _ HA.out.im2.lt HA.out.x2)
  have HI1:Hid (IM w2 m1 M1):=HA.out.im1.same (c2.block _ HA.out.im1.lt HA.out.x1)
  have HBL2:Hid (Below w0.heap.size w0 w2):=c2.to HA.out.bel HA.out.bel.size HA.out.xlo
  have HL1:Hid (Lok w2 w0.heap.size M1):=lok_two HA.out.lk1 HA.out.bel HBL2.out
  have HL2:Hid (Lok w2 w0.heap.size M2):=lok_two HA.out.lk2 HA.out.bel HBL2.out
  have HW2:Hid (∀ X2 n2 e2 T2 L2 N2 k1 k2 K1 K2,(∀ k,X2 k -> more X wA w2 k) -> Bas w2 X2 d c bb sec n2 e2 (-1) T2 2 L2 N2 -> (k1 = m1 ∨ k1 = m2) -> (k2 = m1 ∨ k2 = m2) -> IM w2 k1 K1 -> IM w2 k2 K2 -> Lok w2 w0.heap.size K1 -> Lok w2 w0.heap.size K2 -> (xsOf L2).Perm (xsOf K1) -> (xsOf N2).Perm (xsOf K2) -> Wt w0 w2 X2 d c bb sec n2 e2 (-1) T2 L2 N2 k1 k2 K1 K2):=fun X2 n2 e2 T2 L2 N2 k1 k2 K1 K2 hX hb h1 h2 i1 i2 l1 l2 p1 p2 => by
    have n1:=HA.out.im1.lt
    have n2:=HA.out.im2.lt
    have no:∀ k,(k = m1 ∨ k = m2) -> ¬ X2 k:=fun k hk hx => by
      rcases hk with rfl | rfl
      · exact more_no HA.out.x1 n1 (hX _ hx)
      · exact more_no HA.out.x2 n2 (hX _ hx)
    exact ⟨hb,i1,i2,no _ h1,no _ h2,l1,l2,p1,p2,fun k hk => more_lo HA.out.xlo HA.out.bel.size k (hX k hk),HBL2.out⟩
  clear HP hB2 c2 jA sA hK
  go_wp2_with fail
  go_ret3
  exact ⟨_,rfl,HW2.out _ _ _ _ _ _ _ _ _ _ (fun _ h => h) HB2.out (Or.inl rfl) (Or.inr rfl) HI1.out HI2.out HL1.out HL2.out HA.out.p1 HA.out.p2⟩
set_option maxRecDepth 100000 in
set_option maxHeartbeats 4000000 in
theorem does_other (wh:Int) (h:Wt w0 w X d c bb sec n en F T L N m1 m2 M1 M2) (x:ItD) (hxo:x.Ok w) (h0:(wh == 0) = false) (h1:(wh == 1) = false) (h2:(wh == 2) = false) (h3:(wh == 3) = false) (h4:(wh == 4) = false) :
    Calls Tryz.prog 37 #[.pointer (some ⟨bb,0,none⟩),.agg #[.int .i64 wh,.string x.x.name,.string x.x.tag,.slice x.a x.x.nums.length x.c],.map (some m1),.map (some m2)] w fun e w' => e = .returned (.tuple #[.map (some m1),.map (some m2),.nilIface]) ∧ Wt w0 w' X d c bb sec n en F T L N m1 m2 M1 M2:=by
  obtain ⟨⟨nm,tg,zs⟩,xa,xc⟩:=x
  show Calls Tryz.prog 37 #[.pointer (some ⟨bb,0,none⟩),.agg #[.int .i64 wh,.string nm,.string tg,.slice xa zs.length xc],.map (some m1),.map (some m2)] w _
  have sA:=below_alloc w (.cells #[.int .i64 wh,.string nm,.string tg,.slice xa zs.length xc] 87)
  have jA:Blk (w.alloc (.cells #[.int .i64 wh,.string nm,.string tg,.slice xa zs.length xc] 87)) w.heap.size #[.int .i64 wh,.string nm,.string tg,.slice xa zs.length xc] 87:=Blk.new w _ _
  have HA:Hid (Wt w0 (w.alloc (.cells #[.int .i64 wh,.string nm,.string tg,.slice xa zs.length xc] 87)) X d c bb sec n en F T L N m1 m2 M1 M2):=h.below sA
  have HXO:Hid (ItD.Ok (w.alloc (.cells #[.int .i64 wh,.string nm,.string tg,.slice xa zs.length xc] 87)) ⟨⟨nm,tg,zs⟩,xa,xc⟩):=hxo.below sA
  have hnx:¬ X w.heap.size:=fun hx => by have:=h.bas.lt _ hx;omega
  have hNM:N.length = M2.length:=perm_len h.p2
  have HSW:Hid (w.heap.size <= (w.alloc (.cells #[.int .i64 wh,.string nm,.string tg,.slice xa zs.length xc] 87)).heap.size):=sA.size
  clear h hxo
  go_enter Tryz.func37,Tryz.ntmps37
  go_wp2_with fail
  go_ret3
  exact ⟨rfl,HA.out⟩
end
end Go.Proofs.YtjmpjfikcgccdaaGreatDoor.Bs
