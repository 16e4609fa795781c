/-
  Part of the proof of BaseWaitsCard (BA20 and on).
-/
import Derived.Test.YtjmpjfikcgccdaaGreatDoorB36
namespace Go.Proofs.YtjmpjfikcgccdaaGreatDoor.Bs
open Go.RowKit Go.Shelf Go.Maps
open It Nr Ce Vt
section
variable {w:World} {X:Nat -> Prop} {d c bb:Nat} {sec:ByteArray} {n en:Nat} {F:Int} {T:Bool} {dim:Int} {L N:List ItD}
theorem bas_commit_no (h:Bas w X d c bb sec n en F T 0 L N) :
    Calls Tryz.prog 23 #[.pointer (some ⟨bb,0,none⟩)] w fun e w' => e = .returned (.iface 34 (.int .i64 6)) ∧ w' = w:=by
  have HD:Hid _:=bas_dim h
  clear h
  go_enter Tryz.func23,Tryz.ntmps23
  go_wp2_with fail
  refine Calls.mono HD.out ?_
  rintro e w2 ⟨rfl,hw⟩
  obtain rfl:w = w2:=hw.symm
  go_wp2_with fail
  go_ret
  exact ⟨rfl,rfl⟩
set_option maxRecDepth 100000 in
set_option maxHeartbeats 4000000 in
theorem bas_commit (h:Bas w X d c bb sec n en (-1) T dim L N) (hd:1 <= dim) (hn:n < 1000) (hsec:sec.size <= 300) (hK:Sm.KB w) (hL:LB w) :
    Calls Tryz.prog 23 #[.pointer (some ⟨bb,0,none⟩)] w fun e w' => e = .returned .nilIface ∧ Bas w' (more X w w') d c bb sec (n + 1) en (-1) true dim N N ∧ Dv.Chg w w' X:=by
  obtain ⟨Y,Z,vb,p,mt,mn,pc,h1,h2,h3,h4,h5⟩:=h.ex
  have hd':(dim == 0) = false:=by rw [beq_eq_false_iff_ne];omega
  have hd8:1 <= dim ∧ dim <= 8:=by rcases h.dm with h6 | h6 <;> omega
  have hz:∀ k,Z k -> k < w.heap.size:=fun k hk => h.lt k (h4 k (Or.inr (Or.inl hk)))
  have HD:Hid _:=bas_dim h
  have HV:Hid (Vs w Y d c vb sec n en p (-1)):=h1
  have HB:Hid (Bse w Z bb vb dim L N mt mn pc):=h2
  have HH:Hid (Bas w X d c bb sec n en (-1) T dim L N):=h
  have H3:Hid (∀ k,Y k -> ¬ Z k ∧ k ≠ bb ∧ k ≠ mn):=h3
  have H4:Hid (∀ k,Y k ∨ Z k ∨ k = bb ∨ k = mn -> X k):=h4
  have HL:Hid (LB w):=hL
  have HK:Hid (Sm.KB w):=hK
  have HZ:Hid (∀ k,Z k -> k < w.heap.size):=hz
  have HD8:Hid (1 <= dim ∧ dim <= 8):=hd8
  have hN60:N.length <= 60:=h2.okN.2
  have HRS:Hid (∀ W,Below w.heap.size w W -> Calls Tryz.prog 67 #[.map (some mn)] W fun e w' => ∃ v,e = .returned v ∧ w'.ownsRow W.heap.size 45 3 v N.length (flatI (srtI N)) ∧ Below W.heap.size W w'):=fun W hW => rising_any mn N (okl_name h2.okN) (by omega) W (h2.next.below hW h2.next.lt)
  clear h h1 h2 h3 h4 h5 hL hK hz hd8
  go_enter Tryz.func23,Tryz.ntmps23
  go_wp2_with fail
  refine Calls.mono HD.out ?_
  rintro e w2 ⟨rfl,hw⟩
  obtain rfl:w = w2:=hw.symm
  clear hw HD
  go_wp2_with fail
  have s0:Below w.heap.size w w.drew:=below_drewN (Below.refl _ _) 1
  refine regS_in 15 (fun W => Below w.heap.size w W) Nr.mixed rfl ?_
  generalize w.drew = wd at *
  refine regS_take 0 11 (.pointer (some ⟨bb,0,none⟩)) rfl rfl (by kernel_rfl) (fun _ _ _ h => h) (by kernel_rfl) (fun W hW => by go_simp) s0 ?_
  refine regS_take 1 12 (.pointer (some ⟨bb,0,none⟩)) rfl rfl (by kernel_rfl) (fun _ _ _ h => h) (by kernel_rfl) (fun W hW => by go_simp) s0 ?_
  refine regS_take 2 13 (.pointer (some ⟨bb,1,none⟩)) rfl rfl (by kernel_rfl) (fun _ _ _ h => h) (by kernel_rfl) (fun W hW => by go_simp) s0 ?_
  refine regS_take 3 14 (.int .i64 dim) rfl rfl (by kernel_rfl) (fun _ _ _ h => h) (by kernel_rfl) (fun W hW => by have a0:=(HB.out.blk.below hW HB.out.blk.lt).cell 1;go_simp) s0 ?_
  refine regS_take 4 15 (.pointer (some ⟨bb,0,none⟩)) rfl rfl (by kernel_rfl) (fun _ _ _ h => h) (by kernel_rfl) (fun W hW => by go_simp) s0 ?_
  refine regS_take 5 16 (.pointer (some ⟨bb,0,none⟩)) rfl rfl (by kernel_rfl) (fun _ _ _ h => h) (by kernel_rfl) (fun W hW => by go_simp) s0 ?_
  refine regS_take 6 17 (.pointer (some ⟨bb,3,none⟩)) rfl rfl (by kernel_rfl) (fun _ _ _ h => h) (by kernel_rfl) (fun W hW => by go_simp) s0 ?_
  refine regS_take 7 18 (.map (some mn)) rfl rfl (by kernel_rfl) (fun _ _ _ h => h) (by kernel_rfl) (fun W hW => by have a0:=(HB.out.blk.below hW HB.out.blk.lt).cell 3;go_simp) s0 ?_
  simp only [Act.put,List.setIfInBounds_toArray,List.set_cons_succ,List.set_cons_zero]
  refine regS_one 8 rfl (by kernel_rfl) (by kernel_rfl) (fun K hK => ?_)
  have HKK:Hid _:=hK
  clear hK
  go_wp2_with fail
  refine Calls.mono (HRS.out _ s0) ?_
  rintro e w3 ⟨v,rfl,ho,g3⟩
  have s3:=s0.trans (g3.mono s0.size)
  refine HKK.out _ _ s3 ?_
  have hok3:Okl w3 Z dim N:=HB.out.okN.same (fun k hk => s3.block k (HZ.out k hk))
  obtain ⟨av,cv,rfl,hI⟩:=okl_its hok3 ho
  have hxl:(srtI N).length = N.length:=srtI_len N
  have hpr:=print_any dim av cv (srtI N) w3 hI (by rw [hxl];unfold maxLen;omega) (HL.out.below s3)
  rw [printV_yes (okB_srt HD8.out hN60 HB.out.next.nodup (fun x hx => (HB.out.okN.1 x hx).2.1)),hxl] at hpr
  have HPR:Hid _:=hpr
  obtain ⟨l,hl⟩:∃ l,textS dim (xsOf (srtI N)) = l:=⟨_,rfl⟩
  rw [hl] at HPR
  have HTX:Hid (textS dim (xsOf (srtI N)) = l):=hl
  clear HKK K HRS ho hI hpr s0 g3 hok3 hl
  refine regS_one 9 rfl (by kernel_rfl) (by kernel_rfl) (fun K hK => ?_)
  have HKK:Hid _:=hK
  clear hK
  go_wp2_with fail
  refine Calls.mono HPR.out ?_
  rintro e w4 ⟨rfl,g4⟩
  have s4:=s3.trans (g4.mono s3.size)
  refine HKK.out _ _ s4 ?_
  clear HKK K HPR s3 g4
  refine regS_take 10 10 (.tuple #[.string (ba l),.nilIface]) rfl rfl (by kernel_rfl) (fun _ _ _ h => h) (by kernel_rfl) (fun W hW => by go_simp) s4 ?_
  refine regS_take 11 21 (.string (ba l)) rfl rfl (by kernel_rfl) (fun _ _ _ h => h) (by kernel_rfl) (fun W hW => by go_simp) s4 ?_
  refine regS_take 12 22 .nilIface rfl rfl (by kernel_rfl) (fun _ _ _ h => h) (by kernel_rfl) (fun W hW => by go_simp) s4 ?_
  refine regS_take 13 3 (.string (ba l)) rfl rfl (by kernel_rfl) (fun _ _ _ h => h) (by kernel_rfl) (fun W hW => by go_simp) s4 ?_
  refine regS_take 14 4 .nilIface rfl rfl (by kernel_rfl) (fun _ _ _ h => h) (by kernel_rfl) (fun W hW => by go_simp) s4 ?_
  refine regS_end (by kernel_rfl) ?_
  simp only [Act.put,List.setIfInBounds_toArray,List.set_cons_succ,List.set_cons_zero]
  have HB4:Hid (Bse w4 Z bb vb dim L N mt mn pc):=HB.out.same (fun k hk => s4.block k (by
    rcases hk with hk | rfl | rfl
    · exact HZ.out k hk
    · exact HB.out.blk.lt
    · exact HB.out.next.lt))
  have HV4:Hid (Vs w4 Y d c vb sec n en p (-1)):=HV.out.below s4
  have HS4:Hid (Below w.heap.size w w4):=s4
  have HPG:Hid (∀ W,Calls Tryz.prog 69 #[.string (ba l)] W fun e w' => (e = .returned (.map (some W.heap.size)) ∧ MapF Tryz.prog w' W.heap.size 32 (sv (pgG l 32))) ∧ Below W.heap.size W w'):=fun W => pgs_any (ba l) W
  have hyb:¬ Y bb:=fun hy => (H3.out bb hy).2.1 rfl
  clear s4
  go_wp2_with fail
  have s0:Dv.Chg w4 w4.drew Y:=(Dv.Chg.refl _ _).drewN 1
  have b0:Below w4.heap.size w4 w4.drew:=below_drewN (Below.refl _ _) 1
  refine regS_in 8 (fun W => Dv.Chg w4 W Y) Nr.mixed rfl ?_
  generalize w4.drew = we at *
  refine regS_take 0 26 (.pointer (some ⟨bb,0,none⟩)) rfl rfl (by kernel_rfl) (fun _ _ _ h => h) (by kernel_rfl) (fun W hW => by go_simp) s0 ?_
  refine regS_take 1 27 (.pointer (some ⟨bb,0,none⟩)) rfl rfl (by kernel_rfl) (fun _ _ _ h => h) (by kernel_rfl) (fun W hW => by go_simp) s0 ?_
  refine regS_take 2 28 (.pointer (some ⟨bb,0,none⟩)) rfl rfl (by kernel_rfl) (fun _ _ _ h => h) (by kernel_rfl) (fun W hW => by go_simp) s0 ?_
  refine regS_take 3 29 (.pointer (some ⟨vb,0,none⟩)) rfl rfl (by kernel_rfl) (fun _ _ _ h => h) (by kernel_rfl) (fun W hW => by have a0:=(HB4.out.blk.chg hW hyb).cell 0;go_simp) s0 ?_
  refine regS_take 4 30 (.string (ba l)) rfl rfl (by kernel_rfl) (fun _ _ _ h => h) (by kernel_rfl) (fun W hW => by go_simp) s0 ?_
  simp only [Act.put,List.setIfInBounds_toArray,List.set_cons_succ,List.set_cons_zero]
  refine regS_one 5 rfl (by kernel_rfl) (by kernel_rfl) (fun K hK => ?_)
  have HKK:Hid _:=hK
  clear hK
  go_wp2_with fail
  refine Calls.mono (HPG.out we) ?_
  rintro e w5 ⟨⟨rfl,hM⟩,g5⟩
  have b5:=b0.trans (g5.mono b0.size)
  refine HKK.out _ _ (Dv.Chg.of b5 _) ?_
  have HV5:Hid (Vs w5 Y d c vb sec n en p (-1)):=HV4.out.below b5
  have hk5:Sm.KB w5:=(HK.out.below HS4.out).below b5
  obtain ⟨ms,hms⟩:∃ ms,we.heap.size = ms:=⟨_,rfl⟩
  rw [hms] at hM ⊢
  have HTE:Hid _:=vs_tell w5 Y d c vb sec n en p (.map (some ms)) (pgG l 32) HV5.out (Or.inr ⟨_,rfl,hM⟩) (fun i s h => pgG_some h) hn hsec hk5
  have HB5':Hid (Below w4.heap.size w4 w5):=b5
  clear HKK K HPG hM hk5 s0 b0 g5 b5 hms
  refine regS_one 6 rfl (by kernel_rfl) (by kernel_rfl) (fun K hK => ?_)
  have HKK:Hid _:=hK
  clear hK
  go_wp2_with fail
  refine Calls.mono HTE.out ?_
  rintro e w6 ⟨rfl,hV6,c6⟩
  have s6:Dv.Chg w4 w6 Y:=(Dv.Chg.of HB5'.out _).trans c6
  refine HKK.out _ _ s6 ?_
  have HV6:Hid _:=hV6
  clear HKK K HTE hV6
  refine regS_take 7 5 .nilIface rfl rfl (by kernel_rfl) (fun _ _ _ h => h) (by kernel_rfl) (fun W hW => by go_simp) s6 ?_
  refine regS_end (by kernel_rfl) ?_
  simp only [Act.put,List.setIfInBounds_toArray,List.set_cons_succ,List.set_cons_zero]
  have hYn:∀ k,(Z k ∨ k = bb ∨ k = mn) -> ¬ Y k:=fun k hk hy => by
    have:=H3.out k hy
    rcases hk with h | h | h
    · exact this.1 h
    · exact this.2.1 h
    · exact this.2.2 h
  have hl4:∀ k,(Z k ∨ k = bb ∨ k = mn) -> k < w4.heap.size:=fun k hk => by
    have:=HS4.out.size
    have:k < w.heap.size:=HH.out.lt k (H4.out k (Or.inr hk))
    omega
  have HB6:Hid (Bse w6 Z bb vb dim L N mt mn pc):=HB4.out.same (fun k hk => s6.block k (hl4 k hk) (hYn k hk))
  have hb6:Dv.Chg w4 w6 Y:=s6
  have HC6:Hid (Dv.Chg w4 w6 Y):=s6
  have HYN:Hid (∀ k,(Z k ∨ k = bb ∨ k = mn) -> ¬ Y k):=hYn
  have HL4:Hid (∀ k,(Z k ∨ k = bb ∨ k = mn) -> k < w4.heap.size):=hl4
  have HC56:Hid (Dv.Chg w5 w6 Y):=c6
  have HBC:Hid (∀ W,Dv.Chg w6 W (fun _ => False) -> Calls Tryz.prog 54 #[.pointer (some ⟨bb,0,none⟩),.int .i64 dim,.map (some mn)] W fun e w' => e = .returned (.tuple #[]) ∧ (∃ mn' pc',Bse w' (fun k => more (fun k => Z k ∨ k = mn) W w' k ∧ k ≠ mn') bb vb dim N N mn mn' pc' ∧ W.heap.size <= mn' ∧ mn' < w'.heap.size) ∧ Dv.Chg W w' (fun k => k = bb)):=fun W hW => by
    have hB:=HB6.out.same (w':=W) (fun k hk => hW.block k (by have:=HL4.out k hk;have:=HC6.out.size;omega) (fun h => h))
    refine become_any bb vb mn dim _ _ _ _ N (fun k => Z k ∨ k = mn) W hB.blk hB.next (hB.okN.mono fun k hk => Or.inl hk) (fun hx => ?_) (Or.inr rfl) (fun k hk => ?_)
    · rcases hx with hx | hx
      · exact hB.zb hx
      · exact im_ne hB.next hB.blk hx.symm
    · have h7:=HL4.out k (hk.elim Or.inl fun h => Or.inr (Or.inr h))
      have h8:=HC6.out.size
      have h9:=hW.size
      omega
  clear s6 c6 hYn hl4 hb6
  go_wp2_with fail
  have s0:Dv.Chg w6 w6.drew (fun _ => False):=(Dv.Chg.refl _ _).drewN 1
  have hyF:¬ (fun _:Nat => False) bb:=fun h => h
  have a1:=(HB6.out.blk.chg s0 hyF).cell 1
  have a3:=(HB6.out.blk.chg s0 hyF).cell 3
  refine region_s [(0,true),(1,true),(2,true),(3,true),(4,false),(5,true),(6,true),(7,true),(8,false)] [] [9] (fun W => W = w6.drew) Nr.mixed (by kernel_rfl) (fun _ _ _ _ _ h => h) rfl ?_
  generalize w6.drew = wf at *
  refine lead_pure _ rfl _ rfl rfl (.pointer (some ⟨bb,0,none⟩)) (fun w' => by go_simp) ?_
  refine lead_pure _ rfl _ rfl rfl (.pointer (some ⟨bb,0,none⟩)) (fun w' => by go_simp) ?_
  refine lead_pure _ rfl _ rfl rfl (.pointer (some ⟨bb,0,none⟩)) (fun w' => by go_simp) ?_
  refine lead_pure _ rfl _ rfl rfl (.pointer (some ⟨bb,1,none⟩)) (fun w' => by go_simp) ?_
  refine lead_read _ rfl _ rfl rfl (.int .i64 dim) (fun w' hS => by subst hS;go_simp) ?_
  refine lead_pure _ rfl _ rfl rfl (.pointer (some ⟨bb,0,none⟩)) (fun w' => by go_simp) ?_
  refine lead_pure _ rfl _ rfl rfl (.pointer (some ⟨bb,0,none⟩)) (fun w' => by go_simp) ?_
  refine lead_pure _ rfl _ rfl rfl (.pointer (some ⟨bb,3,none⟩)) (fun w' => by go_simp) ?_
  refine lead_read _ rfl _ rfl rfl (.map (some mn)) (fun w' hS => by subst hS;go_simp) ?_
  simp only [lead_nil_eq]
  simp only [Act.put,List.setIfInBounds_toArray,List.set_cons_succ,List.set_cons_zero]
  simp only [mid_nil_eq]
  simp only [List.filterMap_cons,List.getElem?_toArray,List.getElem?_cons_succ,List.getElem?_cons_zero,List.filterMap_nil]
  clear a1 a3
  go_wp2_with fail
  refine Calls.mono (HBC.out _ s0) ?_
  rintro e w7 ⟨rfl,⟨mn',pc',hB7,q1,q2⟩,c7⟩
  have HB7:Hid _:=hB7
  clear hB7 HBC
  go_wp2_with fail
  go_ret
  have hh:=HH.out
  have z4:=HS4.out.size
  have z5:=HB5'.out.size
  have z6:=HC56.out.size
  have zf:=s0.size
  have z7:=c7.size
  have c67:Dv.Chg w6 w7 (fun k => k = bb):=(s0.mono (fun _ _ h => h.elim)).trans c7
  have hbl:=HL4.out bb (Or.inr (Or.inl rfl))
  have hml:=HL4.out mn (Or.inr (Or.inr rfl))
  refine ⟨rfl,⟨⟨more Y w5 w6,_,vb,_,mn,mn',pc',HV6.out.chg c67 (fun k hk e => ?_),HB7.out,fun k hk => ?_,fun k hk => ?_,?_⟩,fun k hk => ?_,Or.inl HD8.out,fun _ => HD8.out,fun e => by cases e⟩,?_⟩
  · subst e
    rcases hk with hk | hk
    · exact HYN.out k (Or.inr (Or.inl rfl)) hk
    · omega
  · rcases hk with hk | hk
    · have hk4:=HV4.out.lt k hk
      refine ⟨fun hz => ?_,fun e => HYN.out k (Or.inr (Or.inl e)) hk,fun e => by omega⟩
      rcases hz.1 with (hz | hz) | hz
      · exact HYN.out k (Or.inl hz) hk
      · exact HYN.out k (Or.inr (Or.inr hz)) hk
      · omega
    · refine ⟨fun hz => ?_,fun e => by omega,fun e => by omega⟩
      rcases hz.1 with (hz | hz) | hz
      · have:=HL4.out k (Or.inl hz);omega
      · omega
      · omega
  · rcases hk with (hk | hk) | hk | hk | hk
    · exact Or.inl (H4.out k (Or.inl hk))
    · exact Or.inr ⟨by omega,by omega⟩
    · rcases hk.1 with (hk | hk) | hk
      · exact Or.inl (H4.out k (Or.inr (Or.inl hk)))
      · exact Or.inl (H4.out k (Or.inr (Or.inr (Or.inr hk))))
      · exact Or.inr ⟨by omega,by omega⟩
    · exact Or.inl (H4.out k (Or.inr (Or.inr (Or.inl hk))))
    · exact Or.inr ⟨by omega,by omega⟩
  · unfold tx
    rw [if_pos rfl,HTX.out]
    exact says_tel _ l _
  · rcases hk with hk | hk
    · have:=hh.lt k hk;omega
    · exact hk.2
  · have h1:Dv.Chg w w4 X:=Dv.Chg.of HS4.out _
    have h2:Dv.Chg w4 w6 X:=HC6.out.mono fun k _ hk => H4.out k (Or.inl hk)
    have h3:Dv.Chg w6 w7 X:=c67.mono fun k _ hk => H4.out k (Or.inr (Or.inr (Or.inl hk)))
    exact (h1.trans h2).trans h3
end
end Go.Proofs.YtjmpjfikcgccdaaGreatDoor.Bs
namespace Go.Proofs.YtjmpjfikcgccdaaGreatDoor.Bs
open Go.RowKit Go.Shelf Go.Maps
open It Nr Ce Vt
theorem noI_none {L:List ItD} {s:ByteArray} (h:s ∉ nm L):noI L s = L:=by
  unfold noI
  rw [List.filter_eq_self]
  intro d hd
  simp
  intro e
  exact h (List.mem_map.2 ⟨d,hd,e⟩)
theorem nm_take {ds:List ItD} (h:(nm ds).Nodup) {k:Nat} {x:ItD} (hx:ds[k]? = some x):x.x.name ∉ nm (ds.take k).reverse:=by
  intro hm
  unfold nm at hm
  rw [List.map_reverse,List.mem_reverse] at hm
  obtain ⟨d,hd,e⟩:=List.mem_map.1 hm
  obtain ⟨i,hi⟩:=List.getElem?_of_mem hd
  rw [List.getElem?_take] at hi
  split at hi
  · rename_i hik
    unfold nm List.Nodup at h
    rw [List.pairwise_map] at h
    obtain ⟨h1,e1⟩:=List.getElem?_eq_some_iff.1 hi
    obtain ⟨h2,e2⟩:=List.getElem?_eq_some_iff.1 hx
    have:=List.pairwise_iff_getElem.1 h i k h1 h2 hik
    rw [e1,e2] at this
    exact this e
  · cases hi
theorem put_take {ds:List ItD} (h:(nm ds).Nodup) {k:Nat} {x:ItD} (hx:ds[k]? = some x):putI (ds.take k).reverse x = (ds.take (k + 1)).reverse:=by
  unfold putI
  rw [noI_none (nm_take h hx),List.take_add_one,hx,Option.toList_some,List.reverse_append]
  rfl
set_option maxRecDepth 100000 in
set_option maxHeartbeats 2000000 in
theorem byName_any (a:Option Addr) (c:Nat) (ds:List ItD) (w:World) (h:Its w a ds) (hn:(nm ds).Nodup) (hl:ds.length <= 60) (hs:∀ d ∈ ds,d.x.name.size <= maxLen) :
    Calls Tryz.prog 56 #[.slice a ds.length c] w fun e w' => (e = .returned (.map (some w.heap.size)) ∧ IM w' w.heap.size ds) ∧ Below w.heap.size w w':=by
  have hmk:=mkPoints w
  have m0:=im_made w
  have g0:=below_alloc w (.map #[] 0)
  have HI:Hid (Its w a ds):=h
  have HN:Hid ((nm ds).Nodup):=hn
  have HS:Hid (∀ d ∈ ds,d.x.name.size <= maxLen):=hs
  clear h hn hs
  go_enter Tryz.func56,Tryz.ntmps56
  go_wp2_with fail
  generalize w.alloc (.map #[] 0) = w0 at *
  obtain ⟨tm,htm⟩:∃ tm,Hid (w.heap.size = tm):=⟨_,rfl⟩
  rw [htm.out] at m0
  rw [htm.out]
  clear hmk
  go_loopw [9] (fun i wr => ∃ k:Nat,k <= ds.length ∧ i = .int .i64 k ∧ Hid (IM wr tm (ds.take k).reverse) ∧ Hid (Below w.heap.size w wr)) (fun i _ => ds.length - (intOf i).toNat)
  case atStart => exact ⟨0,by omega,rfl,m0,g0⟩
  case round =>
    clear m0 g0
    obtain ⟨k,hk,rfl,HM,HB⟩:=hrel
    by_cases hlt:k < ds.length
    · have hlt':(k:Int) < (ds.length:Int):=by omega
      have hr:=HI.out.below HB.out
      obtain ⟨x,hx⟩:∃ x,ds[k]? = some x:=⟨_,List.getElem?_eq_getElem hlt⟩
      obtain ⟨g,o,rfl,q1,q2,q3,q4⟩:=hr k x hx
      have HX:Hid (ds[k]? = some x):=hx
      have HPT:Hid (putI (ds.take k).reverse x = (ds.take (k + 1)).reverse):=put_take HN.out hx
      have HNS:Hid (x.x.name.size <= maxLen):=HS.out x (List.mem_of_getElem? hx)
      obtain ⟨⟨nm,tg,zs⟩,xa,xc⟩:=x
      simp only [ItD.val] at q1 q2 q3
      have s1:=below_alloc wr (.cells #[.string nm,.string tg,.slice xa zs.length xc] 45)
      have hkl:(ds.take k).reverse.length < maxLen:=by rw [List.length_reverse,List.length_take];unfold maxLen;omega
      have HM2:Hid (IM _ tm (ds.take k).reverse):=HM.out.below s1 HM.out.lt
      obtain ⟨w3,hrun,hM3,hu3⟩:=HM2.out.store pt45 hkl ⟨⟨nm,tg,zs⟩,xa,xc⟩ HNS.out
      have hrun2:(Instr.mapUpdate 128 (.map (some tm)) (.string nm) (.agg #[.string nm,.string tg,.slice xa zs.length xc])).run Tryz.prog (wr.alloc (.cells #[.string nm,.string tg,.slice xa zs.length xc] 45)) = .ok () w3:=hrun
      clear hx hr q4 hrun
      go_wp2_with fail
      rw [HPT.out] at hM3
      exact ⟨⟨k + 1,by omega,by go_num,hM3,below_upd (HB.out.trans (s1.mono HB.out.size)) hu3 (by have:=htm.out;omega)⟩,by simp [intOf];omega⟩
    · have hk':k = ds.length:=by omega
      subst hk'
      go_wp2_with fail
      go_ret
      refine ⟨⟨by rw [<- htm.out];rfl,?_⟩,HB.out⟩
      have hm:=HM.out
      rw [List.take_length] at hm
      rw [htm.out]
      exact hm.congr (List.reverse_perm ds)
theorem buildBase (vb:Nat) (w:World):(Instr.build 131 #[(0,.pointer (some ⟨vb,0,none⟩))]).run Tryz.prog w = .ok (.agg #[.pointer (some ⟨vb,0,none⟩),.int .i64 0,.map none,.map none,.pointer none]) w:=run_build w 131 _ _ (by kernel_rfl)
structure Dsk (w:World) (O:Nat -> Prop) (d c:Nat) (sec:ByteArray) (n en:Nat) (p:Int -> Option (Int × ByteArray)) (F:Int):Prop where
  ex:∃ S v lf f,Dv.Dev w O d S [] F v lf ∧ TldE S sec n en f p
  cnt:Dv.Cnt w c (n:Int)
  lt:∀ k,O k -> k < w.heap.size
  oc:¬ O c
theorem vopen_any (w:World) (O:Nat -> Prop) (d c:Nat) (sec:ByteArray) (n en:Nat) (p:Int -> Option (Int × ByteArray)) (F:Int) (h:Dsk w O d c sec n en p F) (hsec:sec.size = 16) (hK:Sm.KB w) :
    Calls Tryz.prog 52 #[.pointer (some ⟨d,0,none⟩),.pointer (some ⟨c,0,none⟩),.string sec] w fun e w' => (∃ VB,e = .returned (.tuple #[.pointer (some ⟨VB,0,none⟩),.nilIface]) ∧ Vs w' (fun k => O k ∨ k = c ∨ (w.heap.size <= k ∧ k < w'.heap.size)) d c VB sec n en p F) ∧ Below w.heap.size w w':=by
  obtain ⟨S,v,lf,f,hD,hT⟩:=h.ex
  refine (openE d c O S v lf F sec n en f p w hD h.cnt hsec hK hT).mono ?_
  rintro e w' ⟨⟨VB,CB,n',f',r,rfl,k1,k2,k3,k4,k5⟩,g⟩
  have hcl:=h.cnt.lt
  have hvl:=k1.blk.lt
  have hml:=k1.map.lt
  refine ⟨⟨VB,rfl,⟨O,S,v,lf,f',r,CB,n',k1,hD.below g,h.cnt.below g hcl,k2,k5,fun k hk => Or.inl hk,fun hk => ?_,h.oc,by omega,Or.inr (Or.inr ⟨k4,hml⟩)⟩,Or.inr (Or.inr ⟨k3,hvl⟩),Or.inr (Or.inl rfl),fun k hk => ?_⟩,g⟩
  · have:=h.lt _ hk;omega
  · have:=g.size
    rcases hk with hk | rfl | hk
    · have:=h.lt _ hk;omega
    · omega
    · exact hk.2
set_option maxRecDepth 100000 in
set_option maxHeartbeats 2000000 in
theorem open_none (w:World) (O:Nat -> Prop) (d c:Nat) (sec:ByteArray) (n en:Nat) (p:Int -> Option (Int × ByteArray)) (F:Int) (h:Dsk w O d c sec n en p F) (hS:Says p []) (hsec:sec.size = 16) (hK:Sm.KB w) :
    Calls Tryz.prog 12 #[.pointer (some ⟨d,0,none⟩),.pointer (some ⟨c,0,none⟩),.string sec] w fun e w' => (∃ bb X,e = .returned (.tuple #[.pointer (some ⟨bb,0,none⟩),.nilIface]) ∧ Bas w' X d c bb sec n en F false 0 [] [] ∧ ∀ k,X k -> O k ∨ k = c ∨ w.heap.size <= k) ∧ Below w.heap.size w w':=by
  have HV:Hid _:=vopen_any w O d c sec n en p F h hsec hK
  have hcl:=h.cnt.lt
  have hOlt:Hid (∀ k,O k -> k < w.heap.size):=h.lt
  clear h hK
  go_enter Tryz.func12,Tryz.ntmps12
  go_wp2_with fail
  refine Calls.mono HV.out ?_
  rintro e w1 ⟨⟨VB,rfl,hV⟩,g1⟩
  obtain ⟨O',S,v,lf,f,r,mb,nn,hVl,_⟩:=hV.ex
  have HSD:Hid _:=said_any VB d c sec _ _ _ _ _ _ _ _ [] w1 hVl hS (Nat.zero_le _)
  have HV1:Hid (Vs w1 (fun k => O k ∨ k = c ∨ (w.heap.size <= k ∧ k < w1.heap.size)) d c VB sec n en p F):=hV
  have HG1:Hid (Below w.heap.size w w1):=g1
  clear HV hV g1 hVl
  go_wp2_with fail
  refine Calls.mono HSD.out ?_
  rintro e w2 ⟨rfl,g2⟩
  have HV2:Hid _:=HV1.out.below g2
  have HG2:Hid (Below w.heap.size w w2):=HG1.out.trans (g2.mono HG1.out.size)
  have z12:w1.heap.size <= w2.heap.size:=g2.size
  have hbb:=buildBase VB w2
  have hemp:(ba []).toList = []:=by rw [Lib.toList_data];rfl
  clear HSD HV1 g2
  have s3:=below_alloc w2 (.cells #[.pointer (some ⟨VB,0,none⟩),.int .i64 0,.map none,.map none,.pointer none] 131)
  have j3:Blk (w2.alloc (.cells #[.pointer (some ⟨VB,0,none⟩),.int .i64 0,.map none,.map none,.pointer none] 131)) w2.heap.size #[.pointer (some ⟨VB,0,none⟩),.int .i64 0,.map none,.map none,.pointer none] 131:=Blk.new w2 _ _
  have Z3:Hid ((w2.alloc (.cells #[.pointer (some ⟨VB,0,none⟩),.int .i64 0,.map none,.map none,.pointer none] 131)).heap.size = w2.heap.size + 1):=by unfold Hid;simp
  have HV3:Hid _:=HV2.out.below s3
  have HG3:Hid (Below w.heap.size w (w2.alloc (.cells #[.pointer (some ⟨VB,0,none⟩),.int .i64 0,.map none,.map none,.pointer none] 131))):=HG2.out.trans (s3.mono HG2.out.size)
  have hmk:=mkPoints (w2.alloc (.cells #[.pointer (some ⟨VB,0,none⟩),.int .i64 0,.map none,.map none,.pointer none] 131))
  clear s3 HV2
  go_wp2_with fail
  generalize w2.alloc (.cells #[.pointer (some ⟨VB,0,none⟩),.int .i64 0,.map none,.map none,.pointer none] 131) = w3 at *
  have s4:=below_alloc w3 (.map #[] 0)
  have j4:=j3.below s4 j3.lt
  have m4:=im_made w3
  have Z4:Hid ((w3.alloc (.map #[] 0)).heap.size = w3.heap.size + 1):=by unfold Hid;simp
  have HV4:Hid _:=HV3.out.below s4
  have HG4:Hid (Below w.heap.size w (w3.alloc (.map #[] 0))):=HG3.out.trans (s4.mono HG3.out.size)
  have HBC:Hid _:=become_any w2.heap.size VB w3.heap.size 0 (.int .i64 0) (.map none) (.map none) (.pointer none) [] (fun k => k = w3.heap.size) (w3.alloc (.map #[] 0)) j4 m4 (okl_nil _ _ _) (by have:=Z3.out;omega) rfl (fun k hk => by have:=Z4.out;omega)
  clear j3 s4 j4 m4 hmk HV3 HG3
  rw [<- Z3.out]
  refine Calls.mono HBC.out ?_
  rintro e w5 ⟨rfl,⟨mn,pc,hB5,q1,q2⟩,c5⟩
  have HB5:Hid _:=hB5
  clear hB5 HBC
  go_wp2_with fail
  go_ret2
  have z01:=HG1.out.size
  have z3:=Z3.out
  have z4:=Z4.out
  have z02:=HG2.out.size
  have z5:=c5.size
  have hO:∀ k,(O k ∨ k = c ∨ (w.heap.size <= k ∧ k < w1.heap.size)) -> k < w2.heap.size:=fun k hk => by
    have:=HV4.out.lt k hk
    rcases hk with hk | hk | hk
    · have:=hOlt.out k hk;omega
    · omega
    · omega
  refine ⟨⟨w2.heap.size,fun k => (O k ∨ k = c ∨ (w.heap.size <= k ∧ k < w1.heap.size)) ∨ (w2.heap.size <= k ∧ k < w5.heap.size),rfl,⟨⟨_,_,VB,p,w3.heap.size,mn,pc,HV4.out.chg c5 (fun k hk e => by have:=hO k hk;omega),HB5.out,fun k hk => ?_,fun k hk => ?_,hS⟩,fun k hk => ?_,Or.inr ⟨rfl,rfl,rfl⟩,fun e => (by cases e),fun _ => rfl⟩,fun k hk => ?_⟩,?_⟩
  · have h1:=hO k hk
    refine ⟨fun hz => ?_,by omega,by omega⟩
    rcases hz.1 with hz | hz
    · omega
    · omega
  · rcases hk with hk | hk | hk | hk
    · exact Or.inl hk
    · rcases hk.1 with h1 | h1
      · exact Or.inr ⟨by omega,by omega⟩
      · exact Or.inr ⟨by omega,by omega⟩
    · exact Or.inr ⟨by omega,by omega⟩
    · exact Or.inr ⟨by omega,by omega⟩
  · rcases hk with hk | hk
    · have:=hO k hk;omega
    · exact hk.2
  · rcases hk with (hk | hk | hk) | hk
    · exact Or.inl hk
    · exact Or.inr (Or.inl hk)
    · exact Or.inr (Or.inr hk.1)
    · exact Or.inr (Or.inr (by omega))
  · exact c5.to HG4.out HG4.out.size (fun k hk => by omega)
theorem linesS_ne (a:List UInt8) (L:List (List UInt8)):linesS (a :: L) ≠ []:=by
  rw [lines_cons];simp
theorem okB_names {xs:List Itm} (h:∃ L:List ItD,(nm L).Nodup ∧ xs = xsOf (srtI L)) (ds:List ItD) (e:xsOf ds = xs):(nm ds).Nodup:=by
  obtain ⟨L,hn,rfl⟩:=h
  have h1:nm ds = (xsOf ds).map Itm.name:=by unfold nm xsOf;rw [List.map_map];rfl
  have h2:nm (srtI L) = (xsOf (srtI L)).map Itm.name:=by unfold nm xsOf;rw [List.map_map];rfl
  rw [h1,e,<- h2]
  exact ((srtI_perm L).map _).nodup_iff.2 hn
def ltX (x y:Itm):Bool:=decide (Lib.compareBytes x.name.data.toList y.name.data.toList < 0)
theorem srt_again {ds L:List ItD} (h:xsOf ds = xsOf (srtI L)) (hn:(nm ds).Nodup):srtI ds = ds:=by
  have h1:(xsOf (srtI L)).Pairwise (fun x y => ltX y x = false):=by
    unfold xsOf
    rw [List.pairwise_map]
    exact srtI_sorted L
  rw [<- h] at h1
  unfold xsOf at h1
  rw [List.pairwise_map] at h1
  exact List.Perm.eq_of_pairwise (le:=fun x y => ltI y x = false) (fun a b ha hb p q => nameI_inj hn ((srtI_perm ds).mem_iff.1 ha) hb (ltI_tot b a p q).symm) (srtI_sorted ds) h1 (srtI_perm ds)
theorem okl_low {w:World} {dim:Int} {ds:List ItD} {B a:Nat} {ad:Option Addr} (hI:Its w ad ds) (hlow:LowI B ds) (hr:∀ x ∈ ds,rightB x.x dim = true) (hl:ds.length <= 60) (ha:w.heap.size = a):Okl w (fun k => B <= k ∧ k < a) dim ds:=by
  refine ⟨fun d hd => ?_,hl⟩
  obtain ⟨i,hi⟩:=List.getElem?_of_mem hd
  obtain ⟨g,o,_,_,_,_,hok⟩:=hI i d hi
  refine ⟨hok,hr d hd,fun b o e => ⟨hlow d hd b o e,?_⟩⟩
  obtain ⟨h1,h2,_⟩:=right_parts (hr d hd)
  obtain ⟨g',o',e',hc⟩:=hok.1 0 d.x.nums[0] (List.getElem?_eq_getElem (by omega))
  rw [e] at e'
  injection e' with e'
  injection e' with e1 e2
  subst e1 ha
  exact World.block_lt_of_cell? w _ hc
set_option maxRecDepth 100000 in
set_option maxHeartbeats 2000000 in
theorem open_told (w:World) (O:Nat -> Prop) (d c:Nat) (sec:ByteArray) (n en:Nat) (p:Int -> Option (Int × ByteArray)) (F:Int) (dim:Int) (L:List ItD) (h:Dsk w O d c sec n en p F) (hS:Says p (tx true dim L)) (hd:1 <= dim ∧ dim <= 8) (hl:L.length <= 60) (hn:(nm L).Nodup) (hr:∀ x ∈ L,rightB x.x dim = true) (hsec:sec.size = 16) (hK:Sm.KB w) (hLB:LB w) :
    Calls Tryz.prog 12 #[.pointer (some ⟨d,0,none⟩),.pointer (some ⟨c,0,none⟩),.string sec] w fun e w' => (∃ bb X L',e = .returned (.tuple #[.pointer (some ⟨bb,0,none⟩),.nilIface]) ∧ Bas w' X d c bb sec n en F true dim L' L' ∧ xsOf L' = xsOf (srtI L) ∧ ∀ k,X k -> O k ∨ k = c ∨ w.heap.size <= k) ∧ Below w.heap.size w w':=by
  have HV:Hid _:=vopen_any w O d c sec n en p F h hsec hK
  have hcl:=h.cnt.lt
  have hOlt:Hid (∀ k,O k -> k < w.heap.size):=h.lt
  have HS:Hid (Says p (tx true dim L)):=hS
  have HOKB:Hid (okB dim (xsOf (srtI L)) = true):=okB_srt hd hl hn hr
  have hle:(tx true dim L).length <= 6400:=tx_le (fun _ => hd) hl hr
  have hne:tx true dim L ≠ []:=linesS_ne _ _
  obtain ⟨l,hlx⟩:∃ l,tx true dim L = l:=⟨_,rfl⟩
  have HLX:Hid (textS dim (xsOf (srtI L)) = l):=hlx
  rw [hlx] at hle hne
  have hS':Says p l:=by rw [<- hlx];exact hS
  have HLB:Hid (LB w):=hLB
  have HN:Hid ((nm L).Nodup):=hn
  have HR:Hid (∀ x ∈ L,rightB x.x dim = true):=hr
  have hemp:¬ (ba l).toList = []:=by rw [Lib.toList_data,ba_list];exact hne
  have hempe:(ba l).toList.isEmpty = false:=by simpa using hemp
  clear h hK hS hLB hn hr hlx hne
  go_enter Tryz.func12,Tryz.ntmps12
  go_wp2_with fail
  refine Calls.mono HV.out ?_
  rintro e w1 ⟨⟨VB,rfl,hV⟩,g1⟩
  obtain ⟨O',S,v,lf,f,r,mb,nn,hVl,_⟩:=hV.ex
  have HSD:Hid _:=said_any VB d c sec _ _ _ _ _ _ _ _ l w1 hVl hS' hle
  have HV1:Hid (Vs w1 (fun k => O k ∨ k = c ∨ (w.heap.size <= k ∧ k < w1.heap.size)) d c VB sec n en p F):=hV
  have HG1:Hid (Below w.heap.size w w1):=g1
  clear HV hV g1 hVl hS'
  go_wp2_with fail
  refine Calls.mono HSD.out ?_
  rintro e w2 ⟨rfl,g2⟩
  have HV2:Hid _:=HV1.out.below g2
  have HG2:Hid (Below w.heap.size w w2):=HG1.out.trans (g2.mono HG1.out.size)
  have z12:w1.heap.size <= w2.heap.size:=g2.size
  have hbb:=buildBase VB w2
  clear HSD HV1 g2
  have s3:=below_alloc w2 (.cells #[.pointer (some ⟨VB,0,none⟩),.int .i64 0,.map none,.map none,.pointer none] 131)
  have j3:Blk (w2.alloc (.cells #[.pointer (some ⟨VB,0,none⟩),.int .i64 0,.map none,.map none,.pointer none] 131)) w2.heap.size #[.pointer (some ⟨VB,0,none⟩),.int .i64 0,.map none,.map none,.pointer none] 131:=Blk.new w2 _ _
  have Z3:Hid ((w2.alloc (.cells #[.pointer (some ⟨VB,0,none⟩),.int .i64 0,.map none,.map none,.pointer none] 131)).heap.size = w2.heap.size + 1):=by unfold Hid;simp
  have HV3:Hid _:=HV2.out.below s3
  have HG3:Hid (Below w.heap.size w (w2.alloc (.cells #[.pointer (some ⟨VB,0,none⟩),.int .i64 0,.map none,.map none,.pointer none] 131))):=HG2.out.trans (s3.mono HG2.out.size)
  clear s3 HV2
  go_wp2_with fail
  generalize w2.alloc (.cells #[.pointer (some ⟨VB,0,none⟩),.int .i64 0,.map none,.map none,.pointer none] 131) = w3 at *
  have hP:=parse_text_low dim (xsOf (srtI L)) w3 HOKB.out (HLB.out.below HG3.out)
  rw [HLX.out] at hP
  have HP:Hid _:=hP
  clear hP hemp hempe
  refine Calls.mono HP.out ?_
  rintro e w4 ⟨⟨a,cp,ds,rfl,hxs,hI,hl60,hlow⟩,g4⟩
  have HXS:Hid (xsOf ds = xsOf (srtI L)):=hxs
  have HI:Hid (Its w4 a ds):=hI
  have HLOW:Hid (LowI w3.heap.size ds):=hlow
  have HRD:Hid (∀ x ∈ ds,rightB x.x dim = true):=fun x hx => by
    have h1:x.x ∈ xsOf (srtI L):=by rw [<- hxs];exact List.mem_map.2 ⟨x,hx,rfl⟩
    obtain ⟨y,hy,e⟩:=List.mem_map.1 h1
    rw [<- e];exact HR.out y ((srtI_perm L).mem_iff.1 hy)
  have HND:Hid ((nm ds).Nodup):=okB_names ⟨L,HN.out,rfl⟩ ds hxs
  have j4:=j3.below g4 j3.lt
  have HV4:Hid _:=HV3.out.below g4
  have HG4:Hid (Below w.heap.size w w4):=HG3.out.trans (g4.mono HG3.out.size)
  have z34:w3.heap.size <= w4.heap.size:=g4.size
  have HBN:Hid _:=byName_any a cp ds w4 hI HND.out hl60 (fun x hx => by
    obtain ⟨i,hi⟩:=List.getElem?_of_mem hx
    obtain ⟨_,_,_,_,_,_,hok⟩:=hI i x hi
    exact hok.2.2.1)
  clear HP hxs hI hlow j3 HV3 HG3 g4
  go_wp2_with fail
  refine Calls.mono HBN.out ?_
  rintro e w5 ⟨⟨rfl,hM⟩,g5⟩
  have HI5:Hid (Its w5 a ds):=HI.out.below g5
  have j5:=j4.below g5 j4.lt
  have HV5:Hid _:=HV4.out.below g5
  have HG5:Hid (Below w.heap.size w w5):=HG4.out.trans (g5.mono HG4.out.size)
  have z45:w4.heap.size < w5.heap.size:=hM.lt
  have HOK5:Hid (Okl w5 (fun k => w3.heap.size <= k ∧ k < w5.heap.size) dim ds):=okl_low HI5.out HLOW.out HRD.out hl60 rfl
  have HBC:Hid _:=become_any w2.heap.size VB w4.heap.size dim (.int .i64 0) (.map none) (.map none) (.pointer none) ds (fun k => w3.heap.size <= k ∧ k < w5.heap.size) w5 j5 hM HOK5.out (by have:=Z3.out;omega) ⟨z34,z45⟩ (fun k hk => hk.2)
  clear HBN hM HI HV4 HG4 j4 j5 g5
  go_wp2_with fail
  refine Calls.mono HBC.out ?_
  rintro e w6 ⟨rfl,⟨mn,pc,hB6,q1,q2⟩,c6⟩
  have HB6:Hid _:=hB6
  clear hB6 HBC
  go_wp2_with fail
  go_ret2
  have z01:=HG1.out.size
  have z3:=Z3.out
  have z02:=HG2.out.size
  have z6:=c6.size
  have hO:∀ k,(O k ∨ k = c ∨ (w.heap.size <= k ∧ k < w1.heap.size)) -> k < w2.heap.size:=fun k hk => by
    rcases hk with hk | hk | hk
    · have:=hOlt.out k hk;omega
    · omega
    · omega
  have hsay:Says p (tx true dim ds):=by
    have e1:xsOf (srtI ds) = xsOf (srtI L):=by rw [srt_again HXS.out HND.out];exact HXS.out
    have e2:tx true dim ds = tx true dim L:=by unfold tx;rw [e1]
    rw [e2];exact HS.out
  refine ⟨⟨w2.heap.size,fun k => (O k ∨ k = c ∨ (w.heap.size <= k ∧ k < w1.heap.size)) ∨ (w2.heap.size <= k ∧ k < w6.heap.size),ds,rfl,⟨⟨_,_,VB,p,w4.heap.size,mn,pc,HV5.out.chg c6 (fun k hk e => by have:=hO k hk;omega),HB6.out,fun k hk => ?_,fun k hk => ?_,hsay⟩,fun k hk => ?_,Or.inl hd,fun _ => hd,fun e => (by cases e)⟩,HXS.out,fun k hk => ?_⟩,?_⟩
  · have h1:=hO k hk
    refine ⟨fun hz => ?_,by omega,by omega⟩
    rcases hz.1 with hz | hz
    · omega
    · omega
  · rcases hk with hk | hk | hk | hk
    · exact Or.inl hk
    · rcases hk.1 with h1 | h1
      · exact Or.inr ⟨by omega,by omega⟩
      · exact Or.inr ⟨by omega,by omega⟩
    · exact Or.inr ⟨by omega,by omega⟩
    · exact Or.inr ⟨by omega,by omega⟩
  · rcases hk with hk | hk
    · have:=hO k hk;omega
    · exact hk.2
  · rcases hk with (hk | hk | hk) | hk
    · exact Or.inl hk
    · exact Or.inr (Or.inl hk)
    · exact Or.inr (Or.inr hk.1)
    · exact Or.inr (Or.inr (by omega))
  · exact c6.to HG5.out HG5.out.size (fun k hk => by omega)
theorem pt83:Tryz.prog.underlying 83 = some (.map 9 45):=Tryz.underlying83
structure ComeB (L:List ItD) (left:ByteArray -> Bool) (M:List ItD):Prop where
  sub:∀ d ∈ M,d ∈ L ∧ left d.x.name = false
  rest:∀ d ∈ L,left d.x.name = true ∨ d ∈ M
theorem ComeB.step {L:List ItD} {left:ByteArray -> Bool} {M:List ItD} (h:ComeB L left M) (hn:(nm L).Nodup) {d:ItD} (hd:d ∈ L) (hl:left d.x.name = true):ComeB L (fun j => left j && !decide (j = d.x.name)) (putI M d) ∧ noI M d.x.name = M:=by
  have hnot:d.x.name ∉ nm M:=fun hm => by
    obtain ⟨e,he,e2⟩:=List.mem_map.1 hm
    have:=(h.sub e he).2
    rw [show e.x.name = d.x.name from e2,hl] at this;cases this
  have hno:=noI_none hnot
  refine ⟨⟨fun e he => ?_,fun e he => ?_⟩,hno⟩
  · unfold putI at he
    rw [hno] at he
    rcases List.mem_cons.1 he with rfl | he
    · exact ⟨hd,by simp⟩
    · exact ⟨(h.sub e he).1,by rw [(h.sub e he).2];rfl⟩
  · unfold putI
    rw [hno]
    rcases h.rest e he with h1 | h1
    · by_cases e2:e.x.name = d.x.name
      · right
        rw [nameI_inj hn he hd e2];simp
      · left
        rw [h1];simp [e2]
    · right;exact List.mem_cons_of_mem _ h1
theorem mkLaw (w:World):(Instr.makeMap 83 none).run Tryz.prog w = .ok (.map (some w.heap.size)) (w.alloc (.map #[] 0)):=by kernel_rfl
set_option maxRecDepth 100000 in
set_option maxHeartbeats 2000000 in
theorem lclone_any (m:Nat) (M:List ItD) (w:World) (h:IM w m M) (hl:M.length <= 1000) (hs:∀ d ∈ M,d.x.name.size <= maxLen) :
    Calls Tryz.prog 93 #[.map (some m)] w fun e w' => (∃ tm,e = .returned (.map (some tm)) ∧ IM w' tm M ∧ w.heap.size <= tm ∧ tm < w'.heap.size) ∧ Below w.heap.size w w':=by
  have hnd:=h.nodup
  have hmk:=mkLaw w
  have m0:=im_made w
  have g0:=below_alloc w (.map #[] 0)
  have h0:=h.mapS.below g0 h.lt
  have hml:=h.lt
  obtain ⟨w1,cnt1,hrun1,hR1,hc1,hgr1,hz1⟩:=h0.range Tryz.underlying9 pt83
  have g1:Below (w.alloc (.map #[] 0)).heap.size (w.alloc (.map #[] 0)) w1:=below_of_grown hgr1
  have m1:=m0.below g1 m0.lt
  have b1:=g0.trans (g1.mono g0.size)
  have HS:Hid (∀ d ∈ M,d.x.name.size <= maxLen):=hs
  have HND:Hid ((nm M).Nodup):=hnd
  obtain ⟨R,hR⟩:∃ R,Hid ((w.alloc (.map #[] 0)).heap.size = R):=⟨_,rfl⟩
  obtain ⟨tm,htm⟩:∃ tm,Hid (w.heap.size = tm):=⟨_,rfl⟩
  rw [hR.out] at hrun1 hR1
  rw [htm.out] at m1 hmk
  have HM1:Hid (IM w1 tm []):=m1
  have HRM:Hid (tm < R ∧ m < tm):=by unfold Hid;have:=htm.out;have:=hR.out;simp at this;omega
  clear h h0 hnd hgr1 hs m1 m0 g1 hz1
  go_enter Tryz.func93,Tryz.ntmps93
  go_wp2_with fail
  go_loopw [] (fun wr => ∃ left cnt M',RngS Tryz.prog wr m R M.length (lk M) left cnt ∧ M'.length + cnt <= M.length ∧ Hid (IM wr tm M') ∧ Hid (ComeB M left M') ∧ Hid (Below w.heap.size w wr)) (fun wr => wr.rangeLeft m R)
  case atStart => exact ⟨_,_,[],hR1,by simpa using hc1,HM1.out,⟨fun d hd => (by cases hd),fun d hd => Or.inl (by show (lk M d.x.name).isSome = true;rw [lk_mem HND.out hd];rfl)⟩,b1⟩
  case round =>
    clear hR1 HM1 b1
    obtain ⟨left,cnt,M',hRr,hcs,HM,HC,HB⟩:=hrel
    have hm0:=hRr.left_eq
    rcases hRr.next Tryz.underlying9 0 with ⟨hc0,hd,hrun⟩ | ⟨i,u,w2,cnt2,hi,hl',hf,hrun,hR2,hlt,hg,hz,hen⟩
    · go_wp2_with fail
      go_ret
      have hp:M'.Perm M:=perm_of_same M' M (nodup_of_nm HM.out.nodup) (nodup_of_nm HND.out) fun x => ⟨fun hx => (HC.out.sub x hx).1,fun hx => by
        rcases HC.out.rest x hx with h1 | h1
        · rw [hd _ (HS.out x hx)] at h1;cases h1
        · exact h1⟩
      exact ⟨⟨tm,rfl,HM.out.congr hp,by have:=htm.out;omega,HM.out.lt⟩,HB.out⟩
    · obtain ⟨dd,hdL,rfl,rfl⟩:=lk_some hf
      have hu:Upd wr w2 R:=upd_of_grown hg hz
      have HM2:Hid (IM w2 tm M'):=HM.out.upd hu (by have:=HRM.out;omega)
      have hB2:Below w.heap.size w w2:=below_upd HB.out hu (by have:=HRM.out;have:=htm.out;omega)
      obtain ⟨hC2,hno⟩:=HC.out.step HND.out hdL hl'
      have HC2:Hid (ComeB M (fun j => left j && !decide (j = dd.x.name)) (putI M' dd)):=hC2
      obtain ⟨⟨nmx,tgx,zsx⟩,xax,xcx⟩:=dd
      have hen':(Instr.entry (.pointer (some ⟨R,0,none⟩))).run Tryz.prog w2 = .ok (.tuple #[.string nmx,.agg #[.string nmx,.string tgx,.slice xax zsx.length xcx]]) w2:=hen
      have hrun':(Instr.next (.pointer (some ⟨R,0,none⟩)) false 0).run Tryz.prog wr = .ok (.tuple #[.bool true,.string nmx,.agg #[.string nmx,.string tgx,.slice xax zsx.length xcx]]) w2:=hrun
      have s3:=below_alloc w2 (.cells #[.string nmx,.string tgx,.slice xax zsx.length xcx] 45)
      have HM3:Hid (IM (w2.alloc (.cells #[.string nmx,.string tgx,.slice xax zsx.length xcx] 45)) tm M'):=HM2.out.below s3 HM2.out.lt
      have hR3:=hR2.below (w':=w2.alloc (.cells #[.string nmx,.string tgx,.slice xax zsx.length xcx] 45)) s3 (Nat.le_refl _)
      have hlen:M'.length < maxLen:=by unfold maxLen;omega
      obtain ⟨w4,hup,hM4,hu4⟩:=HM3.out.store pt83 hlen ⟨⟨nmx,tgx,zsx⟩,xax,xcx⟩ hi
      have hup':(Instr.mapUpdate 83 (.map (some tm)) (.string nmx) (.agg #[.string nmx,.string tgx,.slice xax zsx.length xcx])).run Tryz.prog (w2.alloc (.cells #[.string nmx,.string tgx,.slice xax zsx.length xcx] 45)) = .ok () w4:=hup
      have hR4:=(hR3.same (w':=w4) (hu4.block m (by have:=HRM.out;omega)) (hu4.block R (by have:=HRM.out;omega)))
      have HB4:Hid (Below w.heap.size w w4):=below_upd (hB2.trans (s3.mono hB2.size)) hu4 (by have:=htm.out;omega)
      have hpl:(putI M' ⟨⟨nmx,tgx,zsx⟩,xax,xcx⟩).length = M'.length + 1:=by unfold putI;rw [List.length_cons];rw [hno]
      have HM4:Hid _:=hM4
      have hm4:=hR4.left_eq
      clear hM4 hup hen hrun hf hno hR2 hR3 s3 hu hg hz hC2 hB2
      go_wp2_with fail
      refine ⟨⟨_,cnt2,_,hR4,by omega,HM4.out,HC2.out,HB4.out⟩,?_⟩
      rw [hm4,hm0];exact hlt
end Go.Proofs.YtjmpjfikcgccdaaGreatDoor.Bs
