/-
  Part of the proof of BaseFindsCard (BA20 and on).
-/
import Derived.Test.YtjmpjfikcgccdaaGreatDoorB34
namespace Go.Proofs.YtjmpjfikcgccdaaGreatDoor.Bs
open Go.RowKit Go.Shelf Go.Maps
open It Nr Ce Vt
section
variable {w:World} {X:Nat -> Prop} {d c bb:Nat} {sec:ByteArray} {n en:Nat} {F:Int} {T:Bool} {dim:Int} {L N:List ItD}
theorem bas_commit_no (h:Bas w X d c bb sec n en F T 0 L N) :
    Calls Tryz.prog 23 #[.pointer (some ⟨bb,0,none⟩)] w fun e w' => e = .returned (.iface 34 (.int .i64 6)) ∧ w' = w:=by
  have HD:Hid _:=bas_dim h
  clear h
  go_enter Tryz.func23,Tryz.ntmps23
  go_wp2_with fail
  refine Calls.mono HD.out ?_
  rintro e w2 ⟨rfl,hw⟩
  obtain rfl:w = w2:=hw.symm
  go_wp2_with fail
  go_ret
  exact ⟨rfl,rfl⟩
set_option maxRecDepth 100000 in
set_option maxHeartbeats 4000000 in
theorem bas_commit (h:Bas w X d c bb sec n en (-1) T dim L N) (hd:1 <= dim) (hn:n < 1000) (hsec:sec.size <= 300) (hK:Sm.KB w) (hL:LB w) :
    Calls Tryz.prog 23 #[.pointer (some ⟨bb,0,none⟩)] w fun e w' => e = .returned .nilIface ∧ Bas w' (more X w w') d c bb sec (n + 1) en (-1) true dim N N ∧ Dv.Chg w w' X:=by
  obtain ⟨Y,Z,vb,p,mt,mn,pc,h1,h2,h3,h4,h5⟩:=h.ex
  have hd':(dim == 0) = false:=by rw [beq_eq_false_iff_ne];omega
  have hd8:1 <= dim ∧ dim <= 8:=by rcases h.dm with h6 | h6 <;> omega
  have hz:∀ k,Z k -> k < w.heap.size:=fun k hk => h.lt k (h4 k (Or.inr (Or.inl hk)))
  have HD:Hid _:=bas_dim h
  have HV:Hid (Vs w Y d c vb sec n en p (-1)):=h1
  have HB:Hid (Bse w Z bb vb dim L N mt mn pc):=h2
  have HH:Hid (Bas w X d c bb sec n en (-1) T dim L N):=h
  have H3:Hid (∀ k,Y k -> ¬ Z k ∧ k ≠ bb ∧ k ≠ mn):=h3
  have H4:Hid (∀ k,Y k ∨ Z k ∨ k = bb ∨ k = mn -> X k):=h4
  have HL:Hid (LB w):=hL
  have HK:Hid (Sm.KB w):=hK
  have HZ:Hid (∀ k,Z k -> k < w.heap.size):=hz
  have HD8:Hid (1 <= dim ∧ dim <= 8):=hd8
  have hN60:N.length <= 60:=h2.okN.2
  have HRS:Hid (∀ W,Below w.heap.size w W -> Calls Tryz.prog 67 #[.map (some mn)] W fun e w' => ∃ v,e = .returned v ∧ w'.ownsRow W.heap.size 45 3 v N.length (flatI (srtI N)) ∧ Below W.heap.size W w'):=fun W hW => rising_any mn N (okl_name h2.okN) (by omega) W (h2.next.below hW h2.next.lt)
  clear h h1 h2 h3 h4 h5 hL hK hz hd8
  go_enter Tryz.func23,Tryz.ntmps23
  go_wp2_with fail
  refine Calls.mono HD.out ?_
  rintro e w2 ⟨rfl,hw⟩
  obtain rfl:w = w2:=hw.symm
  clear hw HD
  go_wp2_with fail
  have s0:Below w.heap.size w w.drew:=below_drewN (Below.refl _ _) 1
  refine regS_in 15 (fun W => Below w.heap.size w W) Nr.mixed rfl ?_
  generalize w.drew = wd at *
  refine regS_take 0 11 (.pointer (some ⟨bb,0,none⟩)) rfl rfl (by kernel_rfl) (fun _ _ _ h => h) (by kernel_rfl) (fun W hW => by go_simp) s0 ?_
  refine regS_take 1 12 (.pointer (some ⟨bb,0,none⟩)) rfl rfl (by kernel_rfl) (fun _ _ _ h => h) (by kernel_rfl) (fun W hW => by go_simp) s0 ?_
  refine regS_take 2 13 (.pointer (some ⟨bb,1,none⟩)) rfl rfl (by kernel_rfl) (fun _ _ _ h => h) (by kernel_rfl) (fun W hW => by go_simp) s0 ?_
  refine regS_take 3 14 (.int .i64 dim) rfl rfl (by kernel_rfl) (fun _ _ _ h => h) (by kernel_rfl) (fun W hW => by have a0:=(HB.out.blk.below hW HB.out.blk.lt).cell 1;go_simp) s0 ?_
  refine regS_take 4 15 (.pointer (some ⟨bb,0,none⟩)) rfl rfl (by kernel_rfl) (fun _ _ _ h => h) (by kernel_rfl) (fun W hW => by go_simp) s0 ?_
  refine regS_take 5 16 (.pointer (some ⟨bb,0,none⟩)) rfl rfl (by kernel_rfl) (fun _ _ _ h => h) (by kernel_rfl) (fun W hW => by go_simp) s0 ?_
  refine regS_take 6 17 (.pointer (some ⟨bb,3,none⟩)) rfl rfl (by kernel_rfl) (fun _ _ _ h => h) (by kernel_rfl) (fun W hW => by go_simp) s0 ?_
  refine regS_take 7 18 (.map (some mn)) rfl rfl (by kernel_rfl) (fun _ _ _ h => h) (by kernel_rfl) (fun W hW => by have a0:=(HB.out.blk.below hW HB.out.blk.lt).cell 3;go_simp) s0 ?_
  simp only [Act.put,List.setIfInBounds_toArray,List.set_cons_succ,List.set_cons_zero]
  refine regS_one 8 rfl (by kernel_rfl) (by kernel_rfl) (fun K hK => ?_)
  have HKK:Hid _:=hK
  clear hK
  go_wp2_with fail
  refine Calls.mono (HRS.out _ s0) ?_
  rintro e w3 ⟨v,rfl,ho,g3⟩
  have s3:=s0.trans (g3.mono s0.size)
  refine HKK.out _ _ s3 ?_
  have hok3:Okl w3 Z dim N:=HB.out.okN.same (fun k hk => s3.block k (HZ.out k hk))
  obtain ⟨av,cv,rfl,hI⟩:=okl_its hok3 ho
  have hxl:(srtI N).length = N.length:=srtI_len N
  have hpr:=print_any dim av cv (srtI N) w3 hI (by rw [hxl];unfold maxLen;omega) (HL.out.below s3)
  rw [printV_yes (okB_srt HD8.out hN60 HB.out.next.nodup (fun x hx => (HB.out.okN.1 x hx).2.1)),hxl] at hpr
  have HPR:Hid _:=hpr
  obtain ⟨l,hl⟩:∃ l,textS dim (xsOf (srtI N)) = l:=⟨_,rfl⟩
  rw [hl] at HPR
  have HTX:Hid (textS dim (xsOf (srtI N)) = l):=hl
  clear HKK K HRS ho hI hpr s0 g3 hok3 hl
  refine regS_one 9 rfl (by kernel_rfl) (by kernel_rfl) (fun K hK => ?_)
  have HKK:Hid _:=hK
  clear hK
  go_wp2_with fail
  refine Calls.mono HPR.out ?_
  rintro e w4 ⟨rfl,g4⟩
  have s4:=s3.trans (g4.mono s3.size)
  refine HKK.out _ _ s4 ?_
  clear HKK K HPR s3 g4
  refine regS_take 10 10 (.tuple #[.string (ba l),.nilIface]) rfl rfl (by kernel_rfl) (fun _ _ _ h => h) (by kernel_rfl) (fun W hW => by go_simp) s4 ?_
  refine regS_take 11 21 (.string (ba l)) rfl rfl (by kernel_rfl) (fun _ _ _ h => h) (by kernel_rfl) (fun W hW => by go_simp) s4 ?_
  refine regS_take 12 22 .nilIface rfl rfl (by kernel_rfl) (fun _ _ _ h => h) (by kernel_rfl) (fun W hW => by go_simp) s4 ?_
  refine regS_take 13 3 (.string (ba l)) rfl rfl (by kernel_rfl) (fun _ _ _ h => h) (by kernel_rfl) (fun W hW => by go_simp) s4 ?_
  refine regS_take 14 4 .nilIface rfl rfl (by kernel_rfl) (fun _ _ _ h => h) (by kernel_rfl) (fun W hW => by go_simp) s4 ?_
  refine regS_end (by kernel_rfl) ?_
  simp only [Act.put,List.setIfInBounds_toArray,List.set_cons_succ,List.set_cons_zero]
  have HB4:Hid (Bse w4 Z bb vb dim L N mt mn pc):=HB.out.same (fun k hk => s4.block k (by
    rcases hk with hk | rfl | rfl
    · exact HZ.out k hk
    · exact HB.out.blk.lt
    · exact HB.out.next.lt))
  have HV4:Hid (Vs w4 Y d c vb sec n en p (-1)):=HV.out.below s4
  have HS4:Hid (Below w.heap.size w w4):=s4
  have HPG:Hid (∀ W,Calls Tryz.prog 69 #[.string (ba l)] W fun e w' => (e = .returned (.map (some W.heap.size)) ∧ MapF Tryz.prog w' W.heap.size 32 (sv (pgG l 32))) ∧ Below W.heap.size W w'):=fun W => pgs_any (ba l) W
  have hyb:¬ Y bb:=fun hy => (H3.out bb hy).2.1 rfl
  clear s4
  go_wp2_with fail
  have s0:Dv.Chg w4 w4.drew Y:=(Dv.Chg.refl _ _).drewN 1
  have b0:Below w4.heap.size w4 w4.drew:=below_drewN (Below.refl _ _) 1
  refine regS_in 8 (fun W => Dv.Chg w4 W Y) Nr.mixed rfl ?_
  generalize w4.drew = we at *
  refine regS_take 0 26 (.pointer (some ⟨bb,0,none⟩)) rfl rfl (by kernel_rfl) (fun _ _ _ h => h) (by kernel_rfl) (fun W hW => by go_simp) s0 ?_
  refine regS_take 1 27 (.pointer (some ⟨bb,0,none⟩)) rfl rfl (by kernel_rfl) (fun _ _ _ h => h) (by kernel_rfl) (fun W hW => by go_simp) s0 ?_
  refine regS_take 2 28 (.pointer (some ⟨bb,0,none⟩)) rfl rfl (by kernel_rfl) (fun _ _ _ h => h) (by kernel_rfl) (fun W hW => by go_simp) s0 ?_
  refine regS_take 3 29 (.pointer (some ⟨vb,0,none⟩)) rfl rfl (by kernel_rfl) (fun _ _ _ h => h) (by kernel_rfl) (fun W hW => by have a0:=(HB4.out.blk.chg hW hyb).cell 0;go_simp) s0 ?_
  refine regS_take 4 30 (.string (ba l)) rfl rfl (by kernel_rfl) (fun _ _ _ h => h) (by kernel_rfl) (fun W hW => by go_simp) s0 ?_
  simp only [Act.put,List.setIfInBounds_toArray,List.set_cons_succ,List.set_cons_zero]
  refine regS_one 5 rfl (by kernel_rfl) (by kernel_rfl) (fun K hK => ?_)
  have HKK:Hid _:=hK
  clear hK
  go_wp2_with fail
  refine Calls.mono (HPG.out we) ?_
  rintro e w5 ⟨⟨rfl,hM⟩,g5⟩
  have b5:=b0.trans (g5.mono b0.size)
  refine HKK.out _ _ (Dv.Chg.of b5 _) ?_
  have HV5:Hid (Vs w5 Y d c vb sec n en p (-1)):=HV4.out.below b5
  have hk5:Sm.KB w5:=(HK.out.below HS4.out).below b5
  obtain ⟨ms,hms⟩:∃ ms,we.heap.size = ms:=⟨_,rfl⟩
  rw [hms] at hM ⊢
  have HTE:Hid _:=vs_tell w5 Y d c vb sec n en p (.map (some ms)) (pgG l 32) HV5.out (Or.inr ⟨_,rfl,hM⟩) (fun i s h => pgG_some h) hn hsec hk5
  have HB5':Hid (Below w4.heap.size w4 w5):=b5
  clear HKK K HPG hM hk5 s0 b0 g5 b5 hms
  refine regS_one 6 rfl (by kernel_rfl) (by kernel_rfl) (fun K hK => ?_)
  have HKK:Hid _:=hK
  clear hK
  go_wp2_with fail
  refine Calls.mono HTE.out ?_
  rintro e w6 ⟨rfl,hV6,c6⟩
  have s6:Dv.Chg w4 w6 Y:=(Dv.Chg.of HB5'.out _).trans c6
  refine HKK.out _ _ s6 ?_
  have HV6:Hid _:=hV6
  clear HKK K HTE hV6
  refine regS_take 7 5 .nilIface rfl rfl (by kernel_rfl) (fun _ _ _ h => h) (by kernel_rfl) (fun W hW => by go_simp) s6 ?_
  refine regS_end (by kernel_rfl) ?_
  simp only [Act.put,List.setIfInBounds_toArray,List.set_cons_succ,List.set_cons_zero]
  have hYn:∀ k,(Z k ∨ k = bb ∨ k = mn) -> ¬ Y k:=fun k hk hy => by
    have:=H3.out k hy
    rcases hk with h | h | h
    · exact this.1 h
    · exact this.2.1 h
    · exact this.2.2 h
  have hl4:∀ k,(Z k ∨ k = bb ∨ k = mn) -> k < w4.heap.size:=fun k hk => by
    have:=HS4.out.size
    have:k < w.heap.size:=HH.out.lt k (H4.out k (Or.inr hk))
    omega
  have HB6:Hid (Bse w6 Z bb vb dim L N mt mn pc):=HB4.out.same (fun k hk => s6.block k (hl4 k hk) (hYn k hk))
  have hb6:Dv.Chg w4 w6 Y:=s6
  have HC6:Hid (Dv.Chg w4 w6 Y):=s6
  have HYN:Hid (∀ k,(Z k ∨ k = bb ∨ k = mn) -> ¬ Y k):=hYn
  have HL4:Hid (∀ k,(Z k ∨ k = bb ∨ k = mn) -> k < w4.heap.size):=hl4
  have HC56:Hid (Dv.Chg w5 w6 Y):=c6
  have HBC:Hid (∀ W,Dv.Chg w6 W (fun _ => False) -> Calls Tryz.prog 54 #[.pointer (some ⟨bb,0,none⟩),.int .i64 dim,.map (some mn)] W fun e w' => e = .returned (.tuple #[]) ∧ (∃ mn' pc',Bse w' (fun k => more (fun k => Z k ∨ k = mn) W w' k ∧ k ≠ mn') bb vb dim N N mn mn' pc' ∧ W.heap.size <= mn' ∧ mn' < w'.heap.size) ∧ Dv.Chg W w' (fun k => k = bb)):=fun W hW => by
    have hB:=HB6.out.same (w':=W) (fun k hk => hW.block k (by have:=HL4.out k hk;have:=HC6.out.size;omega) (fun h => h))
    refine become_any bb vb mn dim _ _ _ _ N (fun k => Z k ∨ k = mn) W hB.blk hB.next (hB.okN.mono fun k hk => Or.inl hk) (fun hx => ?_) (Or.inr rfl) (fun k hk => ?_)
    · rcases hx with hx | hx
      · exact hB.zb hx
      · exact im_ne hB.next hB.blk hx.symm
    · have h7:=HL4.out k (hk.elim Or.inl fun h => Or.inr (Or.inr h))
      have h8:=HC6.out.size
      have h9:=hW.size
      omega
  clear s6 c6 hYn hl4 hb6
  go_wp2_with fail
  have s0:Dv.Chg w6 w6.drew (fun _ => False):=(Dv.Chg.refl _ _).drewN 1
  have hyF:¬ (fun _:Nat => False) bb:=fun h => h
  have a1:=(HB6.out.blk.chg s0 hyF).cell 1
  have a3:=(HB6.out.blk.chg s0 hyF).cell 3
  refine region_s [(0,true),(1,true),(2,true),(3,true),(4,false),(5,true),(6,true),(7,true),(8,false)] [] [9] (fun W => W = w6.drew) Nr.mixed (by kernel_rfl) (fun _ _ _ _ _ h => h) rfl ?_
  generalize w6.drew = wf at *
  refine lead_pure _ rfl _ rfl rfl (.pointer (some ⟨bb,0,none⟩)) (fun w' => by go_simp) ?_
  refine lead_pure _ rfl _ rfl rfl (.pointer (some ⟨bb,0,none⟩)) (fun w' => by go_simp) ?_
  refine lead_pure _ rfl _ rfl rfl (.pointer (some ⟨bb,0,none⟩)) (fun w' => by go_simp) ?_
  refine lead_pure _ rfl _ rfl rfl (.pointer (some ⟨bb,1,none⟩)) (fun w' => by go_simp) ?_
  refine lead_read _ rfl _ rfl rfl (.int .i64 dim) (fun w' hS => by subst hS;go_simp) ?_
  refine lead_pure _ rfl _ rfl rfl (.pointer (some ⟨bb,0,none⟩)) (fun w' => by go_simp) ?_
  refine lead_pure _ rfl _ rfl rfl (.pointer (some ⟨bb,0,none⟩)) (fun w' => by go_simp) ?_
  refine lead_pure _ rfl _ rfl rfl (.pointer (some ⟨bb,3,none⟩)) (fun w' => by go_simp) ?_
  refine lead_read _ rfl _ rfl rfl (.map (some mn)) (fun w' hS => by subst hS;go_simp) ?_
  simp only [lead_nil_eq]
  simp only [Act.put,List.setIfInBounds_toArray,List.set_cons_succ,List.set_cons_zero]
  simp only [mid_nil_eq]
  simp only [List.filterMap_cons,List.getElem?_toArray,List.getElem?_cons_succ,List.getElem?_cons_zero,List.filterMap_nil]
  clear a1 a3
  go_wp2_with fail
  refine Calls.mono (HBC.out _ s0) ?_
  rintro e w7 ⟨rfl,⟨mn',pc',hB7,q1,q2⟩,c7⟩
  have HB7:Hid _:=hB7
  clear hB7 HBC
  go_wp2_with fail
  go_ret
  have hh:=HH.out
  have z4:=HS4.out.size
  have z5:=HB5'.out.size
  have z6:=HC56.out.size
  have zf:=s0.size
  have z7:=c7.size
  have c67:Dv.Chg w6 w7 (fun k => k = bb):=(s0.mono (fun _ _ h => h.elim)).trans c7
  have hbl:=HL4.out bb (Or.inr (Or.inl rfl))
  have hml:=HL4.out mn (Or.inr (Or.inr rfl))
  refine ⟨rfl,⟨⟨more Y w5 w6,_,vb,_,mn,mn',pc',HV6.out.chg c67 (fun k hk e => ?_),HB7.out,fun k hk => ?_,fun k hk => ?_,?_⟩,fun k hk => ?_,Or.inl HD8.out,fun _ => HD8.out,fun e => by cases e⟩,?_⟩
  · subst e
    rcases hk with hk | hk
    · exact HYN.out k (Or.inr (Or.inl rfl)) hk
    · omega
  · rcases hk with hk | hk
    · have hk4:=HV4.out.lt k hk
      refine ⟨fun hz => ?_,fun e => HYN.out k (Or.inr (Or.inl e)) hk,fun e => by omega⟩
      rcases hz.1 with (hz | hz) | hz
      · exact HYN.out k (Or.inl hz) hk
      · exact HYN.out k (Or.inr (Or.inr hz)) hk
      · omega
    · refine ⟨fun hz => ?_,fun e => by omega,fun e => by omega⟩
      rcases hz.1 with (hz | hz) | hz
      · have:=HL4.out k (Or.inl hz);omega
      · omega
      · omega
  · rcases hk with (hk | hk) | hk | hk | hk
    · exact Or.inl (H4.out k (Or.inl hk))
    · exact Or.inr ⟨by omega,by omega⟩
    · rcases hk.1 with (hk | hk) | hk
      · exact Or.inl (H4.out k (Or.inr (Or.inl hk)))
      · exact Or.inl (H4.out k (Or.inr (Or.inr (Or.inr hk))))
      · exact Or.inr ⟨by omega,by omega⟩
    · exact Or.inl (H4.out k (Or.inr (Or.inr (Or.inl hk))))
    · exact Or.inr ⟨by omega,by omega⟩
  · unfold tx
    rw [if_pos rfl,HTX.out]
    exact says_tel _ l _
  · rcases hk with hk | hk
    · have:=hh.lt k hk;omega
    · exact hk.2
  · have h1:Dv.Chg w w4 X:=Dv.Chg.of HS4.out _
    have h2:Dv.Chg w4 w6 X:=HC6.out.mono fun k _ hk => H4.out k (Or.inl hk)
    have h3:Dv.Chg w6 w7 X:=c67.mono fun k _ hk => H4.out k (Or.inr (Or.inr (Or.inl hk)))
    exact (h1.trans h2).trans h3
end
end Go.Proofs.YtjmpjfikcgccdaaGreatDoor.Bs
namespace Go.Proofs.YtjmpjfikcgccdaaGreatDoor.Bs
open Go.RowKit Go.Shelf Go.Maps
open It Nr Ce Vt
theorem noI_none {L:List ItD} {s:ByteArray} (h:s ∉ nm L):noI L s = L:=by
  unfold noI
  rw [List.filter_eq_self]
  intro d hd
  simp
  intro e
  exact h (List.mem_map.2 ⟨d,hd,e⟩)
theorem buildBase (vb:Nat) (w:World):(Instr.build 131 #[(0,.pointer (some ⟨vb,0,none⟩))]).run Tryz.prog w = .ok (.agg #[.pointer (some ⟨vb,0,none⟩),.int .i64 0,.map none,.map none,.pointer none]) w:=run_build w 131 _ _ (by kernel_rfl)
structure Dsk (w:World) (O:Nat -> Prop) (d c:Nat) (sec:ByteArray) (n en:Nat) (p:Int -> Option (Int × ByteArray)) (F:Int):Prop where
  ex:∃ S v lf f,Dv.Dev w O d S [] F v lf ∧ TldE S sec n en f p
  cnt:Dv.Cnt w c (n:Int)
  lt:∀ k,O k -> k < w.heap.size
  oc:¬ O c
theorem vopen_any (w:World) (O:Nat -> Prop) (d c:Nat) (sec:ByteArray) (n en:Nat) (p:Int -> Option (Int × ByteArray)) (F:Int) (h:Dsk w O d c sec n en p F) (hsec:sec.size = 16) (hK:Sm.KB w) :
    Calls Tryz.prog 52 #[.pointer (some ⟨d,0,none⟩),.pointer (some ⟨c,0,none⟩),.string sec] w fun e w' => (∃ VB,e = .returned (.tuple #[.pointer (some ⟨VB,0,none⟩),.nilIface]) ∧ Vs w' (fun k => O k ∨ k = c ∨ (w.heap.size <= k ∧ k < w'.heap.size)) d c VB sec n en p F) ∧ Below w.heap.size w w':=by
  obtain ⟨S,v,lf,f,hD,hT⟩:=h.ex
  refine (openE d c O S v lf F sec n en f p w hD h.cnt hsec hK hT).mono ?_
  rintro e w' ⟨⟨VB,CB,n',f',r,rfl,k1,k2,k3,k4,k5⟩,g⟩
  have hcl:=h.cnt.lt
  have hvl:=k1.blk.lt
  have hml:=k1.map.lt
  refine ⟨⟨VB,rfl,⟨O,S,v,lf,f',r,CB,n',k1,hD.below g,h.cnt.below g hcl,k2,k5,fun k hk => Or.inl hk,fun hk => ?_,h.oc,by omega,Or.inr (Or.inr ⟨k4,hml⟩)⟩,Or.inr (Or.inr ⟨k3,hvl⟩),Or.inr (Or.inl rfl),fun k hk => ?_⟩,g⟩
  · have:=h.lt _ hk;omega
  · have:=g.size
    rcases hk with hk | rfl | hk
    · have:=h.lt _ hk;omega
    · omega
    · exact hk.2
set_option maxRecDepth 100000 in
set_option maxHeartbeats 2000000 in
theorem open_none (w:World) (O:Nat -> Prop) (d c:Nat) (sec:ByteArray) (n en:Nat) (p:Int -> Option (Int × ByteArray)) (F:Int) (h:Dsk w O d c sec n en p F) (hS:Says p []) (hsec:sec.size = 16) (hK:Sm.KB w) :
    Calls Tryz.prog 12 #[.pointer (some ⟨d,0,none⟩),.pointer (some ⟨c,0,none⟩),.string sec] w fun e w' => (∃ bb X,e = .returned (.tuple #[.pointer (some ⟨bb,0,none⟩),.nilIface]) ∧ Bas w' X d c bb sec n en F false 0 [] [] ∧ ∀ k,X k -> O k ∨ k = c ∨ w.heap.size <= k) ∧ Below w.heap.size w w':=by
  have HV:Hid _:=vopen_any w O d c sec n en p F h hsec hK
  have hcl:=h.cnt.lt
  have hOlt:Hid (∀ k,O k -> k < w.heap.size):=h.lt
  clear h hK
  go_enter Tryz.func12,Tryz.ntmps12
  go_wp2_with fail
  refine Calls.mono HV.out ?_
  rintro e w1 ⟨⟨VB,rfl,hV⟩,g1⟩
  obtain ⟨O',S,v,lf,f,r,mb,nn,hVl,_⟩:=hV.ex
  have HSD:Hid _:=said_any VB d c sec _ _ _ _ _ _ _ _ [] w1 hVl hS (Nat.zero_le _)
  have HV1:Hid (Vs w1 (fun k => O k ∨ k = c ∨ (w.heap.size <= k ∧ k < w1.heap.size)) d c VB sec n en p F):=hV
  have HG1:Hid (Below w.heap.size w w1):=g1
  clear HV hV g1 hVl
  go_wp2_with fail
  refine Calls.mono HSD.out ?_
  rintro e w2 ⟨rfl,g2⟩
  have HV2:Hid _:=HV1.out.below g2
  have HG2:Hid (Below w.heap.size w w2):=HG1.out.trans (g2.mono HG1.out.size)
  have z12:w1.heap.size <= w2.heap.size:=g2.size
  have hbb:=buildBase VB w2
  have hemp:(ba []).toList = []:=by rw [Lib.toList_data];rfl
  clear HSD HV1 g2
  have s3:=below_alloc w2 (.cells #[.pointer (some ⟨VB,0,none⟩),.int .i64 0,.map none,.map none,.pointer none] 131)
  have j3:Blk (w2.alloc (.cells #[.pointer (some ⟨VB,0,none⟩),.int .i64 0,.map none,.map none,.pointer none] 131)) w2.heap.size #[.pointer (some ⟨VB,0,none⟩),.int .i64 0,.map none,.map none,.pointer none] 131:=Blk.new w2 _ _
  have Z3:Hid ((w2.alloc (.cells #[.pointer (some ⟨VB,0,none⟩),.int .i64 0,.map none,.map none,.pointer none] 131)).heap.size = w2.heap.size + 1):=by unfold Hid;simp
  have HV3:Hid _:=HV2.out.below s3
  have HG3:Hid (Below w.heap.size w (w2.alloc (.cells #[.pointer (some ⟨VB,0,none⟩),.int .i64 0,.map none,.map none,.pointer none] 131))):=HG2.out.trans (s3.mono HG2.out.size)
  have hmk:=mkPoints (w2.alloc (.cells #[.pointer (some ⟨VB,0,none⟩),.int .i64 0,.map none,.map none,.pointer none] 131))
  clear s3 HV2
  go_wp2_with fail
  generalize w2.alloc (.cells #[.pointer (some ⟨VB,0,none⟩),.int .i64 0,.map none,.map none,.pointer none] 131) = w3 at *
  have s4:=below_alloc w3 (.map #[] 0)
  have j4:=j3.below s4 j3.lt
  have m4:=im_made w3
  have Z4:Hid ((w3.alloc (.map #[] 0)).heap.size = w3.heap.size + 1):=by unfold Hid;simp
  have HV4:Hid _:=HV3.out.below s4
  have HG4:Hid (Below w.heap.size w (w3.alloc (.map #[] 0))):=HG3.out.trans (s4.mono HG3.out.size)
  have HBC:Hid _:=become_any w2.heap.size VB w3.heap.size 0 (.int .i64 0) (.map none) (.map none) (.pointer none) [] (fun k => k = w3.heap.size) (w3.alloc (.map #[] 0)) j4 m4 (okl_nil _ _ _) (by have:=Z3.out;omega) rfl (fun k hk => by have:=Z4.out;omega)
  clear j3 s4 j4 m4 hmk HV3 HG3
  rw [<- Z3.out]
  refine Calls.mono HBC.out ?_
  rintro e w5 ⟨rfl,⟨mn,pc,hB5,q1,q2⟩,c5⟩
  have HB5:Hid _:=hB5
  clear hB5 HBC
  go_wp2_with fail
  go_ret2
  have z01:=HG1.out.size
  have z3:=Z3.out
  have z4:=Z4.out
  have z02:=HG2.out.size
  have z5:=c5.size
  have hO:∀ k,(O k ∨ k = c ∨ (w.heap.size <= k ∧ k < w1.heap.size)) -> k < w2.heap.size:=fun k hk => by
    have:=HV4.out.lt k hk
    rcases hk with hk | hk | hk
    · have:=hOlt.out k hk;omega
    · omega
    · omega
  refine ⟨⟨w2.heap.size,fun k => (O k ∨ k = c ∨ (w.heap.size <= k ∧ k < w1.heap.size)) ∨ (w2.heap.size <= k ∧ k < w5.heap.size),rfl,⟨⟨_,_,VB,p,w3.heap.size,mn,pc,HV4.out.chg c5 (fun k hk e => by have:=hO k hk;omega),HB5.out,fun k hk => ?_,fun k hk => ?_,hS⟩,fun k hk => ?_,Or.inr ⟨rfl,rfl,rfl⟩,fun e => (by cases e),fun _ => rfl⟩,fun k hk => ?_⟩,?_⟩
  · have h1:=hO k hk
    refine ⟨fun hz => ?_,by omega,by omega⟩
    rcases hz.1 with hz | hz
    · omega
    · omega
  · rcases hk with hk | hk | hk | hk
    · exact Or.inl hk
    · rcases hk.1 with h1 | h1
      · exact Or.inr ⟨by omega,by omega⟩
      · exact Or.inr ⟨by omega,by omega⟩
    · exact Or.inr ⟨by omega,by omega⟩
    · exact Or.inr ⟨by omega,by omega⟩
  · rcases hk with hk | hk
    · have:=hO k hk;omega
    · exact hk.2
  · rcases hk with (hk | hk | hk) | hk
    · exact Or.inl hk
    · exact Or.inr (Or.inl hk)
    · exact Or.inr (Or.inr hk.1)
    · exact Or.inr (Or.inr (by omega))
  · exact c5.to HG4.out HG4.out.size (fun k hk => by omega)
theorem pt83:Tryz.prog.underlying 83 = some (.map 9 45):=Tryz.underlying83
structure ComeB (L:List ItD) (left:ByteArray -> Bool) (M:List ItD):Prop where
  sub:∀ d ∈ M,d ∈ L ∧ left d.x.name = false
  rest:∀ d ∈ L,left d.x.name = true ∨ d ∈ M
theorem ComeB.step {L:List ItD} {left:ByteArray -> Bool} {M:List ItD} (h:ComeB L left M) (hn:(nm L).Nodup) {d:ItD} (hd:d ∈ L) (hl:left d.x.name = true):ComeB L (fun j => left j && !decide (j = d.x.name)) (putI M d) ∧ noI M d.x.name = M:=by
  have hnot:d.x.name ∉ nm M:=fun hm => by
    obtain ⟨e,he,e2⟩:=List.mem_map.1 hm
    have:=(h.sub e he).2
    rw [show e.x.name = d.x.name from e2,hl] at this;cases this
  have hno:=noI_none hnot
  refine ⟨⟨fun e he => ?_,fun e he => ?_⟩,hno⟩
  · unfold putI at he
    rw [hno] at he
    rcases List.mem_cons.1 he with rfl | he
    · exact ⟨hd,by simp⟩
    · exact ⟨(h.sub e he).1,by rw [(h.sub e he).2];rfl⟩
  · unfold putI
    rw [hno]
    rcases h.rest e he with h1 | h1
    · by_cases e2:e.x.name = d.x.name
      · right
        rw [nameI_inj hn he hd e2];simp
      · left
        rw [h1];simp [e2]
    · right;exact List.mem_cons_of_mem _ h1
theorem mkLaw (w:World):(Instr.makeMap 83 none).run Tryz.prog w = .ok (.map (some w.heap.size)) (w.alloc (.map #[] 0)):=by kernel_rfl
set_option maxRecDepth 100000 in
set_option maxHeartbeats 2000000 in
theorem lclone_any (m:Nat) (M:List ItD) (w:World) (h:IM w m M) (hl:M.length <= 1000) (hs:∀ d ∈ M,d.x.name.size <= maxLen) :
    Calls Tryz.prog 93 #[.map (some m)] w fun e w' => (∃ tm,e = .returned (.map (some tm)) ∧ IM w' tm M ∧ w.heap.size <= tm ∧ tm < w'.heap.size) ∧ Below w.heap.size w w':=by
  have hnd:=h.nodup
  have hmk:=mkLaw w
  have m0:=im_made w
  have g0:=below_alloc w (.map #[] 0)
  have h0:=h.mapS.below g0 h.lt
  have hml:=h.lt
  obtain ⟨w1,cnt1,hrun1,hR1,hc1,hgr1,hz1⟩:=h0.range Tryz.underlying9 pt83
  have g1:Below (w.alloc (.map #[] 0)).heap.size (w.alloc (.map #[] 0)) w1:=below_of_grown hgr1
  have m1:=m0.below g1 m0.lt
  have b1:=g0.trans (g1.mono g0.size)
  have HS:Hid (∀ d ∈ M,d.x.name.size <= maxLen):=hs
  have HND:Hid ((nm M).Nodup):=hnd
  obtain ⟨R,hR⟩:∃ R,Hid ((w.alloc (.map #[] 0)).heap.size = R):=⟨_,rfl⟩
  obtain ⟨tm,htm⟩:∃ tm,Hid (w.heap.size = tm):=⟨_,rfl⟩
  rw [hR.out] at hrun1 hR1
  rw [htm.out] at m1 hmk
  have HM1:Hid (IM w1 tm []):=m1
  have HRM:Hid (tm < R ∧ m < tm):=by unfold Hid;have:=htm.out;have:=hR.out;simp at this;omega
  clear h h0 hnd hgr1 hs m1 m0 g1 hz1
  go_enter Tryz.func93,Tryz.ntmps93
  go_wp2_with fail
  go_loopw [] (fun wr => ∃ left cnt M',RngS Tryz.prog wr m R M.length (lk M) left cnt ∧ M'.length + cnt <= M.length ∧ Hid (IM wr tm M') ∧ Hid (ComeB M left M') ∧ Hid (Below w.heap.size w wr)) (fun wr => wr.rangeLeft m R)
  case atStart => exact ⟨_,_,[],hR1,by simpa using hc1,HM1.out,⟨fun d hd => (by cases hd),fun d hd => Or.inl (by show (lk M d.x.name).isSome = true;rw [lk_mem HND.out hd];rfl)⟩,b1⟩
  case round =>
    clear hR1 HM1 b1
    obtain ⟨left,cnt,M',hRr,hcs,HM,HC,HB⟩:=hrel
    have hm0:=hRr.left_eq
    rcases hRr.next Tryz.underlying9 0 with ⟨hc0,hd,hrun⟩ | ⟨i,u,w2,cnt2,hi,hl',hf,hrun,hR2,hlt,hg,hz,hen⟩
    · go_wp2_with fail
      go_ret
      have hp:M'.Perm M:=perm_of_same M' M (nodup_of_nm HM.out.nodup) (nodup_of_nm HND.out) fun x => ⟨fun hx => (HC.out.sub x hx).1,fun hx => by
        rcases HC.out.rest x hx with h1 | h1
        · rw [hd _ (HS.out x hx)] at h1;cases h1
        · exact h1⟩
      exact ⟨⟨tm,rfl,HM.out.congr hp,by have:=htm.out;omega,HM.out.lt⟩,HB.out⟩
    · obtain ⟨dd,hdL,rfl,rfl⟩:=lk_some hf
      have hu:Upd wr w2 R:=upd_of_grown hg hz
      have HM2:Hid (IM w2 tm M'):=HM.out.upd hu (by have:=HRM.out;omega)
      have hB2:Below w.heap.size w w2:=below_upd HB.out hu (by have:=HRM.out;have:=htm.out;omega)
      obtain ⟨hC2,hno⟩:=HC.out.step HND.out hdL hl'
      have HC2:Hid (ComeB M (fun j => left j && !decide (j = dd.x.name)) (putI M' dd)):=hC2
      obtain ⟨⟨nmx,tgx,zsx⟩,xax,xcx⟩:=dd
      have hen':(Instr.entry (.pointer (some ⟨R,0,none⟩))).run Tryz.prog w2 = .ok (.tuple #[.string nmx,.agg #[.string nmx,.string tgx,.slice xax zsx.length xcx]]) w2:=hen
      have hrun':(Instr.next (.pointer (some ⟨R,0,none⟩)) false 0).run Tryz.prog wr = .ok (.tuple #[.bool true,.string nmx,.agg #[.string nmx,.string tgx,.slice xax zsx.length xcx]]) w2:=hrun
      have s3:=below_alloc w2 (.cells #[.string nmx,.string tgx,.slice xax zsx.length xcx] 45)
      have HM3:Hid (IM (w2.alloc (.cells #[.string nmx,.string tgx,.slice xax zsx.length xcx] 45)) tm M'):=HM2.out.below s3 HM2.out.lt
      have hR3:=hR2.below (w':=w2.alloc (.cells #[.string nmx,.string tgx,.slice xax zsx.length xcx] 45)) s3 (Nat.le_refl _)
      have hlen:M'.length < maxLen:=by unfold maxLen;omega
      obtain ⟨w4,hup,hM4,hu4⟩:=HM3.out.store pt83 hlen ⟨⟨nmx,tgx,zsx⟩,xax,xcx⟩ hi
      have hup':(Instr.mapUpdate 83 (.map (some tm)) (.string nmx) (.agg #[.string nmx,.string tgx,.slice xax zsx.length xcx])).run Tryz.prog (w2.alloc (.cells #[.string nmx,.string tgx,.slice xax zsx.length xcx] 45)) = .ok () w4:=hup
      have hR4:=(hR3.same (w':=w4) (hu4.block m (by have:=HRM.out;omega)) (hu4.block R (by have:=HRM.out;omega)))
      have HB4:Hid (Below w.heap.size w w4):=below_upd (hB2.trans (s3.mono hB2.size)) hu4 (by have:=htm.out;omega)
      have hpl:(putI M' ⟨⟨nmx,tgx,zsx⟩,xax,xcx⟩).length = M'.length + 1:=by unfold putI;rw [List.length_cons];rw [hno]
      have HM4:Hid _:=hM4
      have hm4:=hR4.left_eq
      clear hM4 hup hen hrun hf hno hR2 hR3 s3 hu hg hz hC2 hB2
      go_wp2_with fail
      refine ⟨⟨_,cnt2,_,hR4,by omega,HM4.out,HC2.out,HB4.out⟩,?_⟩
      rw [hm4,hm0];exact hlt
theorem names_of {L:List ItD}:nm L = (xsOf L).map Itm.name:=by unfold nm xsOf;rw [List.map_map];rfl
def Lok (w:World) (B:Nat) (M:List ItD):Prop:=∀ d ∈ M,d.Ok w ∧ d.x.nums.length <= 100 ∧ ∀ b o,d.a = some ⟨b,o,none⟩ -> b < B
theorem Lok.below {w w':World} {B:Nat} {M:List ItD} (h:Lok w B M) (hb:Below w.heap.size w w'):Lok w' B M:=fun d hd => ⟨(h d hd).1.below hb,(h d hd).2⟩
theorem Lok.same {w w':World} {B:Nat} {M:List ItD} (h:Lok w B M) (hs:∀ k,k < B -> w'.heap[k]? = w.heap[k]?):Lok w' B M:=fun d hd => ⟨ok_same (Z:=fun k => k < B) (h d hd).1 (h d hd).2.2 hs,(h d hd).2⟩
structure Wt (w0 w:World) (X:Nat -> Prop) (d c bb:Nat) (sec:ByteArray) (n en:Nat) (F:Int) (T:Bool) (L N:List ItD) (m1 m2:Nat) (M1 M2:List ItD):Prop where
  bas:Bas w X d c bb sec n en F T 2 L N
  im1:IM w m1 M1
  im2:IM w m2 M2
  x1:¬ X m1
  x2:¬ X m2
  lk1:Lok w w0.heap.size M1
  lk2:Lok w w0.heap.size M2
  p1:(xsOf L).Perm (xsOf M1)
  p2:(xsOf N).Perm (xsOf M2)
  xlo:∀ k,X k -> w0.heap.size <= k
  bel:Below w0.heap.size w0 w
theorem lok_two {w0 w w':World} {M:List ItD} (h:Lok w w0.heap.size M) (b1:Below w0.heap.size w0 w) (b2:Below w0.heap.size w0 w'):Lok w' w0.heap.size M:=h.same fun k hk => (b2.block k hk).trans (b1.block k hk).symm
theorem xs_noI (L:List ItD) (s:ByteArray):xsOf (noI L s) = (xsOf L).filter (fun z => !decide (z.name = s)):=by
  unfold xsOf noI
  rw [List.filter_map];rfl
theorem perm_noI {N M:List ItD} (h:(xsOf N).Perm (xsOf M)) (s:ByteArray):(xsOf (noI N s)).Perm (xsOf (noI M s)):=by
  rw [xs_noI,xs_noI];exact h.filter _
theorem perm_putI {N M:List ItD} {x y:ItD} (h:(xsOf N).Perm (xsOf M)) (e:y.x = x.x):(xsOf (putI N y)).Perm (xsOf (putI M x)):=by
  show (y.x :: xsOf (noI N y.x.name)).Perm (x.x :: xsOf (noI M x.x.name))
  rw [e]
  exact (perm_noI h _).cons _
theorem perm_isN {N M:List ItD} (h:(xsOf N).Perm (xsOf M)) (s:ByteArray):isN N s = isN M s:=by
  rw [Bool.eq_iff_iff,isN_iff,isN_iff,names_of,names_of]
  exact (h.map Itm.name).mem_iff
theorem perm_len {N M:List ItD} (h:(xsOf N).Perm (xsOf M)):N.length = M.length:=by have:=h.length_eq;simpa [xsOf] using this
section
variable {w0 w:World} {X:Nat -> Prop} {d c bb:Nat} {sec:ByteArray} {n en:Nat} {F:Int} {T:Bool} {L N:List ItD} {m1 m2:Nat} {M1 M2:List ItD}
theorem Wt.below {w':World} (h:Wt w0 w X d c bb sec n en F T L N m1 m2 M1 M2) (hb:Below w.heap.size w w'):Wt w0 w' X d c bb sec n en F T L N m1 m2 M1 M2:=
  ⟨h.bas.below hb,h.im1.below hb h.im1.lt,h.im2.below hb h.im2.lt,h.x1,h.x2,h.lk1.below hb,h.lk2.below hb,h.p1,h.p2,h.xlo,h.bel.trans (hb.mono h.bel.size)⟩
theorem lok_names {w:World} {B:Nat} {M:List ItD} (h:Lok w B M):∀ e ∈ M,e.x.name.size <= maxLen:=fun e he => (h e he).1.2.2.1
theorem more_lo {X:Nat -> Prop} {w w':World} {B:Nat} (h:∀ k,X k -> B <= k) (hB:B <= w.heap.size):∀ k,more X w w' k -> B <= k:=fun k hk => by
  rcases hk with hk | hk
  · exact h k hk
  · omega
theorem more_no {X:Nat -> Prop} {w w':World} {m:Nat} (h:¬ X m) (hm:m < w.heap.size):¬ more X w w' m:=fun hk => by
  rcases hk with hk | hk
  · exact h hk
  · omega
set_option maxRecDepth 100000 in
set_option maxHeartbeats 4000000 in
theorem does_put (h:Wt w0 w X d c bb sec n en F T L N m1 m2 M1 M2) (x:ItD) (hxo:x.Ok w) (hxl:x.x.nums.length <= 100) (hxa:∀ b o,x.a = some ⟨b,o,none⟩ -> b < w0.heap.size) (hr:rightB x.x 2 = true) (h60:M2.length < 60) :
    Calls Tryz.prog 37 #[.pointer (some ⟨bb,0,none⟩),.agg #[.int .i64 0,.string x.x.name,.string x.x.tag,.slice x.a x.x.nums.length x.c],.map (some m1),.map (some m2)] w fun e w' => (∃ X' N' m2',e = .returned (.tuple #[.map (some m1),.map (some m2'),.nilIface]) ∧ Wt w0 w' X' d c bb sec n en F T L N' m1 m2' M1 (putI M2 x)):=by
  obtain ⟨⟨nm,tg,zs⟩,xa,xc⟩:=x
  show Calls Tryz.prog 37 #[.pointer (some ⟨bb,0,none⟩),.agg #[.int .i64 0,.string nm,.string tg,.slice xa zs.length xc],.map (some m1),.map (some m2)] w _
  have sA:=below_alloc w (.cells #[.int .i64 0,.string nm,.string tg,.slice xa zs.length xc] 87)
  have jA:Blk (w.alloc (.cells #[.int .i64 0,.string nm,.string tg,.slice xa zs.length xc] 87)) w.heap.size #[.int .i64 0,.string nm,.string tg,.slice xa zs.length xc] 87:=Blk.new w _ _
  have HA:Hid (Wt w0 (w.alloc (.cells #[.int .i64 0,.string nm,.string tg,.slice xa zs.length xc] 87)) X d c bb sec n en F T L N m1 m2 M1 M2):=h.below sA
  have HXO:Hid (ItD.Ok (w.alloc (.cells #[.int .i64 0,.string nm,.string tg,.slice xa zs.length xc] 87)) ⟨⟨nm,tg,zs⟩,xa,xc⟩):=hxo.below sA
  have HXW:Hid (ItD.Ok w ⟨⟨nm,tg,zs⟩,xa,xc⟩):=hxo
  have HXL:Hid (∀ b o,xa = some ⟨b,o,none⟩ -> b < w0.heap.size):=hxa
  have hnx:¬ X w.heap.size:=fun hx => by have:=h.bas.lt _ hx;omega
  have HB0:Hid (Below w0.heap.size w0 w):=h.bel
  have hzl:zs.length <= 100:=hxl
  have hNM:N.length = M2.length:=perm_len h.p2
  clear h hxo hxa hxl
  go_enter Tryz.func37,Tryz.ntmps37
  go_wp2_with fail
  generalize w.alloc (.cells #[.int .i64 0,.string nm,.string tg,.slice xa zs.length xc] 87) = wA at *
  have HP:Hid _:=bas_put HA.out.bas ⟨⟨nm,tg,zs⟩,xa,xc⟩ HXO.out (by decide) hr (Or.inr (by omega))
  refine Calls.mono HP.out ?_
  rintro e w2 ⟨rfl,⟨y,hy,hB2⟩,c2⟩
  have HB2:Hid (Bas w2 (more X wA w2) d c bb sec n en F T 2 L (putI N y)):=hB2
  have HY:Hid (y.x = ⟨nm,tg,zs⟩):=hy
  have HC2:Hid (Dv.Chg wA w2 X):=c2
  have j2:=jA.chg c2 hnx
  have HI2:Hid (IM w2 m2 M2):=HA.out.im2.same (c2.block _ HA.out.im2.lt HA.out.x2)
  have HI1:Hid (IM w2 m1 M1):=HA.out.im1.same (c2.block _ HA.out.im1.lt HA.out.x1)
  have HBL2:Hid (Below w0.heap.size w0 w2):=c2.to HA.out.bel HA.out.bel.size HA.out.xlo
  have HL2:Hid (Lok w2 w0.heap.size M2):=lok_two HA.out.lk2 HA.out.bel HBL2.out
  have HCL:Hid _:=lclone_any m2 M2 w2 HI2.out (by omega) (lok_names HL2.out)
  have HX2:Hid (ItD.Ok w2 ⟨⟨nm,tg,zs⟩,xa,xc⟩):=ok_same (Z:=fun k => k < w0.heap.size) HXW.out HXL.out (fun k hk => (HBL2.out.block k hk).trans (HB0.out.block k hk).symm)
  have HSA:Hid (wA.heap.size <= w2.heap.size):=c2.size
  have HSW:Hid (w.heap.size <= wA.heap.size):=sA.size
  clear HP hB2 hy c2 jA sA
  go_wp2_with fail
  refine Calls.mono HCL.out ?_
  rintro e w3 ⟨⟨tm,rfl,hM3,q1,q2⟩,g3⟩
  have j3:=j2.below g3 j2.lt
  obtain ⟨w4,hup,hM4,hu4⟩:=hM3.store pt83 (by unfold maxLen;omega) ⟨⟨nm,tg,zs⟩,xa,xc⟩ HX2.out.2.2.1
  have hup':(Instr.mapUpdate 83 (.map (some tm)) (.string nm) (.agg #[.string nm,.string tg,.slice xa zs.length xc])).run Tryz.prog w3 = .ok () w4:=hup
  have e1:=j3.cell 1
  have e2:=j3.cell 2
  have e3:=j3.cell 3
  have HM4:Hid (IM w4 tm (putI M2 ⟨⟨nm,tg,zs⟩,xa,xc⟩)):=hM4
  have HU4:Hid (Upd w3 w4 tm):=hu4
  have HG3:Hid (Below w2.heap.size w2 w3):=g3
  have HQ:Hid (w2.heap.size <= tm ∧ tm < w3.heap.size):=⟨q1,q2⟩
  clear HCL hM3 hup hM4 hu4 g3 j2 q1 q2
  go_wp2_with fail
  go_ret3
  have hq:=HQ.out
  have c24:Dv.Chg w2 w4 (fun k => k = tm):=(Dv.Chg.of HG3.out _).upd HU4.out (Or.inl rfl)
  have b4:Below w0.heap.size w0 w4:=below_upd (HBL2.out.trans (HG3.out.mono HBL2.out.size)) HU4.out (by have:=HBL2.out.size;omega)
  have n1:=HA.out.im1.lt
  have n2:=HA.out.im2.lt
  have hsa:=HSA.out
  have hsw:=HSW.out
  refine ⟨more X wA w2,putI N y,tm,rfl,⟨HB2.out.chg c24 (fun k hk e => by have:=HB2.out.lt k hk;omega),HI1.out.same (c24.block _ HI1.out.lt (by omega)),HM4.out,more_no HA.out.x1 n1,fun hk => ?_,lok_two HA.out.lk1 HA.out.bel b4,?_,HA.out.p1,perm_putI HA.out.p2 HY.out,more_lo HA.out.xlo HA.out.bel.size,b4⟩⟩
  · have:=HB2.out.lt _ hk;omega
  · intro z hz
    rcases putI_mem hz with rfl | hz
    · exact ⟨ok_same (Z:=fun k => k < w0.heap.size) HXW.out HXL.out (fun k hk => (b4.block k hk).trans (HB0.out.block k hk).symm),hzl,HXL.out⟩
    · exact lok_two HA.out.lk2 HA.out.bel b4 z hz
end
end Go.Proofs.YtjmpjfikcgccdaaGreatDoor.Bs
