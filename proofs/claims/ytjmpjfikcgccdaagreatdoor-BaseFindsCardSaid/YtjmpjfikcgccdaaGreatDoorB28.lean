/-
  Part of the proof of BaseFindsCard (V8 and on).
-/
import Derived.Test.YtjmpjfikcgccdaaGreatDoorB27
namespace Go.Proofs.YtjmpjfikcgccdaaGreatDoor.Vt
open Go.RowKit
theorem pg_form {w:World} {base:Nat} {T:TypeId} {pgs:Value} {l:List (Nat × ByteArray)} (h:w.ownsRow base T 2 pgs l.length (slC l)) :
    ∃ a cap,pgs = .slice a l.length cap ∧ ∀ (i:Nat) (x:Nat × ByteArray),l[i]? = some x -> ∃ g,a = some ⟨g,0,none⟩ ∧ g < w.heap.size ∧ w.cell? ⟨g,i * 2,none⟩ = some (.int .i64 (x.1:Int)) ∧ w.cell? ⟨g,i * 2 + 1,none⟩ = some (.string x.2):=by
  obtain ⟨h1,⟨h2,h3⟩ | ⟨g,cap,cur,h3,h4,h5,h6,h7,h8,h9⟩⟩:=h
  · have:l = []:=List.eq_nil_of_length_eq_zero h3
    subst this
    exact ⟨none,0,h2,fun i x hx => by simp at hx⟩
  · refine ⟨some ⟨g,0,none⟩,cap,h3,fun i x hx => ⟨g,rfl,(Array.getElem?_eq_some_iff.1 h5).1,?_⟩⟩
    obtain ⟨a1,a2⟩:=slC_at l i x hx
    have hi:i < l.length:=(List.getElem?_eq_some_iff.1 hx).1
    have hb:Blk w g cur T:=h5
    rw [<- h9,List.getElem?_take,if_pos (by omega)] at a1 a2
    rw [hb.cell,hb.cell,<- Array.getElem?_toList,<- Array.getElem?_toList]
    exact ⟨a1,a2⟩
def wl (l:List (Nat × ByteArray)):List (Nat × (Nat -> UInt8)):=l.map fun x => (x.1,Dv.bAt x.2)
theorem wl_take {l:List (Nat × ByteArray)} {k:Nat} {x:Nat × ByteArray} (h:l[k]? = some x) (W:List (Nat × (Nat -> UInt8))):W ++ wl (l.take k) ++ [(x.1,Dv.bAt x.2)] = W ++ wl (l.take (k + 1)):=by
  rw [List.take_add_one,h,List.append_assoc];unfold wl;simp
def sureS (S:Nat -> Nat -> UInt8) (W:List (Nat × (Nat -> UInt8))):Nat -> Nat -> UInt8:=Dv.loseS S W (fun _ => true) W.length
theorem szF:(Tryz.prog.info? 361).map (·.size) = some 1:=by kernel_rfl
theorem szVB:(Tryz.prog.info? 303).map (·.size) = some 2:=by kernel_rfl
set_option maxRecDepth 100000 in
set_option maxHeartbeats 1000000 in
theorem vwrite_any (vb d c:Nat) (VA:Array Value) (O:Nat -> Prop) (S:Nat -> Nat -> UInt8) (W:List (Nat × (Nat -> UInt8))) (v:Value) (lf:Int) (pgs:Value) (base:Nat) (l:List (Nat × ByteArray)) (at':Nat) (top:ByteArray) (n m:Int) (w:World)
    (jV:Blk w vb VA 193) (hv0:VA[0]? = some (.pointer (some ⟨d,0,none⟩))) (hv1:VA[1]? = some (.pointer (some ⟨c,0,none⟩))) (hD:Dv.Dev w O d S W (-1) v lf) (hC:Dv.Cnt w c n) (hm:n < m)
    (hp:w.ownsRow base 303 2 pgs l.length (slC l)) (hpo:∀ g,pgs.ownBlock = some g -> ¬ O g) (hl:∀ x ∈ l,x.1 < 66 ∧ x.2.size <= 256) (hll:l.length <= 32) (hW:W.length <= 100)
    (hat:at' < 66) (htop:top.size <= 256) (hO:∀ k,O k -> k < w.heap.size) (o2:¬ O vb) (o3:¬ O c) (o4:vb ≠ c) :
    Calls Tryz.prog 214 #[.pointer (some ⟨vb,0,none⟩),pgs,.agg #[.int .i64 (at':Int),.string top],.int .i64 m] w fun e w' => e = .returned .nilIface ∧
      (∃ O' v' l',Dv.Dev w' O' d (sureS (sureS S (W ++ wl l)) [(at',Dv.bAt top)]) [] (-1) v' l' ∧ ∀ k,O' k -> Dv.gro O w w' k) ∧ Dv.Cnt w' c m ∧ Dv.Chg w w' (fun k => O k ∨ k = c):=by
  have HL:Hid (∀ x ∈ l,x.1 < 66 ∧ x.2.size <= 256):=hl
  clear hl
  obtain ⟨a,cap,rfl,hrd⟩:=pg_form hp
  have HR:Hid (∀ (i:Nat) (x:Nat × ByteArray),l[i]? = some x -> ∃ g,a = some ⟨g,0,none⟩ ∧ g < w.heap.size ∧ ¬ O g ∧ w.cell? ⟨g,i * 2,none⟩ = some (.int .i64 (x.1:Int)) ∧ w.cell? ⟨g,i * 2 + 1,none⟩ = some (.string x.2)):=fun i x hx => by
    obtain ⟨g,h1,h2,h3,h4⟩:=hrd i x hx
    exact ⟨g,h1,h2,hpo g (by rw [h1];rfl),h3,h4⟩
  clear hrd hp hpo
  go_enter Tryz.func214,Tryz.ntmps214
  go_wp2_with (first
    | (refine wpl_put1 rfl rfl 361 _ _ rfl szF (w.heap.size + 1 + 1 + 1 + 1) 0 #[.nilFunc] 361 (doV (w.heap.size + 3)) rfl rfl rfl rfl (Blk.new' _ _ _ (by simp)) (by decide) ?_;intro w1 hu1 j1)
    | fail)
  have k0:=((((Blk.new w #[.pointer (some ⟨vb,0,none⟩)] 123).alloc (.cells #[.int .i64 (at':Int),.string top] 303)).alloc (.cells #[.int .i64 m] 3)).alloc (.cells #[.nilIface] 40)).alloc (.cells #[.nilFunc] 361)
  have k1:=(((Blk.new' (w.alloc (.cells #[.pointer (some ⟨vb,0,none⟩)] 123)) #[.int .i64 (at':Int),.string top] 303 (b:=w.heap.size + 1) (by simp)).alloc (.cells #[.int .i64 m] 3)).alloc (.cells #[.nilIface] 40)).alloc (.cells #[.nilFunc] 361)
  have k2:=((Blk.new' ((w.alloc (.cells #[.pointer (some ⟨vb,0,none⟩)] 123)).alloc (.cells #[.int .i64 (at':Int),.string top] 303)) #[.int .i64 m] 3 (b:=w.heap.size + 2) (by simp)).alloc (.cells #[.nilIface] 40)).alloc (.cells #[.nilFunc] 361)
  have k3:=(Blk.new' (((w.alloc (.cells #[.pointer (some ⟨vb,0,none⟩)] 123)).alloc (.cells #[.int .i64 (at':Int),.string top] 303)).alloc (.cells #[.int .i64 m] 3)) #[.nilIface] 40 (b:=w.heap.size + 3) (by simp)).alloc (.cells #[.nilFunc] 361)
  have gg:Below w.heap.size w (((((w.alloc (.cells #[.pointer (some ⟨vb,0,none⟩)] 123)).alloc (.cells #[.int .i64 (at':Int),.string top] 303)).alloc (.cells #[.int .i64 m] 3)).alloc (.cells #[.nilIface] 40)).alloc (.cells #[.nilFunc] 361)):=(((((Below.refl _ _).alloc (Nat.le_refl _) _).alloc (by simp) _).alloc (by simp;omega) _).alloc (by simp;omega) _).alloc (by simp;omega) _
  have g1:=below_upd gg hu1 (show w.heap.size <= w.heap.size + 1 + 1 + 1 + 1 by omega)
  have z1:w1.heap.size = w.heap.size + 5:=by rw [hu1.size];simp
  have k0':=k0.upd hu1 (by omega)
  have k1':=k1.upd hu1 (by omega)
  have k2':=k2.upd hu1 (by omega)
  have k3':=k3.upd hu1 (by omega)
  have hD1:=hD.below g1
  have hW1:Wr w1 w O w.heap.size vb d c VA at' top n m:=⟨k0',k1',k2',k3',j1,jV.below g1 jV.lt,hC.below g1 hC.lt,(Dv.Chg.refl w O).below g1,rfl,jV.lt,hC.lt,o2,o3,o4⟩
  obtain ⟨B,hB⟩:∃ B,w.heap.size = B:=⟨_,rfl⟩
  rw [hB] at hW1 z1 hO
  rw [hB]
  simp only [Nat.add_assoc,Nat.reduceAdd]
  have HO:Hid (∀ k,O k -> k < B):=hO
  clear k0 k1 k2 k3 k0' k1' k2' k3' gg hu1 j1 hO jV hC hD g1
  go_loopw [18] (fun i wr => ∃ (k:Nat) (O':Nat -> Prop) (v':Value) (l':Int),k <= l.length ∧ i = .int .i64 k ∧ Wr wr w O B vb d c VA at' top n m ∧ Dv.Dev wr O' d S (W ++ wl (l.take k)) (-1) v' l' ∧ Hid (∀ k,O' k -> O k ∨ (B + 5 <= k ∧ k < wr.heap.size)) ∧ B + 5 <= wr.heap.size) (fun i _ => l.length - (intOf i).toNat)
  case atStart => exact ⟨0,O,v,lf,by omega,rfl,hW1,by simpa [wl] using hD1,fun k h => Or.inl h,by omega⟩
  case round =>
    clear hW1 hD1 z1
    obtain ⟨k,O',v',l',hk,rfl,hWr,hDr,hOr,hzr⟩:=hrel
    by_cases hlt:k < l.length
    · obtain ⟨x,hx⟩:∃ x,l[k]? = some x:=⟨_,List.getElem?_eq_getElem hlt⟩
      obtain ⟨g,rfl,hg,ng,ca,cb⟩:=HR.out k x hx
      have hxo:=HL.out x (List.mem_of_getElem? hx)
      have ca':wr.cell? ⟨g,k * 2,none⟩ = some (.int .i64 (x.1:Int)):=(World.cell?_of_block (hWr.lo.block g hg ng)).trans ca
      have cb':wr.cell? ⟨g,k * 2 + 1,none⟩ = some (.string x.2):=(World.cell?_of_block (hWr.lo.block g hg ng)).trans cb
      have hlt':(k:Int) < (l.length:Int):=by omega
      have hX:Hid (l[k]? = some x):=hx
      clear ca cb hx
      have e1:∀ u ∈ (#[Value.int .i64 (x.1:Int),.string x.2]:Array Value).toList,u.oneCell' = true:=by intro u hu;simp at hu;rcases hu with rfl | rfl <;> rfl
      go_wp2_with (first
        | (refine Su.wpl_storeV rfl rfl 303 _ _ rfl 2 szVB wr.heap.size _ 303 #[.int .i64 (x.1:Int),.string x.2] e1 rfl rfl (Blk.new wr _ _) rfl rfl ?_;intro w2 hu2 j2;have d0:=j2.cell 0;have d1:=j2.cell 1)
        | fail)
      have s2:Below wr.heap.size wr w2:=below_upd (Pg.below_alloc wr _) hu2 (Nat.le_refl _)
      have hD2:=hDr.below s2
      have hW2:Wr w2 w O B vb d c VA at' top n m:=⟨hWr.jv.below s2 hWr.jv.lt,hWr.jt.below s2 hWr.jt.lt,hWr.jn.below s2 hWr.jn.lt,hWr.jf.below s2 hWr.jf.lt,hWr.jd.below s2 hWr.jd.lt,hWr.jV.below s2 hWr.jV.lt,hWr.jc.below s2 hWr.jc.lt,hWr.lo.below s2,hWr.h1,hWr.h2,hWr.h3,hWr.o2,hWr.o3,hWr.o4⟩
      have z2:w2.heap.size = wr.heap.size + 1:=by rw [hu2.size];simp
      have hlen:(W ++ wl (l.take k)).length < 1000:=by unfold wl;simp;omega
      have nf:¬ O' (B + 3):=fun h => by
        rcases hOr.out _ h with h | h
        · have:=HO.out _ h;omega
        · omega
      refine (put_any (B + 4) (B + 3) B vb d VA O' S _ v' l' x.1 x.2 w2 hW2.jd hW2.jf hW2.jv hW2.jV hv0 hD2 hxo.1 hxo.2 hlen nf).mono ?_
      rintro e w3 ⟨rfl,j3,⟨v3,l3,hD3⟩,C3⟩
      rw [wl_take hX.out W] at hD3
      have hz3:=C3.size
      have hW3:=hW2.step C3 (fun q hq => (hOr.out q hq).imp id fun h => h.1) j3 HO.out
      clear d0 d1 hu2 j2 s2 hD2 hW2 hWr hDr ca' cb' C3 j3
      go_wp2_with fail
      refine ⟨⟨k + 1,_,v3,l3,by omega,by go_num,hW3,hD3,fun q hq => ?_,by omega⟩,by simp [intOf];omega⟩
      rcases hq with hq | hq
      · exact (hOr.out q hq).imp id fun h => ⟨h.1,by omega⟩
      · exact Or.inr ⟨by omega,hq.2⟩
    · have hkl:k = l.length:=by omega
      have hDr':Dv.Dev wr O' d S (W ++ wl l) (-1) v' l':=by rw [hkl,List.take_length] at hDr;exact hDr
      have hlt':¬ ((k:Int) < (l.length:Int)):=by omega
      have nf:¬ O' (B + 3):=fun h => by
        rcases hOr.out _ h with h | h
        · have:=HO.out _ h;omega
        · omega
      clear hDr hkl
      have hWwr:=hWr
      clear hWr
      go_wp2_with fail
      have a0:wr.drew.cell? ⟨B,0,none⟩ = some (.pointer (some ⟨vb,0,none⟩)):=hWwr.jv.cell 0
      have a1:wr.drew.cell? ⟨vb,0,none⟩ = some (.pointer (some ⟨d,0,none⟩)):=by rw [show wr.drew.cell? ⟨vb,0,none⟩ = wr.cell? ⟨vb,0,none⟩ from rfl,hWwr.jV.cell,hv0]
      have a2:wr.drew.cell? ⟨B + 4,0,none⟩ = some (doV (B + 3)):=hWwr.jd.cell 0
      refine region_s [(0,false),(1,false),(2,true),(3,true),(4,false),(5,true)] [] [6] (fun w' => w' = wr.drew) Tr.mixed (by kernel_rfl) (fun _ _ _ _ _ h => h) rfl ?_
      refine lead_read _ rfl _ rfl rfl (doV (B + 3)) (fun w' hS => by subst hS;go_simp) ?_
      refine lead_read _ rfl _ rfl rfl (.pointer (some ⟨vb,0,none⟩)) (fun w' hS => by subst hS;go_simp) ?_
      refine lead_pure _ rfl _ rfl rfl (.pointer (some ⟨vb,0,none⟩)) (fun w' => by go_simp) ?_
      refine lead_pure _ rfl _ rfl rfl (.pointer (some ⟨vb,0,none⟩)) (fun w' => by go_simp) ?_
      refine lead_read _ rfl _ rfl rfl (.pointer (some ⟨d,0,none⟩)) (fun w' hS => by subst hS;go_simp) ?_
      refine lead_pure _ rfl _ rfl rfl (.func (.func 279) #[.pointer (some ⟨d,0,none⟩)] #[]) (fun w' => by go_simp) ?_
      simp only [lead_nil_eq]
      simp only [Act.put,List.setIfInBounds_toArray,List.set_cons_succ,List.set_cons_zero]
      simp only [mid_nil_eq]
      simp only [List.filterMap_cons,List.getElem?_toArray,List.getElem?_cons_succ,List.getElem?_cons_zero,List.filterMap_nil]
      clear a0 a1 a2
      go_wp2_with fail
      refine (do_sync (B + 3) d O' S (W ++ wl l) v' l' _ (hWwr.jf.drewN 1) (hDr'.drewN 1) nf).mono ?_
      rintro e w2 ⟨rfl,j2,⟨l2,hD2⟩,C2'⟩
      have C2:Dv.Chg wr w2 (fun k => O' k ∨ k = B + 3):=⟨C2'.os,C2'.tape,C2'.output,C2'.size,C2'.block⟩
      have hz2:=C2.size
      have hW2:=hWwr.step C2 (fun q hq => (hOr.out q hq).imp id fun h => h.1) j2 HO.out
      have t0:=hW2.jt.cell 0
      have t1:=hW2.jt.cell 1
      clear hWwr hDr' C2' C2 j2
      go_wp2_with fail
      refine (put_any (B + 4) (B + 3) B vb d VA O' _ [] _ l2 at' top w2 hW2.jd hW2.jf hW2.jv hW2.jV hv0 hD2 hat htop (by decide) nf).mono ?_
      rintro e w3 ⟨rfl,j3,⟨v3,l3,hD3⟩,C3⟩
      have hz3:=C3.size
      have hWw3:=hW2.step C3 (fun q hq => (hOr.out q hq).imp id fun h => h.1) j3 HO.out
      have nf3:¬ Dv.gro O' w2 w3 (B + 3):=fun h => by
        rcases h with h | h
        · exact nf h
        · omega
      clear hW2 hD2 C3 j3 t0 t1
      go_wp2_with fail
      have a0:w3.drew.cell? ⟨B,0,none⟩ = some (.pointer (some ⟨vb,0,none⟩)):=hWw3.jv.cell 0
      have a1:w3.drew.cell? ⟨vb,0,none⟩ = some (.pointer (some ⟨d,0,none⟩)):=by rw [show w3.drew.cell? ⟨vb,0,none⟩ = w3.cell? ⟨vb,0,none⟩ from rfl,hWw3.jV.cell,hv0]
      have a2:w3.drew.cell? ⟨B + 4,0,none⟩ = some (doV (B + 3)):=hWw3.jd.cell 0
      refine region_s [(0,false),(1,false),(2,true),(3,true),(4,false),(5,true)] [] [6] (fun w' => w' = w3.drew) Tr.mixed (by kernel_rfl) (fun _ _ _ _ _ h => h) rfl ?_
      refine lead_read _ rfl _ rfl rfl (doV (B + 3)) (fun w' hS => by subst hS;go_simp) ?_
      refine lead_read _ rfl _ rfl rfl (.pointer (some ⟨vb,0,none⟩)) (fun w' hS => by subst hS;go_simp) ?_
      refine lead_pure _ rfl _ rfl rfl (.pointer (some ⟨vb,0,none⟩)) (fun w' => by go_simp) ?_
      refine lead_pure _ rfl _ rfl rfl (.pointer (some ⟨vb,0,none⟩)) (fun w' => by go_simp) ?_
      refine lead_read _ rfl _ rfl rfl (.pointer (some ⟨d,0,none⟩)) (fun w' hS => by subst hS;go_simp) ?_
      refine lead_pure _ rfl _ rfl rfl (.func (.func 279) #[.pointer (some ⟨d,0,none⟩)] #[]) (fun w' => by go_simp) ?_
      simp only [lead_nil_eq]
      simp only [Act.put,List.setIfInBounds_toArray,List.set_cons_succ,List.set_cons_zero]
      simp only [mid_nil_eq]
      simp only [List.filterMap_cons,List.getElem?_toArray,List.getElem?_cons_succ,List.getElem?_cons_zero,List.filterMap_nil]
      clear a0 a1 a2
      go_wp2_with fail
      refine (do_sync (B + 3) d _ _ _ v3 l3 _ (hWw3.jf.drewN 1) (hD3.drewN 1) nf3).mono ?_
      rintro e w4 ⟨rfl,j4,⟨l4,hD4⟩,C4'⟩
      have C4:Dv.Chg w3 w4 (fun k => Dv.gro O' w2 w3 k ∨ k = B + 3):=⟨C4'.os,C4'.tape,C4'.output,C4'.size,C4'.block⟩
      have hz4:=C4.size
      have hG:∀ q,Dv.gro O' w2 w3 q -> O q ∨ (B + 5 <= q ∧ q < w3.heap.size):=fun q hq => by
        rcases hq with hq | hq
        · exact (hOr.out q hq).imp id fun h => ⟨h.1,by omega⟩
        · exact Or.inr ⟨by omega,hq.2⟩
      have HG:Hid (∀ q,Dv.gro O' w2 w3 q -> O q ∨ (B + 5 <= q ∧ q < w3.heap.size)):=hG
      have hW4:=hWw3.step C4 (fun q hq => (hG q hq).imp id fun h => h.1) j4 HO.out
      have q0:=hW4.jd.cell 0
      clear hWw3 hD3 C4' C4 j4 hG nf3
      go_wp2_with fail
      refine (do_raise (B + 3) B (B + 2) vb c n m w4 hW4.jf hW4.jv hW4.jn (by rw [hW4.jV.cell,hv1]) hW4.jc hm (by have:=hW4.h3;omega)).mono ?_
      rintro e w5 ⟨rfl,j5,c5,C5⟩
      have r0:=j5.cell 0
      have hz5:=C5.size
      clear q0
      go_wp2_with fail
      go_ret
      refine ⟨rfl,⟨_,_,l4,hD4.chg C5 (fun q hq e => ?_),fun q hq => ?_⟩,c5,chg_then (hW4.lo.mono fun q _ h => Or.inl h) C5 (fun q hq e => ?_)⟩
      · rcases e with e | e
        · subst e
          rcases HG.out _ hq with h | h
          · exact hW4.o3 h
          · have:=hW4.h3;omega
        · subst e
          rcases HG.out _ hq with h | h
          · have:=HO.out _ h;omega
          · omega
      · rcases HG.out q hq with h | h
        · exact Or.inl h
        · exact Or.inr ⟨by have:=hW4.h1;omega,by omega⟩
      · rcases e with e | e
        · exact Or.inr e
        · have:=hW4.h1;omega
theorem vaA_set (d c:Nat) (sec:ByteArray) (st st':Array Value) (stuck:Bool) (hs:st.size = 36) (hs':st'.size = 36):foldset (vaA d c sec st stuck) 3 st'.toList = vaA d c sec st' stuck:=by
  apply Array.ext_getElem?;intro j
  rw [Dv.foldset_get _ _ _ _ (by rw [vaA_size _ _ _ _ _ hs];simp [hs'])]
  by_cases h:3 <= j ∧ j < 3 + st'.toList.length
  · rw [if_pos h]
    simp [hs'] at h
    have e:=vaA_st d c sec st' stuck hs' (j - 3) (by omega)
    rw [show 3 + (j - 3) = j from by omega] at e
    rw [e,Array.getElem?_toList]
  · rw [if_neg h]
    simp [hs'] at h
    unfold vaA
    by_cases h3:j < 3
    · rw [Array.getElem?_append_left (by simp [hs];omega),Array.getElem?_append_left (by simp;omega),Array.getElem?_append_left (by simp [hs'];omega),Array.getElem?_append_left (by simp;omega)]
    · rw [Array.getElem?_append_right (by simp [hs];omega),Array.getElem?_append_right (by simp [hs'];omega)]
      simp [hs,hs']
theorem buildVB (a:Int) (x:ByteArray) (w:World):(Instr.build 303 #[(0,.int .i64 a),(1,.string x)]).run Tryz.prog w = .ok (.agg #[.int .i64 a,.string x]) w:=run_build w 303 _ _ (by kernel_rfl)
set_option maxRecDepth 100000 in
set_option maxHeartbeats 1000000 in
theorem become_any (vb d c:Nat) (sec:ByteArray) (cn en:Int) (f:Nat -> Bool) (r:ByteArray) (mb n:Nat) (p:Int -> Option (Int × ByteArray)) (ep:Int) (tm nt:Nat) (t:Int -> Option (Int × ByteArray)) (O:Nat -> Prop) (S:Nat -> Nat -> UInt8) (W:List (Nat × (Nat -> UInt8))) (v:Value) (lf:Int) (n0:Int) (w:World)
    (hV:Vlt w vb d c sec cn en f r mb n p false) (hT:MapF Tryz.prog w tm nt (pv t)) (hD:Dv.Dev w O d S W (-1) v lf) (hC:Dv.Cnt w c n0) (hm:n0 < cn + 1)
    (hk:∀ i,kOk i -> (t i).isSome = true -> 0 <= i ∧ i < 32) (hn:n + nt <= 100000) (hc0:0 <= cn) (hc1:cn < 1099511627776) (he0:1 <= ep) (he1:ep <= 1099511627776) (hs:∀ j:Nat,j < 32 -> (rd (nxP p t) j).2.size <= 300)
    (ht:∀ k:Nat,k < 32 -> ∀ x,t (k:Int) = some x -> 1 <= x.1 ∧ x.1 <= 1099511627776 ∧ x.2.size <= 200) (hsec:sec.size <= 300) (hW:W.length <= 100) (hO:∀ k,O k -> k < w.heap.size) (o2:¬ O vb) (o3:¬ O c) (o4:vb ≠ c) (hK:Sm.KB w) :
    Calls Tryz.prog 137 #[.pointer (some ⟨vb,0,none⟩),.int .i64 ep,.map (some tm)] w fun e w' => e = .returned .nilIface ∧
      (∃ CB,Vlt w' vb d c sec (cn + 1) ep (nxF f t) (rootP (nxP p t)) CB (n + nt) (nxP p t) false ∧ w.heap.size <= CB) ∧
      (∃ O' v' l',Dv.Dev w' O' d (sureS (sureS S (W ++ wl (sl (epoK sec ep) (nxF f t) t 32))) [((cn + 1).toNat % 2,Dv.bAt (Su.allT (supK sec) (cn + 1) ep (nxF f t) (rootP (nxP p t))))]) [] (-1) v' l' ∧ ∀ k,O' k -> Dv.gro O w w' k) ∧ Dv.Cnt w' c (cn + 1) ∧ Dv.Chg w w' (fun k => O k ∨ k = c ∨ k = vb):=by
  have HK:Hid (∀ i,kOk i -> (t i).isSome = true -> 0 <= i ∧ i < 32):=hk
  have HS:Hid (∀ j:Nat,j < 32 -> (rd (nxP p t) j).2.size <= 300):=hs
  have HT:Hid (∀ k:Nat,k < 32 -> ∀ x,t (k:Int) = some x -> 1 <= x.1 ∧ x.1 <= 1099511627776 ∧ x.2.size <= 200):=ht
  have HC:Hid (0 <= cn ∧ cn < 1099511627776 ∧ 1 <= ep ∧ ep <= 1099511627776 ∧ n0 < cn + 1):=⟨hc0,hc1,he0,he1,hm⟩
  have HO:Hid (∀ k,O k -> k < w.heap.size):=hO
  have hvw:Hid (vb < w.heap.size):=hV.blk.lt
  have hcw:Hid (c < w.heap.size):=hC.lt
  have HB:=behind_any cn en f r mb n p ep tm nt t w hV.map hT hk hn hc0 (by omega) hs hK
  have jV:=hV.blk
  have q0:=vaA_0 d c sec (stA cn en f r (.map (some mb))) false
  have q1:=vaA_1 d c sec (stA cn en f r (.map (some mb))) false
  have q2:Hid _:=vaA_2 d c sec (stA cn en f r (.map (some mb))) false
  have q3:=vaA_now d c sec (stA cn en f r (.map (some mb))) false (stA_size _ _ _ _ _)
  have q4:=vaA_size d c sec (stA cn en f r (.map (some mb))) false (stA_size _ _ _ _ _)
  have q5:Hid (∀ st',st'.size = 36 -> foldset (vaA d c sec (stA cn en f r (.map (some mb))) false) 3 st'.toList = vaA d c sec st' false):=fun st' h => vaA_set d c sec _ st' false (stA_size _ _ _ _ _) h
  obtain ⟨X0,hX0⟩:∃ X,Hid (stA cn en f r (.map (some mb)) = X):=⟨_,rfl⟩
  rw [hX0.out] at HB jV q0 q1 q2 q3 q4 q5
  obtain ⟨VA,hVA⟩:∃ X,Hid (vaA d c sec X0 false = X):=⟨_,rfl⟩
  rw [hVA.out] at jV q0 q1 q2 q3 q4 q5
  clear hX0 hVA hk hs ht hc0 hc1 he0 he1 hm hO
  go_enter Tryz.func137,Tryz.ntmps137
  go_wp2_with (first
    | (refine Su.wpl_loadV rfl 189 _ rfl Tryz.isAgg189 36 szSt vb 3 VA 193 rfl jV (by omega) ?_;rw [q3])
    | fail)
  refine HB.mono ?_
  rintro e w1 ⟨⟨CB,rfl,hM1,hCB⟩,g1⟩
  have u0:=stA_size (cn + 1) ep (nxF f t) (rootP (nxP p t)) (.map (some CB))
  have u1:=stA_one (cn + 1) ep (nxF f t) (rootP (nxP p t)) (.map (some CB)) rfl
  have u2:=stA_0 (cn + 1) ep (nxF f t) (rootP (nxP p t)) (.map (some CB))
  have u3:Hid _:=stA_sup (cn + 1) ep (nxF f t) (rootP (nxP p t)) (.map (some CB)) 35 rfl
  obtain ⟨X1,hX1⟩:∃ X,Hid (stA (cn + 1) ep (nxF f t) (rootP (nxP p t)) (.map (some CB)) = X):=⟨_,rfl⟩
  rw [hX1.out] at u0 u1 u2 u3
  rw [hX1.out]
  have zst:=zeroSt
  have zZ:=st0_size
  obtain ⟨Z,hZ⟩:∃ Z,Hid (st0 = Z):=⟨_,rfl⟩
  rw [hZ.out] at zst zZ
  clear hZ HB q3
  go_wp2_with (first
    | (refine Su.wpl_storeV rfl rfl 189 _ _ rfl 36 szSt w1.heap.size Z 189 X1 u1 rfl rfl (Blk.new w1 _ _) zZ u0 ?_;intro w2 hu2 j2)
    | fail)
  have s2:Below w1.heap.size w1 w2:=below_upd (Pg.below_alloc w1 _) hu2 (Nat.le_refl _)
  have b2:=g1.trans (s2.mono g1.size)
  have jV2:=jV.below b2 jV.lt
  have hT2:=hT.below b2 hT.lt
  have hM2:=hM1.below s2 hM1.lt
  have hD2:=hD.below b2
  have hC2:=hC.below b2 hC.lt
  obtain ⟨NB,hNB⟩:∃ NB,Hid (w1.heap.size = NB):=⟨_,rfl⟩
  have hN1:Hid (w.heap.size <= NB):=by unfold Hid;rw [<- hNB.out];exact g1.size
  have hN2:Hid (CB < NB):=by unfold Hid;rw [<- hNB.out];exact hM1.lt
  rw [hNB.out] at j2
  rw [hNB.out]
  clear hu2 s2 hD hC hT hM1 jV g1
  have HW2:Hid (∀ W',Below w2.heap.size w2 W' -> Blk W' NB X1 189 ∧ W'.cell? ⟨vb,2,none⟩ = some (.string sec)):=fun W' hb => ⟨j2.below hb j2.lt,by rw [(jV2.below hb jV2.lt).cell,q2.out]⟩
  refine regS_in 12 (fun W' => Below w2.heap.size w2 W') Tr.mixed rfl ?_
  have s0:Below w2.heap.size w2 w2.drew:=below_drewN (Below.refl _ _) 1
  refine regS_take 0 26 (.agg X1) rfl rfl (by kernel_rfl) (fun _ _ _ h => h) rfl (fun W' hs => Su.exec_load 189 _ rfl ⟨NB,0,none⟩ rfl _ (by rw [Su.loadV_run W' _ Tryz.isAgg189 36 szSt NB 0 X1 _ (HW2.out W' hs).1 (by omega),Su.ext_all u0])) s0 ?_
  refine regS_take 1 27 (.pointer (some ⟨vb,0,none⟩)) rfl rfl (by kernel_rfl) (fun _ _ _ h => h) rfl (fun w _ => by go_simp) s0 ?_
  refine regS_take 2 28 (.pointer (some ⟨vb,0,none⟩)) rfl rfl (by kernel_rfl) (fun _ _ _ h => h) rfl (fun w _ => by go_simp) s0 ?_
  refine regS_take 3 29 (.pointer (some ⟨vb,2,none⟩)) rfl rfl (by kernel_rfl) (fun _ _ _ h => h) rfl (fun w _ => by go_simp) s0 ?_
  refine regS_take 4 30 (.string sec) rfl rfl (by kernel_rfl) (fun _ _ _ h => h) rfl (fun W' hs => by have c0:=(HW2.out W' hs).2;go_simp) s0 ?_
  refine regS_take 5 31 (.map (some tm)) rfl rfl (by kernel_rfl) (fun _ _ _ h => h) rfl (fun w _ => by go_simp) s0 ?_
  simp only [Act.put,List.setIfInBounds_toArray,List.set_cons_succ,List.set_cons_zero]
  refine regS_one 6 rfl (by kernel_rfl) rfl (fun K hK' => ?_)
  go_wp2_with fail
  have HSd:=sealed_any (cn + 1) ep (nxF f t) (rootP (nxP p t)) (.map (some CB)) sec tm nt t w2.drew (hT2.drew) (by omega) HT.out hsec (hK.below (below_drewN b2 1))
  rw [hX1.out] at HSd
  refine HSd.mono ?_
  rintro e w3 ⟨⟨pg,rfl,ow3⟩,g3⟩
  have s3:Below w2.heap.size w2 w3:=s0.trans g3
  refine hK' _ _ s3 ?_
  clear hK' K HSd g3
  have ow3':w3.ownsRow w2.heap.size 303 2 pg (sl (epoK sec ep) (nxF f t) t 32).length (slC (sl (epoK sec ep) (nxF f t) t 32)):=ow3
  clear ow3
  refine regS_take 7 25 (.tuple #[pg,.nilIface]) rfl rfl (by kernel_rfl) (fun _ _ _ h => h) rfl (fun w _ => by go_simp) s3 ?_
  refine regS_take 8 33 (pg) rfl rfl (by kernel_rfl) (fun _ _ _ h => h) rfl (fun w _ => by go_simp) s3 ?_
  refine regS_take 9 34 (.nilIface) rfl rfl (by kernel_rfl) (fun _ _ _ h => h) rfl (fun w _ => by go_simp) s3 ?_
  refine regS_take 10 9 (pg) rfl rfl (by kernel_rfl) (fun _ _ _ h => h) rfl (fun w _ => by go_simp) s3 ?_
  refine regS_take 11 8 (.nilIface) rfl rfl (by kernel_rfl) (fun _ _ _ h => h) rfl (fun w _ => by go_simp) s3 ?_
  refine regS_end (by kernel_rfl) ?_
  simp only [Act.put,List.setIfInBounds_toArray,List.set_cons_succ,List.set_cons_zero]
  have j3:=j2.below s3 j2.lt
  have jV3:=jV2.below s3 jV2.lt
  have b3:=b2.trans (s3.mono b2.size)
  have hD3:=hD2.below s3
  have hC3:=hC2.below s3 hC2.lt
  have hM3:=hM2.below s3 hM2.lt
  have hz2:Hid (w.heap.size <= w2.heap.size):=b2.size
  clear j2 jV2 b2 hD2 hC2 hM2 hT2 HW2 s0
  go_wp2_with fail
  have HW3:Hid (∀ W',Below w3.heap.size w3 W' -> Blk W' NB X1 189 ∧ W'.cell? ⟨vb,2,none⟩ = some (.string sec)):=fun W' hb => ⟨j3.below hb j3.lt,by rw [(jV3.below hb jV3.lt).cell,q2.out]⟩
  obtain ⟨Y,hY⟩:∃ Y,Hid (Su.supA (cn + 1) ep (nxF f t) (rootP (nxP p t)) = Y):=⟨_,rfl⟩
  rw [hY.out] at u3
  refine regS_in 13 (fun W' => Below w3.heap.size w3 W') Tr.mixed rfl ?_
  have s0:Below w3.heap.size w3 w3.drew:=below_drewN (Below.refl _ _) 1
  refine regS_take 0 39 (.pointer (some ⟨vb,0,none⟩)) rfl rfl (by kernel_rfl) (fun _ _ _ h => h) rfl (fun w _ => by go_simp) s0 ?_
  refine regS_take 1 40 (.pointer (some ⟨vb,0,none⟩)) rfl rfl (by kernel_rfl) (fun _ _ _ h => h) rfl (fun w _ => by go_simp) s0 ?_
  refine regS_take 2 41 (.pointer (some ⟨vb,2,none⟩)) rfl rfl (by kernel_rfl) (fun _ _ _ h => h) rfl (fun w _ => by go_simp) s0 ?_
  refine regS_take 3 42 (.string sec) rfl rfl (by kernel_rfl) (fun _ _ _ h => h) rfl (fun W' hs => by have c0:=(HW3.out W' hs).2;go_simp) s0 ?_
  refine regS_take 5 44 (.pointer (some ⟨NB,0,none⟩)) rfl rfl (by kernel_rfl) (fun _ _ _ h => h) rfl (fun w _ => by go_simp) s0 ?_
  refine regS_take 6 45 (.agg Y) rfl rfl (by kernel_rfl) (fun _ _ _ h => h) rfl (fun W' hs => Su.exec_load 66 _ rfl ⟨NB,0,none⟩ rfl _ (by rw [Su.loadV_run W' _ Tryz.isAgg66 35 Su.sz93 NB 0 X1 _ (HW3.out W' hs).1 (by omega),Nat.zero_add,u3.out])) s0 ?_
  simp only [Act.put,List.setIfInBounds_toArray,List.set_cons_succ,List.set_cons_zero]
  refine regS_one 4 rfl (by kernel_rfl) rfl (fun K hK' => ?_)
  go_wp2_with fail
  refine (superKey_any sec w3.drew hsec (hK.below (below_drewN b3 1))).mono ?_
  rintro e w4 ⟨rfl,g4⟩
  have s4:Below w3.heap.size w3 w4:=s0.trans g4
  refine hK' _ _ s4 ?_
  clear hK' K g4
  refine regS_one 7 rfl (by kernel_rfl) rfl (fun K hK' => ?_)
  go_wp2_with fail
  have HWr:=Su.write_good (supK sec) (cn + 1) ep (nxF f t) (rootP (nxP p t)) w4 (by
    unfold Su.okW Su.okN
    have:=HC.out
    rw [supK_size,rootP_size,decide_eq_true (show (1:Int) <= cn + 1 by omega),decide_eq_true (show cn + 1 <= (1099511627776:Int) by omega),decide_eq_true this.2.2.1,decide_eq_true this.2.2.2.1];rfl) (hK.below (b3.trans (s4.mono b3.size)))
  rw [hY.out] at HWr
  refine HWr.mono ?_
  rintro e w5 ⟨rfl,g5⟩
  have s5:Below w3.heap.size w3 w5:=s4.trans (g5.mono s4.size)
  refine hK' _ _ s5 ?_
  clear hK' K HWr g5 s4
  have ztop:=Su.allT_size (supK sec) (cn + 1) ep (nxF f t) (rootP (nxP p t))
  rw [rootP_size] at ztop
  obtain ⟨top,htop⟩:∃ T,Hid (Su.allT (supK sec) (cn + 1) ep (nxF f t) (rootP (nxP p t)) = T):=⟨_,rfl⟩
  rw [htop.out] at ztop
  rw [htop.out]
  refine regS_take 8 38 (.tuple #[.string top,.nilIface]) rfl rfl (by kernel_rfl) (fun _ _ _ h => h) rfl (fun w _ => by go_simp) s5 ?_
  refine regS_take 9 47 (.string top) rfl rfl (by kernel_rfl) (fun _ _ _ h => h) rfl (fun w _ => by go_simp) s5 ?_
  refine regS_take 10 48 (.nilIface) rfl rfl (by kernel_rfl) (fun _ _ _ h => h) rfl (fun w _ => by go_simp) s5 ?_
  refine regS_take 11 10 (.string top) rfl rfl (by kernel_rfl) (fun _ _ _ h => h) rfl (fun w _ => by go_simp) s5 ?_
  refine regS_take 12 8 (.nilIface) rfl rfl (by kernel_rfl) (fun _ _ _ h => h) rfl (fun w _ => by go_simp) s5 ?_
  refine regS_end (by kernel_rfl) ?_
  simp only [Act.put,List.setIfInBounds_toArray,List.set_cons_succ,List.set_cons_zero]
  have j5:=j3.below s5 j3.lt
  have jV5:=jV3.below s5 jV3.lt
  have b5:=b3.trans (s5.mono b3.size)
  have hD5:=hD3.below s5
  have hC5:=hC3.below s5 hC3.lt
  have hM5:=hM3.below s5 hM3.lt
  have ow5:=row_below ow3' s5
  clear j3 jV3 b3 hD3 hC3 hM3 HW3 s0 u3 ow3' s3 s5
  go_wp2_with fail
  obtain ⟨N,hN⟩:∃ N,Hid (N = (cn + 1).toNat):=⟨_,rfl⟩
  have hNI:Hid (cn + 1 = (N:Int)):=by unfold Hid;rw [hN.out];have:=HC.out;omega
  have hNl:Hid (N < 9007199254740992):=by unfold Hid;rw [hN.out];have:=HC.out;omega
  have hNt:Hid (N % 2 < 66):=by unfold Hid;omega
  refine regS_in 13 (fun W' => Blk W' NB X1 189) Tr.mixed rfl ?_
  have s0:Blk w5.drew NB X1 189:=j5.drewN 1
  refine regS_take 0 52 (.pointer (some ⟨vb,0,none⟩)) rfl rfl (by kernel_rfl) (fun _ _ _ h => h) rfl (fun w _ => by go_simp) s0 ?_
  refine regS_take 1 53 (pg) rfl rfl (by kernel_rfl) (fun _ _ _ h => h) rfl (fun w _ => by go_simp) s0 ?_
  refine regS_take 2 54 (.pointer (some ⟨NB,0,none⟩)) rfl rfl (by kernel_rfl) (fun _ _ _ h => h) rfl (fun w _ => by go_simp) s0 ?_
  refine regS_take 3 55 (.pointer (some ⟨NB,0,none⟩)) rfl rfl (by kernel_rfl) (fun _ _ _ h => h) rfl (fun w _ => by go_simp) s0 ?_
  refine regS_take 4 56 (.int .i64 (cn + 1)) rfl rfl (by kernel_rfl) (fun _ _ _ h => h) rfl (fun W' hs => by have c0:=hs.cell 0;rw [u2] at c0;go_simp) s0 ?_
  refine regS_take 6 58 (.string top) rfl rfl (by kernel_rfl) (fun _ _ _ h => h) rfl (fun w _ => by go_simp) s0 ?_
  refine regS_take 8 60 (.pointer (some ⟨NB,0,none⟩)) rfl rfl (by kernel_rfl) (fun _ _ _ h => h) rfl (fun w _ => by go_simp) s0 ?_
  refine regS_take 9 61 (.pointer (some ⟨NB,0,none⟩)) rfl rfl (by kernel_rfl) (fun _ _ _ h => h) rfl (fun w _ => by go_simp) s0 ?_
  refine regS_take 10 62 (.int .i64 (cn + 1)) rfl rfl (by kernel_rfl) (fun _ _ _ h => h) rfl (fun W' hs => by have c0:=hs.cell 0;rw [u2] at c0;go_simp) s0 ?_
  simp only [Act.put,List.setIfInBounds_toArray,List.set_cons_succ,List.set_cons_zero]
  refine regS_one 5 rfl (by kernel_rfl) rfl (fun K hK' => ?_)
  go_wp2_with fail
  have HPl:Calls Tryz.prog 215 #[.int .i64 (cn + 1)] w5.drew fun e w' => e = .returned (.int .i64 ((N % 2:Nat):Int)) ∧ w' = w5.drew:=by rw [hNI.out];exact superPlace_any N w5.drew hNl.out
  refine HPl.mono ?_
  rintro e w6 ⟨rfl,rfl⟩
  refine hK' _ _ s0 ?_
  clear hK' K HPl
  refine regS_take 7 59 (.agg #[.int .i64 ((N % 2:Nat):Int),.string top]) rfl rfl (by kernel_rfl) (fun _ _ _ h => h) rfl (fun w _ => Su.exec_build 303 #[(0,.tmp 57),(1,.tmp 58)] rfl _ #[(0,.int .i64 ((N % 2:Nat):Int)),(1,.string top)] (by kernel_rfl) (buildVB _ _ w)) s0 ?_
  simp only [Act.put,List.setIfInBounds_toArray,List.set_cons_succ,List.set_cons_zero]
  refine regS_one 11 rfl (by kernel_rfl) rfl (fun K hK' => ?_)
  go_wp2_with fail
  have z5:=b5.size
  have HWw:=vwrite_any vb d c VA O S W v lf pg _ (sl (epoK sec ep) (nxF f t) t 32) (N % 2) top n0 (cn + 1) w5.drew (jV5.drewN 1) q0 q1 (hD5.drewN 1) (hC5.drewN 1) HC.out.2.2.2.2 ow5
    (fun g hg h => by
      have:=(Dv.ownsRow_lt ow5 g hg).1
      have:=HO.out g h
      have:=hz2.out
      omega)
    (fun x hx => by have:=sl_ok (epoK sec ep) (nxF f t) t 32 (by decide) x hx;omega) (sl_len _ _ _ _) hW hNt.out (by rw [ztop];decide) (fun k hk => Nat.lt_of_lt_of_le (HO.out k hk) z5) o2 o3 o4
  refine HWw.mono ?_
  rintro e w7 ⟨rfl,⟨O7,v7,l7,hD7,hO7⟩,hC7,C7'⟩
  have C7:Dv.Chg w5 w7 (fun k => O k ∨ k = c):=⟨C7'.os,C7'.tape,C7'.output,C7'.size,C7'.block⟩
  have hO7':Hid (∀ k,O7 k -> O k ∨ (w5.heap.size <= k ∧ k < w7.heap.size)):=hO7
  have nn:∀ b,b < w5.heap.size -> w.heap.size <= b -> ¬ (O b ∨ b = c):=fun b h1 h2 h => by
    rcases h with h | h
    · exact absurd (HO.out b h) (by omega)
    · have:=hcw.out;omega
  have j7:=j5.chg C7 (nn NB j5.lt hN1.out)
  have jV7:=jV5.chg C7 (fun h => h.elim o2 o4)
  have hM7:MapF Tryz.prog w7 CB (n + nt) (pv (nxP p t)):=hM5.same (C7.block CB hM5.lt (nn CB hM5.lt hCB))
  refine hK' _ _ j7 ?_
  clear hK' K HWw C7' hO7 nn j5 jV5 hD5 hC5 hM5 ow5
  refine regS_take 12 11 (.nilIface) rfl rfl (by kernel_rfl) (fun _ _ _ h => h) rfl (fun w _ => by go_simp) j7 ?_
  refine regS_end (by kernel_rfl) ?_
  simp only [Act.put,List.setIfInBounds_toArray,List.set_cons_succ,List.set_cons_zero]
  clear s0 u2 q0 q1
  go_wp2_with (first
    | (refine Su.wpl_loadV rfl 189 _ rfl Tryz.isAgg189 36 szSt NB 0 X1 189 rfl j7 (by omega) ?_;rw [Su.ext_all u0])
    | (refine Dv.wpl_storeAt rfl rfl 189 _ _ rfl 36 szSt vb 3 VA 193 X1 rfl rfl u0 u1 jV7 (by omega) ?_;intro w8 hu8 j8)
    | fail)
  go_ret
  rw [q5.out X1 u0,<- hX1.out] at j8
  refine ⟨rfl,⟨CB,⟨j8,hM7.upd hu8 ?_⟩,hCB⟩,⟨O7,v7,l7,?_,fun k hk => ?_⟩,hC7.upd hu8 (Ne.symm o4),?_⟩
  · have:=hvw.out;omega
  · rw [htop.out,<- hN.out]
    exact dev_put' hD7 hu8 (fun h => by
      rcases hO7'.out vb h with h | h
      · exact o2 h
      · have:=hvw.out;omega)
  · rcases hO7'.out k hk with h | h
    · exact Or.inl h
    · exact Or.inr ⟨by omega,by rw [hu8.size];exact h.2⟩
  · exact ((chg_then (Dv.Chg.of b5 _) C7 fun k _ h => h.elim Or.inl fun h => Or.inr (Or.inl h))).upd hu8 (Or.inl (Or.inr (Or.inr rfl)))
def tel (g:Int -> Option ByteArray) (p:Int -> Option (Int × ByteArray)) (c:Int) (i:Int):Option (Int × ByteArray):=(g i).bind fun s => if s.toList = (rd p i).2.toList then none else some (c,s)
theorem tel_some {g:Int -> Option ByteArray} {p:Int -> Option (Int × ByteArray)} {c i:Int} {x:Int × ByteArray} (h:tel g p c i = some x):x.1 = c ∧ g i = some x.2:=by
  unfold tel at h
  cases hg:g i with
  | none => rw [hg] at h;cases h
  | some s =>
    rw [hg] at h
    simp only [Option.bind_some] at h
    split at h
    · cases h
    · injection h with h;subst h;exact ⟨rfl,rfl⟩
theorem cut_same {t:Int -> Option (Int × ByteArray)} {left:Int -> Bool} {i:Int} (h:t i = none):cutP t (fun j => left j && !decide (j = i)) = cutP t left:=by
  funext j;unfold cutP
  by_cases e:j = i
  · subst e;simp [h]
  · simp [e]
theorem pv_cut_step {t:Int -> Option (Int × ByteArray)} {left:Int -> Bool} {i:Int} {x:Int × ByteArray} (h:t i = some x) (hl:left i = true):(fun j => if j = i then some (ent x) else pv (cutP t left) j) = pv (cutP t fun j => left j && !decide (j = i)):=by
  funext j
  unfold pv
  rw [cut_step h hl]
  by_cases e:j = i
  · rw [if_pos e,if_pos e];rfl
  · rw [if_neg e,if_neg e]
theorem mkMap (w:World):(Instr.makeMap 187 none).run Tryz.prog w = .ok (.map (some w.heap.size)) (w.alloc (.map #[] 0)):=by kernel_rfl
set_option maxRecDepth 100000 in
set_option maxHeartbeats 1000000 in
theorem tell_ok (vb d c:Nat) (sec:ByteArray) (cn en:Int) (f:Nat -> Bool) (r:ByteArray) (mb n:Nat) (p:Int -> Option (Int × ByteArray)) (m:Value) (nm:Nat) (g:Int -> Option ByteArray) (O:Nat -> Prop) (S:Nat -> Nat -> UInt8) (W:List (Nat × (Nat -> UInt8))) (v:Value) (lf:Int) (n0:Int) (w:World)
    (hV:Vlt w vb d c sec cn en f r mb n p false) (hM:MapV Tryz.prog w m nm (sv g)) (hs:∀ i s,g i = some s -> s.size <= 10000) (hF:¬ Far g) (hWd:¬ Wide g) (hD:Dv.Dev w O d S W (-1) v lf) (hC:Dv.Cnt w c n0) (hm:n0 < cn + 1)
    (hn:n + nm <= 100000) (hc0:0 <= cn) (hc1:cn < 1099511627776) (he0:1 <= en) (he1:en <= 1099511627776) (hp:∀ j:Nat,j < 32 -> (rd p j).2.size <= 300)
    (hsec:sec.size <= 300) (hW:W.length <= 100) (hO:∀ k,O k -> k < w.heap.size) (o2:¬ O vb) (o3:¬ O c) (o4:vb ≠ c) (hK:Sm.KB w) :
    Calls Tryz.prog 68 #[.pointer (some ⟨vb,0,none⟩),m] w fun e w' => e = .returned .nilIface ∧
      (∃ CB n',Vlt w' vb d c sec (cn + 1) en (nxF f (tel g p (cn + 1))) (rootP (nxP p (tel g p (cn + 1)))) CB n' (nxP p (tel g p (cn + 1))) false ∧ w.heap.size <= CB ∧ n' <= n + nm) ∧
      (∃ O' v' l',Dv.Dev w' O' d (sureS (sureS S (W ++ wl (sl (epoK sec en) (nxF f (tel g p (cn + 1))) (tel g p (cn + 1)) 32))) [((cn + 1).toNat % 2,Dv.bAt (Su.allT (supK sec) (cn + 1) en (nxF f (tel g p (cn + 1))) (rootP (nxP p (tel g p (cn + 1))))))]) [] (-1) v' l' ∧ ∀ k,O' k -> Dv.gro O w w' k) ∧ Dv.Cnt w' c (cn + 1) ∧ Dv.Chg w w' (fun k => O k ∨ k = c ∨ k = vb):=by
  have hk0:errV (chkC g) = .nilIface:=chk0 hF hWd
  have HF:Hid (¬ Far g):=hF
  have HWd:Hid (¬ Wide g):=hWd
  have HP:Hid (∀ j:Nat,j < 32 -> (rd p j).2.size <= 300):=hp
  have HC:Hid (0 <= cn ∧ cn < 1099511627776 ∧ 1 <= en ∧ en <= 1099511627776 ∧ n0 < cn + 1):=⟨hc0,hc1,he0,he1,hm⟩
  have HO:Hid (∀ k,O k -> k < w.heap.size):=hO
  clear hF hWd hp he0 he1 hm hO
  go_enter Tryz.func68,Tryz.ntmps68
  go_wp2_with fail
  refine (ready_any w vb d c sec cn en f r mb n p false hV).mono ?_
  rintro e w1 ⟨rfl,hw1⟩
  obtain rfl:w = w1:=hw1.symm
  clear hw1
  simp only [Bool.not_false]
  go_wp2_with fail
  refine (check_any m nm g _ hM hs).mono ?_
  rintro e w2 ⟨rfl,g2⟩
  rw [hk0]
  have hmk:=mkMap w2
  have g3:=g2.trans ((Pg.below_alloc w2 (.map #[] 0)).mono g2.size)
  have t3:=mapF_made Tryz.prog w2
  have hM3:MapV Tryz.prog (w2.alloc (.map #[] 0)) m nm (sv g):=hM.below g3
  have hV3:=hV.below g3 hV.blk.lt hV.map.lt
  have z3:(w2.alloc (.map #[] 0)).heap.size = w2.heap.size + 1:=by simp
  go_wp2_with (first
    | (refine wpl_rangeV rfl 148 _ rfl und3 9 undS m nm (sv g) rfl hM3 ?_;intro w4 cnt4 hR4 hc4 hb4 hz4)
    | fail)
  have b4:=g3.trans (hb4.mono g3.size)
  have hV4:=hV3.below hb4 hV3.blk.lt hV3.map.lt
  have hT4:MapF Tryz.prog w4 w2.heap.size 0 (pv (cutP (tel g p (cn + 1)) fun i => (sv g i).isSome)):=t3.below hb4 (by simp) |>.congr fun i _ => by
    unfold pv cutP sv tel;cases hg:g i <;> simp [hg]
  obtain ⟨R,hR⟩:∃ R,Hid ((w2.alloc (.map #[] 0)).heap.size = R):=⟨_,rfl⟩
  obtain ⟨tm,htm⟩:∃ tm,Hid (w2.heap.size = tm):=⟨_,rfl⟩
  have hRt:Hid (R = tm + 1):=by unfold Hid;rw [<- hR.out,<- htm.out];simp
  have htw:Hid (w.heap.size <= tm):=by unfold Hid;rw [<- htm.out];exact g2.size
  have hmt:Hid (∀ b,m = .map (some b) -> b < tm):=fun b hb => by
    have h1:=hM;rw [hb] at h1;have h2:=h1.lt;have:=htw.out;omega
  rw [hR.out] at hR4
  rw [htm.out] at hT4
  rw [hR.out,htm.out]
  have hvw:Hid (vb < w.heap.size ∧ mb < w.heap.size):=⟨hV.blk.lt,hV.map.lt⟩
  clear t3 hb4 hV3 hM3 g3 g2 hmk z3 hz4 hV hM
  simp only [Act.put,List.setIfInBounds_toArray,List.set_cons_succ,List.set_cons_zero]
  go_loopw [] (fun wr => ∃ left cnt n',RngV Tryz.prog wr m R nm (sv g) left cnt ∧ n' + cnt <= nm ∧ MapF Tryz.prog wr tm n' (pv (cutP (tel g p (cn + 1)) left)) ∧ Vlt wr vb d c sec cn en f r mb n p false ∧ Below w.heap.size w wr) (fun wr => rleft wr R)
  case atStart => exact ⟨_,_,0,hR4,by omega,hT4,hV4,b4⟩
  case round =>
    clear hR4 hc4 hT4 hV4 b4
    obtain ⟨left,cnt,n',hRr,hnn,hTr,hVr,hbr⟩:=hrel
    have hm0:Hid _:=hRr.left_eq
    rcases hRr.next und3 0 with ⟨hd,hrun⟩ | ⟨i,u,w5,cnt5,hi,hl,hf,hrun,hR5,hlt,hu,hen⟩
    · have hd':Hid _:=hd
      clear hd
      go_wp2_with fail
      refine (epoch_any wr vb d c sec cn en f r mb n p false hVr).mono ?_
      rintro e w5 ⟨rfl,hw5⟩
      obtain rfl:wr = w5:=hw5.symm
      clear hw5
      go_wp2_with fail
      have hT5:MapF Tryz.prog wr tm n' (pv (tel g p (cn + 1))):=hTr.congr fun i hi => by unfold pv cutP;rw [hd'.out i hi];rfl
      have hgw:∀ k:Nat,k < 32 -> ∀ s,g (k:Int) = some s -> s.size <= 200:=fun k hk s hs' => Classical.byContradiction fun h => HWd.out ⟨(k:Int),s,kOk_small (by omega) (by omega),hs',by omega⟩
      have hcc:=HC.out
      refine (become_any vb d c sec cn en f r mb n p en tm n' (tel g p (cn + 1)) O S W v lf n0 wr hVr hT5 (hD.below hbr) (hC.below hbr hC.lt) hcc.2.2.2.2 ?_ (by omega) hcc.1 hcc.2.1 hcc.2.2.1 hcc.2.2.2.1 ?_ ?_ hsec hW (fun k hk => Nat.lt_of_lt_of_le (HO.out k hk) hbr.size) o2 o3 o4 (hK.below hbr)).mono ?_
      · intro i hi hs'
        obtain ⟨x,hx⟩:=Option.isSome_iff_exists.1 hs'
        exact Classical.byContradiction fun h => HF.out ⟨i,hi,by rw [(tel_some hx).2];rfl,h⟩
      · intro j hj
        unfold rd nxP
        cases hx:tel g p (cn + 1) (j:Int) with
        | none => exact HP.out j hj
        | some x => have:=hgw j hj _ (tel_some hx).2;simp;omega
      · intro k hk x hx
        have h1:=tel_some hx
        have h2:=hgw k hk _ h1.2
        omega
      · rintro e w6 ⟨rfl,⟨CB,hV6,hCB⟩,⟨O6,v6,l6,hD6,hO6⟩,hC6,C6⟩
        have hz:=hbr.size
        go_wp2_with fail
        go_ret
        refine ⟨rfl,⟨CB,_,hV6,by omega,by omega⟩,⟨O6,v6,l6,hD6,fun k hk => ?_⟩,hC6,chg_then (Dv.Chg.of hbr _) C6 fun k _ h => h⟩
        rcases hO6 k hk with h | h
        · exact Or.inl h
        · exact Or.inr ⟨by omega,h.2⟩
    · obtain ⟨s,hgi,rfl⟩:=sv_inv hf
      have hm5:Hid _:=hR5.left_eq
      have hRtm:=hRt.out
      have hV5:=hVr.upd hu (by have:=hvw.out.1;have:=htw.out;omega) (by have:=hvw.out.2;have:=htw.out;omega)
      have hT5:=hTr.upd hu (by omega)
      have b5:=below_upd hbr hu (by have:=htw.out;omega)
      have hik:0 <= i ∧ i < 32:=Classical.byContradiction fun h => HF.out ⟨i,hi,by rw [hgi];rfl,h⟩
      have hlk:=run_lookV (t:=187) und3 undE _ zeroE (Or.inr ⟨mb,rfl,hV5.map⟩) hi
      rw [pv_get] at hlk
      unfold ent at hlk
      have c38:=hV5.c38
      have hfe:=fldE
      have hR3:rd p i = rd p i:=rfl
      by_cases he:s.toList = (rd p i).2.toList
      · have hte:Hid (tel g p (cn + 1) i = none):=by unfold Hid tel;rw [hgi];simp [he]
        have hl':Hid _:=hl
        clear hl hf hik hgi hRr hTr hVr hbr hu hRtm hR3
        generalize rd p i = x at *
        go_wp2_with fail
        refine ⟨⟨_,_,n',hR5,by omega,?_,hV5,b5⟩,?_⟩
        · rw [cut_same hte.out];exact hT5
        · rw [hm5.out,hm0.out];exact hlt
      · have hte:Hid (tel g p (cn + 1) i = some (cn + 1,s)):=by unfold Hid tel;rw [hgi];simp [he]
        have hl':Hid (left i = true):=hl
        clear hl hf hik hgi hRr hTr hVr hbr hu hRtm hR3
        generalize rd p i = x at *
        have he':(s.toList == x.2.toList) = false:=by simpa using he
        have hbE:∀ w,(Instr.build 227 #[(0,.int .i64 (cn + 1)),(1,.string s)]).run Tryz.prog w = .ok (.agg #[.int .i64 (cn + 1),.string s]) w:=fun w => run_build w 227 _ _ (by kernel_rfl)
        go_wp2_with fail
        refine (count_any w5 vb d c sec cn en f r mb n p false hV5).mono ?_
        rintro e w6 ⟨rfl,hw6⟩
        obtain rfl:w5 = w6:=hw6.symm
        clear hw6
        go_wp2_with (first
          | (refine wpl_putF rfl rfl 187 _ _ _ rfl und3 227 undE tm n' (pv (cutP (tel g p (cn + 1)) left)) i (ent (cn + 1,s)) rfl rfl rfl hT5 (by omega) hi ?_;intro w7 m7 hu7)
          | fail)
        have hRtm:=hRt.out
        have htw':=htw.out
        have hvw':=hvw.out
        refine ⟨⟨_,_,n' + 1,hR5.same (fun b hb => hu7.block b (Nat.ne_of_lt (hmt.out b hb))) (hu7.block R (by omega)),by omega,?_,hV5.upd hu7 (by omega) (by omega),below_upd b5 hu7 htw'⟩,?_⟩
        · rw [<- pv_cut_step hte.out hl'.out];exact m7
        · rw [(hR5.same (w':=w7) (fun b hb => hu7.block b (Nat.ne_of_lt (hmt.out b hb))) (hu7.block R (by omega))).left_eq,hm0.out];exact hlt
end Go.Proofs.YtjmpjfikcgccdaaGreatDoor.Vt
