/-
  Part of the proof of BaseFindsCard (V20 and on).
-/
import Derived.Test.YtjmpjfikcgccdaaGreatDoorB28
import Derived.Test.YtjmpjfikcgccdaaGreatDoorB30
import Derived.Test.YtjmpjfikcgccdaaGreatDoorB29
import Derived.Test.YtjmpjfikcgccdaaGreatDoorB08
import Derived.Shelf.SlMaps.Clone
namespace Go.Proofs.YtjmpjfikcgccdaaGreatDoor.Vt
open Go.RowKit
def trn (p:Int -> Option (Int × ByteArray)) (c:Int) (k:Nat) (i:Int):Option (Int × ByteArray):=if 0 <= i ∧ i < (k:Int) then some (c,(rd p i).2) else none
theorem trn_step (p:Int -> Option (Int × ByteArray)) (c:Int) (k:Nat):(fun j => if j = (k:Int) then some (ent (c,(rd p (k:Int)).2)) else pv (trn p c k) j) = pv (trn p c (k + 1)):=by
  funext j
  unfold pv trn
  by_cases e:j = (k:Int)
  · subst e;rw [if_pos rfl,if_pos (by omega)];rfl
  · rw [if_neg e]
    by_cases e2:0 <= j ∧ j < (k:Int)
    · rw [if_pos e2,if_pos (by omega)]
    · rw [if_neg e2,if_neg (by omega)]
theorem buildE' (a:Int) (x:ByteArray) (w:World):(Instr.build 227 #[(0,.int .i64 a),(1,.string x)]).run Tryz.prog w = .ok (.agg #[.int .i64 a,.string x]) w:=run_build w 227 _ _ (by kernel_rfl)
set_option maxRecDepth 100000 in
set_option maxHeartbeats 1000000 in
theorem turn_ok (vb d c:Nat) (sec:ByteArray) (cn en:Int) (f:Nat -> Bool) (r:ByteArray) (mb n:Nat) (p:Int -> Option (Int × ByteArray)) (O:Nat -> Prop) (S:Nat -> Nat -> UInt8) (W:List (Nat × (Nat -> UInt8))) (v:Value) (lf:Int) (n0:Int) (w:World)
    (hV:Vlt w vb d c sec cn en f r mb n p false) (hD:Dv.Dev w O d S W (-1) v lf) (hC:Dv.Cnt w c n0) (hm:n0 < cn + 1)
    (hn:n + 32 <= 100000) (hc0:0 <= cn) (hc1:cn < 1099511627776) (he0:0 <= en) (he1:en < 1099511627776) (hp:∀ j:Nat,j < 32 -> (rd p j).2.size <= 200)
    (hsec:sec.size <= 300) (hW:W.length <= 100) (hO:∀ k,O k -> k < w.heap.size) (o2:¬ O vb) (o3:¬ O c) (o4:vb ≠ c) (hK:Sm.KB w) :
    Calls Tryz.prog 71 #[.pointer (some ⟨vb,0,none⟩)] w fun e w' => e = .returned .nilIface ∧
      (∃ CB n',Vlt w' vb d c sec (cn + 1) (en + 1) (nxF f (trn p (cn + 1) 32)) (rootP (nxP p (trn p (cn + 1) 32))) CB n' (nxP p (trn p (cn + 1) 32)) false ∧ w.heap.size <= CB ∧ n' <= n + 32) ∧
      (∃ O' v' l',Dv.Dev w' O' d (sureS (sureS S (W ++ wl (sl (epoK sec (en + 1)) (nxF f (trn p (cn + 1) 32)) (trn p (cn + 1) 32) 32))) [((cn + 1).toNat % 2,Dv.bAt (Su.allT (supK sec) (cn + 1) (en + 1) (nxF f (trn p (cn + 1) 32)) (rootP (nxP p (trn p (cn + 1) 32)))))]) [] (-1) v' l' ∧ ∀ k,O' k -> Dv.gro O w w' k) ∧ Dv.Cnt w' c (cn + 1) ∧ Dv.Chg w w' (fun k => O k ∨ k = c ∨ k = vb):=by
  have HP:Hid (∀ j:Nat,j < 32 -> (rd p j).2.size <= 200):=hp
  have HC:Hid (0 <= cn ∧ cn < 1099511627776 ∧ 0 <= en ∧ en < 1099511627776 ∧ n0 < cn + 1):=⟨hc0,hc1,he0,he1,hm⟩
  have HO:Hid (∀ k,O k -> k < w.heap.size):=hO
  clear hp hm hO
  have hmk:=mkMap w
  have g3:=Pg.below_alloc w (.map #[] 0)
  have t3:MapF Tryz.prog (w.alloc (.map #[] 0)) w.heap.size 0 (pv (trn p (cn + 1) 0)):=(mapF_made Tryz.prog w).congr fun i _ => by unfold pv trn;rw [if_neg (by omega)];rfl
  have hV3:=hV.below g3 hV.blk.lt hV.map.lt
  have hvw:Hid (vb < w.heap.size ∧ mb < w.heap.size):=⟨hV.blk.lt,hV.map.lt⟩
  go_enter Tryz.func71,Tryz.ntmps71
  go_wp2_with fail
  refine (ready_any w vb d c sec cn en f r mb n p false hV).mono ?_
  rintro e w1 ⟨rfl,hw1⟩
  obtain rfl:w = w1:=hw1.symm
  clear hw1
  simp only [Bool.not_false]
  go_wp2_with fail
  generalize w.alloc (.map #[] 0) = w3 at *
  obtain ⟨tm,htm⟩:∃ tm,Hid (w.heap.size = tm):=⟨_,rfl⟩
  rw [htm.out] at t3
  rw [htm.out]
  clear hmk hV
  go_loopw [10] (fun i wr => ∃ k:Nat,k <= 32 ∧ i = .int .i64 k ∧ MapF Tryz.prog wr tm k (pv (trn p (cn + 1) k)) ∧ Vlt wr vb d c sec cn en f r mb n p false ∧ Below w.heap.size w wr) (fun i _ => 32 - (intOf i).toNat)
  case atStart => exact ⟨0,by omega,rfl,t3,hV3,g3⟩
  case round =>
    clear t3 hV3 g3
    obtain ⟨k,hk,rfl,hTr,hVr,hbr⟩:=hrel
    by_cases hlt:k < 32
    · have hlt':(k:Int) < 32:=by omega
      have hlk:=run_lookV (w:=wr.drew) (t:=187) und3 undE _ zeroE (Or.inr ⟨mb,rfl,hVr.map.drew⟩) (kOk_small (i:=(k:Int)) (by omega) hlt')
      rw [pv_get] at hlk
      unfold ent at hlk
      have c38:wr.drew.cell? ⟨vb,38,none⟩ = some (.map (some mb)):=hVr.c38
      have hfe:=fldE
      have hst:=trn_step p (cn + 1) k
      have HST:Hid _:=hst
      clear hst
      have hbE:=buildE' (cn + 1) (rd p (k:Int)).2
      generalize rd p (k:Int) = x at *
      go_wp2_with fail
      refine region_s [(0,true),(1,true),(2,true),(5,true),(6,true),(7,true),(8,true),(9,false),(10,true),(11,false),(12,true)] [3,4,13] [14] (fun w' => w' = wr.drew) Tr.mixed (by kernel_rfl) (fun _ _ _ _ _ h => h) rfl ?_
      refine lead_pure _ rfl _ rfl rfl (.map (some tm)) (fun w' => by go_simp) ?_
      refine lead_pure _ rfl _ rfl rfl (.int .i64 (k:Int)) (fun w' => by go_simp) ?_
      refine lead_pure _ rfl _ rfl rfl (.pointer (some ⟨vb,0,none⟩)) (fun w' => by go_simp) ?_
      refine lead_pure _ rfl _ rfl rfl (.pointer (some ⟨vb,0,none⟩)) (fun w' => by go_simp) ?_
      refine lead_pure _ rfl _ rfl rfl (.pointer (some ⟨vb,0,none⟩)) (fun w' => by go_simp) ?_
      refine lead_pure _ rfl _ rfl rfl (.pointer (some ⟨vb,3,none⟩)) (fun w' => by go_simp) ?_
      refine lead_pure _ rfl _ rfl rfl (.pointer (some ⟨vb,38,none⟩)) (fun w' => by go_simp) ?_
      refine lead_read _ rfl _ rfl rfl (.map (some mb)) (fun w' hS => by subst hS;go_simp) ?_
      refine lead_pure _ rfl _ rfl rfl (.int .i64 (k:Int)) (fun w' => by go_simp) ?_
      refine lead_read _ rfl _ rfl rfl (.agg #[.int .i64 x.1,.string x.2]) (fun w' hS => by subst hS;go_simp) ?_
      refine lead_pure _ rfl _ rfl rfl (.string x.2) (fun w' => by go_simp) ?_
      simp only [lead_nil_eq]
      simp only [Act.put,List.setIfInBounds_toArray,List.set_cons_succ,List.set_cons_zero]
      refine mid_cons _ rfl rfl fun K hK => ?_
      go_wp2_with fail
      refine (count_any wr.drew vb d c sec cn en f r mb n p false (hVr.same rfl rfl)).mono ?_
      rintro e w5 ⟨rfl,hw5⟩
      obtain rfl:=hw5
      refine hK _ _ rfl ?_
      clear hK K
      refine mid_cons _ rfl rfl fun K hK => ?_
      go_wp2_with fail
      refine hK _ _ rfl ?_
      clear hK K
      refine mid_cons _ rfl rfl fun K hK => ?_
      go_wp2_with fail
      refine hK _ _ rfl ?_
      clear hK K
      simp only [mid_nil_eq]
      simp only [List.filterMap_cons,List.getElem?_toArray,List.getElem?_cons_succ,List.getElem?_cons_zero,List.filterMap_nil]
      refine wpl_putF rfl rfl 187 _ _ _ rfl und3 227 undE tm k (pv (trn p (cn + 1) k)) (k:Int) (ent (cn + 1,x.2)) rfl rfl rfl hTr.drew (by omega) (kOk_small (by omega) hlt') ?_
      intro w7 m7 hu7'
      go_wp2_with fail
      have hu7:Upd wr w7 tm:=⟨hu7'.os,hu7'.tape,hu7'.output,hu7'.size,hu7'.block⟩
      rw [HST.out] at m7
      have hvw':=hvw.out
      have htm':=htm.out
      exact ⟨⟨k + 1,by omega,by go_num,m7,hVr.upd hu7 (by omega) (by omega),below_upd hbr hu7 (by omega)⟩,by simp [intOf];omega⟩
    · have hk2:k = 32:=by omega
      subst hk2
      have hcc:=HC.out
      clear hc0 hc1 he0 he1
      have he0:=hcc.2.2.1
      have he1:=hcc.2.2.2.1
      go_wp2_with fail
      refine (epoch_any wr vb d c sec cn en f r mb n p false hVr).mono ?_
      rintro e w5 ⟨rfl,hw5⟩
      obtain rfl:wr = w5:=hw5.symm
      clear hw5
      go_wp2_with fail
      refine (become_any vb d c sec cn en f r mb n p (en + 1) tm 32 (trn p (cn + 1) 32) O S W v lf n0 wr hVr hTr (hD.below hbr) (hC.below hbr hC.lt) hcc.2.2.2.2 ?_ (by omega) hcc.1 hcc.2.1 (by omega) (by omega) ?_ ?_ hsec hW (fun k hk => Nat.lt_of_lt_of_le (HO.out k hk) hbr.size) o2 o3 o4 (hK.below hbr)).mono ?_
      · intro i hi hs'
        unfold trn at hs'
        by_cases e:0 <= i ∧ i < ((32:Nat):Int)
        · omega
        · rw [if_neg e] at hs';cases hs'
      · intro j hj
        have e:nxP p (trn p (cn + 1) 32) (j:Int) = some (cn + 1,(rd p (j:Int)).2):=by unfold nxP trn;rw [if_pos (by omega)];rfl
        have:=HP.out j hj
        unfold rd at this ⊢
        rw [e]
        simp only [Option.getD_some]
        unfold rd
        omega
      · intro k hk x hx
        have e:trn p (cn + 1) 32 (k:Int) = some (cn + 1,(rd p (k:Int)).2):=by unfold trn;rw [if_pos (by omega)]
        rw [e] at hx
        injection hx with hx
        subst hx
        exact ⟨by show 1 <= cn + 1;omega,by show cn + 1 <= _;omega,HP.out k hk⟩
      · rintro e w6 ⟨rfl,⟨CB,hV6,hCB⟩,⟨O6,v6,l6,hD6,hO6⟩,hC6,C6⟩
        have hz:=hbr.size
        go_wp2_with fail
        go_ret
        refine ⟨rfl,⟨CB,_,hV6,by omega,Nat.le_refl _⟩,⟨O6,v6,l6,hD6,fun k hk => ?_⟩,hC6,chg_then (Dv.Chg.of hbr _) C6 fun k _ h => h⟩
        rcases hO6 k hk with h | h
        · exact Or.inl h
        · exact Or.inr ⟨by omega,h.2⟩
end Go.Proofs.YtjmpjfikcgccdaaGreatDoor.Vt
namespace Go.Proofs.YtjmpjfikcgccdaaGreatDoor.Bs
open Go.RowKit
open Vt
structure TldE (S:Nat -> Nat -> UInt8) (sec:ByteArray) (n en:Nat) (f:Nat -> Bool) (p:Int -> Option (Int × ByteArray)):Prop where
  pgs:Pgs S sec (en:Int) f p
  sup:1 <= n -> sb 256 (S (n % 2)) = pad (Su.allT (supK sec) (n:Int) (en:Int) f (rootP p))
  old:∃ x,SupAt S [] sec ((n + 1) % 2) x ∧ ∀ c,x = some c -> c < (n:Int)
  new:n = 0 -> SupAt S [] sec 0 none ∧ SupAt S [] sec 1 none ∧ (p = fun _ => none) ∧ en = 1 ∧ f = fun _ => false
  n1:n <= 1000000
  e0:1 <= en
  e1:en <= 1000000
section
variable {S:Nat -> Nat -> UInt8} {sec:ByteArray} {n en:Nat} {f:Nat -> Bool} {p t:Int -> Option (Int × ByteArray)}
theorem tldE_new (sec:ByteArray):TldE (fun _ _ => 0) sec 0 1 (fun _ => false) (fun _ => none):=
  ⟨pgs_new sec,fun h => absurd h (by decide),⟨none,sup_new sec _,fun c h => (by cases h)⟩,fun _ => ⟨sup_new sec 0,sup_new sec 1,rfl,rfl,rfl⟩,by decide,by decide,by decide⟩
theorem TldE.on (h:TldE S sec n en f p) (hn:1 <= n):On S [] sec n (en:Int) f p:=h.pgs.on hn (by have:=h.n1;omega) (by have:=h.e0;omega) (by have:=h.e1;omega) (h.sup hn)
theorem tldE_sup (h:TldE S sec n en f p) (e:Int):∃ x,SupAt (nxS S sec (n + 1) e f p t) [] sec ((n + 1 + 1) % 2) x ∧ ∀ c,x = some c -> c < ((n + 1:Nat):Int):=by
  have hb:(n + 1 + 1) % 2 ≠ (n + 1) % 2:=by omega
  have he:(n + 1 + 1) % 2 = n % 2:=by omega
  have hS:∀ x,SupAt S [] sec (n % 2) x -> SupAt (nxS S sec (n + 1) e f p t) [] sec ((n + 1 + 1) % 2) x:=fun x hx => by
    unfold SupAt at *
    rw [show Dv.readF (nxS S sec (n + 1) e f p t) [] ((n + 1 + 1) % 2) = Dv.readF S [] (n % 2) from by rw [read_nil,read_nil,nxS_sup (by omega) hb,he]]
    exact hx
  by_cases h0:n = 0
  · subst h0
    exact ⟨none,hS _ (h.new rfl).1,fun c h => by cases h⟩
  · exact ⟨some (n:Int),hS _ (on_sup (h.on (by omega))),fun c hc => by injection hc with hc;omega⟩
theorem TldE.told (h:TldE S sec n en f p) (hn:n < 1000000) (ht:∀ id:Nat,id < 32 -> ∀ x,t (id:Int) = some x -> 1 <= x.1 ∧ x.1 <= 1099511627776 ∧ x.2.size <= 200) (hk:∀ i,Go.Proofs.YtjmpjfikcgccdaaGreatDoor.kOk i -> (t i).isSome = true -> 0 <= i ∧ i < 32) :
    TldE (nxS S sec (n + 1) (en:Int) f p t) sec (n + 1) en (nxF f t) (nxP p t):=
  ⟨h.pgs.told ht hk,fun _ => by rw [nxS_top];rfl,tldE_sup h _,fun e => by omega,by omega,h.e0,h.e1⟩
theorem TldE.size (h:TldE S sec n en f p) (j:Nat) (hj:j < 32):(rd p (j:Int)).2.size <= 200:=by
  unfold rd
  cases hx:p (j:Int) with
  | none => exact Nat.zero_le _
  | some x => have:=(h.pgs.some' j hj x hx).2.2.2;simpa using this
theorem trn_in {c:Int} {i:Int} {x:Int × ByteArray} (h:trn p c 32 i = some x):(0 <= i ∧ i < 32) ∧ x.1 = c ∧ x.2 = (rd p i).2:=by
  unfold trn at h
  by_cases hi:0 <= i ∧ i < ((32:Nat):Int)
  · rw [if_pos hi] at h;injection h with h;subst h;exact ⟨hi,rfl,rfl⟩
  · rw [if_neg hi] at h;cases h
theorem trn_all {c:Int} {id:Nat} (h:id < 32):trn p c 32 (id:Int) = some (c,(rd p (id:Int)).2):=by
  unfold trn;rw [if_pos (by omega)]
theorem TldE.turned (h:TldE S sec n en f p) (hn:n < 1000000) (he:en < 1000000) :
    TldE (nxS S sec (n + 1) ((en + 1:Nat):Int) f p (trn p ((n + 1:Nat):Int) 32)) sec (n + 1) (en + 1) (nxF f (trn p ((n + 1:Nat):Int) 32)) (nxP p (trn p ((n + 1:Nat):Int) 32)):=by
  refine ⟨⟨fun id hi x hx => ?_,fun id hi hx => ?_,fun i hi hx => ?_⟩,fun _ => by rw [nxS_top];rfl,tldE_sup h _,fun e => by omega,by omega,by omega,by omega⟩
  · have hy:=trn_all (p:=p) (c:=((n + 1:Nat):Int)) hi
    have e:(((n + 1:Nat):Int),(rd p (id:Int)).2) = x:=by unfold nxP at hx;rw [hy] at hx;simpa using hx
    subst e
    exact ⟨by rw [nxS_told hi hy];rfl,by simp;omega,by simp;omega,h.size id hi⟩
  · have hy:=trn_all (p:=p) (c:=((n + 1:Nat):Int)) hi
    unfold nxP at hx;rw [hy] at hx;simp at hx
  · unfold nxP at hx
    cases hy:trn p ((n + 1:Nat):Int) 32 i with
    | some y => exact (trn_in hy).1
    | none => rw [hy] at hx;exact h.pgs.keys i hi (by simpa using hx)
end
theorem tellE (vb d c:Nat) (sec:ByteArray) (n en:Nat) (f:Nat -> Bool) (r:ByteArray) (mb nn:Nat) (p:Int -> Option (Int × ByteArray)) (m:Value) (nm:Nat) (g:Int -> Option ByteArray) (O:Nat -> Prop) (S:Nat -> Nat -> UInt8) (v:Value) (lf:Int) (w:World)
    (hV:Vlt w vb d c sec (n:Int) (en:Int) f r mb nn p false) (hM:MapV Tryz.prog w m nm (sv g)) (hg:∀ i s,g i = some s -> (0 <= i ∧ i < 32) ∧ s.size <= 200) (hD:Dv.Dev w O d S [] (-1) v lf) (hC:Dv.Cnt w c (n:Int)) (hT:TldE S sec n en f p)
    (hn:nn + nm <= 100000) (hn1:n < 1000000) (hsec:sec.size <= 300) (hO:∀ k,O k -> k < w.heap.size) (o2:¬ O vb) (o3:¬ O c) (o4:vb ≠ c) (hK:Sm.KB w) :
    Calls Tryz.prog 68 #[.pointer (some ⟨vb,0,none⟩),m] w fun e w' => e = .returned .nilIface ∧
      ∃ S' f' r' CB n' O' v' l',Vlt w' vb d c sec ((n + 1:Nat):Int) (en:Int) f' r' CB n' (nxP p (tel g p ((n + 1:Nat):Int))) false ∧ w.heap.size <= CB ∧ n' <= nn + nm ∧
        TldE S' sec (n + 1) en f' (nxP p (tel g p ((n + 1:Nat):Int))) ∧ Dv.Dev w' O' d S' [] (-1) v' l' ∧ (∀ k,O' k -> Dv.gro O w w' k) ∧ Dv.Cnt w' c ((n + 1:Nat):Int) ∧ Dv.Chg w w' (fun k => O k ∨ k = c ∨ k = vb):=by
  have hF:¬ Far g:=fun ⟨i,_,h2,h3⟩ => by
    obtain ⟨s,hs⟩:=Option.isSome_iff_exists.1 h2
    exact h3 (hg i s hs).1
  have hWd:¬ Wide g:=fun ⟨i,s,_,h2,h3⟩ => by have:=(hg i s h2).2;omega
  have he0:=hT.e0
  have he1:=hT.e1
  have h:=tell_ok vb d c sec (n:Int) (en:Int) f r mb nn p m nm g O S [] v lf (n:Int) w hV hM (fun i s hs => by have:=(hg i s hs).2;omega) hF hWd hD hC (by omega) hn (by omega) (by omega) (by omega) (by omega) (fun j hj => by have:=hT.size j hj;omega) hsec (Nat.zero_le _) hO o2 o3 o4 hK
  rw [show (n:Int) + 1 = ((n + 1:Nat):Int) from by omega] at h
  refine h.mono ?_
  rintro e w' ⟨rfl,⟨CB,n',hV',hCB,hn'⟩,⟨O',v',l',hD',hO'⟩,hC',C'⟩
  refine ⟨rfl,_,_,_,CB,n',O',v',l',hV',hCB,hn',hT.told (t:=tel g p ((n + 1:Nat):Int)) hn1 (fun id hi x hx => ?_) (fun i hi hx => ?_),?_,hO',hC',C'⟩
  · have h1:=tel_some hx
    have h2:=(hg _ _ h1.2).2
    omega
  · obtain ⟨x,hx⟩:=Option.isSome_iff_exists.1 hx
    exact (hg _ _ (tel_some hx).2).1
  · have e:((n + 1:Nat):Int).toNat = n + 1:=by omega
    rw [e,List.nil_append] at hD'
    exact hD'
theorem turnE (vb d c:Nat) (sec:ByteArray) (n en:Nat) (f:Nat -> Bool) (r:ByteArray) (mb nn:Nat) (p:Int -> Option (Int × ByteArray)) (O:Nat -> Prop) (S:Nat -> Nat -> UInt8) (v:Value) (lf:Int) (w:World)
    (hV:Vlt w vb d c sec (n:Int) (en:Int) f r mb nn p false) (hD:Dv.Dev w O d S [] (-1) v lf) (hC:Dv.Cnt w c (n:Int)) (hT:TldE S sec n en f p)
    (hn:nn + 32 <= 100000) (hn1:n < 1000000) (he1:en < 1000000) (hsec:sec.size <= 300) (hO:∀ k,O k -> k < w.heap.size) (o2:¬ O vb) (o3:¬ O c) (o4:vb ≠ c) (hK:Sm.KB w) :
    Calls Tryz.prog 71 #[.pointer (some ⟨vb,0,none⟩)] w fun e w' => e = .returned .nilIface ∧
      ∃ S' f' r' CB n' O' v' l',Vlt w' vb d c sec ((n + 1:Nat):Int) ((en + 1:Nat):Int) f' r' CB n' (nxP p (trn p ((n + 1:Nat):Int) 32)) false ∧ w.heap.size <= CB ∧ n' <= nn + 32 ∧
        TldE S' sec (n + 1) (en + 1) f' (nxP p (trn p ((n + 1:Nat):Int) 32)) ∧ Dv.Dev w' O' d S' [] (-1) v' l' ∧ (∀ k,O' k -> Dv.gro O w w' k) ∧ Dv.Cnt w' c ((n + 1:Nat):Int) ∧ Dv.Chg w w' (fun k => O k ∨ k = c ∨ k = vb):=by
  have h:=turn_ok vb d c sec (n:Int) (en:Int) f r mb nn p O S [] v lf (n:Int) w hV hD hC (by omega) hn (by omega) (by omega) (by omega) (by omega) (fun j hj => hT.size j hj) hsec (Nat.zero_le _) hO o2 o3 o4 hK
  rw [show (n:Int) + 1 = ((n + 1:Nat):Int) from by omega,show (en:Int) + 1 = ((en + 1:Nat):Int) from by omega] at h
  refine h.mono ?_
  rintro e w' ⟨rfl,⟨CB,n',hV',hCB,hn'⟩,⟨O',v',l',hD',hO'⟩,hC',C'⟩
  refine ⟨rfl,_,_,_,CB,n',O',v',l',hV',hCB,hn',hT.turned hn1 he1,?_,hO',hC',C'⟩
  have e:((n + 1:Nat):Int).toNat = n + 1:=by omega
  rw [e,List.nil_append] at hD'
  exact hD'
theorem openE (d c:Nat) (O:Nat -> Prop) (S:Nat -> Nat -> UInt8) (v:Value) (lf:Int) (F:Int) (sec:ByteArray) (n en:Nat) (f:Nat -> Bool) (p:Int -> Option (Int × ByteArray)) (w:World) (hD:Dv.Dev w O d S [] F v lf) (hC:Dv.Cnt w c (n:Int)) (hsec:sec.size = 16) (hK:Sm.KB w) (hT:TldE S sec n en f p) :
    Calls Tryz.prog 52 #[.pointer (some ⟨d,0,none⟩),.pointer (some ⟨c,0,none⟩),.string sec] w fun e w' => (∃ VB CB n' f' r,e = .returned (.tuple #[.pointer (some ⟨VB,0,none⟩),.nilIface]) ∧ Vlt w' VB d c sec (n:Int) (en:Int) f' r CB n' p false ∧ TldE S sec n en f' p ∧ w.heap.size <= VB ∧ w.heap.size <= CB ∧ n' <= 32 * n) ∧ Below w.heap.size w w':=by
  by_cases h0:n = 0
  · subst h0
    obtain ⟨_,h1,rfl,rfl,rfl⟩:=hT.new rfl
    refine (open_0 d c O S [] F v lf sec w hD hC (by decide) hsec hK h1).mono ?_
    rintro e w' ⟨⟨VB,CB,rfl,hV,h2,h3⟩,g⟩
    exact ⟨⟨VB,CB,_,_,_,rfl,hV,hT,h2,h3,by omega⟩,g⟩
  · obtain ⟨x,hx,hx'⟩:=hT.old
    refine (open_some d c O S [] F v lf sec n x (en:Int) f p w hD hC (by decide) hsec hK hx (fun e => by have:=hx' _ e;omega) (hT.on (by omega))).mono ?_
    rintro e w' ⟨⟨VB,CB,rfl,hV,h2,h3⟩,g⟩
    exact ⟨⟨VB,CB,_,_,_,rfl,hV,hT,h2,h3,by omega⟩,g⟩
end Go.Proofs.YtjmpjfikcgccdaaGreatDoor.Bs
namespace Go.Proofs.YtjmpjfikcgccdaaGreatDoor.Bs
open Go.RowKit
open It Vt
def pgL (l:List UInt8) (k:Nat):List UInt8:=(l.drop (200 * k)).take 200
theorem pgL_len (l:List UInt8) (k:Nat):(pgL l k).length <= 200:=by unfold pgL;rw [List.length_take];omega
theorem pgL_cat (l:List UInt8) (k:Nat):l.take (200 * k) ++ pgL l k = l.take (200 * (k + 1)):=by
  unfold pgL
  rw [show 200 * (k + 1) = 200 * k + 200 from by omega,List.take_add]
theorem pgL_nil (k:Nat):pgL [] k = []:=by unfold pgL;simp
def Says (p:Int -> Option (Int × ByteArray)) (l:List UInt8):Prop:=∀ j:Nat,j < 32 -> (rd p (j:Int)).2 = ba (pgL l j)
theorem says_none:Says (fun _ => none) []:=fun j _ => by rw [pgL_nil];rfl
theorem says_trn {p:Int -> Option (Int × ByteArray)} {l:List UInt8} (h:Says p l) (c:Int):Says (nxP p (trn p c 32)) l:=fun j hj => by
  rw [<- h j hj]
  conv => lhs;unfold rd nxP trn
  rw [if_pos (by omega)];rfl
def pgG (l:List UInt8) (k:Nat) (i:Int):Option ByteArray:=if 0 <= i ∧ i < (k:Int) then some (ba (pgL l i.toNat)) else none
theorem pgG_some {l:List UInt8} {i:Int} {s:ByteArray} (h:pgG l 32 i = some s):(0 <= i ∧ i < 32) ∧ s.size <= 200:=by
  unfold pgG at h
  by_cases hi:0 <= i ∧ i < ((32:Nat):Int)
  · rw [if_pos hi] at h;injection h with h;subst h
    exact ⟨hi,by rw [ba_size];exact pgL_len _ _⟩
  · rw [if_neg hi] at h;cases h
theorem pgG_step (l:List UInt8) (k:Nat):(fun j => if j = (k:Int) then some (Value.string (ba (pgL l k))) else sv (pgG l k) j) = sv (pgG l (k + 1)):=by
  funext j
  unfold sv pgG
  by_cases e:j = (k:Int)
  · subst e;rw [if_pos rfl,if_pos (by omega),Int.toNat_natCast];rfl
  · rw [if_neg e]
    by_cases e2:0 <= j ∧ j < (k:Int)
    · rw [if_pos e2,if_pos (by omega)]
    · rw [if_neg e2,if_neg (by omega)]
theorem says_tel (p:Int -> Option (Int × ByteArray)) (l:List UInt8) (c:Int):Says (nxP p (tel (pgG l 32) p c)) l:=fun j hj => by
  have hg:pgG l 32 (j:Int) = some (ba (pgL l j)):=by unfold pgG;rw [if_pos (by omega),Int.toNat_natCast]
  conv => lhs;unfold rd nxP tel
  rw [hg]
  show (((if (ba (pgL l j)).toList = (rd p (j:Int)).2.toList then none else some (c,ba (pgL l j))).or (p (j:Int))).getD ent0).2 = ba (pgL l j)
  by_cases e:(ba (pgL l j)).toList = (rd p (j:Int)).2.toList
  · rw [if_pos e]
    exact (bytes_inj (by rw [<- ByteArray.toList_eq,<- ByteArray.toList_eq];exact e)).symm
  · rw [if_neg e];rfl
theorem less_of_cB:∀ a b:List UInt8,Lib.compareBytes a b < 0 -> Op.bytesLess a b = true
  | [],[],h => by simp [Lib.compareBytes] at h
  | [],_ :: _,_ => rfl
  | _ :: _,[],h => by simp [Lib.compareBytes] at h
  | a :: u,b :: t,h => by
    unfold Lib.compareBytes at h
    unfold Op.bytesLess
    by_cases h1:a < b
    · simp [h1]
    · rw [if_neg h1] at h
      by_cases h2:b < a
      · rw [if_pos h2] at h;omega
      · rw [if_neg h2] at h
        have e:a = b:=by
          have:=UInt8.le_antisymm (UInt8.not_lt.1 h2) (UInt8.not_lt.1 h1)
          exact this
        subst e
        simp [less_of_cB u t h]
theorem okB_srt {d:Int} {L:List ItD} (hd:1 <= d ∧ d <= 8) (hl:L.length <= 60) (hn:(nm L).Nodup) (hr:∀ x ∈ L,rightB x.x d = true):okB d (xsOf (srtI L)) = true:=by
  have hlen:(xsOf (srtI L)).length = L.length:=by unfold xsOf;rw [List.length_map,srtI_len]
  have hr':∀ x ∈ srtI L,rightB x.x d = true:=fun x hx => hr x ((srtI_perm L).mem_iff.1 hx)
  have hn':(nm (srtI L)).Nodup:=((srtI_perm L).map _).nodup_iff.2 hn
  simp only [okB,dimB,Bool.and_eq_true,decide_eq_true_eq,List.all_eq_true,List.mem_range]
  refine ⟨⟨hd,by omega⟩,fun i hi => ?_⟩
  rw [hlen,<- srtI_len] at hi
  cases i with
  | zero =>
    unfold okAt xsOf
    rw [List.getElem?_map,List.getElem?_eq_getElem hi]
    exact hr' _ (List.getElem_mem hi)
  | succ i =>
    show (match (xsOf (srtI L))[i]?,(xsOf (srtI L))[i + 1]? with
      | some y,some x => rightB x d && riseB y.name x.name
      | _,_ => true) = true
    unfold xsOf
    have h0:i < (srtI L).length:=by omega
    rw [List.getElem?_map,List.getElem?_map,List.getElem?_eq_getElem hi,List.getElem?_eq_getElem h0]
    show (rightB _ d && riseB _ _) = true
    rw [hr' _ (List.getElem_mem hi),Bool.true_and]
    have hs:=(List.pairwise_iff_getElem.1 (srtI_sorted L)) i (i + 1) h0 hi (by omega)
    have hne:(srtI L)[i].x.name ≠ (srtI L)[i + 1].x.name:=fun e => by
      have hn2:=hn'
      unfold nm List.Nodup at hn2
      rw [List.pairwise_map] at hn2
      exact List.pairwise_iff_getElem.1 hn2 i (i + 1) h0 hi (by omega) e
    unfold riseB
    rw [ByteArray.toList_eq,ByteArray.toList_eq]
    refine less_of_cB _ _ ?_
    cases hq:ltI (srtI L)[i] (srtI L)[i + 1] with
    | true => exact (ltI_iff _ _).1 hq
    | false => exact absurd (ltI_tot _ _ hq hs) hne
def tx (T:Bool) (dim:Int) (L:List ItD):List UInt8:=if T then textS dim (xsOf (srtI L)) else []
end Go.Proofs.YtjmpjfikcgccdaaGreatDoor.Bs
namespace Go.Proofs.YtjmpjfikcgccdaaGreatDoor.Bs
open Go.RowKit Go.Shelf Go.Maps
open It Nr
set_option maxRecDepth 100000 in
set_option maxHeartbeats 2000000 in
theorem bclone_any (b:Nat) (L:List ItD) (w:World) (h:IM w b L) :
    Calls Tryz.prog 65 #[.map (some b)] w fun e w' => e = .returned (.map (some w.heap.size)) ∧ IM w' w.heap.size L ∧ Below w.heap.size w w' ∧ w'.heap.size = w.heap.size + 1:=by
  obtain ⟨hnd,D,⟨es,clock,hb,F,hs,hD⟩,hT,hsz⟩:=h
  have hq:=fun w => run_eql_map_nil_sl (P:=Tryz.prog) w 128 9 45 (some b) pt45
  go_enter Tryz.func65,Tryz.ntmps65
  go_wp2
  rw [run_callFunc_extern Tryz.func128 (by kernel_rfl) (by kernel_rfl) (by kernel_rfl) (e:=Extern.MapsClone.clone) (by kernel_rfl),run_maps_clone_sl w 128 hb]
  simp only [Result.andThen]
  rw [Oper.upon_value]
  go_wp2
  rw [run_typeAssert_map_sl _ 128 20 _ _ _ pt45]
  simp only [Result.andThen]
  rw [Oper.upon_value]
  go_wp2
  go_ret
  refine ⟨rfl,⟨hnd,D,⟨es,clock,(MapKept.heap_alloc w _).1,F,hs,hD⟩,hT,hsz⟩,below_alloc w _,by simp⟩
theorem ints_some {w:World} {a:Option Addr} {zs:List Int} (h:Ints w a zs) (h0:0 < zs.length):∃ g o,a = some ⟨g,o,none⟩:=by
  obtain ⟨g,o,h1,_⟩:=h 0 zs[0] (List.getElem?_eq_getElem h0)
  exact ⟨g,o,h1⟩
theorem szInts:(Tryz.prog.info? 23).map (·.size) = some 1:=by kernel_rfl
theorem hone3 (a b:ByteArray) (v:Value) (h:v.oneCell' = true):∀ u ∈ (#[Value.string a,Value.string b,v]:Array Value).toList,u.oneCell' = true:=by
  intro u hu
  simp only [List.mem_cons,List.not_mem_nil,or_false] at hu
  rcases hu with rfl | rfl | rfl
  · rfl
  · rfl
  · exact h
def nz (zs:List Int):List Value:=zs.map (.int .i64 ·)
theorem nz_len (zs:List Int):(nz zs).length = zs.length:=by simp [nz]
theorem nz_one (zs:List Int):∀ u ∈ nz zs,u.oneCell' = true:=by
  intro u hu
  obtain ⟨z,_,rfl⟩:=List.mem_map.1 hu
  rfl
set_option maxRecDepth 100000 in
set_option maxHeartbeats 1000000 in
theorem intclone_any (g o c:Nat) (zs:List Int) (w:World) (h:Ints w (some ⟨g,o,none⟩) zs) (h0:0 < zs.length) (hl:zs.length <= 100) :
    Calls Tryz.prog 120 #[.slice (some ⟨g,o,none⟩) zs.length c] w fun e w' => (∃ g' c',e = .returned (.slice (some ⟨g',0,none⟩) zs.length c') ∧ Ints w' (some ⟨g',0,none⟩) zs ∧ zs.length <= c' ∧ w.heap.size <= g' ∧ g' < w'.heap.size) ∧ Below w.heap.size w w':=by
  have s1:=below_alloc w (.cells #[] 3)
  have hI:=h.below s1
  have hB:Blk (w.alloc (.cells #[] 3)) w.heap.size #[] 3:=Blk.new w _ _
  have ow1:(w.alloc (.cells #[] 3)).ownsRow w.heap.size 3 1 (.slice (some ⟨w.heap.size,0,none⟩) 0 0) 0 []:=row_fresh hB (Nat.le_refl _) (by decide) rfl
  have hq:∀ w:World,(binOp .eql 23 (.slice (some ⟨g,o,none⟩) zs.length c) (.slice none 0 0)).run Tryz.prog w = .ok (.bool false) w:=fun w => by kernel_rfl
  obtain ⟨i,hi,hp⟩:=Option.map_eq_some_iff.1 infoInt
  simp only [Prod.mk.injEq] at hp
  obtain ⟨p1,p2,p3⟩:=hp
  have hc:∀ j u,(nz zs)[j]? = some u -> (w.alloc (.cells #[] 3)).cell? ⟨g,o + j,none⟩ = some u:=fun j u hu => by
    unfold nz at hu
    rw [List.getElem?_map] at hu
    obtain ⟨z,hz,rfl⟩:=Option.map_eq_some_iff.1 hu
    obtain ⟨g',o',e,hcell⟩:=hI j z hz
    injection e with e
    injection e with e1 e2
    subst e1 e2
    exact hcell
  clear h hI
  have HI:Hid (Tryz.prog.info? 3 = some i ∧ i.zero = some (.int .i64 0) ∧ i.size = 1 ∧ i.bytes = 8):=⟨hi,p1,p2,p3⟩
  clear hi p1 p2 p3
  go_enter Tryz.func120,Tryz.ntmps120
  go_wp2_with (first
    | (refine wpList_append_lies _ rfl _ _ 23 rfl w.heap.size 3 i (.int .i64 0) 1 8 Tryz.underlying23 HI.out.1 HI.out.2.1 HI.out.2.2.1 HI.out.2.2.2 rfl (by decide) (.slice (some ⟨w.heap.size,0,none⟩) 0 0) 0 [] rfl ow1 ⟨g,o,none⟩ zs.length c (nz zs) rfl (by rw [nz_len,Nat.mul_one]) (fun j u hu => by rw [addr_addO];exact hc j u hu) (nz_one zs) h0 (by unfold maxLen;omega) (by omega) (by simp) (w.heap.size + 1) (by simp) ?_;intro g6 c6 w6 ow6 gr6 hat6 hlt6)
    | fail)
  go_ret
  have ow7:w6.ownsRow w.heap.size 3 1 (.slice (some ⟨g6,0,none⟩) zs.length c6) zs.length (nz zs):=by simpa using ow6
  obtain ⟨r1,r2,r3,r4⟩:=row_cap ow7
  refine ⟨⟨g6,c6,by simp,fun j z hz => ⟨g6,0,rfl,?_⟩,r2,r3,r4⟩,row_grownBelow s1 ow1 gr6 (by simp)⟩
  rw [Nat.zero_add]
  exact row_cell ow7 j _ (by unfold nz;rw [List.getElem?_map,hz];rfl)
set_option maxRecDepth 100000 in
set_option maxHeartbeats 1000000 in
theorem copied_any (x:ItD) (w:World) (h:x.Ok w) (h0:0 < x.x.nums.length) (hl:x.x.nums.length <= 100) :
    Calls Tryz.prog 60 #[.agg x.arr] w fun e w' => (∃ y:ItD,e = .returned (.agg y.arr) ∧ y.x = x.x ∧ y.Ok w' ∧ InZ (fun k => w.heap.size <= k ∧ k < w'.heap.size) y) ∧ Below w.heap.size w w':=by
  obtain ⟨⟨nm,tg,zs⟩,xa,xc⟩:=x
  obtain ⟨g,o,rfl⟩:=ints_some h.1 h0
  show Calls Tryz.prog 60 #[.agg #[.string nm,.string tg,.slice (some ⟨g,o,none⟩) zs.length xc]] w _
  obtain ⟨k1,k2,k3,k4,k5⟩:=h
  have s1:=below_alloc w (.cells #[.string nm,.string tg,.slice (some ⟨g,o,none⟩) zs.length xc] 45)
  have j1:Blk (w.alloc (.cells #[.string nm,.string tg,.slice (some ⟨g,o,none⟩) zs.length xc] 45)) w.heap.size #[.string nm,.string tg,.slice (some ⟨g,o,none⟩) zs.length xc] 45:=Blk.new w _ _
  have s2:=below_alloc (w.alloc (.cells #[.string nm,.string tg,.slice (some ⟨g,o,none⟩) zs.length xc] 45)) (.cells #[.string ByteArray.empty,.string ByteArray.empty,.slice none 0 0] 45)
  have j2:Blk ((w.alloc (.cells #[.string nm,.string tg,.slice (some ⟨g,o,none⟩) zs.length xc] 45)).alloc (.cells #[.string ByteArray.empty,.string ByteArray.empty,.slice none 0 0] 45)) (w.heap.size + 1) #[.string ByteArray.empty,.string ByteArray.empty,.slice none 0 0] 45:=by
    have:=Blk.new (w.alloc (.cells #[.string nm,.string tg,.slice (some ⟨g,o,none⟩) zs.length xc] 45)) #[.string ByteArray.empty,.string ByteArray.empty,.slice none 0 0] 45
    rwa [World.size_alloc] at this
  have j1':=j1.below s2 j1.lt
  have b2:=s1.trans (s2.mono s1.size)
  have hI:=Ints.below k1 b2
  have HI:Hid _:=intclone_any g o xc zs _ hI h0 hl
  clear hI j1 s1 s2 k1
  go_enter Tryz.func60,Tryz.ntmps60
  have c2:=j1'.cell 2
  go_wp2_with fail
  refine Calls.mono HI.out ?_
  rintro e w3 ⟨⟨g',c',rfl,hI3,hc3,hg3,hl3⟩,b3⟩
  have j1:=j1'.below b3 j1'.lt
  have j3:=j2.below b3 j2.lt
  have bb:=b2.trans (b3.mono b2.size)
  have hz:w.heap.size + 2 <= g':=by simpa using hg3
  clear HI c2 j1' j2 b2 b3 hg3
  go_wp2_with (first
    | (refine Vt.wpl_put1 rfl rfl 23 _ _ rfl szInts w.heap.size 2 _ 45 (.slice (some ⟨g',0,none⟩) zs.length c') rfl rfl rfl rfl j1 (Nat.le_refl 3) ?_;intro w4 hu4 j4)
    | (refine Su.wpl_loadV rfl 45 _ rfl Tryz.isAgg45 3 It.szIt w.heap.size 0 _ 45 rfl j4 (Nat.le_refl _) ?_)
    | (refine Su.wpl_storeV rfl rfl 45 _ _ rfl 3 It.szIt (w.heap.size + 1) _ 45 #[.string nm,.string tg,.slice (some ⟨g',0,none⟩) zs.length c'] (hone3 _ _ _ rfl) rfl rfl (j3.upd hu4 (by omega)) rfl rfl ?_;intro w5 hu5 j5))
  refine Su.ret_cellV 2 45 rfl Tryz.isAgg45 3 It.szIt (w.heap.size + 1) _ 45 rfl rfl j5 rfl ?_
  have hb5:=below_upd (below_upd bb hu4 (Nat.le_refl _)) hu5 (by omega)
  refine ⟨⟨⟨⟨nm,tg,zs⟩,some ⟨g',0,none⟩,c'⟩,rfl,rfl,⟨ints_same hI3 fun b o e => ?_,k2,k3,k4,hc3⟩,fun b o e => ?_⟩,hb5⟩
  · injection e with e;injection e with e1;subst e1
    exact (hu5.block _ (by omega)).trans (hu4.block _ (by omega))
  · injection e with e;injection e with e1;subst e1
    have e4:=hu4.size
    have e5:=hu5.size
    exact ⟨by omega,by omega⟩
end Go.Proofs.YtjmpjfikcgccdaaGreatDoor.Bs
