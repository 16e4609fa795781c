/-
  Part of the proof of BaseFindsCard (SyC7 and on).
-/
import Derived.Test.YtjmpjfikcgccdaaGreatDoorB11
import Derived.Test.YtjmpjfikcgccdaaGreatDoorB09
namespace Go.Proofs.YtjmpjfikcgccdaaGreatDoor.SyC
open Go.RowKit
open It Nr Sy
set_option maxRecDepth 100000 in
set_option maxHeartbeats 4000000 in
theorem stable_any {α:Type} [Inhabited α] (enc:α -> List Value) (tl:Array Value) (hk:∀ x,(enc x).length = 2) (h1:∀ x,∀ v ∈ enc x,v.oneCell' = true) (cf:α -> α -> Int) (P:Pre cf) (g cap N:Nat) (d0 d:Array α) (w0 w:World) (HCM:Cmp Tryz.prog 177 #[] enc cf w0 g d0) (h:SS enc tl 242 w0 g d0 w d) (hN:d.size = N) (hsz:N <= 100000) :
    Calls Tryz.prog 255 #[.slice (some ⟨g,0,none⟩) N cap,.int .i64 N,.func (.func 177) #[] #[]] w fun e w' => e = .returned (.tuple #[]) ∧ ∃ d',SS enc tl 242 w0 g d0 w' d' ∧ Sor cf (nth d') 0 N:=by
  have HS:Hid (SS enc tl 242 w0 g d0 w d):=h
  have HN:Hid (d.size = N):=hN
  have HCC:Hid _:=HCM
  clear h hN HCM
  go_enter Tryz.func255,Tryz.ntmps255
  go_wp2_with fail
  go_loopw [7,8] (fun va vb wr => ∃ (a q:Nat) (c:Array α),va = .int .i64 a ∧ vb = .int .i64 ((a + 20:Nat):Int) ∧ a <= N ∧ Hid (a = q * 20) ∧ Hid (SS enc tl 242 w0 g d0 wr c) ∧ Hid (∀ t,t < q -> Sor cf (nth c) (t * 20) (t * 20 + 20))) (fun va _ _ => N - (intOf va).toNat)
  case atStart => exact ⟨0,0,d,rfl,rfl,Nat.zero_le _,rfl,HS.out,fun t ht => by omega⟩
  case round =>
    obtain ⟨a,q,c,rfl,rfl,haN,HA,HC,HQ⟩:=hrel
    have HCS:Hid (c.size = N):=by unfold Hid;rw [HC.out.size,<- HS.out.size];exact HN.out
    by_cases hlt:a + 20 <= N
    · have hlt':((a + 20:Nat):Int) <= (N:Int):=by omega
      have HI:Hid _:=insertion_any enc tl hk h1 cf P g cap a (a + 20) N d0 c w0 wr HCC.out HC.out HCS.out (by omega) hlt hsz
      have x1:IntKind.i64.wrap (((a + 20:Nat):Int) + 20) = ((a + 20:Nat):Int) + 20:=by rw [IntKind.wrap_i64];omega
      obtain ⟨b,hb⟩:∃ b:Nat,b = a + 20:=⟨_,rfl⟩
      have HB:Hid (b = a + 20):=hb
      rw [<- hb] at hlt' HI x1 ⊢
      clear hb
      go_wp2_with fail
      refine Calls.mono HI.out ?_
      rintro e w1 ⟨rfl,c',hc',hs',hw'⟩
      have H1:Hid _:=hc'
      have H2:Hid (Sor cf (nth c') a b):=hs'
      have H3:Hid _:=hw'
      clear hc' hs' hw' HI
      go_wp2_with fail
      have hb:=HB.out
      refine ⟨⟨b,q + 1,c',rfl,by go_num,by omega,?_,H1.out,blks_step HQ.out a b HA.out H2.out HB.out H3.out⟩,by simp [intOf];omega⟩
      unfold Hid
      have:=HA.out
      omega
    · have hlt':¬ ((a + 20:Nat):Int) <= (N:Int):=by omega
      have HI:Hid _:=insertion_any enc tl hk h1 cf P g cap a N N d0 c w0 wr HCC.out HC.out HCS.out haN (Nat.le_refl _) hsz
      have HL:Hid (N < a + 20):=by unfold Hid;omega
      clear hlt
      go_wp2_with fail
      refine Calls.mono HI.out ?_
      rintro e w1 ⟨rfl,c',hc',hs',hw'⟩
      have H1:Hid _:=hc'
      have HBK:Hid (Blks cf (nth c') 20 N):=blks_fin HQ.out a HA.out HL.out hs' hw'
      clear hc' hs' hw' HI HA HL hlt' haN HQ HC
      go_wp2_with fail
      go_loopw [6,7,8,9] (fun vB _ _ _ wr => ∃ (B:Nat) (c:Array α),vB = .int .i64 B ∧ 0 < B ∧ B <= 200020 ∧ Hid (SS enc tl 242 w0 g d0 wr c) ∧ Hid (Blks cf (nth c) B N)) (fun vB _ _ _ _ => N - (intOf vB).toNat)
      case atStart => exact ⟨20,c',rfl,by omega,by omega,H1.out,HBK.out⟩
      case round =>
        clear H1 HBK
        obtain ⟨B,c,rfl,hB0,hB1,HC,HBK⟩:=hrel
        by_cases hlt:B < N
        · have hlt':(B:Int) < (N:Int):=by omega
          have x1:IntKind.i64.wrap (2 * (B:Int)) = ((2 * B:Nat):Int):=by rw [IntKind.wrap_i64];omega
          obtain ⟨C,hC⟩:∃ C:Nat,C = 2 * B:=⟨_,rfl⟩
          have HCB:Hid (C = 2 * B):=hC
          rw [<- hC] at x1
          have hC2:C <= 200000 ∧ 0 < C ∧ B <= C:=by omega
          clear hC
          go_wp2_with fail
          go_loopw [7,8] (fun va vb wr => ∃ (a q:Nat) (c:Array α),va = .int .i64 a ∧ vb = .int .i64 ((a + C:Nat):Int) ∧ a <= N ∧ Hid (a = q * (2 * B)) ∧ Hid (SS enc tl 242 w0 g d0 wr c) ∧ Hid (Mid cf (nth c) B N q)) (fun va _ _ => N - (intOf va).toNat)
          case atStart => exact ⟨0,0,c,rfl,by go_num,Nat.zero_le _,by unfold Hid;omega,HC.out,Mid.start HBK.out⟩
          case round =>
            clear HC HBK
            obtain ⟨a,q,c,rfl,rfl,haN,HA,HC,HQ⟩:=hrel
            have HCS:Hid (c.size = N):=by unfold Hid;rw [HC.out.size,<- HS.out.size];exact HN.out
            obtain ⟨b,hb⟩:∃ b:Nat,b = a + C:=⟨_,rfl⟩
            have HB:Hid (b = a + C):=hb
            obtain ⟨m,hm⟩:∃ m:Nat,m = a + B:=⟨_,rfl⟩
            have HM:Hid (m = a + B):=hm
            rw [<- hb]
            have sm:(a:Int) + (B:Int) = (m:Int):=by omega
            have xm:IntKind.i64.wrap (m:Int) = (m:Int):=by rw [IntKind.wrap_i64];omega
            have x2:IntKind.i64.wrap ((b:Int) + (C:Int)) = (b:Int) + (C:Int):=by rw [IntKind.wrap_i64];omega
            by_cases hbN:b <= N
            · have hbN':(b:Int) <= (N:Int):=by omega
              have hcb:=HCB.out
              have hpre:=Mid.pre HQ.out a b HA.out hbN (by omega)
              rw [show min (a + B) b = m from by omega,<- hm] at hpre
              have HI:Hid _:=sym_any enc tl hk h1 cf P g cap N d0 w0 HCC.out hsz (b - a) a m b c wr (Nat.le_refl _) HC.out HCS.out (by omega) (by omega) hbN hpre.1 hpre.2
              clear hb hm hpre hcb
              go_wp2_with fail
              refine Calls.mono HI.out ?_
              rintro e w2 ⟨rfl,c2,hc',hs',hw'⟩
              have H1:Hid _:=hc'
              have H2:Hid (Sor cf (nth c2) a b):=hs'
              have H3:Hid _:=hw'
              clear hc' hs' hw' HI
              go_wp2_with fail
              have hb:=HB.out
              have hcb:=HCB.out
              refine ⟨⟨b,q + 1,c2,rfl,by go_num,hbN,?_,H1.out,Mid.step HQ.out a b HA.out (by omega) H2.out H3.out⟩,by simp [intOf];omega⟩
              unfold Hid
              rw [Nat.add_mul,Nat.one_mul,<- HA.out]
              omega
            · have hbN':¬ (b:Int) <= (N:Int):=by omega
              have HLN:Hid (N < a + 2 * B):=by unfold Hid;have:=HCB.out;omega
              have xB:IntKind.i64.wrap ((B:Int) * 2) = ((B * 2:Nat):Int):=by rw [IntKind.wrap_i64];omega
              by_cases hmN:m < N
              · have hmN':(m:Int) < (N:Int):=by omega
                have hpre:=Mid.pre HQ.out a N HA.out (Nat.le_refl _) (by have:=HLN.out;omega)
                rw [show min (a + B) N = m from by omega,<- hm] at hpre
                have HI:Hid _:=sym_any enc tl hk h1 cf P g cap N d0 w0 HCC.out hsz (N - a) a m N c wr (Nat.le_refl _) HC.out HCS.out (by omega) hmN (Nat.le_refl _) hpre.1 hpre.2
                clear hb hm hpre
                go_wp2_with fail
                refine Calls.mono HI.out ?_
                rintro e w2 ⟨rfl,c2,hc',hs',hw'⟩
                have H1:Hid _:=hc'
                have H2:Hid (Blks cf (nth c2) (B * 2) N):=Mid.fin HQ.out a HA.out HLN.out hs' hw'
                clear hc' hs' hw' HI
                go_wp2_with fail
                exact ⟨⟨B * 2,c2,rfl,by omega,by omega,H1.out,H2.out⟩,by simp [intOf];omega⟩
              · have hmN':¬ (m:Int) < (N:Int):=by omega
                have hpre:=Mid.pre HQ.out a N HA.out (Nat.le_refl _) (by have:=HLN.out;omega)
                rw [show min (a + B) N = N from by omega] at hpre
                have H2:Hid (Blks cf (nth c) (B * 2) N):=Mid.fin HQ.out a HA.out HLN.out hpre.1 (Wi.refl _ _ _)
                clear hb hm hpre
                go_wp2_with fail
                exact ⟨⟨B * 2,c,rfl,by omega,by omega,HC.out,H2.out⟩,by simp [intOf];omega⟩
        · go_wp2_with fail
          go_end0
          exact ⟨rfl,c,HC.out,Blks.all HBK.out (by omega)⟩
set_option maxHeartbeats 1000000 in
theorem sort_stable {α:Type} [Inhabited α] (enc:α -> List Value) (tl:Array Value) (hk:∀ x,(enc x).length = 2) (h1:∀ x,∀ v ∈ enc x,v.oneCell' = true) (cf:α -> α -> Int) (P:Pre cf) (g cap N:Nat) (d0:Array α) (w:World) (HCM:Cmp Tryz.prog 177 #[] enc cf w g d0) (hb:Blk w g (fl enc tl d0) 242) (hN:d0.size = N) (hsz:N <= 100000) :
    Calls Tryz.prog 176 #[.slice (some ⟨g,0,none⟩) N cap,.func (.func 177) #[] #[]] w fun e w' => e = .returned (.tuple #[]) ∧ ∃ d',UpdG w w' g ∧ Blk w' g (fl enc tl d') 242 ∧ d'.toList.Perm d0.toList ∧ Sor cf (nth d') 0 N:=by
  have HI:Hid _:=stable_any enc tl hk h1 cf P g cap N d0 d0 w w HCM ⟨UpdG.refl _ _,hb,List.Perm.refl _⟩ hN hsz
  clear HCM hb hN
  go_enter Tryz.func176,Tryz.ntmps176
  go_wp2_with fail
  refine Calls.mono HI.out ?_
  rintro e w2 ⟨rfl,d',hd,hs⟩
  have H1:Hid _:=hd
  have H2:Hid (Sor cf (nth d') 0 N):=hs
  clear hd hs HI
  go_wp2_with fail
  go_end0
  exact ⟨rfl,d',H1.out.upd,H1.out.blk,H1.out.perm,H2.out⟩
end Go.Proofs.YtjmpjfikcgccdaaGreatDoor.SyC
namespace Go.Proofs.YtjmpjfikcgccdaaGreatDoor.Ce
open Go.RowKit
open It Nr Sy
section
variable {P:Program} {Q:Exit -> Act -> World -> Prop} {a:Act} {w:World} {o:Oper} {K:Act -> World -> Prop}
theorem op_pushM (s x:Operand) (t:TypeId) (ho:o.op = .call { callee:=.builtin .append,args:=#[s,x],argTypes:=#[t,t] })
    (B:Nat) (e:TypeId) (z:Value) (size bytes:Nat) (ht:P.underlying t = some (.slice e)) (hinfo:(P.info? e).map (fun i => (i.zero,i.size,i.bytes)) = some (some z,size,bytes)) (hz1:z.cells.size = size) (hsz:0 < size)
    (v:Value) (n:Nat) (xs:List Value) (hs:a.eval s = v) (hown:w.ownsRow B e size v n xs) (C m:Nat) (v2:Value) (news:List Value) (hx:a.eval x = v2) (hu:w.ownsRow C e size v2 m news) (hu1:∀ u ∈ news,u.oneCell' = true) (hm:0 < m)
    (hlen:n + m < 100000) (hby:bytes <= 1000) (hbase:B <= w.heap.size)
    (h:∀ g cap w',w'.ownsRow B e size (.slice (some ⟨g,0,none⟩) (n + m) cap) (n + m) (xs ++ news) -> w.grownBy w' v.ownBlock -> (v.ownBlock = some g ∨ g = w.heap.size) -> g < w'.heap.size -> K (a.put o.dst (.slice (some ⟨g,0,none⟩) (n + m) cap)) w') :
    o.wp P a w K Q:=by
  obtain ⟨i,hi,p1,p2,p3⟩:=info_parts hinfo
  obtain ⟨g2,cap2,cur2,rfl,_⟩:=own_parts hu (Nat.mul_pos hm hsz)
  refine wp_append_lies w s x t ho B e i z size bytes ht hi p1 p2 p3 hz1 hsz v n xs hs hown ⟨g2,0,none⟩ m cap2 news hx hu.1 ?_ hu1 hm (by unfold maxLen;omega) ?_ hbase w.heap.size rfl h
  · intro j u hj
    rw [addr_add]
    exact row_cell hu j u hj
  · have:=Nat.mul_le_mul (show n + m <= 100000 by omega) hby;omega
theorem wpl_pushM {ops:Array Oper} {rest:List Oper} (hgd:o.guard = none) (s x:Operand) (t:TypeId) (ho:o.op = .call { callee:=.builtin .append,args:=#[s,x],argTypes:=#[t,t] })
    (B:Nat) (e:TypeId) (z:Value) (size bytes:Nat) (ht:P.underlying t = some (.slice e)) (hinfo:(P.info? e).map (fun i => (i.zero,i.size,i.bytes)) = some (some z,size,bytes)) (hz1:z.cells.size = size) (hsz:0 < size)
    (v:Value) (n:Nat) (xs:List Value) (hs:a.eval s = v) (hown:w.ownsRow B e size v n xs) (C m:Nat) (v2:Value) (news:List Value) (hx:a.eval x = v2) (hu:w.ownsRow C e size v2 m news) (hu1:∀ u ∈ news,u.oneCell' = true) (hm:0 < m)
    (hlen:n + m < 100000) (hby:bytes <= 1000) (hbase:B <= w.heap.size)
    (h:∀ g cap w',w'.ownsRow B e size (.slice (some ⟨g,0,none⟩) (n + m) cap) (n + m) (xs ++ news) -> w.grownBy w' v.ownBlock -> (v.ownBlock = some g ∨ g = w.heap.size) -> g < w'.heap.size -> wpList P ops Q rest (a.put o.dst (.slice (some ⟨g,0,none⟩) (n + m) cap)) w') :
    wpList P ops Q (o :: rest) a w:=
  wpList_plain hgd fun _ hK => op_pushM s x t ho B e z size bytes ht hinfo hz1 hsz v n xs hs hown C m v2 news hx hu hu1 hm hlen hby hbase fun g cap w' h1 h2 h3 h4 => hK _ _ (h g cap w' h1 h2 h3 h4)
end
theorem own_apart {w:World} {B C:Nat} {e e':TypeId} {z z':Nat} {v v':Value} {n n':Nat} {xs xs':List Value} (h:w.ownsRow B e z v n xs) (h':w.ownsRow C e' z' v' n' xs') (he:e ≠ e'):v.ownBlock = none ∨ v.ownBlock ≠ v'.ownBlock:=by
  obtain ⟨_,⟨h2,_⟩ | ⟨g,cap,cur,hv,_,hh,_⟩⟩:=h
  · left;rw [h2];rfl
  · right
    obtain ⟨_,⟨h2',_⟩ | ⟨g',cap',cur',hv',_,hh',_⟩⟩:=h'
    · rw [hv,h2'];intro e;cases e
    · rw [hv,hv']
      intro e2
      simp only [Value.ownBlock,Option.some.injEq] at e2
      subst e2
      rw [hh] at hh'
      injection hh' with hh'
      injection hh' with _ h3
      exact he h3
theorem own_kept {w w':World} {B:Nat} {e:TypeId} {z:Nat} {v:Value} {n:Nat} {xs:List Value} {row:Option Nat} (h:w.ownsRow B e z v n xs) (hg:w.grownBy w' row) (hne:v.ownBlock = none ∨ v.ownBlock ≠ row):w'.ownsRow B e z v n xs:=by
  obtain ⟨h1,h2 | ⟨g,cap,cur,hv,hgB,hh,r⟩⟩:=h
  · exact ⟨h1,Or.inl h2⟩
  · refine ⟨h1,Or.inr ⟨g,cap,cur,hv,hgB,?_,r⟩⟩
    rw [hg.block g (Array.getElem?_eq_some_iff.1 hh).1 (fun e => ?_)];exact hh
    rcases hne with h | h
    · rw [hv] at h;cases h
    · rw [hv] at h;exact h e
theorem own_base {w:World} {B C:Nat} {e:TypeId} {z:Nat} {v:Value} {n:Nat} {xs:List Value} (h:w.ownsRow B e z v n xs) (hC:C <= B):w.ownsRow C e z v n xs:=by
  obtain ⟨h1,h2 | ⟨g,cap,cur,h3,h4,h5⟩⟩:=h
  · exact ⟨h1,Or.inl h2⟩
  · exact ⟨h1,Or.inr ⟨g,cap,cur,h3,Nat.le_trans hC h4,h5⟩⟩
theorem updG_grown {w w':World} {g:Nat} (h:UpdG w w' g):w.grownBy w' (some g):=⟨h.os,h.tape,h.output,h.size,fun k hk hne => h.block k hk (fun e => hne (by rw [e]))⟩
theorem upd_grown {w w':World} {g:Nat} (h:Upd w w' g):w.grownBy w' (some g):=⟨h.os,h.tape,h.output,Nat.le_of_eq h.size.symm,fun k _ hne => h.block k (fun e => hne (by rw [e]))⟩
theorem blk_grown {w w':World} {b:Nat} {arr:Array Value} {T:TypeId} {row:Option Nat} (h:Blk w b arr T) (hg:w.grownBy w' row) (hne:row ≠ some b):Blk w' b arr T:=by
  have hl:=h.lt
  unfold Blk at *
  rw [hg.block b hl (fun e => hne e.symm)];exact h
structure CS (w:World) (B:Nat) (cs:List CeD):Prop where
  co:∀ x ∈ cs,w.ownsRow B 3 1 x.e0 x.co.length (nv x.co)
  it:∀ x ∈ cs,w.ownsRow B 45 3 x.e1 x.it.length (flatI x.it)
  dis:cs.Pairwise fun x y => x.e1.ownBlock ≠ y.e1.ownBlock
  cor:∀ x ∈ cs,x.it ≠ [] ∧ ∀ d ∈ x.it,d.x.nums.map begF = x.co
theorem CS.nil (w:World) (B:Nat):CS w B []:=⟨(fun _ h => (by cases h)),(fun _ h => (by cases h)),List.Pairwise.nil,(fun _ h => (by cases h))⟩
theorem CS.below {w w':World} {B:Nat} {cs:List CeD} (h:CS w B cs) (hb:Below w.heap.size w w'):CS w' B cs:=
  ⟨fun x hx => ownsRow_below (h.co x hx) hb,fun x hx => ownsRow_below (h.it x hx) hb,h.dis,h.cor⟩
theorem CS.kept {w w':World} {B C:Nat} {cs:List CeD} {e:TypeId} {z:Nat} {v:Value} {n:Nat} {xs:List Value} (h:CS w B cs) (hr:w.ownsRow C e z v n xs) (hg:w.grownBy w' v.ownBlock) (h3:3 ≠ e) (h4:45 ≠ e):CS w' B cs:=
  ⟨fun x hx => own_kept (h.co x hx) hg (own_apart (h.co x hx) hr h3),fun x hx => own_kept (h.it x hx) hg (own_apart (h.it x hx) hr h4),h.dis,h.cor⟩
theorem CS.perm {w:World} {B:Nat} {cs cs':List CeD} (h:CS w B cs) (hp:cs'.Perm cs):CS w B cs':=
  ⟨fun x hx => h.co x (hp.mem_iff.1 hx),fun x hx => h.it x (hp.mem_iff.1 hx),(hp.pairwise_iff (fun hxy => Ne.symm hxy)).2 h.dis,fun x hx => h.cor x (hp.mem_iff.1 hx)⟩
theorem it_own_some {w:World} {B:Nat} {x:CeD} (h:w.ownsRow B 45 3 x.e1 x.it.length (flatI x.it)) (hne:x.it ≠ []):∃ g,x.e1.ownBlock = some g ∧ B <= g ∧ g < w.heap.size:=by
  have hp:0 < x.it.length:=List.length_pos_iff.2 hne
  obtain ⟨g,cap,cur,hv,hgB,hgl,_⟩:=own_parts h (by omega)
  rw [hv]
  exact ⟨g,rfl,hgB,hgl⟩
theorem CS.snoc {w:World} {B:Nat} {cs:List CeD} {x:CeD} (h:CS w B cs) (h1:w.ownsRow B 3 1 x.e0 x.co.length (nv x.co)) (h2:w.ownsRow B 45 3 x.e1 x.it.length (flatI x.it)) (h3:∀ y ∈ cs,y.e1.ownBlock ≠ x.e1.ownBlock) (h4:x.it ≠ [] ∧ ∀ d ∈ x.it,d.x.nums.map begF = x.co):CS w B (cs ++ [x]):=by
  refine ⟨fun y hy => ?_,fun y hy => ?_,?_,fun y hy => ?_⟩
  · rcases List.mem_append.1 hy with hy | hy
    · exact h.co y hy
    · obtain rfl:=List.mem_singleton.1 hy;exact h1
  · rcases List.mem_append.1 hy with hy | hy
    · exact h.it y hy
    · obtain rfl:=List.mem_singleton.1 hy;exact h2
  · rw [List.pairwise_append]
    exact ⟨h.dis,List.pairwise_singleton _ _,fun y hy z hz => by obtain rfl:=List.mem_singleton.1 hz;exact h3 y hy⟩
  · rcases List.mem_append.1 hy with hy | hy
    · exact h.cor y hy
    · obtain rfl:=List.mem_singleton.1 hy;exact h4
def flatC (cs:List CeD):List Value:=cs.flatMap encC
theorem flatC_len (cs:List CeD):(flatC cs).length = cs.length * 2:=flat_len encC_len cs
theorem flatC_snoc (cs:List CeD) (x:CeD):flatC (cs ++ [x]) = flatC cs ++ [x.e0,x.e1]:=by simp [flatC,encC]
theorem flatC_cell {cs:List CeD} {i:Nat} {x:CeD} (h:cs[i]? = some x):(flatC cs)[i * 2]? = some x.e0 ∧ (flatC cs)[i * 2 + 1]? = some x.e1:=
  ⟨(flat_get encC_len cs i 0 x h (by decide)).trans rfl,(flat_get encC_len cs i 1 x h (by decide)).trans rfl⟩
theorem row_fl {α:Type} {enc:α -> List Value} {k:Nat} {w:World} {B g cap:Nat} {T:TypeId} {l:List α} (h:w.ownsRow B T k (.slice (some ⟨g,0,none⟩) l.length cap) l.length (l.flatMap enc)) :
    ∃ tl:Array Value,Blk w g (fl enc tl l.toArray) T ∧ l.length * k + tl.size = cap * k ∧ l.length <= cap ∧ cap <= maxLen ∧ B <= g:=by
  obtain ⟨h1,⟨h2,_⟩ | ⟨g',cap',cur,hv,hgB,hh,hc1,hc2,hs,ht⟩⟩:=h
  · injection h2 with h2;cases h2
  · injection hv with hv1 hv2 hv3
    injection hv1 with hv1
    injection hv1 with hv1
    subst hv1 hv3
    refine ⟨(cur.toList.drop (l.length * k)).toArray,?_,?_,hc1,hc2,hgB⟩
    · have e:fl enc (cur.toList.drop (l.length * k)).toArray l.toArray = cur:=by
        unfold fl
        apply Array.toList_inj.1
        rw [Array.toList_append]
        show l.flatMap enc ++ _ = _
        rw [<- ht,List.take_append_drop]
      rw [e];exact hh
    · have:=Nat.mul_le_mul_right k hc1
      simp only [List.size_toArray,List.length_drop,Array.length_toList]
      omega
theorem fl_row {α:Type} {enc:α -> List Value} {k:Nat} (hk:∀ x,(enc x).length = k) {w:World} {B g cap:Nat} {T:TypeId} {tl:Array Value} {d:Array α} (h:Blk w g (fl enc tl d) T) (hs:d.size * k + tl.size = cap * k) (hc:d.size <= cap) (hm:cap <= maxLen) (hB:B <= g) :
    w.ownsRow B T k (.slice (some ⟨g,0,none⟩) d.size cap) d.toList.length (d.toList.flatMap enc):=by
  have e:d.toList.length = d.size:=by simp
  refine ⟨flat_len hk _,Or.inr ⟨g,cap,fl enc tl d,by rw [e],hB,h,by rw [e];exact hc,hm,by rw [fl_size hk];exact hs,?_⟩⟩
  unfold fl
  rw [Array.toList_append]
  show (d.toList.flatMap enc ++ tl.toList).take _ = _
  rw [List.take_append_of_le_length (by rw [flat_len hk];exact Nat.le_refl _),List.take_of_length_le (by rw [flat_len hk];exact Nat.le_refl _)]
end Go.Proofs.YtjmpjfikcgccdaaGreatDoor.Ce
namespace Go.Proofs.YtjmpjfikcgccdaaGreatDoor.Ce
open Go.RowKit
open It Nr Sy
set_option maxHeartbeats 1000000 in
theorem eqInts_any (a b:Option Addr) (c d:Nat) (zs ys:List Int) (w:World) (hz:Ints w a zs) (hy:Ints w b ys) (hzl:zs.length <= 100) :
    Calls Tryz.prog 94 #[.slice a zs.length c,.slice b ys.length d] w fun e w' => e = .returned (.bool (decide (zs = ys))) ∧ Below w.heap.size w w':=by
  by_cases hl:zs.length = ys.length
  · have HL:Hid (zs.length = ys.length):=hl
    obtain ⟨N,hN⟩:∃ N,ys.length = N:=⟨_,rfl⟩
    rw [hN] at hl
    rw [hN,hl]
    have HN:Hid (zs.length = N ∧ ys.length = N):=⟨hl,hN⟩
    have hNl:N <= 100:=by omega
    clear hl hN hzl
    go_enter Tryz.func94,Tryz.ntmps94
    go_wp2_with fail
    go_loopw [5,13] (fun _ i wr => ∃ k:Nat,k <= N ∧ i = .int .i64 k ∧ Below w.heap.size w wr ∧ Hid (zs.take k = ys.take k)) (fun _ i _ => N - (intOf i).toNat)
    case atStart => exact ⟨0,by omega,rfl,Below.refl _ _,rfl⟩
    case round =>
      obtain ⟨k,hk,rfl,hbw,HT⟩:=hrel
      by_cases hlt:k < N
      · have hlt':(k:Int) < (N:Int):=by omega
        obtain ⟨x,hzk⟩:∃ x,zs[k]? = some x:=⟨_,List.getElem?_eq_getElem (by have:=HN.out;omega)⟩
        obtain ⟨y,hyk⟩:∃ y,ys[k]? = some y:=⟨_,List.getElem?_eq_getElem (by have:=HN.out;omega)⟩
        obtain ⟨g,o,rfl,q1⟩:=(hz.below hbw) k _ hzk
        obtain ⟨g',o',rfl,q2⟩:=(hy.below hbw) k _ hyk
        have HZ:Hid (zs[k]? = some x ∧ ys[k]? = some y):=⟨hzk,hyk⟩
        clear hzk hyk
        by_cases hxy:x = y
        · subst hxy
          go_wp2_with fail
          go_quiet (fail)
          go_wp2_with fail
          refine ⟨⟨k + 1,by omega,by go_num,below_drewN hbw _,?_⟩,by simp [intOf];omega⟩
          unfold Hid
          rw [List.take_add_one,List.take_add_one,HT.out,HZ.out.1,HZ.out.2]
        · have hne:(x == y) = false:=by simpa using hxy
          have HF:Hid (decide (zs = ys) = false):=by
            refine decide_eq_false fun e => hxy ?_
            have h1:=HZ.out.1
            rw [e,HZ.out.2] at h1
            exact (Option.some.inj h1).symm
          go_wp2_with fail
          go_quiet (fail)
          go_wp2_with fail
          go_ret
          exact ⟨by rw [HF.out];rfl,below_drewN hbw _⟩
      · obtain rfl:k = N:=by omega
        have HF:Hid (decide (zs = ys) = true):=by
          refine decide_eq_true ?_
          have h0:=HT.out
          rwa [List.take_of_length_le (by have:=HN.out;omega),List.take_of_length_le (by have:=HN.out;omega)] at h0
        go_wp2_with fail
        go_ret
        exact ⟨by rw [HF.out];rfl,hbw⟩
  · have hl':¬ ((zs.length:Int) = (ys.length:Int)):=by omega
    have HF:Hid (decide (zs = ys) = false):=decide_eq_false fun e => hl (by rw [e])
    go_enter Tryz.func94,Tryz.ntmps94
    go_wp2_with fail
    go_ret
    exact ⟨by rw [HF.out];rfl,Below.refl _ _⟩
end Go.Proofs.YtjmpjfikcgccdaaGreatDoor.Ce
