/-
  Part of the proof of BaseFindsCard (N7 and on).
-/
import Derived.Test.YtjmpjfikcgccdaaGreatDoorB07
import Derived.Shelf.SlGeneric
import Derived.Shelf.SlicesQ.Reverse
import Derived.Test.YtjmpjfikcgccdaaGreatDoorB06
namespace Go.Proofs.YtjmpjfikcgccdaaGreatDoor.Nr
open Go.RowKit
open It
theorem neF_no (x:ByteArray) (a:Int) (w:World):(binOp .neq 94 (.agg #[.string x,.int .i64 a]) (.agg #[.string x,.int .i64 a])).run Tryz.prog w = .ok (.bool false) w:=by
  go_simp
set_option maxHeartbeats 1000000 in
theorem feq_any (v u:Value) (l:List (ByteArray × Int)) (w:World) (hv:Fnds w v l) (hu:Fnds w u l) (hl:l.length <= 1000) :
    Calls Tryz.prog 42 #[v,u] w fun e w' => e = .returned (.bool true) ∧ ∃ n,w' = w.drewN n:=by
  obtain ⟨a,c,rfl,_,ha⟩:=hv
  obtain ⟨b,d,rfl,_,hb⟩:=hu
  go_enter Tryz.func42,Tryz.ntmps42
  go_wp2_with fail
  go_loopw [13] (fun i wr => ∃ k n:Nat,k <= l.length ∧ i = .int .i64 k ∧ wr = w.drewN n) (fun i _ => l.length - (intOf i).toNat)
  case atStart => exact ⟨0,0,by omega,rfl,rfl⟩
  case round =>
    obtain ⟨k,n,hk,rfl,rfl⟩:=hrel
    by_cases hlt:k < l.length
    · obtain ⟨g,o,rfl,hg,c0,c1⟩:=ha k l[k] (List.getElem?_eq_getElem hlt)
      obtain ⟨g',o',rfl,hg',c0',c1'⟩:=hb k l[k] (List.getElem?_eq_getElem hlt)
      have hlt':(k:Int) < (l.length:Int):=by omega
      generalize l[k] = x at *
      obtain ⟨xn,xf⟩:=x
      have hq:=neF_no xn xf
      simp only at c0 c1 c0' c1'
      go_wp2_with fail
      go_quiet (fail)
      go_wp2
      go_light
      exact ⟨⟨k + 1,n + nq,by omega,by go_num,rfl⟩,by simp [intOf];omega⟩
    · go_wp2_with fail
      go_ret
      exact ⟨rfl,n,rfl⟩
end Go.Proofs.YtjmpjfikcgccdaaGreatDoor.Nr
namespace Go.Proofs.YtjmpjfikcgccdaaGreatDoor.Nr
open Go.Shelf Go.RowKit
open It
theorem addr_addO (b o i:Nat):(⟨b,o,none⟩:Addr).add i = ⟨b,o + i,none⟩:=by
  simp [Addr.add]
theorem its_cells {w:World} {g o:Nat} {ds:List ItD} (h:Its w (some ⟨g,o,none⟩) ds) (j:Nat) (u:Value) (hj:(flatI ds)[j]? = some u):w.cell? ⟨g,o + j,none⟩ = some u:=by
  have hl:j < ds.length * 3:=by have:=(List.getElem?_eq_some_iff.1 hj).1;rwa [flatI_len] at this
  obtain ⟨d,hd⟩:∃ d,ds[j / 3]? = some d:=⟨_,List.getElem?_eq_getElem (by omega)⟩
  obtain ⟨q1,q2,q3⟩:=flatI_cell ds _ d hd
  obtain ⟨g',o',e,c1,c2,c3,_⟩:=h _ d hd
  injection e with e
  injection e with e1 e2
  subst e1 e2
  have h3:j % 3 = 0 ∨ j % 3 = 1 ∨ j % 3 = 2:=by omega
  rcases h3 with h3 | h3 | h3
  · have e:j = j / 3 * 3:=by omega
    rw [e] at hj
    rw [q1] at hj
    injection hj with hj
    subst hj
    conv => lhs;rw [e]
    exact c1
  · have e:j = j / 3 * 3 + 1:=by omega
    rw [e] at hj
    rw [q2] at hj
    injection hj with hj
    subst hj
    conv => lhs;rw [e]
    exact c2
  · have e:j = j / 3 * 3 + 2:=by omega
    rw [e] at hj
    rw [q3] at hj
    injection hj with hj
    subst hj
    conv => lhs;rw [e]
    exact c3
def encI (d:ItD):List Value:=[.string d.x.name,.string d.x.tag,d.val]
instance : Inhabited ItD:=⟨⟨⟨⟨#[]⟩,⟨#[]⟩,[]⟩,none,0⟩⟩
theorem flatKI_get (l:List ItD) (t:Nat) (h:t < l.length * 3):(flatI l)[t]? = some ((Go.Sort.flatK encI 3 l.toArray)[t]!):=by
  rw [Go.Sort.get_flatK _ _ _ _ (by simpa using h)]
  have hi:t / 3 < l.length:=by omega
  obtain ⟨x,hx⟩:∃ x,l[t / 3]? = some x:=⟨_,List.getElem?_eq_getElem hi⟩
  have e:l.toArray[t / 3]! = x:=by
    rw [getElem!_pos _ _ (by simpa using hi)]
    rw [List.getElem?_eq_getElem hi] at hx
    simpa using hx
  rw [e]
  obtain ⟨q1,q2,q3⟩:=flatI_cell l (t / 3) _ hx
  have h3:t % 3 = 0 ∨ t % 3 = 1 ∨ t % 3 = 2:=by omega
  rcases h3 with h3 | h3 | h3
  · rw [h3]
    have e2:t = t / 3 * 3:=by omega
    conv => lhs;rw [e2]
    rw [q1];rfl
  · rw [h3]
    have e2:t = t / 3 * 3 + 1:=by omega
    conv => lhs;rw [e2]
    rw [q2];rfl
  · rw [h3]
    have e2:t = t / 3 * 3 + 2:=by omega
    conv => lhs;rw [e2]
    rw [q3];rfl
end Go.Proofs.YtjmpjfikcgccdaaGreatDoor.Nr
namespace Go.Proofs.YtjmpjfikcgccdaaGreatDoor.Bs
open Go.RowKit Go.Shelf Go.Maps
open It Nr
def ApI (w:World) (M:List ItD) (W:World):Prop:=∃ v,Blk W w.heap.size #[v] 49 ∧ W.ownsRow w.heap.size 45 3 v M.length (flatI M) ∧ Below w.heap.size w W ∧ (M = [] -> v = .slice none 0 0)
theorem ApI.soft {w:World} {M:List ItD} {W W':World} {B:Nat} (h:ApI w M W) (hs:Soft B W W') (hB:w.heap.size <= B):ApI w M W':=by
  obtain ⟨v,h1,h2,h3,h4⟩:=h
  refine ⟨v,hs.blk h1,hs.row h2,?_,h4⟩
  obtain ⟨row,hg,hrow⟩:=hs
  exact h3.grown hg h3.size fun k e => Nat.le_trans hB (hrow k e).1
def apAct (w:World) (sv:Value) (x:ItD) (vb:Nat):Act:={ tmps:=#[.slice none 0 0,sv,.pointer (some ⟨w.heap.size,0,none⟩),undef,.slice none 0 0,.pointer (some ⟨vb,0,none⟩),sv,av x,undef,undef,undef,undef,undef],defers:=[] }
def ApA (w:World) (sv:Value) (M:List ItD) (x:ItD) (a:Act) (W:World):Prop:=∃ vb,a = apAct w sv x vb ∧ Blk W vb x.arr 45 ∧ ApI w M W
theorem ap_ne:(49:TypeId) ≠ 45:=by decide
set_option maxRecDepth 100000 in
set_option maxHeartbeats 4000000 in
theorem appendSeq_any (gf:Nat) (lb:Array Value) (eg:∀ args w,(callFunc gf args).run Tryz.prog w = .ok (.enter gf args) w) (S:List ItD -> Prop) (N:Nat) (hN:N <= 1000) (w:World) (hseq:∀ n,1 <= n -> SeqGives Fence.wide n Tryz.prog gf lb av S N w) :
    Calls Tryz.prog 265 #[.slice none 0 0,.func (.func gf) #[] lb] w fun e w' => ∃ v M,e = .returned v ∧ S M ∧ w'.ownsRow w.heap.size 45 3 v M.length (flatI M) ∧ Below w.heap.size w w' ∧ (M = [] -> v = .slice none 0 0):=by
  refine (callsIn_wide (n:=10)).1 ?_
  refine callsIn_of_wp_marks Tryz.func265 rfl trivial ?_ rfl
  refine wpIn_wide.2 ?_
  simp only [Tryz.ntmps265,List.size_toArray,List.length_cons,List.length_nil,Nat.reduceAdd,Nat.reduceSub,Array.replicate_succ,Array.replicate_zero,List.push_toArray,List.append_toArray,List.nil_append,List.cons_append]
  go_wp2_with fail
  have s1:=below_alloc w (.cells #[.slice none 0 0] 49)
  have jb:Blk (w.alloc (.cells #[.slice none 0 0] 49)) w.heap.size #[.slice none 0 0] 49:=Blk.new w _ _
  obtain ⟨W0,hW0⟩:∃ W0,w.alloc (.cells #[.slice none 0 0] 49) = W0:=⟨_,rfl⟩
  have hz0:W0.heap.size = w.heap.size + 1:=by rw [<- hW0];simp
  rw [hW0] at s1 jb ⊢
  refine wpIn_wide.1 (range_seq (F:=Fence.wide) (n:=10) (α:=ItD) rfl (by decide) gf lb rfl trivial eg av S N ((hseq 9 (by decide)).later s1) (ApI w)
    (fun pre W W' h hs => h.soft hs (by omega)) (fun W hs => ApI.soft ⟨_,jb,⟨rfl,Or.inl ⟨rfl,rfl⟩⟩,s1,fun _ => rfl⟩ hs (by omega)) (ApA w (.func (.func gf) #[] lb))
    (fun pre x a' W W' h hs => by
      obtain ⟨vb,h1,h2,h3⟩:=h
      exact ⟨vb,h1,hs.blk h2,h3.soft hs (by omega)⟩) ?assign ?body ?done)
  case assign =>
    intro pre x W K hlen hI hz hK
    obtain ⟨v,h1,h2,h3,h4⟩:=hI
    obtain ⟨⟨nm,tg,zs⟩,xa,xc⟩:=x
    have s2:=below_alloc W (.cells #[.string nm,.string tg,.slice xa zs.length xc] 45)
    have j2:Blk (W.alloc (.cells #[.string nm,.string tg,.slice xa zs.length xc] 45)) W.heap.size #[.string nm,.string tg,.slice xa zs.length xc] 45:=Blk.new W _ _
    have hK':=hK (apAct w (.func (.func gf) #[] lb) ⟨⟨nm,tg,zs⟩,xa,xc⟩ W.heap.size) _ ⟨W.heap.size,rfl,j2,v,h1.below s2 h1.lt,ownsRow_below h2 s2,h3.trans (s2.mono h3.size),h4⟩ (KeepsOthers.alloc _ _)
    clear h1 h2 h3 h4 s2 j2 hK hseq
    simp only [show av ⟨⟨nm,tg,zs⟩,xa,xc⟩ = .agg #[.string nm,.string tg,.slice xa zs.length xc] from rfl]
    gi_wp2_with gi_round_op_a
    exact hK'
  case body =>
    intro pre x a' W hlen hAx hz
    obtain ⟨vb,rfl,hvb,v,h1,h2,h3,_⟩:=hAx
    obtain ⟨⟨nm,tg,zs⟩,xa,xc⟩:=x
    have hvb':Blk W vb #[.string nm,.string tg,.slice xa zs.length xc] 45:=hvb
    obtain ⟨i0,hi,p1,p2,p3⟩:=info_parts Nr.infoIt
    have c0:=hvb'.cell 0
    have c1:=hvb'.cell 1
    have c2:=hvb'.cell 2
    have b0:=h1.cell 0
    have s2:=below_alloc W (.cells #[.string nm,.string tg,.slice xa zs.length xc] 45)
    have jb2:Blk (W.alloc (.cells #[.string nm,.string tg,.slice xa zs.length xc] 45)) W.heap.size #[.string nm,.string tg,.slice xa zs.length xc] 45:=Blk.new W _ _
    have hcl:∀ (j:Nat) u,([.string nm,.string tg,.slice xa zs.length xc]:List Value)[j]? = some u -> (W.alloc (.cells #[.string nm,.string tg,.slice xa zs.length xc] 45)).cell? ((⟨W.heap.size,0,none⟩:Addr).add j) = some u:=fun j u hj => by
      rw [addr_add,jb2.cell];simpa using hj
    have ow2:=ownsRow_below h2 s2
    have bx2:=h1.below s2 h1.lt
    have g2:=h3.trans (s2.mono h3.size)
    have hz2:=g2.size
    have HB:Hid (∀ w3:World,(W.alloc (.cells #[.string nm,.string tg,.slice xa zs.length xc] 45)).grownBy w3 v.ownBlock -> Blk w3 w.heap.size #[v] 49 ∧ Below w.heap.size w w3 ∧ KeepsOthers W w3):=fun w3 hg => by
      have hne:v.ownBlock ≠ some w.heap.size:=by
        intro e
        rcases ow2.2 with ⟨h4,_⟩ | ⟨g,cap,cur,h4,_,hgb,_⟩
        · rw [h4] at e;cases e
        · rw [h4] at e
          simp only [Value.ownBlock,Option.some.injEq] at e
          rw [e,show (W.alloc (.cells #[.string nm,.string tg,.slice xa zs.length xc] 45)).heap[w.heap.size]? = some (.cells #[v] 49) from bx2] at hgb
          injection hgb with hgb
          injection hgb with _ h5
          exact absurd h5 ap_ne
      refine ⟨(hg.block _ bx2.lt (fun e => hne e.symm)).trans bx2,row_grownBelow g2 ow2 hg hz2,(KeepsOthers.alloc _ _).trans (KeepsOthers.of_grownBy hg fun j o hj ho => ?_)⟩
      rcases ow2.2 with ⟨h4,_⟩ | ⟨g,cap,cur,h4,_,hgb,_⟩
      · rw [h4] at hj;cases hj
      · rw [h4] at hj
        simp only [Value.ownBlock,Option.some.injEq] at hj
        subst hj
        rw [ho] at hgb;cases hgb;rfl
    clear hvb hseq hvb' jb2 s2 h2 g2 bx2 h3 h1
    unfold apAct av
    gi_wp2_with (first
      | (gi_at_builtin;refine wpListIn_append_own _ rfl _ _ 49 rfl w.heap.size 45 i0 (.agg #[.string ByteArray.empty,.string ByteArray.empty,.slice none 0 0]) 3 56 Tryz.underlying49 hi p1 p2 p3 rfl (by decide) _ _ _ rfl ow2 ⟨W.heap.size,0,none⟩ 1 1 [.string nm,.string tg,.slice xa zs.length xc] rfl rfl hcl (by simp [Value.oneCell']) (by unfold maxLen;omega) (by omega) hz2 ?_;intro v' w3 hown' hg3 hnil3
         obtain ⟨hbx3,hb3,hko3⟩:=HB.out w3 hg3
         obtain ⟨g',cap',cur',rfl,hgB',_⟩:=own_parts hown' (by omega)
         have d0:=hbx3.cell 0
         have f0:=hbx3.frozen 0
         go_frame)
      | gi_round_op_a)
    have u4:=setCell_upd w3 w.heap.size 0 (.slice (some ⟨g',0,none⟩) (pre.length + 1) cap')
    have hne:w.heap.size ≠ g':=by
      intro e
      rcases hown'.2 with ⟨_,h4⟩ | ⟨g,cap,cur,h4,_,hgb,_⟩
      · omega
      · injection h4 with h4 h5 h6
        injection h4 with h4
        injection h4 with h4
        rw [<- h4,<- e,show w3.heap[w.heap.size]? = some (.cells #[v] 49) from hbx3] at hgb
        injection hgb with hgb
        injection hgb with _ h7
        exact absurd h7 ap_ne
    refine ⟨hko3.trans (KeepsOthers.setCell _ _ _),_,hbx3.set 0 _,?_,hb3.setCell (by simp) _,fun e => by simp at e⟩
    rw [List.length_append,flatI_snoc]
    exact hown'.kept (grownBy_setCell0_a _ _ _) (Or.inr (fun e => hne (by simpa [Value.ownBlock] using e.symm)))
  case done =>
    intro D xs W hD hS hI hdef
    obtain ⟨v,h1,h2,h3,h4⟩:=hI
    have b0:=h1.cell 0
    have HNIL:Hid (xs = [] -> v = .slice none 0 0):=h4
    clear hseq h4
    go_wp2_with fail
    refine ⟨by simp,.inl ⟨_,_,rfl,run_takeDeferred hdef,?_⟩⟩
    exact ⟨_,results_tmp rfl _ _ _,v,xs,rfl,hS,h2.kept (grownBy_putObj_a _ _ _) (ownsRow_ne_a h2 hdef (fun cur e => by cases e)),h3.grown (grownBy_putObj_a _ _ _) h3.size (fun k e => by cases e;omega),HNIL.out⟩
theorem collect_any (gf:Nat) (lb:Array Value) (eg:∀ args w,(callFunc gf args).run Tryz.prog w = .ok (.enter gf args) w) (S:List ItD -> Prop) (N:Nat) (hN:N <= 1000) (w:World) (hseq:∀ n,1 <= n -> SeqGives Fence.wide n Tryz.prog gf lb av S N w) :
    Calls Tryz.prog 206 #[.func (.func gf) #[] lb] w fun e w' => ∃ v M,e = .returned v ∧ S M ∧ w'.ownsRow w.heap.size 45 3 v M.length (flatI M) ∧ Below w.heap.size w w' ∧ (M = [] -> v = .slice none 0 0):=by
  have H:Hid _:=appendSeq_any gf lb eg S N hN w hseq
  clear hseq
  go_enter Tryz.func206,Tryz.ntmps206
  go_wp2_with fail
  refine Calls.mono H.out ?_
  rintro e w' ⟨v,M,rfl,hS,ho,hb,hn⟩
  have HN:Hid (M = [] -> v = .slice none 0 0):=hn
  clear hn
  go_wp2_with fail
  go_ret
  exact ⟨v,M,rfl,hS,ho,hb,HN.out⟩
def sortI_ren:Go.Shelf.Ren:=⟨fun | 6 => 207 | 15 => 126 | 14 => 266 | 28 => 195 | 29 => 196 | 20 => 308 | 21 => 309 | 22 => 310 | 23 => 311 | 24 => 312 | 25 => 313 | 26 => 314 | 27 => 315 | 46 => 350 | 47 => 285 | 48 => 286 | 49 => 351 | 50 => 352 | 57 => 369 | n => n,fun | 22 => 49 | 24 => 45 | 25 => 225 | 3 => 3 | 39 => 175 | 0 => 0 | 53 => 100 | 55 => 107 | 4 => 4 | 46 => 315 | 45 => 314 | 50 => 276 | 5 => 5 | 9 => 9 | 66 => 369 | 70 => 37 | 76 => 409 | 77 => 387 | n => n,fun | n => n⟩
theorem sortI:Go.Proofs.SlLaysF0.n6 Tryz.prog sortI_ren:={
  mixed:=by kernel_rfl
  f6:=⟨Tryz.f207.name,by decide,Tryz.func207.trans (congrArg some (by kernel_rfl))⟩
  f14:=⟨Tryz.f266.name,by decide,Tryz.func266.trans (congrArg some (by kernel_rfl))⟩
  f15:=Tryz.func126.trans (congrArg some (by kernel_rfl))
  f20:=⟨Tryz.f308.name,by decide,Tryz.func308.trans (congrArg some (by kernel_rfl))⟩
  f21:=⟨Tryz.f309.name,by decide,Tryz.func309.trans (congrArg some (by kernel_rfl))⟩
  f22:=⟨Tryz.f310.name,by decide,Tryz.func310.trans (congrArg some (by kernel_rfl))⟩
  f23:=⟨Tryz.f311.name,by decide,Tryz.func311.trans (congrArg some (by kernel_rfl))⟩
  f24:=⟨Tryz.f312.name,by decide,Tryz.func312.trans (congrArg some (by kernel_rfl))⟩
  f25:=⟨Tryz.f313.name,by decide,Tryz.func313.trans (congrArg some (by kernel_rfl))⟩
  f26:=⟨Tryz.f314.name,by decide,Tryz.func314.trans (congrArg some (by kernel_rfl))⟩
  f27:=⟨Tryz.f315.name,by decide,Tryz.func315.trans (congrArg some (by kernel_rfl))⟩
  f28:=Tryz.func195.trans (congrArg some (by kernel_rfl))
  f29:=Tryz.func196.trans (congrArg some (by kernel_rfl))
  f46:=⟨Tryz.f350.name,by decide,Tryz.func350.trans (congrArg some (by kernel_rfl))⟩
  f47:=Tryz.func285.trans (congrArg some (by kernel_rfl))
  f48:=Tryz.func286.trans (congrArg some (by kernel_rfl))
  f49:=⟨Tryz.f351.name,by decide,Tryz.func351.trans (congrArg some (by kernel_rfl))⟩
  f50:=⟨Tryz.f352.name,by decide,Tryz.func352.trans (congrArg some (by kernel_rfl))⟩
  f57:=⟨Tryz.f369.name,by decide,Tryz.func369.trans (congrArg some (by kernel_rfl))⟩
  t0:=Tryz.underlying0
  a0:=Tryz.isAgg0
  z0:=Tryz.sizeOf0
  v0:=Tryz.zeroValue0
  t3:=Tryz.underlying3
  a3:=Tryz.isAgg3
  z3:=Tryz.sizeOf3
  v3:=Tryz.zeroValue3
  t4:=Tryz.underlying4
  a4:=Tryz.isAgg4
  z4:=Tryz.sizeOf4
  v4:=Tryz.zeroValue4
  t5:=Tryz.underlying5
  a5:=Tryz.isAgg5
  z5:=Tryz.sizeOf5
  v5:=Tryz.zeroValue5
  t9:=Tryz.underlying9
  a9:=Tryz.isAgg9
  z9:=Tryz.sizeOf9
  v9:=Tryz.zeroValue9
  t22:=Tryz.underlying49
  a22:=Tryz.isAgg49
  z22:=Tryz.sizeOf49
  v22:=Tryz.zeroValue49
  t25:=Tryz.underlying225
  a25:=Tryz.isAgg225
  z25:=Tryz.sizeOf225
  v25:=Tryz.zeroValue225
  t39:=Tryz.underlying175
  a39:=Tryz.isAgg175
  z39:=Tryz.sizeOf175
  v39:=Tryz.zeroValue175
  t45:=Tryz.underlying314
  a45:=Tryz.isAgg314
  z45:=Tryz.sizeOf314
  v45:=Tryz.zeroValue314
  t46:=Tryz.underlying315
  a46:=Tryz.isAgg315
  z46:=Tryz.sizeOf315
  v46:=Tryz.zeroValue315
  t50:=Tryz.underlying276
  a50:=Tryz.isAgg276
  z50:=Tryz.sizeOf276
  v50:=Tryz.zeroValue276
  t53:=Tryz.underlying100
  a53:=Tryz.isAgg100
  z53:=Tryz.sizeOf100
  v53:=Tryz.zeroValue100
  t55:=Tryz.underlying107
  a55:=Tryz.isAgg107
  z55:=Tryz.sizeOf107
  v55:=Tryz.zeroValue107
  t66:=Tryz.underlying369
  a66:=Tryz.isAgg369
  z66:=Tryz.sizeOf369
  v66:=Tryz.zeroValue369
  t70:=Tryz.underlying37
  a70:=Tryz.isAgg37
  z70:=Tryz.sizeOf37
  v70:=Tryz.zeroValue37
  t76:=Tryz.underlying409
  a76:=Tryz.isAgg409
  z76:=Tryz.sizeOf409
  v76:=Tryz.zeroValue409
  t77:=Tryz.underlying387
  a77:=Tryz.isAgg387
  z77:=Tryz.sizeOf387
  v77:=Tryz.zeroValue387 }
def cfI (x y:ItD):Int:=Lib.compareBytes x.x.name.data.toList y.x.name.data.toList
def ltI (x y:ItD):Bool:=ltOf cfI x y
theorem ltI_iff (x y:ItD):ltI x y = true ↔ Lib.compareBytes x.x.name.data.toList y.x.name.data.toList < 0:=by
  unfold ltI ltOf cfI;rw [decide_eq_true_eq]
theorem ltI_tot (x y:ItD) (h1:ltI x y = false) (h2:ltI y x = false):x.x.name = y.x.name:=by
  have n1:¬ ltI x y = true:=by rw [h1];decide
  have n2:¬ ltI y x = true:=by rw [h2];decide
  rw [ltI_iff] at n1 n2
  have hc:=cB_neg x.x.name.data.toList y.x.name.data.toList
  exact Nr.ba_inj (cB_zero _ _ (by omega))
theorem ltI_irrefl (x:ItD):ltI x x = false:=by
  cases h:ltI x x with
  | false => rfl
  | true => have:=(ltI_iff x x).1 h;have:=cB_self x.x.name.data.toList;omega
theorem ltI_trans (x y z:ItD) (h1:ltI x y = true) (h2:ltI y z = true):ltI x z = true:=by
  rw [ltI_iff] at *;exact cB_trans _ _ _ h1 h2
theorem ltI_ntrans (x y z:ItD) (h1:ltI x y = false) (h2:ltI y z = false):ltI x z = false:=by
  cases h:ltI x z with
  | false => rfl
  | true =>
    cases h3:ltI y x with
    | true => rw [ltI_trans y x z h3 h] at h2;cases h2
    | false =>
      have e:=ltI_tot x y h1 h3
      rw [ltI_iff,e,<- ltI_iff] at h
      rw [h] at h2;cases h2
theorem swoI:Sort.SWO (ltOf cfI):=⟨ltI_irrefl,ltI_trans,ltI_ntrans⟩
def srtI (l:List ItD):List ItD:=l.mergeSort fun x y => !ltI y x
theorem srtI_perm (l:List ItD):(srtI l).Perm l:=List.mergeSort_perm _ _
theorem srtI_len (l:List ItD):(srtI l).length = l.length:=(srtI_perm l).length_eq
theorem srtI_sorted (l:List ItD):(srtI l).Pairwise fun x y => ltI y x = false:=by
  have:=List.pairwise_mergeSort (le:=fun x y => !ltI y x) (fun a b c h1 h2 => by
    have e1:ltI b a = false:=by simpa using h1
    have e2:ltI c b = false:=by simpa using h2
    have:=ltI_ntrans c b a e2 e1
    simpa using this) (fun a b => by
    cases h1:ltI b a with
    | false => rfl
    | true =>
      cases h2:ltI a b with
      | false => rfl
      | true => have:=ltI_trans a b a h2 h1;rw [ltI_irrefl] at this;cases this) l
  exact this.imp fun h => by simpa using h
theorem nameI_inj {l:List ItD} (hn:(nm l).Nodup) {a b:ItD} (ha:a ∈ l) (hb:b ∈ l) (h:a.x.name = b.x.name):a = b:=by
  unfold nm List.Nodup at hn
  rw [List.pairwise_map] at hn
  exact pw_eq (fun d:ItD => d.x.name) hn ha hb h
theorem srtI_of_perm {l l':List ItD} (hn:(nm l).Nodup) (h:l.Perm l'):srtI l = srtI l':=
  List.Perm.eq_of_pairwise (le:=fun x y => ltI y x = false) (fun a b ha hb h1 h2 => nameI_inj hn ((srtI_perm l).mem_iff.1 ha) (h.mem_iff.2 ((srtI_perm l').mem_iff.1 hb)) (ltI_tot b a h1 h2).symm) (srtI_sorted l) (srtI_sorted l') ((srtI_perm l).trans (h.trans (srtI_perm l').symm))
theorem flatI_at (l:List ItD) (i t:Nat) (x:ItD) (h:l[i]? = some x) (ht:t < 3):(flatI l)[i * 3 + t]? = (Nr.encI x)[t]?:=by
  obtain ⟨q1,q2,q3⟩:=flatI_cell l i x h
  match t,ht with
  | 0,_ => exact q1
  | 1,_ => exact q2
  | 2,_ => exact q3
theorem riseCmp_any (x y:ItD) (w:World):Calls Tryz.prog 133 #[.agg (Nr.encI x).toArray,.agg (Nr.encI y).toArray] w fun e w' => e = .returned (.int .i64 (cfI x y)) ∧ ∃ os,w' = Go.Sort.grow w os:=by
  obtain ⟨⟨xn,xt,xz⟩,xa,xc⟩:=x
  obtain ⟨⟨yn,yt,yz⟩,ya,yc⟩:=y
  have e:cfI ⟨⟨xn,xt,xz⟩,xa,xc⟩ ⟨⟨yn,yt,yz⟩,ya,yc⟩ = Lib.compareBytes xn.data.toList yn.data.toList:=rfl
  rw [e]
  unfold Nr.encI ItD.val
  clear e
  go_enter Tryz.func133,Tryz.ntmps133
  go_wp2_with (go_at_call 134;refine (strCmp_any _ _ _).mono ?_;rintro e w' ⟨rfl,rfl⟩)
  go_ret
  exact ⟨rfl,_,by rw [Go.Sort.alloc_eq_grow,Go.Sort.alloc_eq_grow,Go.Sort.grow_grow]⟩
set_option maxHeartbeats 1000000 in
theorem sortI_row (B g cap:Nat) (l:List ItD) (hnd:(nm l).Nodup) (w:World) (h:w.ownsRow B 45 3 (.slice (some ⟨g,0,none⟩) l.length cap) l.length (flatI l)) (hl0:0 < l.length) (hl:l.length <= 1000) :
    Calls Tryz.prog 207 #[.slice (some ⟨g,0,none⟩) l.length cap,.func (.func 133) #[] #[]] w fun e w' => e = .returned (.tuple #[]) ∧ w'.ownsRow B 45 3 (.slice (some ⟨g,0,none⟩) l.length cap) l.length (flatI (srtI l)) ∧ w.grownBy w' (some g):=by
  obtain ⟨g',cap',cur,hv,hgB,hgl,hh,hc1,hc2,hs,ht⟩:=own_parts h (by omega)
  injection hv with hv1 hv2 hv3
  injection hv1 with hv1
  injection hv1 with hv1
  subst hv1 hv3
  have hH:Go.Sort.HoldsK Nr.encI 3 w g 0 l.toArray:=by
    intro t htl
    rw [Go.Sort.size_flatK] at htl
    have htl':t < l.length * 3:=by simpa using htl
    have hf:=flatKI_get l t htl'
    rw [<- ht,List.getElem?_take_of_lt htl',Array.getElem?_toList] at hf
    refine ⟨?_,?_⟩
    · rw [Nat.zero_add];simp only [World.cell?,hh];exact hf
    · simp [World.frozen?,hh]
  have eg:∀ args w,(callFunc 133 args).run Tryz.prog w = .ok (.enter 133 args) w:=enters_of Tryz.func133 (by kernel_rfl) rfl
  have hcon:=AnyQ.slices_SortFunc sortI 3 Tryz.isAgg45 Tryz.sizeOf45 Nr.encI (fun _ => rfl) (fun x v hv => by simp [Nr.encI] at hv;rcases hv with rfl | rfl | rfl <;> rfl) cfI swoI 133 #[] g 0 cap l.toArray w eg
    (fun m os dk _ x y => (riseCmp_any x y _).mono fun e w' ⟨he,os',hw⟩ => ⟨he,0,os',hw⟩) hH hgl (by simp;omega)
  have hsz:l.toArray.size = l.length:=by simp
  rw [hsz] at hcon
  refine hcon.mono ?_
  rintro e w' ⟨rfl,d',n,os,hp,hso,rfl⟩
  obtain ⟨p1,_,p3⟩:=hp
  have p1':d'.size = l.length:=by rw [p1];simp
  have hd:d'.toList = srtI l:=by
    have e1:(d'.extract 0 l.length).toList = d'.toList:=by rw [<- p1'];simp
    have e2:(l.toArray.extract 0 l.length).toList = l:=by simp
    rw [e1,e2] at p3
    refine List.Perm.eq_of_pairwise (le:=fun x y => ltI y x = false) (fun a b ha hb h1 h2 => nameI_inj hnd (p3.mem_iff.1 ha) ((srtI_perm l).mem_iff.1 hb) (ltI_tot b a h1 h2).symm) ?_ (srtI_sorted l) (p3.trans (srtI_perm l).symm)
    rw [List.pairwise_iff_getElem]
    intro i j hi hj hij
    have:=hso i j (Nat.zero_le _) hij (by simpa [p1'] using hj)
    rw [getElem!_pos _ _ (by simpa using hj),getElem!_pos _ _ (by simpa using hi)] at this
    have this':ltI d'[j] d'[i] = false:=this
    simpa using this'
  have hH':=Go.Sort.holdsK_grow (enc:=Nr.encI) (k:=3) (Go.Sort.putRowK Nr.encI 3 (Go.Sort.ahead w n) g 0 d') os g 0 d' (by simpa [Go.Sort.putRowK,Go.Sort.ahead] using hgl) (Go.Sort.holdsK_putRowK (enc:=Nr.encI) (k:=3) (Go.Sort.ahead w n) g 0 l.toArray d' (Go.Sort.holdsK_ahead (enc:=Nr.encI) (k:=3) w n g 0 _ hH) (by simpa using p1'))
  have hsz2:w.heap.size = (Go.Sort.putRowK Nr.encI 3 (Go.Sort.ahead w n) g 0 d').heap.size:=by simp [Go.Sort.putRowK,Go.Sort.putRow,Go.Sort.mapBlock,Go.Sort.ahead]
  have hgrow:w.grownBy (Go.Sort.grow (Go.Sort.putRowK Nr.encI 3 (Go.Sort.ahead w n) g 0 d') os) (some g):=by
    refine ⟨rfl,rfl,rfl,?_,fun k hk hne => ?_⟩
    · show w.heap.size <= ((Go.Sort.putRowK Nr.encI 3 (Go.Sort.ahead w n) g 0 d').heap ++ os).size
      rw [Array.size_append,<- hsz2];omega
    · show ((Go.Sort.putRowK Nr.encI 3 (Go.Sort.ahead w n) g 0 d').heap ++ os)[k]? = _
      rw [Array.getElem?_append_left (by rw [<- hsz2];exact hk)]
      have:g ≠ k:=fun e => hne (by rw [e])
      simp [Go.Sort.putRowK,Go.Sort.putRow,Go.Sort.mapBlock,Go.Sort.ahead,Array.getElem?_modify,this]
  have hblk:(Go.Sort.grow (Go.Sort.putRowK Nr.encI 3 (Go.Sort.ahead w n) g 0 d') os).heap[g]? = some (.cells (Go.Sort.putCells id 0 (Go.Sort.flatK Nr.encI 3 d') cur) 45 (0,0)):=by
    show ((Go.Sort.putRowK Nr.encI 3 (Go.Sort.ahead w n) g 0 d').heap ++ os)[g]? = _
    rw [Array.getElem?_append_left (by rw [<- hsz2];exact hgl)]
    show ((w.heap.modify g (Go.Sort.onCells _)))[g]? = _
    rw [Array.getElem?_modify,if_pos rfl,hh]
    rfl
  refine ⟨rfl,⟨?_,Or.inr ⟨g,cap,_,rfl,hgB,hblk,hc1,hc2,?_,?_⟩⟩,hgrow⟩
  · rw [flatI_len,srtI_len]
  · simp [Go.Sort.putCells];exact hs
  · apply List.ext_getElem?
    intro t
    by_cases htl:t < l.length * 3
    · rw [List.getElem?_take_of_lt htl]
      obtain ⟨i,r,rfl,hr⟩:∃ i r,t = i * 3 + r ∧ r < 3:=⟨t / 3,t % 3,by omega,by omega⟩
      have hil:i < d'.size:=by omega
      obtain ⟨x,hx⟩:∃ x,(srtI l)[i]? = some x:=⟨_,List.getElem?_eq_getElem (by rw [srtI_len];omega)⟩
      rw [flatI_at _ _ _ _ hx hr]
      rw [<- hd] at hx
      have hdx:d'[i]! = x:=by
        rw [getElem!_pos d' i hil]
        rw [Array.getElem?_toList,Array.getElem?_eq_getElem hil] at hx
        exact Option.some.inj hx
      have c0:=(hH'.cell hil hr).1
      rw [hdx] at c0
      have hcell:(Go.Sort.putCells id 0 (Go.Sort.flatK Nr.encI 3 d') cur)[0 + i * 3 + r]? = some ((Nr.encI x)[r]!):=by
        have e:=c0
        simp only [World.cell?,hblk] at e
        simpa using e
      rw [Array.getElem?_toList]
      rw [Nat.zero_add] at hcell
      rw [hcell]
      match r,hr with
      | 0,_ => rfl
      | 1,_ => rfl
      | 2,_ => rfl
    · rw [List.getElem?_eq_none (by rw [List.length_take];omega),List.getElem?_eq_none (by rw [flatI_len,srtI_len];omega)]
theorem len0_any (w:World):Calls Tryz.prog 126 #[.int .u64 0] w fun e w' => e = .returned (.int .i64 0) ∧ w' = w:=by
  have h:=Any.bits_Len (SlLaysF0.n15.bits (P:=Tryz.prog) (ρ:=sortI_ren) { sortI with }) 0 w (by omega) (by omega)
  exact h
set_option maxHeartbeats 1000000 in
theorem insNone_any (p:Option Addr) (cap:Nat) (fv:Value) (w:World) :
    Calls Tryz.prog 308 #[.slice p 0 cap,.int .i64 0,.int .i64 0,fv] w fun e w' => e = .returned (.tuple #[]) ∧ w' = w:=by
  go_enter Tryz.func308,Tryz.ntmps308
  go_wp2
  refine wp_loop_rounds 1 ?_
  rw [rounds_succ]
  go_wp2
  go_end0
  exact ⟨rfl,rfl⟩
set_option maxHeartbeats 1000000 in
theorem pdqNone_any (p:Option Addr) (cap:Nat) (lim:Int) (fv:Value) (w:World) :
    Calls Tryz.prog 266 #[.slice p 0 cap,.int .i64 0,.int .i64 0,.int .i64 lim,fv] w fun e w' => e = .returned (.tuple #[]) ∧ w' = w:=by
  go_enter Tryz.func266,Tryz.ntmps266
  go_wp2
  refine wp_loop_rounds 1 ?_
  rw [rounds_succ]
  go_wp2_with (go_at_call 308;refine (insNone_any _ _ _ _).mono ?_;rintro e w' ⟨rfl,rfl⟩)
  (try simp only [Exit.inBlock,Exit.then]);refine bodyPost_ret (results_none rfl _ _ _) rfl ?_
  exact ⟨rfl,rfl⟩
theorem sortNone_any (p:Option Addr) (cap:Nat) (fv:Value) (w:World) :
    Calls Tryz.prog 207 #[.slice p 0 cap,fv] w fun e w' => e = .returned (.tuple #[]) ∧ w' = w:=by
  go_enter Tryz.func207,Tryz.ntmps207
  go_wp2_with (first
    | (go_at_call 126;refine (len0_any _).mono ?_;rintro e w' ⟨rfl,rfl⟩)
    | (go_at_call 266;refine (pdqNone_any _ _ _ _ _).mono ?_;rintro e w' ⟨rfl,rfl⟩))
  go_end0
  exact ⟨rfl,rfl⟩
set_option maxRecDepth 100000 in
theorem sortedFunc_any (Bm b:Nat) (L:List ItD) (hnl:∀ d ∈ L,d.x.name.size <= maxLen) (hl:L.length <= 1000) (w:World) (hBm:Bm < w.heap.size) (hm:w.cell? ⟨Bm,0,none⟩ = some (.map (some b))) (hown:IM w b L) :
    Calls Tryz.prog 131 #[.func (.func 208) #[] #[.pointer (some ⟨Bm,0,none⟩)],.func (.func 133) #[] #[]] w fun e w' => ∃ v,e = .returned v ∧ w'.ownsRow w.heap.size 45 3 v L.length (flatI (srtI L)) ∧ Below w.heap.size w w':=by
  have H:Hid _:=collect_any 208 #[.pointer (some ⟨Bm,0,none⟩)] (enters_of Tryz.func208 (by kernel_rfl) rfl) (fun M => M.Perm L) L.length hl w
    (fun n hn => values_gives Fence.wide n trivial rfl hn Bm b L hnl w hBm hm hown)
  have hnd:=hown.nodup
  clear hown hm
  go_enter Tryz.func131,Tryz.ntmps131
  go_wp2_with fail
  refine Calls.mono H.out ?_
  rintro e w1 ⟨v,M,rfl,hp,ho,hb,hnil⟩
  have hML:M.length = L.length:=hp.length_eq
  have hMn:(nm M).Nodup:=(hp.map _).nodup_iff.2 hnd
  have hse:srtI M = srtI L:=srtI_of_perm hMn hp
  by_cases h0:M = []
  · have hv:=hnil h0
    subst h0
    subst hv
    have hL0:L = []:=by
      cases L with
      | nil => rfl
      | cons x r => cases hML
    subst hL0
    clear ho hp hse hML hMn hnil H
    go_wp2_with fail
    refine (sortNone_any _ _ _ _).mono ?_
    rintro e w2 ⟨rfl,hw2⟩
    obtain rfl:w1 = w2:=hw2.symm
    clear hw2
    go_wp2_with fail
    go_ret
    exact ⟨_,rfl,⟨by simp [srtI,flatI],Or.inl ⟨rfl,rfl⟩⟩,hb⟩
  · have hpos:0 < M.length:=List.length_pos_iff.2 h0
    obtain ⟨g,cap,cur,rfl,hgB,_⟩:=own_parts ho (by omega)
    have H2:Hid _:=sortI_row w.heap.size g cap M hMn w1 ho hpos (by omega)
    have HO:Hid _:=ho
    have HML:Hid (M.length = L.length):=hML
    have HSE:Hid (srtI M = srtI L):=hse
    clear hnil H ho hML hse hp
    go_wp2_with fail
    refine Calls.mono H2.out ?_
    rintro e w2 ⟨rfl,ho2,hg2⟩
    rw [HSE.out] at ho2
    have hb2:=row_grownBelow hb HO.out hg2 hb.size
    have HO2:Hid (w2.ownsRow w.heap.size 45 3 (.slice (some ⟨g,0,none⟩) M.length cap) L.length (flatI (srtI L))):=by rw [<- HML.out];exact ho2
    clear ho2 hg2 H2 HO hMn
    go_wp2_with fail
    go_ret
    exact ⟨_,rfl,HO2.out,hb2⟩
set_option maxRecDepth 100000 in
theorem rising_any (b:Nat) (L:List ItD) (hnl:∀ d ∈ L,d.x.name.size <= maxLen) (hl:L.length <= 1000) (w:World) (hown:IM w b L) :
    Calls Tryz.prog 67 #[.map (some b)] w fun e w' => ∃ v,e = .returned v ∧ w'.ownsRow w.heap.size 45 3 v L.length (flatI (srtI L)) ∧ Below w.heap.size w w':=by
  have s1:=below_alloc w (.cells #[.map (some b)] 128)
  have H:Hid _:=sortedFunc_any w.heap.size b L hnl hl (w.alloc (.cells #[.map (some b)] 128)) (by simp) ((Blk.new w #[.map (some b)] 128).cell 0) (hown.below s1 hown.lt)
  have HB:Hid _:=s1
  clear hown s1
  go_enter Tryz.func67,Tryz.ntmps67
  go_wp2_with fail
  refine (mapsValues_any b w).mono ?_
  rintro e w1 ⟨rfl,rfl⟩
  go_wp2_with fail
  refine Calls.mono H.out ?_
  rintro e w2 ⟨v,rfl,ho,hb⟩
  have hb2:=HB.out.trans (hb.mono HB.out.size)
  have HO:Hid (w2.ownsRow w.heap.size 45 3 v L.length (flatI (srtI L))):=ownsRow_base_a ho HB.out.size
  clear ho hb H
  go_wp2_with fail
  go_ret
  exact ⟨v,rfl,HO.out,hb2⟩
end Go.Proofs.YtjmpjfikcgccdaaGreatDoor.Bs
namespace Go.Proofs.YtjmpjfikcgccdaaGreatDoor.Ce
open Go.RowKit
open It Nr
def begF (n:Int):Int:=n - n % 250
theorem begF_le (n:Int):begF n <= n ∧ n < begF n + 250:=by unfold begF;omega
theorem begin_any (n:Int) (w:World) (h1:-1000 <= n) (h2:n <= 1000):Calls Tryz.prog 254 #[.int .i64 n] w fun e w' => e = .returned (.int .i64 (begF n)) ∧ w' = w:=by
  obtain ⟨r,hr⟩:∃ r,n.tmod 250 = r:=⟨_,rfl⟩
  by_cases h0:0 <= n
  · have e1:r = n % 250:=by rw [<- hr];exact Int.tmod_eq_emod_of_nonneg h0
    have h3:¬ r < 0:=by omega
    have x1:IntKind.i64.wrap r = r:=by rw [IntKind.wrap_i64];omega
    have x2:IntKind.i64.wrap (n - r) = begF n:=by rw [IntKind.wrap_i64];unfold begF;omega
    clear e1
    go_enter Tryz.func254,Tryz.ntmps254
    go_wp2_with fail
    go_ret
    exact ⟨rfl,rfl⟩
  · have e1:r = -((-n) % 250):=by
      rw [<- hr]
      have:=Int.neg_tmod (-n) 250
      rw [Int.neg_neg] at this
      rw [this,Int.tmod_eq_emod_of_nonneg (by omega)]
    have x1:IntKind.i64.wrap r = r:=by rw [IntKind.wrap_i64];omega
    by_cases h3:r < 0
    · have x2:IntKind.i64.wrap (r + 250) = r + 250:=by rw [IntKind.wrap_i64];omega
      have x3:IntKind.i64.wrap (n - (r + 250)) = begF n:=by rw [IntKind.wrap_i64];unfold begF;omega
      clear e1
      go_enter Tryz.func254,Tryz.ntmps254
      go_wp2_with fail
      go_ret
      exact ⟨rfl,rfl⟩
    · have x2:IntKind.i64.wrap (n - r) = begF n:=by rw [IntKind.wrap_i64];unfold begF;omega
      clear e1
      go_enter Tryz.func254,Tryz.ntmps254
      go_wp2_with fail
      go_ret
      exact ⟨rfl,rfl⟩
theorem below_of_grown {w w':World} (hg:w.grownBy w' none):Below w.heap.size w w':=⟨hg.os,hg.tape,hg.output,hg.size,fun k hk => hg.block k hk (by simp)⟩
theorem infoN:(Tryz.prog.info? 3).map (fun i => (i.zero,i.size,i.bytes)) = some (some (.int .i64 0),1,8):=by kernel_rfl
theorem info_parts {P:Program} {e:TypeId} {z:Value} {s b:Nat} (h:(P.info? e).map (fun i => (i.zero,i.size,i.bytes)) = some (some z,s,b)):∃ i0,P.info? e = some i0 ∧ i0.zero = some z ∧ i0.size = s ∧ i0.bytes = b:=by
  obtain ⟨i,hi,h1⟩:=Option.map_eq_some_iff.1 h
  simp only [Prod.mk.injEq] at h1
  exact ⟨i,hi,h1.1,h1.2.1,h1.2.2⟩
theorem mkInts (c:Nat) (hc:c <= 100000) (w:World) (B:Nat) (hB:B <= w.heap.size):∃ w',(Instr.makeSlice 23 (.int .i64 0) (.int .i64 (c:Int))).run Tryz.prog w = .ok (.slice (some ⟨w.heap.size,0,none⟩) 0 c) w' ∧
    w'.ownsRow B 3 1 (.slice (some ⟨w.heap.size,0,none⟩) 0 c) 0 [] ∧ Below w.heap.size w w':=by
  obtain ⟨i0,hi0,hz0,hz1,hz2⟩:=info_parts infoN
  obtain ⟨w',h1,h2,h3⟩:=run_make_own w B 23 3 i0 _ 1 Tryz.underlying23 hi0 hz0 hz1 .i64 .i64 c (by rw [hz2];omega) (by unfold maxLen;omega) hB
  exact ⟨w',h1,h2,below_of_grown h3⟩
def nv (zs:List Int):List Value:=zs.map (.int .i64)
theorem nv_len (zs:List Int):(nv zs).length = zs.length:=by simp [nv]
theorem ints_own {w:World} {B:Nat} {v:Value} {zs:List Int} (h:w.ownsRow B 3 1 v zs.length (nv zs)):∃ a c,v = .slice a zs.length c ∧ Ints w a zs ∧ zs.length <= c ∧ ∀ g o,a = some ⟨g,o,none⟩ -> B <= g ∧ g < w.heap.size:=by
  by_cases h0:zs.length = 0
  · have hd:zs = []:=List.eq_nil_of_length_eq_zero h0
    subst hd
    obtain ⟨h1,⟨h2,_⟩ | ⟨g,cap,cur,hv,hg,hh,_⟩⟩:=h
    · exact ⟨none,0,h2,fun i d hd => by simp at hd,Nat.zero_le _,fun g o e => by cases e⟩
    · refine ⟨some ⟨g,0,none⟩,cap,hv,fun i d hd => by simp at hd,Nat.zero_le _,fun g' o e => ?_⟩
      injection e with e;injection e with e1;subst e1
      exact ⟨hg,(Array.getElem?_eq_some_iff.1 hh).1⟩
  · obtain ⟨g,cap,cur,rfl,hgB,hgl,hh,hc,_,_,_⟩:=own_parts h (by omega)
    refine ⟨some ⟨g,0,none⟩,cap,rfl,fun i z hz => ⟨g,0,rfl,?_⟩,hc,fun g' o e => ?_⟩
    · rw [Nat.zero_add]
      exact row_cell h i _ (by unfold nv;rw [List.getElem?_map,hz];rfl)
    · injection e with e;injection e with e1;subst e1
      exact ⟨hgB,hgl⟩
theorem own_slice {w:World} {B:Nat} {e:TypeId} {z:Nat} {v:Value} {n:Nat} {xs:List Value} (h:w.ownsRow B e z v n xs):∃ a c,v = .slice a n c:=by
  obtain ⟨_,⟨h2,rfl⟩ | ⟨g,cap,cur,hv,_⟩⟩:=h
  · exact ⟨none,0,h2⟩
  · exact ⟨some ⟨g,0,none⟩,cap,hv⟩
set_option maxHeartbeats 1000000 in
theorem corner_any (a:Option Addr) (c:Nat) (zs:List Int) (w:World) (h:Ints w a zs) (hl:zs.length <= 100) (hz:zs.all numB = true) :
    Calls Tryz.prog 175 #[.slice a zs.length c] w fun e w' => (∃ a' c',e = .returned (.slice a' zs.length c') ∧ w'.ownsRow w.heap.size 3 1 (.slice a' zs.length c') zs.length (nv (zs.map begF))) ∧ Below w.heap.size w w':=by
  have HZ:Hid (∀ z ∈ zs,-1000 <= z ∧ z <= 1000):=fun z hz' => by have:=List.all_eq_true.1 hz z hz';simpa [numB] using this
  obtain ⟨w1,k1,k2,k3⟩:=mkInts zs.length (by omega) w w.heap.size (Nat.le_refl _)
  have K2:Hid (w1.ownsRow w.heap.size 3 1 (.slice (some ⟨w.heap.size,0,none⟩) 0 zs.length) 0 []):=k2
  clear hz k2
  go_enter Tryz.func175,Tryz.ntmps175
  go_wp2_with fail
  go_loopw [3,5,11] (fun v _ i wr => ∃ m:Nat,m <= zs.length ∧ i = .int .i64 m ∧ wr.ownsRow w.heap.size 3 1 v m (nv ((zs.take m).map begF)) ∧ Below w.heap.size w wr) (fun _ _ i _ => zs.length - (intOf i).toNat)
  case atStart => exact ⟨0,by omega,rfl,K2.out,k3⟩
  case round =>
    obtain ⟨m,hm,rfl,ow,br⟩:=hrel
    by_cases hlt:m < zs.length
    · have hlt':(m:Int) < (zs.length:Int):=by omega
      have hzm:zs[m]? = some zs[m]:=List.getElem?_eq_getElem hlt
      obtain ⟨g,o,rfl,q1⟩:=(h.below br) m _ hzm
      have hb:=HZ.out _ (List.mem_of_getElem? hzm)
      have HST:Hid (nv ((zs.take (m + 1)).map begF) = nv ((zs.take m).map begF) ++ [.int .i64 (begF zs[m])]):=by
        unfold Hid nv;rw [List.take_add_one,hzm,List.map_append,List.map_append];rfl
      generalize zs[m] = z at *
      obtain ⟨bz,hbz⟩:∃ bz,begF z = bz:=⟨_,rfl⟩
      have HB:Hid _:=begin_any z wr hb.1 hb.2
      rw [hbz] at HB HST
      have a8:=below_alloc wr (.cells #[.int .i64 bz] 3)
      have ow8:=ownsRow_below ow a8
      have b8:=br.trans (a8.mono br.size)
      have hz8:=b8.size
      clear hzm hb hbz
      go_wp2_with (first
        | (go_at_call 254;refine Calls.mono HB.out ?_;rintro e w' ⟨rfl,hw'⟩;obtain rfl:wr = w':=hw'.symm)
        | (refine wpl_pushZ rfl _ _ 23 rfl w.heap.size 3 (.int .i64 0) 1 8 Tryz.underlying23 infoN rfl (by decide) _ m _ rfl ow8 wr.heap.size 1 [.int .i64 bz] rfl 3 (Blk.new wr _ _) rfl (fun u hu => by simp at hu;rcases hu with rfl;rfl) (by omega) (by decide) hz8 ?_;intro g9 c9 w9 ow9 gr9 hat9 hlt9)
        | fail)
      refine ⟨⟨m + 1,by omega,by go_num,?_,row_grownBelow b8 ow8 gr9 b8.size⟩,by simp [intOf];omega⟩
      rw [HST.out];exact ow9
    · have hm':m = zs.length:=by omega
      subst hm'
      rw [List.take_length] at ow
      obtain ⟨a',c',hv⟩:=own_slice ow
      subst hv
      have HO:Hid (wr.ownsRow w.heap.size 3 1 (.slice a' zs.length c') zs.length (nv (zs.map begF))):=ow
      clear ow
      go_wp2_with fail
      go_ret
      exact ⟨⟨a',c',rfl,HO.out⟩,br⟩
end Go.Proofs.YtjmpjfikcgccdaaGreatDoor.Ce
