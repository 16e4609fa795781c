/-
  Part of the proof of BaseFindsCard (QB and on).
-/
import Derived.Test.YtjmpjfikcgccdaaGreatDoorB01
import Derived.RegionTactic
import Derived.RangeFuncNested
import Derived.RangeFuncCalls
import Derived.RangeFuncLeaves
import Derived.Shelf.Abstract
import Derived.WalkKit
import Derived.OwnWalkIn
import Derived.OrdersIn
import Derived.TacticsInMore
import Derived.LoopNIn
import Derived.LoopIn
namespace Go.Proofs.YtjmpjfikcgccdaaGreatDoor
open Go.RowKit
section
variable {P:Program} {ops:Array Oper} {C:World -> Prop} {Q:Exit -> Act -> World -> Prop}
def after (listed:Array Bool) (k:Nat):Nat -> Array Bool
  | 0 => listed
  | f + 1 => after (listed.setIfInBounds k true) (k + 1) f
def lexH (ops:Array Oper):Nat -> Nat -> Array Bool -> Bool
  | 0,_,_ => true
  | f + 1,k,listed => (Region.ready .any ops listed).contains k && Region.free .any ops listed k && lexH ops f (k + 1) (listed.setIfInBounds k true)
def wpPure (P:Program) (L:Act -> Prop):List Oper -> Act -> Prop
  | [],a => L a
  | o :: l,a => ∃ d v,o.dst = some d ∧ o.guard = none ∧ (∀ w,(execOp a.eval o).run P w = .ok (.value v) w) ∧ wpPure P L l (a.put (some d) v)
theorem wpPure_nil {L:Act -> Prop} {a:Act} (h:L a):wpPure P L [] a:=h
theorem wpPure_cons {L:Act -> Prop} {a:Act} {o:Oper} {l:List Oper} (d:Tmp) (hd:o.dst = some d) (hg:o.guard = none) (v:Value) (hr:∀ w,(execOp a.eval o).run P w = .ok (.value v) w) (h:wpPure P L l (a.put (some d) v)):wpPure P L (o :: l) a:=⟨d,v,hd,hg,hr,h⟩
theorem any_pure {L:Act -> Prop} {g:Nat} {w:World} (hsel:Region.noSelect ops = true) (hQ:∀ c a d v w,Q (.panic c) (a.put (some d) v) w -> Q (.panic c) a w) (l:List Oper) :
    ∀ (k:Nat) (listed:Array Bool) (a:Act),(∀ j,j < l.length -> l[j]? = ops[k + j]?) -> lexH ops l.length k listed = true -> wpPure P L l a ->
      (∀ a',L a' -> wpAny P .any ops Q g (after listed k l.length) a' w) -> wpAny P .any ops Q (l.length + g) listed a w:=by
  induction l with
  | nil => intro k listed a _ _ h hL;rw [List.length_nil,Nat.zero_add];exact hL a h
  | cons o l ih =>
    intro k listed a hl hB h hL
    have h0:ops[k]? = some o:=by simpa using (hl 0 (by simp)).symm
    simp only [List.length_cons,lexH,Bool.and_eq_true] at hB
    obtain ⟨d,v,hd,hg,hv,h2⟩:=h
    rw [List.length_cons,show l.length + 1 + g = (l.length + g) + 1 from by omega]
    refine wpAny_take (v:=v) h0 hsel hB.1.2 hB.1.1 (fun c a w h => by rw [hd] at h;exact hQ _ _ _ _ _ h) (Or.inl ⟨by simp [Region.wanted,hg],hv⟩) ?_
    rw [hd]
    exact ih (k + 1) _ _ (fun j hj => by have:=hl (j + 1) (by simp;omega);rw [List.getElem?_cons_succ] at this;rw [this];congr 1;omega) hB.2 h2 (fun a' h' => hL a' h')
def sinkH (ops:Array Oper) (m n:Nat):Bool:=
  (List.range (n - 1)).all fun i => decide (i < m) || (List.range n).any fun j => decide (i < j) && Region.waitsFor .any ops j i
def chainH (ops:Array Oper) (n:Nat):Bool:=
  (List.range ops.size).all fun t => decide (t < n) || Region.waitsFor .any ops t (n - 1)
theorem tail_waitsH {m n:Nat} {listed:Array Bool} (hs:sinkH ops m n = true) (hc:chainH ops n = true) (hn:n < ops.size) (inv:HeadInv .any ops n listed) :
    ∀ (d i:Nat),n - i = d -> m <= i -> i < n -> listed.getD i true = false -> ∀ t,n <= t -> t ∉ Region.ready .any ops listed:=by
  intro d
  induction d using Nat.strongRecOn with
  | _ d ih =>
    intro i hd hm hi hun t ht hr
    by_cases hin:i = n - 1
    · obtain ⟨_,ot,hot,hall⟩:=mem_ready.1 hr
      have htlt:t < ops.size:=(Array.getElem?_eq_some_iff.1 hot).1
      have h1:=List.all_eq_true.1 hc t (List.mem_range.2 htlt)
      simp only [Bool.or_eq_true,decide_eq_true_eq] at h1
      rcases h1 with h1 | h1
      · omega
      · obtain ⟨o',ho',e,he,hb,hon⟩:=Region.waitsFor_spec h1
        have:o' = ot:=Option.some.inj (ho'.symm.trans hot)
        subst this
        have h2:=hall e he hb
        rw [hon,<- hin,getD_both hun] at h2
        cases h2
    · have h1:=List.all_eq_true.1 hs i (List.mem_range.2 (by omega))
      simp only [Bool.or_eq_true,decide_eq_true_eq] at h1
      rcases h1 with h1 | h1
      · omega
      · obtain ⟨j,hj,hj2⟩:=List.any_eq_true.1 h1
        simp only [Bool.and_eq_true,decide_eq_true_eq] at hj2
        obtain ⟨oj,hoj,e,he,hb,hon⟩:=Region.waitsFor_spec hj2.2
        have hjn:j < n:=List.mem_range.1 hj
        cases hl:listed.getD j false with
        | true =>
          have h2:=inv.closed j oj hoj hl e he hb
          rw [hon,getD_both hun] at h2
          cases h2
        | false =>
          have hjs:j < listed.size:=by rw [inv.size];omega
          exact ih (n - j) (by omega) j rfl (by omega) hjn (getD_in hjs hl) t ht hr
theorem headH_first {m n i:Nat} {oi:Oper} {v:Value} {L:Array Bool -> Act -> Prop} (hi:ops[i]? = some oi) (hsel:∀ (j:Nat) (o:Oper) cs b,ops[j]? = some o -> o.op ≠ .select cs b)
    (hs:sinkH ops m n = true) (hc:chainH ops n = true) (hn:n < ops.size) (him:m <= i) (hin:i < n) (hdone:∀ listed a,L listed a -> ∀ j ∈ Region.ready .any ops listed,n <= j) (f:Nat) :
    ∀ (listed:Array Bool) (a:Act),HeadInv .any ops n listed ->
      (∀ j oj,ops[j]? = some oj -> j ≠ i -> listed.getD j true = false -> (∀ e ∈ oj.after,Region.binds .any e = true -> e.on ≠ i) -> oi.apart ops oj = true) ->
      i ∈ Region.ready .any ops listed -> YieldsIn P ops C oi v a -> headQ P ops C n L f (listed.setIfInBounds i true) (a.put oi.dst v) -> headQ P ops C n L (f + 1) listed a:=by
  induction f with
  | zero =>
    intro listed a inv _ hr hy H
    refine ⟨List.ne_nil_of_mem hr,fun j hj => ?_⟩
    have hjn:j < n:=Nat.lt_of_not_le fun hge => tail_waitsH hs hc hn inv _ i rfl him hin (mem_ready.1 hr).1 j hge hj
    by_cases e:j = i
    · subst e;exact ⟨hjn,hy.qOp hi H⟩
    · exact absurd (hdone _ _ H j (ready_mono hj e)) (by omega)
  | succ f ih =>
    intro listed a inv hfree hr hy H
    have hun:=(mem_ready.1 hr).1
    refine ⟨List.ne_nil_of_mem hr,fun j hj => ?_⟩
    have hjn:j < n:=Nat.lt_of_not_le fun hge => tail_waitsH hs hc hn inv _ i rfl him hin hun j hge hj
    by_cases e:j = i
    · subst e;exact ⟨hjn,hy.qOp hi H⟩
    · obtain ⟨hjun,oj,hoj,hall⟩:=mem_ready.1 hj
      have hap:oi.apart ops oj = true:=hfree j oj hoj e hjun fun x hx hb hxi => by
        have:=hall x hx hb;rw [hxi,getD_both hun] at this;cases this
      have h2:=qOp_put hoj hap (fun cs b => hsel i oi cs b hi) (fun cs b => hsel j oj cs b hoj) hy (H.2 j (ready_mono hj e)).2
      refine ⟨hjn,qOp_mono (fun a' h3 => ih _ a' (inv.set hj hjn) (fun k ok hk hki hku hno => hfree k ok hk hki ?_ hno) (ready_mono hr (Ne.symm e)) h3.1 ?_) h2⟩
      · by_cases ejk:j = k
        · subst ejk;exact hjun
        · rw [getD_set_ne true ejk] at hku;exact hku
      · rw [Array.setIfInBounds_comm _ _ e];exact h3.2
theorem headH_lex {m n:Nat} {Lq:Act -> Prop} {fin:Array Bool} (hsel:Region.noSelect ops = true) (hs:sinkH ops m n = true) (hc:chainH ops n = true) (hn:n < ops.size) (hfin:∀ j ∈ Region.ready .any ops fin,n <= j) (l:List Oper) :
    ∀ (k:Nat) (listed:Array Bool) (a:Act),(∀ j,j < l.length -> l[j]? = ops[k + j]?) -> m <= k -> k + l.length = n -> HeadInv .any ops n listed -> after listed k l.length = fin ->
    lexH ops l.length k listed = true -> wpQuiet P ops C Lq l a -> headQ P ops C n (fun listed' a' => listed' = fin ∧ Lq a') l.length listed a:=by
  induction l with
  | nil => intro k listed a _ _ _ _ hf _ h;exact ⟨hf,h⟩
  | cons o l ih =>
    intro k listed a hl hmk hk inv hf hB h
    rw [List.length_cons] at hk
    have h0:ops[k]? = some o:=by simpa using (hl 0 (by simp)).symm
    simp only [List.length_cons,lexH,Bool.and_eq_true] at hB
    have hr:k ∈ Region.ready .any ops listed:=by simpa using hB.1.1
    have hst:qOp P ops C k (wpQuiet P ops C Lq l) a:=by unfold qOp;simp only [h0];exact h
    obtain ⟨v,hy,hK⟩:=yieldsIn_of_qOp h0 hst
    refine headH_first (L:=fun listed' a' => listed' = fin ∧ Lq a') h0 (Region.noSelect_spec hsel) hs hc hn hmk (by omega) (fun _ _ hL j hj => hfin j (by rw [<- hL.1];exact hj)) l.length listed a inv (Region.free_spec h0 hB.1.2) hr hy ?_
    exact ih (k + 1) _ _ (fun j hj => by have:=hl (j + 1) (by simp;omega);rw [List.getElem?_cons_succ] at this;rw [this];congr 1;omega) (by omega) (by omega) (inv.set hr (by omega)) hf hB.2 hK
def closedB (ops:Array Oper) (listed:Array Bool):Bool:=
  (List.range ops.size).all fun j => !listed.getD j false || match ops[j]? with | some oj => oj.after.all (fun e => !Region.binds .any e || listed.getD e.on false) | none => true
def tailB (ops:Array Oper) (n:Nat) (listed:Array Bool):Bool:=(List.range ops.size).all fun t => decide (t < n) || !listed.getD t true
theorem headInv_of {n:Nat} {listed:Array Bool} (h0:listed.size = ops.size) (h1:closedB ops listed = true) (h2:tailB ops n listed = true):HeadInv .any ops n listed:=by
  refine ⟨h0,fun j oj hj hl e he hb => ?_,fun t ht htl => ?_⟩
  · have:=List.all_eq_true.1 h1 j (List.mem_range.2 (Array.getElem?_eq_some_iff.1 hj).1)
    simp only [hl,hj,Bool.not_true,Bool.false_or] at this
    have:=Array.all_eq_true_iff_forall_mem.1 this e he
    simpa [hb] using this
  · have:=List.all_eq_true.1 h2 t (List.mem_range.2 htl)
    simp only [Bool.or_eq_true,decide_eq_true_eq,Bool.not_eq_true'] at this
    rcases this with h | h
    · omega
    · exact h
theorem after_size (f:Nat):∀ (listed:Array Bool) (k:Nat),(after listed k f).size = listed.size:=by
  induction f with
  | zero => intro _ _;rfl
  | succ f ih => intro listed k;simp only [after];rw [ih];simp
def checkH (ops:Array Oper) (m n p:Nat):Bool:=
  let z:=Array.replicate ops.size false
  let zm:=after z 0 m
  let zn:=after zm m (n - m)
  let zp:=after zn n (p - n)
  Region.noSelect ops && decide (m < n) && decide (n <= p) && decide (n < ops.size) && decide (p <= ops.size) && lexH ops m 0 z && closedB ops zm && tailB ops n zm && sinkH ops m n && chainH ops n && lexH ops (n - m) m zm &&
    (Region.ready .any ops zn).all (fun j => decide (n <= j)) && lexH ops (p - n) n zn && Region.seqB .any ops (ops.size - p) p zp
theorem region_h {id:Nat} {a:Act} {w:World} {l:List Oper} (m n p:Nat) (C:World -> Prop) (hm:P.follows .mixedOrders = true) (hB:checkH l.toArray m n p = true) (hQ:∀ c a d v w,Q (.panic c) (a.put (some d) v) w -> Q (.panic c) a w) (hC:C w.drew)
    (h:wpPure P (fun a1 => wpQuiet P l.toArray C (fun a2 => ∀ w',C w' -> wpPure P (fun a3 => wpList P l.toArray Q (l.drop p) a3 w') ((l.drop n).take (p - n)) a2) ((l.drop m).take (n - m)) a1) (l.take m) a):(Code.region id l.toArray true).wp P Q a w:=by
  simp only [checkH,Bool.and_eq_true,decide_eq_true_eq] at hB
  obtain ⟨⟨⟨⟨⟨⟨⟨⟨⟨⟨⟨⟨⟨hsel,hmn⟩,hnp⟩,hns⟩,hps⟩,b1⟩,b2⟩,b3⟩,b4⟩,b5⟩,b6⟩,b7⟩,b8⟩,b9⟩:=hB
  have hsz:l.toArray.size = l.length:=by simp
  have t1:(l.take m).length = m:=by rw [List.length_take];omega
  have t2:((l.drop m).take (n - m)).length = n - m:=by rw [List.length_take,List.length_drop];omega
  have t3:((l.drop n).take (p - n)).length = p - n:=by rw [List.length_take,List.length_drop];omega
  have t4:(l.drop p).length = l.toArray.size - p:=by rw [List.length_drop];omega
  refine wp_region_any hm ?_
  have e:l.toArray.size = (l.take m).length + ((n - m) + ((p - n) + (l.toArray.size - p))):=by rw [t1];omega
  rw [show wpAny P .any l.toArray Q l.toArray.size = wpAny P .any l.toArray Q ((l.take m).length + ((n - m) + ((p - n) + (l.toArray.size - p)))) from by rw [<- e]]
  refine any_pure hsel hQ (l.take m) 0 _ a (fun j hj => by rw [t1] at hj;rw [List.getElem?_take,if_pos hj,Nat.zero_add,List.getElem?_toArray]) (by rw [t1];exact b1) h ?_
  intro a1 h1
  rw [t1]
  have H:=headH_lex (P:=P) (C:=C) (fin:=after (after (Array.replicate l.toArray.size false) 0 m) m (n - m)) hsel b4 b5 hns (fun j hj => by simpa using List.all_eq_true.1 b7 j hj) ((l.drop m).take (n - m)) m (after (Array.replicate l.toArray.size false) 0 m) a1
    (fun j hj => by rw [t2] at hj;rw [List.getElem?_take,if_pos hj,List.getElem?_drop,List.getElem?_toArray]) (Nat.le_refl _) (by rw [t2];omega) (headInv_of (by rw [after_size];simp) b2 b3) (by rw [t2]) (by rw [t2];exact b6) h1
  rw [t2] at H
  refine any_of_headQ (Q:=Q) (fun listed a2 w' hw' hL => ?_) _ _ _ _ hC H
  obtain ⟨rfl,h2⟩:=hL
  have h3:=h2 w' hw'
  have:=any_pure (g:=l.toArray.size - p) (w:=w') hsel hQ ((l.drop n).take (p - n)) n _ a2 (fun j hj => by rw [t3] at hj;rw [List.getElem?_take,if_pos hj,List.getElem?_drop,List.getElem?_toArray]) (by rw [t3];exact b8) h3 (fun a3 h4 => by
    rw [t3]
    have:=wpAny_of_seq (md:=.any) (Q':=Q) (l.drop p) p _ a3 w' (fun j => by rw [List.getElem?_drop,List.getElem?_toArray]) (by rw [t4];exact b9) h4
    rwa [t4] at this)
  rwa [t3] at this
end
theorem Upd.refl (w:World) (b:Nat):Upd w w b:=⟨rfl,rfl,rfl,rfl,fun _ _ => rfl⟩
theorem Upd.trans {w w' w'':World} {b:Nat} (h:Upd w w' b) (g:Upd w' w'' b):Upd w w'' b:=
  ⟨g.os.trans h.os,g.tape.trans h.tape,g.output.trans h.output,g.size.trans h.size,fun k hk => (g.block k hk).trans (h.block k hk)⟩
section
variable {P:Program} {ops:Array Oper} {Q:Exit -> Act -> World -> Prop} {a:Act} {w:World} {rest:List Oper} {o:Oper}
theorem wpl_putU (hgd:o.guard = none) (hdn:o.dst = none) (t:TypeId) (x y:Operand) (ho:o.op = .store t x y) (hi0:(P.info? t).map (·.size) = some 1)
    (b j:Nat) (arr:Array Value) (T:TypeId) (k:IntKind) (z:Int) (hx:a.eval x = .pointer (some ⟨b,j,none⟩)) (hy:a.eval y = .int k z) (hb:Blk w b arr T) (hj:j < arr.size) {w0:World} (hu:Upd w0 w b)
    (h:∀ w',Upd w0 w' b -> Blk w' b (arr.setIfInBounds j (.int k z)) T -> wpList P ops Q rest a w'):wpList P ops Q (o :: rest) a w:=
  wpl_put hgd hdn t x y ho hi0 b j arr T k z hx hy hb hj fun w' hu' hb' => h w' (hu.trans hu') hb'
end
theorem tb_one (n:Nat) (f:Nat -> UInt8):∀ v ∈ (tb n f).toList,v.oneCell' = true:=by
  intro v hv;simp [tb] at hv;obtain ⟨j,_,rfl⟩:=hv;rfl
theorem tb_all (n m:Nat) (f:Nat -> UInt8) (h:0 + n = m):(tb n f).extract 0 m = tb n f:=by
  subst h;rw [Nat.zero_add]
  have:=Array.extract_size (xs:=tb n f)
  rw [tb_size] at this;exact this
section
variable {P:Program} {ops:Array Oper} {Q:Exit -> Act -> World -> Prop} {a:Act} {w:World} {rest:List Oper} {o:Oper}
theorem wpl_storeB (hgd:o.guard = none) (hdn:o.dst = none) (t:TypeId) (x y:Operand) (ho:o.op = .store t x y) (n:Nat) (hi0:(P.info? t).map (·.size) = some n)
    (b:Nat) (arr:Array Value) (T:TypeId) (f:Nat -> UInt8) (hx:a.eval x = .pointer (some ⟨b,0,none⟩)) (hy:a.eval y = .agg (tb n f)) (hb:Blk w b arr T) (hn:arr.size = n)
    (h:∀ w',Upd w w' b -> Blk w' b (tb n f) T -> wpList P ops Q rest a w'):wpList P ops Q (o :: rest) a w:=by
  refine wpList_plain hgd fun K hK => ?_
  obtain ⟨i,hi,hsize⟩:=Option.map_eq_some_iff.1 hi0
  unfold Oper.wp execOp
  have hl:=storeCells_run P w b hb.lt T (tb n f).toList 0 arr (by simp [tb_size,hn]) (tb_one n f)
  rw [putBlk_self hb,foldset_all _ _ (by simp [tb_size,hn])] at hl
  simp only [ho,hx,hy,Instr.storeAt,Instr.sureAddr,storeVar,sizeOf,typeInfo,hi,hsize,Sem.run_bind,Sem.run_pure,run_program,Result.andThen_ok,Value.cells,tb_size,ne_eq,not_true,if_false,hl]
  simp only [Oper.upon_skip,hdn,Act.put]
  exact hK _ _ (h _ (putBlk_upd _ _ _) (putBlk_blk hb))
end
theorem ret_cellB {P:Program} {fn:Func} {R:Ending -> World -> Prop} {a:Act} {w:World} (p:Tmp) (t:TypeId) (hf:fn.results = #[.cell p t]) (n:Nat) (e:TypeId) (ht:P.underlying t = some (.array n e)) (hi0:(P.info? t).map (·.size) = some n)
    (b:Nat) (f:Nat -> UInt8) (T:TypeId) (hx:a.tmps.getD p undef = .pointer (some ⟨b,0,none⟩)) (hb:Blk w b (tb n f) T) (hd:a.defers = []) (hR:R (.returned (.agg (tb n f))) w):bodyPost P fn R .ret a w:=by
  refine bodyPost_ret ?_ hd hR
  have hl:=loadVar_run P w t n e ht hi0 b 0 (tb n f) T hb (by simp [tb_size])
  rw [tb_all _ _ _ rfl] at hl
  have hx':a.tmps[p]?.getD undef = .pointer (some ⟨b,0,none⟩):=by rw [<- hx];simp
  simp only [results,hf]
  simp [hx',asAddr,hl]
end Go.Proofs.YtjmpjfikcgccdaaGreatDoor
namespace Go.Proofs.YtjmpjfikcgccdaaGreatDoor
open Go.RowKit
section
variable {P:Program} {l:List Oper} {Q:Exit -> Act -> World -> Prop} {fuel:Nat} {listed:Array Bool} {a:Act} {w:World}
theorem reg_in {id:Nat} (n:Nat) (hm:P.follows .mixedOrders = true) (hn:l.length = n) (h:wpAny P .any l.toArray Q n (Array.replicate n false) a w.drew):(Code.region id l.toArray true).wp P Q a w:=by
  refine wp_region_any hm ?_
  rw [List.size_toArray,hn]
  exact h
theorem reg_take (i:Nat) (d:Tmp) (v:Value) {o:Oper} (hi:l[i]? = some o) (hd:o.dst = some d) (hB:(Region.noSelect l.toArray && Region.free .any l.toArray listed i && (Region.ready .any l.toArray listed).contains i) = true)
    (hQ:∀ c a w,Q (.panic c) (a.put (some d) v) w -> Q (.panic c) a w) (hw:Region.wanted o (yielded l.toArray a.tmps) = true) (hv:∀ w,(execOp a.eval o).run P w = .ok (.value v) w)
    (h:wpAny P .any l.toArray Q fuel (listed.setIfInBounds i true) (a.put (some d) v) w):wpAny P .any l.toArray Q (fuel + 1) listed a w:=by
  simp only [Bool.and_eq_true] at hB
  have hi':l.toArray[i]? = some o:=by rw [List.getElem?_toArray];exact hi
  refine wpAny_take (v:=v) hi' hB.1.1 hB.1.2 hB.2 (by rw [hd];exact hQ) (Or.inl ⟨hw,hv⟩) ?_
  rw [hd];exact h
theorem reg_skip (i:Nat) (d:Tmp) {o:Oper} (hi:l[i]? = some o) (hd:o.dst = some d) (hB:(Region.noSelect l.toArray && Region.free .any l.toArray listed i && (Region.ready .any l.toArray listed).contains i) = true)
    (hQ:∀ c a w,Q (.panic c) (a.put (some d) undef) w -> Q (.panic c) a w) (hw:Region.wanted o (yielded l.toArray a.tmps) = false)
    (h:wpAny P .any l.toArray Q fuel (listed.setIfInBounds i true) (a.put (some d) undef) w):wpAny P .any l.toArray Q (fuel + 1) listed a w:=by
  simp only [Bool.and_eq_true] at hB
  have hi':l.toArray[i]? = some o:=by rw [List.getElem?_toArray];exact hi
  refine wpAny_take (v:=undef) hi' hB.1.1 hB.1.2 hB.2 (by rw [hd];exact hQ) (Or.inr ⟨hw,rfl⟩) ?_
  rw [hd];exact h
theorem reg_op (i:Nat) {o:Oper} (hi:l[i]? = some o) (hw:Region.wanted o (yielded l.toArray a.tmps) = true) {K0:Act -> World -> Prop} (h:∀ K:Act -> World -> Prop,(∀ a' w',K0 a' w' -> K a' w') -> o.wp P a w K Q):wpOp P l.toArray Q i K0 a w:=by
  have hi':l.toArray[i]? = some o:=by rw [List.getElem?_toArray];exact hi
  unfold wpOp
  simp only [hi',hw,if_true]
  exact Or.inl (h _ fun _ _ h => h)
theorem reg_one (i:Nat) {o:Oper} (hi:l[i]? = some o) (hr:(Region.ready .any l.toArray listed == [i]) = true) (hw:Region.wanted o (yielded l.toArray a.tmps) = true)
    (h:∀ K:Act -> World -> Prop,(∀ a' w',wpAny P .any l.toArray Q fuel (listed.setIfInBounds i true) a' w' -> K a' w') -> o.wp P a w K Q):wpAny P .any l.toArray Q (fuel + 1) listed a w:=by
  rw [beq_iff_eq] at hr
  refine ⟨fun h0 => (by rw [hr] at h0;cases h0),fun j hj => ?_⟩
  rw [hr] at hj
  obtain rfl:=List.mem_singleton.1 hj
  exact reg_op _ hi hw h
theorem reg_two (i j:Nat) {o o':Oper} (hi:l[i]? = some o) (hj:l[j]? = some o') (hr:(Region.ready .any l.toArray listed == [i,j]) = true) (hw:Region.wanted o (yielded l.toArray a.tmps) = true) (hw':Region.wanted o' (yielded l.toArray a.tmps) = true)
    (h:∀ K:Act -> World -> Prop,(∀ a' w',wpAny P .any l.toArray Q fuel (listed.setIfInBounds i true) a' w' -> K a' w') -> o.wp P a w K Q)
    (h':∀ K:Act -> World -> Prop,(∀ a' w',wpAny P .any l.toArray Q fuel (listed.setIfInBounds j true) a' w' -> K a' w') -> o'.wp P a w K Q):wpAny P .any l.toArray Q (fuel + 1) listed a w:=by
  rw [beq_iff_eq] at hr
  refine ⟨fun h0 => (by rw [hr] at h0;cases h0),fun k hk => ?_⟩
  rw [hr] at hk
  rcases List.mem_cons.1 hk with rfl | hk
  · exact reg_op _ hi hw h
  · obtain rfl:=List.mem_singleton.1 hk
    exact reg_op _ hj hw' h'
theorem reg_end (hr:(Region.ready .any l.toArray listed == []) = true) (h:Q .normal a w):wpAny P .any l.toArray Q fuel listed a w:=
  wpAny_done (by rwa [beq_iff_eq] at hr) h fuel
end
end Go.Proofs.YtjmpjfikcgccdaaGreatDoor
namespace Go.Proofs.YtjmpjfikcgccdaaGreatDoor.Tr
open Go.RowKit Go.Shelf
structure Wide (F:Fence):Prop where
  fn:∀ f,F.fn f
  depth:F.depth = none
  calls:∀ {n:Nat} {P:Program} {f:FuncId} {args:Array Value} {w:World} {R:Ending -> World -> Prop},Calls P f args w R -> CallsIn F n P f args w R
  rows:∀ {n:Nat} {P:Program} {row:String} {args:Array Value} {w:World} {R:Value -> World -> Prop},Rows P row args w R -> RowsIn F n P row args w R
theorem rows_wide {n:Nat} {P:Program} {row:String} {args:Array Value} {w:World} {R:Value -> World -> Prop} (h:Rows P row args w R):RowsIn Fence.wide n P row args w R:=fun c cs _ => by
  obtain ⟨v,w',r,s⟩:=h c cs
  exact ⟨v,w',r,stepsIn_wide.2 s⟩
theorem wide_none:Wide Fence.wide:=⟨fun _ => trivial,rfl,fun h => callsIn_wide.2 h,rows_wide⟩
theorem wide_round (l:Nat):Wide (Fence.wide.inRound l):=⟨fun _ => trivial,rfl,fun h => CallsIn.inRound l (callsIn_wide.2 h),fun h => rows_wide h⟩
section
variable {F:Fence} {n:Nat} {P:Program} {Q:Exit -> Act -> World -> Prop}
theorem wpIn_of_wp {o:Oper} {a:Act} {w:World} {K:Act -> World -> Prop} (hF:Wide F) (hnd:∀ c,o.op ≠ .defer c) (h:o.wp P a w K (fun _ _ _ => False)):o.wpIn F n P a w K Q:=by
  refine ⟨fun f _ => hF.fn f,?_⟩
  rw [Oper.semAt_plain F a.eval o hnd]
  have hd:F.depth.isSome = true -> 1 <= n:=fun e => by rw [hF.depth] at e;cases e
  unfold Oper.wp at h
  generalize (execOp a.eval o).run P w = r at h ⊢
  cases r with
  | ok x w' =>
    cases x <;> simp only [Oper.upon] at h <;> simp only [Oper.uponIn]
    case value => exact h
    case skip => exact h
    case defer => exact h
    case enter =>
      refine ⟨hd,(hF.calls h).mono fun e w'' he => ?_⟩
      cases e with
      | returned v => exact he
      | panicked c => exact he.elim
      | outgrown => obtain ⟨_,_,hx⟩:=he;exact hx.elim
    case row => exact ⟨hd,hF.rows h⟩
  | halt x w' => cases x <;> simp only [Oper.upon] at h
theorem wpOpIn_of_wpOp {ops:Array Oper} {i:Nat} {a:Act} {w:World} {K:Act -> World -> Prop} (hF:Wide F) (hnd:∀ o ∈ ops,∀ c,o.op ≠ .defer c) (h:wpOp P ops (fun _ _ _ => False) i K a w):wpOpIn F n P ops Q i K a w:=by
  unfold wpOp at h
  unfold wpOpIn
  split
  · rename_i ho;simpa [ho] using h
  · rename_i o ho
    simp only [ho] at h
    split
    · rename_i hw
      simp only [hw,if_true] at h
      rcases h with h | ⟨_,_,_,hx⟩
      · exact wpIn_of_wp hF (hnd o (Array.mem_of_getElem? ho)) h
      · exact hx.elim
    · rename_i hw
      simp only [hw] at h
      exact ⟨fun f _ => hF.fn f,by simpa using h⟩
def Only (Q:Exit -> Act -> World -> Prop):Exit -> Act -> World -> Prop
  | .normal,a,w => Q .normal a w
  | _,_,_ => False
theorem wpAnyIn_of_wpAny {ops:Array Oper} (hF:Wide F) (hnd:∀ o ∈ ops,∀ c,o.op ≠ .defer c):∀ (fuel:Nat) (listed:Array Bool) (a:Act) (w:World),
    wpAny P .any ops (Only Q) fuel listed a w -> wpAnyIn F n P .any ops Q fuel listed a w:=by
  intro fuel
  induction fuel with
  | zero => intro listed a w h;exact h
  | succ fuel ih =>
    intro listed a w h
    refine ⟨h.1,fun i hi => ?_⟩
    have h2:=h.2 i hi
    have h3:wpOp P ops (fun _ _ _ => False) i (wpAnyIn F n P .any ops Q fuel (listed.setIfInBounds i true)) a w:=by
      unfold wpOp at h2 ⊢
      split
      · rename_i ho;simp only [ho] at h2;exact ih _ _ _ h2
      · rename_i o ho
        simp only [ho] at h2
        split
        · rename_i hw
          simp only [hw,if_true] at h2
          rcases h2 with h2 | ⟨_,_,_,hx⟩
          · refine Or.inl ?_
            unfold Oper.wp at h2 ⊢
            generalize (execOp a.eval o).run P w = r at h2 ⊢
            cases r with
            | ok x w' =>
              cases x <;> simp only [Oper.upon] at h2 ⊢
              case value => exact ih _ _ _ h2
              case skip => exact ih _ _ _ h2
              case defer => exact ih _ _ _ h2
              case enter =>
                refine h2.mono fun e w'' he => ?_
                cases e with
                | returned v => exact ih _ _ _ he
                | panicked c => exact he
                | outgrown => obtain ⟨_,_,hx⟩:=he;exact hx.elim
              case row => exact h2.mono fun _ _ he => ih _ _ _ he
            | halt x w' =>
              cases x <;> simp only [Oper.upon] at h2 ⊢
              all_goals exact h2
          · exact hx.elim
        · rename_i hw
          simp only [hw] at h2
          exact ih _ _ _ (by simpa using h2)
    exact wpOpIn_of_wpOp hF hnd h3
def noDefer (l:List Oper):Bool:=l.all fun o => match o.op with | .defer _ => false | _ => true
theorem noDefer_spec {l:List Oper} (h:noDefer l = true):∀ o ∈ l.toArray,∀ c,o.op ≠ .defer c:=fun o ho c e => by
  have:=List.all_eq_true.1 h o (by simpa using ho)
  rw [e] at this;cases this
theorem regIn {id:Nat} {l:List Oper} {a:Act} {w:World} (hF:Wide F) (hm:P.follows .mixedOrders = true) (hnd:noDefer l = true) (k:Nat) (hk:l.length = k)
    (h:wpAny P .any l.toArray (Only Q) k (Array.replicate k false) a w.drew):(Code.region id l.toArray true).wpIn F n P Q a w:=by
  refine wpIn_region_any hm (wpAnyIn_of_wpAny hF (noDefer_spec hnd) _ _ _ _ ?_)
  rw [List.size_toArray,hk]
  exact h
theorem anyIn_of_headQ {ops:Array Oper} {C:World -> Prop} {m g:Nat} {L:Array Bool -> Act -> Prop} (hF:Wide F) (hnd:∀ o ∈ ops,∀ c,o.op ≠ .defer c) (hL:∀ listed a w,C w -> L listed a -> wpAnyIn F n P .any ops Q g listed a w) (f:Nat) :
    ∀ (listed:Array Bool) (a:Act) (w:World),C w -> headQ P ops C m L f listed a -> wpAnyIn F n P .any ops Q (f + g) listed a w:=by
  induction f with
  | zero => intro listed a w hw h;rw [Nat.zero_add];exact hL _ _ _ hw h
  | succ f ih =>
    intro listed a w hw h
    rw [Nat.succ_add]
    exact ⟨fun h0 => absurd h0 h.1,fun i hi => wpOpIn_of_wpOp hF hnd (wpOp_of_qOp hw (fun a' w' hw' h' => ih _ a' w' hw' h') (h.2 i hi).2)⟩
def Waits (ops:Array Oper) (k:Nat):Prop:=∀ listed:Array Bool,HeadInv .any ops k listed -> ∀ i,i < k -> listed.getD i true = false -> ∀ t,k <= t -> t ∉ Region.ready .any ops listed
theorem waits_of {ops:Array Oper} {k:Nat} (hs:sinkH ops 0 (k + 1) = true) (hc:chainH ops (k + 1) = true) (hk:k < ops.size):Waits ops k:=by
  intro listed inv
  have hun:listed.getD k true = false:=inv.tail k (Nat.le_refl _) hk
  have no:∀ t i,Region.waitsFor .any ops t i = true -> listed.getD i true = false -> t ∉ Region.ready .any ops listed:=by
    intro t i h1 h2 hr
    obtain ⟨_,ot,hot,hall⟩:=mem_ready.1 hr
    obtain ⟨o',ho',e,he,hb,hon⟩:=Region.waitsFor_spec h1
    have:o' = ot:=Option.some.inj (ho'.symm.trans hot)
    subst this
    have h3:=hall e he hb
    rw [hon,getD_both h2] at h3
    cases h3
  have key:∀ (d i:Nat),k - i = d -> i < k -> listed.getD i true = false -> k ∉ Region.ready .any ops listed:=by
    intro d
    induction d using Nat.strongRecOn with
    | _ d ih =>
      intro i hd hi hu
      have h1:=List.all_eq_true.1 hs i (List.mem_range.2 (by omega))
      simp only [Bool.or_eq_true,decide_eq_true_eq] at h1
      rcases h1 with h1 | h1
      · omega
      · obtain ⟨j,hj,hj2⟩:=List.any_eq_true.1 h1
        simp only [Bool.and_eq_true,decide_eq_true_eq] at hj2
        have hjk:j < k + 1:=List.mem_range.1 hj
        by_cases e:j = k
        · subst e;exact no _ _ hj2.2 hu
        · obtain ⟨oj,hoj,e',he,hb,hon⟩:=Region.waitsFor_spec hj2.2
          cases hl:listed.getD j false with
          | true =>
            have h2:=inv.closed j oj hoj hl e' he hb
            rw [hon,getD_both hu] at h2
            cases h2
          | false => exact ih (k - j) (by omega) j rfl (by omega) (getD_in (by rw [inv.size];omega) hl)
  intro i hi hu t ht hr
  by_cases e:t = k
  · subst e;exact key _ i rfl hi hu hr
  · have htlt:t < ops.size:=by
      obtain ⟨_,ot,hot,_⟩:=mem_ready.1 hr
      exact (Array.getElem?_eq_some_iff.1 hot).1
    have h1:=List.all_eq_true.1 hc t (List.mem_range.2 htlt)
    simp only [Bool.or_eq_true,decide_eq_true_eq] at h1
    rcases h1 with h1 | h1
    · omega
    · exact no _ _ h1 hun hr
theorem headW_first {ops:Array Oper} {C:World -> Prop} {k i:Nat} {oi:Oper} {v:Value} {L:Array Bool -> Act -> Prop} (hi:ops[i]? = some oi) (hsel:∀ (j:Nat) (o:Oper) cs b,ops[j]? = some o -> o.op ≠ .select cs b)
    (hW:Waits ops k) (hin:i < k) (hdone:∀ listed a,L listed a -> ∀ j ∈ Region.ready .any ops listed,k <= j) (f:Nat) :
    ∀ (listed:Array Bool) (a:Act),HeadInv .any ops k listed ->
      (∀ j oj,ops[j]? = some oj -> j ≠ i -> listed.getD j true = false -> (∀ e ∈ oj.after,Region.binds .any e = true -> e.on ≠ i) -> oi.apart ops oj = true) ->
      i ∈ Region.ready .any ops listed -> YieldsIn P ops C oi v a -> headQ P ops C k L f (listed.setIfInBounds i true) (a.put oi.dst v) -> headQ P ops C k L (f + 1) listed a:=by
  induction f with
  | zero =>
    intro listed a inv _ hr hy H
    refine ⟨List.ne_nil_of_mem hr,fun j hj => ?_⟩
    have hjn:j < k:=Nat.lt_of_not_le fun hge => hW listed inv i hin (mem_ready.1 hr).1 j hge hj
    by_cases e:j = i
    · subst e;exact ⟨hjn,hy.qOp hi H⟩
    · exact absurd (hdone _ _ H j (ready_mono hj e)) (by omega)
  | succ f ih =>
    intro listed a inv hfree hr hy H
    have hun:=(mem_ready.1 hr).1
    refine ⟨List.ne_nil_of_mem hr,fun j hj => ?_⟩
    have hjn:j < k:=Nat.lt_of_not_le fun hge => hW listed inv i hin hun j hge hj
    by_cases e:j = i
    · subst e;exact ⟨hjn,hy.qOp hi H⟩
    · obtain ⟨hjun,oj,hoj,hall⟩:=mem_ready.1 hj
      have hap:oi.apart ops oj = true:=hfree j oj hoj e hjun fun x hx hb hxi => by
        have:=hall x hx hb;rw [hxi,getD_both hun] at this;cases this
      have h2:=qOp_put hoj hap (fun cs b => hsel i oi cs b hi) (fun cs b => hsel j oj cs b hoj) hy (H.2 j (ready_mono hj e)).2
      refine ⟨hjn,qOp_mono (fun a' h3 => ih _ a' (inv.set hj hjn) (fun q oq hq hqi hqu hno => hfree q oq hq hqi ?_ hno) (ready_mono hr (Ne.symm e)) h3.1 ?_) h2⟩
      · by_cases ejk:j = q
        · subst ejk;exact hjun
        · rw [getD_set_ne true ejk] at hqu;exact hqu
      · rw [Array.setIfInBounds_comm _ _ e];exact h3.2
theorem headW_lex {ops:Array Oper} {C:World -> Prop} {k:Nat} {Lq:Act -> Prop} {fin:Array Bool} (hsel:Region.noSelect ops = true) (hW:Waits ops k) (hfin:∀ j ∈ Region.ready .any ops fin,k <= j) (l:List Oper) :
    ∀ (q:Nat) (listed:Array Bool) (a:Act),(∀ j,j < l.length -> l[j]? = ops[q + j]?) -> q + l.length = k -> HeadInv .any ops k listed -> after listed q l.length = fin ->
    lexH ops l.length q listed = true -> wpQuiet P ops C Lq l a -> headQ P ops C k (fun listed' a' => listed' = fin ∧ Lq a') l.length listed a:=by
  induction l with
  | nil => intro q listed a _ _ _ hf _ h;exact ⟨hf,h⟩
  | cons o l ih =>
    intro q listed a hl hk inv hf hB h
    rw [List.length_cons] at hk
    have h0:ops[q]? = some o:=by simpa using (hl 0 (by simp)).symm
    simp only [List.length_cons,lexH,Bool.and_eq_true] at hB
    have hr:q ∈ Region.ready .any ops listed:=by simpa using hB.1.1
    have hst:qOp P ops C q (wpQuiet P ops C Lq l) a:=by unfold qOp;simp only [h0];exact h
    obtain ⟨v,hy,hK⟩:=yieldsIn_of_qOp h0 hst
    refine headW_first (L:=fun listed' a' => listed' = fin ∧ Lq a') h0 (Region.noSelect_spec hsel) hW (by omega) (fun _ _ hL j hj => hfin j (by rw [<- hL.1];exact hj)) l.length listed a inv (Region.free_spec h0 hB.1.2) hr hy ?_
    exact ih (q + 1) _ _ (fun j hj => by have:=hl (j + 1) (by simp;omega);rw [List.getElem?_cons_succ] at this;rw [this];congr 1;omega) (by omega) (inv.set hr (by omega)) hf hB.2 hK
def checkR (ops:Array Oper) (k:Nat):Bool:=
  Region.noSelect ops && decide (k < ops.size) && lexH ops k 0 (Array.replicate ops.size false) && sinkH ops 0 (k + 1) && chainH ops (k + 1) && (Region.ready .any ops (after (Array.replicate ops.size false) 0 k)).all (fun j => decide (k <= j))
theorem regIn_head {id:Nat} {l:List Oper} {a:Act} {w:World} (k m:Nat) (C:World -> Prop) (hF:Wide F) (hm:P.follows .mixedOrders = true) (hl:l.length = m) (hnd:noDefer l = true) (hB:checkR l.toArray k = true) (hC:C w.drew)
    (h:wpQuiet P l.toArray C (fun a' => ∀ w',C w' -> wpAnyIn F n P .any l.toArray Q (m - k) (after (Array.replicate m false) 0 k) a' w') (l.take k) a):(Code.region id l.toArray true).wpIn F n P Q a w:=by
  subst hl
  simp only [checkR,Bool.and_eq_true,decide_eq_true_eq] at hB
  obtain ⟨⟨⟨⟨⟨hsel,hk⟩,b1⟩,b2⟩,b3⟩,b4⟩:=hB
  have hsz:l.toArray.size = l.length:=by simp
  have t1:(l.take k).length = k:=by rw [List.length_take];omega
  have H:=headW_lex (P:=P) (C:=C) (fin:=after (Array.replicate l.toArray.size false) 0 k) hsel (waits_of b2 b3 hk) (fun j hj => by simpa using List.all_eq_true.1 b4 j hj) (l.take k) 0 (Array.replicate l.toArray.size false) a
    (fun j hj => by rw [t1] at hj;rw [List.getElem?_take,if_pos hj,Nat.zero_add,List.getElem?_toArray]) (by rw [t1];omega)
    ⟨Array.size_replicate,fun j oj _ hl => (by rw [getD_replicate_false] at hl;cases hl),fun t _ htl => getD_in (by rw [Array.size_replicate];exact htl) (getD_replicate_false _ _)⟩ (by rw [t1]) (by rw [t1];exact b1) h
  refine wpIn_region_any hm ?_
  have HL:∀ (listed:Array Bool) (a':Act) (w':World),C w' -> (listed = after (Array.replicate l.toArray.size false) 0 k ∧ ∀ w',C w' -> wpAnyIn F n P .any l.toArray Q (l.length - k) (after (Array.replicate l.length false) 0 k) a' w') -> wpAnyIn F n P .any l.toArray Q (l.length - k) listed a' w':=by
    rintro listed a' w' hw' ⟨rfl,h2⟩
    rw [hsz];exact h2 w' hw'
  have:=anyIn_of_headQ (C:=C) (F:=F) (n:=n) (Q:=Q) (g:=l.length - k) hF (noDefer_spec hnd) HL _ _ _ w.drew hC H
  rw [t1,show k + (l.length - k) = l.toArray.size from by omega] at this
  exact this
theorem regIn_one {l:List Oper} {fuel:Nat} {listed:Array Bool} {a:Act} {w:World} (i:Nat) {o:Oper} (hi:l[i]? = some o) (hr:(Region.ready .any l.toArray listed == [i]) = true) (hw:Region.wanted o (yielded l.toArray a.tmps) = true)
    (h:∀ K:Act -> World -> Prop,(∀ a' w',wpAnyIn F n P .any l.toArray Q fuel (listed.setIfInBounds i true) a' w' -> K a' w') -> o.wpIn F n P a w K Q):wpAnyIn F n P .any l.toArray Q (fuel + 1) listed a w:=by
  rw [beq_iff_eq] at hr
  refine ⟨fun h0 => (by rw [hr] at h0;cases h0),fun j hj => ?_⟩
  rw [hr] at hj
  obtain rfl:=List.mem_singleton.1 hj
  have hi':l.toArray[j]? = some o:=by rw [List.getElem?_toArray];exact hi
  unfold wpOpIn
  simp only [hi',hw,if_true]
  exact h _ fun _ _ h => h
theorem regIn_end {l:List Oper} {fuel:Nat} {listed:Array Bool} {a:Act} {w:World} (hr:(Region.ready .any l.toArray listed == []) = true) (h:Q .normal a w):wpAnyIn F n P .any l.toArray Q fuel listed a w:=
  wpAnyIn_done (by rwa [beq_iff_eq] at hr) h fuel
theorem opIn_value {o:Oper} {a:Act} {w:World} {K:Act -> World -> Prop} (hF:Wide F) (hnd:∀ c,o.op ≠ .defer c) (d:Tmp) (hd:o.dst = some d) (v:Value) (hr:(execOp a.eval o).run P w = .ok (.value v) w) (h:K (a.put (some d) v) w):o.wpIn F n P a w K Q:=by
  refine ⟨fun f _ => hF.fn f,?_⟩
  rw [Oper.semAt_plain F a.eval o hnd,hr,Oper.uponIn_value,hd]
  exact h
theorem opIn_round {o:Oper} {a:Act} {w:World} {K:Act -> World -> Prop} (hF:Wide F) (hnd:∀ c,o.op ≠ .defer c) (d:Tmp) (hd:o.dst = some d) (l:Nat) (fn:FuncId) (tmps:Array Value) (assign body:Code) (hr:(execOp a.eval o).run P w = .ok (.round l fn tmps assign body) w) {R:Ending -> World -> Prop}
    (hR:RoundIn F (n - 1) P l fn tmps assign body w R) (h:∀ e w',R e w' -> ∃ v,e = .returned v ∧ K (a.put (some d) v) w'):o.wpIn F n P a w K Q:=by
  refine ⟨fun f _ => hF.fn f,?_⟩
  rw [Oper.semAt_plain F a.eval o hnd,hr]
  refine ⟨fun e => (by rw [hF.depth] at e;cases e),hR.mono fun e w' he => ?_⟩
  obtain ⟨v,rfl,hK⟩:=h e w' he
  rw [hd];exact hK
end
theorem below_putObj {B l:Nat} (W:World) (o:Obj) (h:B <= l):Below B W (W.putObj l o):=
  ⟨rfl,rfl,rfl,by simp [World.putObj],fun k hk => World.putObj_heap_other (by omega)⟩
def Gives (F:Fence) (n:Nat) (P:Program) (gf:Nat) (lb:Array Value) (enc:Nat -> Array Value) (N:Nat) (I:Nat -> World -> Prop):Prop:=
  ∀ (l:Nat) (J:Nat -> World -> Prop) (W:World),(∀ i W,J i W -> I i W) -> (∀ i W,J i W -> J i W.drew) ->
    (∀ i W1,i < N -> J i W1 -> YieldAt F (n - 1) P l (enc i) W1 fun e W' => e = .returned (.bool true) ∧ J (i + 1) W') -> J 0 W ->
    CallsIn F n P gf (#[.func (.yield l) #[] #[]] ++ lb) W fun e W' => (∃ v,e = .returned v) ∧ J N W'
def roundPost (B:Nat) (I:World -> Prop) (W:World):Exit -> Act -> World -> Prop
  | .normal,_,W' => KeepsFrom B W W' ∧ I W'
  | _,_,_ => False
set_option maxHeartbeats 400000 in
theorem range_clos {F:Fence} {n:Nat} {P:Program} {g:Operand} {ps:Array Tmp} {assign body:Code} {Q:Exit -> Act -> World -> Prop} {a:Act} {w:World} (hro:F.round = none) (h1:1 <= n) (gf:Nat) (lb:Array Value)
    (hg:a.eval g = .func (.func gf) #[] lb) (hF:F.fn gf) (eg:∀ args w,(callFunc gf args).run P w = .ok (.enter gf args) w) (enc:Nat -> Array Value) (N:Nat) (hps:∀ i,(enc i).size = ps.size)
    (I:Nat -> World -> Prop) (hI:∀ i W W',Below w.heap.size W W' -> I i W -> I i W') (h0:I 0 w) (hit:Gives F (n - 1) P gf lb enc N I)
    (Ax:Nat -> Act) (hassign:∀ (i:Nat) (W:World) (K:Act -> World -> Prop),i < N -> I i W -> K (Ax i) W ->
      assign.wpIn (F.inRound (w.heap.size + 1)) (n - 1 - 1) P (Exit.then K (fun _ _ _ => False)) { tmps:=(ps.zip (enc i)).foldl (fun t (p,v) => t.setIfInBounds p v) a.tmps,defers:=[] } W)
    (hbody:∀ (i:Nat) (W:World),i < N -> I i W -> w.heap.size + 2 <= W.heap.size -> body.wpIn (F.inRound (w.heap.size + 1)) (n - 1 - 1) P (roundPost w.heap.size (I (i + 1)) W) (Ax i) W)
    (hdone:∀ (D:Nat) (W:World),w.heap.size <= D -> I N W -> W.heap[D]? = some (.deferred (some [])) -> Q .normal { a with defers:={ target:=.collected D,args:=#[] } :: a.defers } W) :
    (Code.rangeFunc g ps assign body).wpIn F n P Q a w:=by
  refine wpIn_rangeFunc fun fn hfn => ?_
  rw [hro]
  generalize hB:w.heap.size = B at *
  obtain ⟨lp,hlp⟩:∃ lp:LoopState -> Option Code -> Loop,lp = fun st pe => { state:=st,pending:=pe,fn,tmps:=a.tmps,params:=ps,assign,body,defers:=B }:=⟨_,rfl⟩
  have hin:=run_enterLoop_outer (P:=P) (w:=w) fn a.tmps ps assign body
  rw [hB,show ({ state:=.ready,pending:=none,fn,tmps:=a.tmps,params:=ps,assign,body,defers:=B }:Loop) = lp .ready none from by rw [hlp]] at hin
  obtain ⟨W1,hW1⟩:∃ W1,W1 = (w.alloc (.deferred (some []))).alloc (.loop (lp .ready none)):=⟨_,rfl⟩
  rw [<- hW1] at hin
  have hb1:Below B w W1:=by rw [hW1,<- hB];exact ((Below.refl _ w).alloc (Nat.le_refl _) _).alloc (by simp) _
  have hl1:W1.heap[B + 1]? = some (.loop (lp .ready none)):=by
    rw [hW1];have:=World.alloc_heap_new (w.alloc (.deferred (some []))) (.loop (lp .ready none));rwa [World.size_alloc,hB] at this
  have hk1:W1.heap[B]? = some (.deferred (some [])):=by
    rw [hW1];refine (Below.heap_alloc _ _ _ (by simp [hB])).trans ?_;have:=World.alloc_heap_new w (.deferred (some []));rwa [hB] at this
  refine ⟨B + 1,_,W1,{ target:=.fn (.func gf) lb,args:=#[.func (.yield (B + 1)) #[] #[]] },W1,gf,#[.func (.yield (B + 1)) #[] #[]] ++ lb,W1,hin,?_,?_,?_,fun _ => h1,?_⟩
  · simp only [resolve,hg]
    simp [go_sem]
  · intro f' hf';simp [Target.leads] at hf';subst hf';exact hF
  · simp [invoke,go_sem,eg]
  refine (hit (B + 1) (fun i W => I i W ∧ W.heap[B + 1]? = some (.loop (lp .ready none)) ∧ W.heap[B]? = some (.deferred (some []))) W1 (fun _ _ h => h.1) (fun i W h => ⟨hI i W _ ((Below.refl _ W).drew) h.1,h.2.1,h.2.2⟩) ?_ ⟨hI 0 _ _ hb1 h0,hl1,hk1⟩).mono ?_
  · rintro i W hi ⟨hiI,hl,hk⟩
    have hy:=run_yield (P:=P) (args:=enc i) hl (by rw [hlp];exact hps i)
    rw [hlp] at hy
    refine ⟨fn,_,assign,body,hy,roundIn_of_wpIn hfn (hassign i W _ hi hiI ?_)⟩
    have hlW:=(Array.getElem?_eq_some_iff.1 hl).1
    refine ⟨_,run_beginRound hl (by rw [hlp]),?_⟩
    obtain ⟨busy,hbusy⟩:∃ busy,busy = ({ lp .ready none with state:=.busy }:Loop):=⟨_,rfl⟩
    rw [<- hbusy]
    have hl2:(W.putObj (B + 1) (.loop busy)).heap[B + 1]? = some (.loop busy):=World.putObj_heap_same hlW
    have hk2:(W.putObj (B + 1) (.loop busy)).heap[B]? = some (.deferred (some [])):=(World.putObj_heap_other (by omega)).trans hk
    refine wpIn_mono (hbody i _ hi (hI _ _ _ (below_putObj W (.loop busy) (by omega)) hiI) (by have:=(Array.getElem?_eq_some_iff.1 hl2).1;omega)) ?_
    rintro e a3 W3 hp
    cases e with
    | normal =>
      have hl3:=hp.1.same _ _ (by omega) hl2 rfl
      have hr:=run_endRound (P:=P) none hl3
      rw [hbusy,hlp] at hr
      refine ⟨_,_,hr,rfl,hI _ _ _ (below_putObj W3 _ (by omega)) hp.2,?_,(World.putObj_heap_other (by omega)).trans (hp.1.same _ _ (Nat.le_refl _) hk2 rfl)⟩
      rw [hlp];exact World.putObj_heap_same (Array.getElem?_eq_some_iff.1 hl3).1
    | ret => exact hp.elim
    | exit id => exact hp.elim
    | goto t => exact hp.elim
    | panic ch => exact hp.elim
    | outgrown => exact hp.elim
  · rintro e W2 ⟨⟨v,rfl⟩,hi,hl,hk⟩
    have hr:=run_endLoop (P:=P) hl (by rw [hlp];simp)
    rw [show (lp .ready none).pending = none from by rw [hlp]] at hr
    exact ⟨none,_,hr,hdone B _ (Nat.le_refl _) (hI _ _ _ (below_putObj W2 _ (by omega)) hi) ((World.putObj_heap_other (by omega)).trans hk)⟩
end Go.Proofs.YtjmpjfikcgccdaaGreatDoor.Tr
