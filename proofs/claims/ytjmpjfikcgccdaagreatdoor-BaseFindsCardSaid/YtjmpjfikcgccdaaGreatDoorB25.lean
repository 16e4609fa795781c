/-
  Part of the proof of BaseFindsCard (D3 and on).
-/
import Derived.Test.YtjmpjfikcgccdaaGreatDoorB24
import Derived.Test.YtjmpjfikcgccdaaGreatDoorB04
import Derived.RangeFuncNested
import Derived.RangeFuncLeaves
import Derived.Shelf.Abstract
import Derived.WalkKit
import Derived.OwnWalkIn
import Derived.TacticsInMore
import Derived.LoopNIn
import Derived.LoopIn
import Derived.Deep.RegionHeld3
import Derived.Test.YtjmpjfikcgccdaaGreatDoorB18
namespace Go.Proofs.YtjmpjfikcgccdaaGreatDoor.Dv
open Go.RowKit
def gro (O:Nat -> Prop) (w w':World) (k:Nat):Prop:=O k ∨ (w.heap.size <= k ∧ k < w'.heap.size)
theorem zip_foldset (vs:List Value):∀ (i:Nat) (c:Array Value) (off:Nat),(vs.zipIdx i).foldl (fun cs x => cs.setIfInBounds (off + x.2) x.1) c = foldset c (off + i) vs:=by
  induction vs with
  | nil => intro i c off;rfl
  | cons v vs ih =>
    intro i c off
    simp only [List.zipIdx_cons,List.foldl_cons,foldset]
    rw [ih];rfl
theorem zip_foldsetA (vs:Array Value) (c:Array Value) (off:Nat):vs.zipIdx.foldl (fun cs x => cs.setIfInBounds (off + x.2) x.1) c = foldset c off vs.toList:=by
  rw [<- Array.foldl_toList,Array.toList_zipIdx];exact zip_foldset vs.toList 0 c off
theorem foldset_end (vs:List Value) (c:Array Value) (i:Nat) (h:c.size = i + vs.length):foldset c i vs = (c.toList.take i ++ vs).toArray:=by
  apply Array.toList_inj.1;rw [foldset_toList vs c i h]
theorem build_fold (k:Int) (g:Nat -> UInt8):Array.foldl (fun (cs:Array Value) (x:Value × Nat) => cs.setIfInBounds (1 + x.snd) x.fst) (Tryz.zeroCells168.setIfInBounds 0 (Value.int IntKind.i64 k)) (tb 256 g).zipIdx 0 256 = (.int .i64 k :: (tb 256 g).toList).toArray:=by
  have hz:=tb_size 256 g
  have:=zip_foldsetA (tb 256 g) (Tryz.zeroCells168.setIfInBounds 0 (Value.int IntKind.i64 k)) 1
  rw [Array.size_zipIdx,hz] at this
  rw [this,foldset_end _ _ _ (by rw [Array.size_setIfInBounds,Tryz.zeroCells168_size];simp [hz])]
  have h2:(Tryz.zeroCells168.setIfInBounds 0 (Value.int IntKind.i64 k)).toList.take 1 = [.int .i64 k]:=by
    rw [List.take_one]
    rw [show (Tryz.zeroCells168.setIfInBounds 0 (Value.int IntKind.i64 k)).toList.head? = (Tryz.zeroCells168.setIfInBounds 0 (Value.int IntKind.i64 k))[0]? from by rw [List.head?_eq_getElem?,Array.getElem?_toList]]
    rw [Array.getElem?_setIfInBounds,if_pos rfl,if_pos (by rw [Tryz.zeroCells168_size];omega)]
    rfl
  rw [h2];rfl
theorem fill_one (n:Nat) (c0 cs:Array Value) (h0:c0.size = n) (hc:cs.size = n):Instr.fill (fun i => some (i * n,n)) c0 [(0,.agg cs)] = some cs:=by
  simp only [Instr.fill,Value.cells,Nat.zero_mul]
  rw [if_neg (by simp [h0,hc])]
  have:=zip_foldsetA cs c0 0
  rw [this,foldset_all _ _ (by simp [h0,hc])]
theorem buildSlice_one {P:Program} (t e:TypeId) (n:Nat) (z:Value) (hn:n <= 10000) (hn0:0 < n) (ht:P.underlying t = some (.slice e)) (hs:∀ w,(sizeOf e).run P w = .ok n w) (hz:∀ w,(zeroValue e).run P w = .ok z w) (cs:Array Value) (hc:cs.size = n) (w:World) :
    (Instr.buildSlice t 1 #[(0,.agg cs)]).run P w = .ok (.slice (some ⟨w.heap.size,0,none⟩) 1 1) (w.alloc (.cells cs e)):=by
  unfold Instr.buildSlice
  simp only [Sem.run_bind,run_underlying ht,Result.andThen_ok,hs,Nat.one_mul]
  rw [if_neg (by omega),if_neg (by omega)]
  simp only [Sem.run_bind,Sem.run_pure,Result.andThen_ok,hz]
  rw [fill_one n _ cs (by simp) hc]
  simp [newRow,Result.andThen]
def bsW (parts:Array (Nat × Value)):Sem Value:=Instr.buildSlice 115 1 parts
theorem bsW_eq (parts:Array (Nat × Value)):Instr.buildSlice 115 1 parts = bsW parts:=rfl
theorem bsW_run (k:Int) (g:Nat -> UInt8) (w:World):(bsW #[(0,.agg (.int .i64 k :: (tb 256 g).toList).toArray)]).run Tryz.prog w = .ok (.slice (some ⟨w.heap.size,0,none⟩) 1 1) (w.alloc (.cells (.int .i64 k :: (tb 256 g).toList).toArray 168)):=
  buildSlice_one 115 168 257 _ (by decide) (by decide) Tryz.underlying115 Tryz.sizeOf168 Tryz.zeroValue168 _ (by simp [tb_size]) w
attribute [local go_sem ↓] bsW_eq
attribute [local go_sem] bsW_run
theorem mixed:Tryz.prog.follows .mixedOrders = true:=by kernel_rfl
theorem infoW:(Tryz.prog.info? 168).map (fun i => (i.zero,i.size,i.bytes)) = some (some (.agg Tryz.zeroCells168),257,264):=by kernel_rfl
theorem Dev.drewN {w:World} {O:Nat -> Prop} {b:Nat} {S:Nat -> Nat -> UInt8} {W:List (Nat × (Nat -> UInt8))} {F:Int} {v:Value} {lf:Int} (h:Dev w O b S W F v lf) (n:Nat):Dev (w.drewN n) O b S W F v lf:=⟨h.blk,h.left,h.top,h.row,h.own,h.rown,h.at'⟩
theorem _root_.Go.Proofs.YtjmpjfikcgccdaaGreatDoor.Blk.grown {w w':World} {b:Nat} {arr:Array Value} {T:TypeId} {r:Option Nat} (h:Blk w b arr T) (hg:w.grownBy w' r) (hne:some b ≠ r):Blk w' b arr T:=by
  have:=h.lt
  unfold Blk at *;rw [hg.block b this hne];exact h
attribute [local go_sem] tb_size build_fold
set_option maxRecDepth 100000 in
set_option maxHeartbeats 400000 in
theorem write_ok (b:Nat) (O:Nat -> Prop) (S:Nat -> Nat -> UInt8) (W:List (Nat × (Nat -> UInt8))) (F:Int) (v:Value) (lf:Int) (k:Nat) (s:ByteArray) (w:World) (hD:Dev w O b S W F v lf) (hF:F ≠ 0) (hk:k < 66) (hs:s.size <= 256) (hW:W.length < 1000) :
    Calls Tryz.prog 278 #[.pointer (some ⟨b,0,none⟩),.int .i64 (k:Int),.string s] w fun e w' => e = .returned .nilIface ∧ (∃ v' l',Dev w' (gro O w w') b S (W ++ [(k,bAt s)]) (burnt F) v' l') ∧ Chg w w' O:=by
  have d:decide (0 <= (k:Int) ∧ (k:Int) < 66) = true:=decide_eq_true (by omega)
  have dF:decide (F ≠ 0) = true:=decide_eq_true hF
  go_enter Tryz.func278,Tryz.ntmps278
  go_wp2_with (first | (go_at_call 324;refine (has_any _ _ _).mono ?_;rintro e w' ⟨rfl,rfl⟩;rw [d]) | (go_at_call 325;refine (burn_any _ _ _ _ _ _ _ _ hD).mono ?_;rintro e w1 ⟨rfl,⟨l1,hD1⟩,hu1⟩;rw [dF]))
  have c0:=hD1.c0
  have lb:=hD1.blk.lt
  have fz:=fun j => hD1.blk.frozen j
  refine region_s [(0,true),(1,true),(2,true),(3,true),(4,false),(5,true),(6,true)] [7,8,9] [10,11,12,13] (fun w' => Dev w' O b S W (burnt F) v l1) mixed (by kernel_rfl) (fun _ _ _ _ _ h => h) (hD1.drewN 1) ?_
  repeat (refine lead_pure _ rfl _ rfl rfl _ (fun w' => by go_simp;rfl) ?_)
  refine lead_read _ rfl _ rfl rfl v (fun w' hS => by have c:=hS.c0;go_simp) ?_
  repeat (refine lead_pure _ rfl _ rfl rfl _ (fun w' => by go_simp;rfl) ?_)
  refine lead_nil ?_
  simp only [Act.put,List.setIfInBounds_toArray,List.set_cons_succ,List.set_cons_zero]
  refine mid_cons _ rfl rfl fun K hK => ?_
  go_wp2_with (go_at_call 326;refine (blockOf_any _ _).mono ?_;rintro e w2 ⟨rfl,g2⟩)
  have hD2:=(hD1.drewN 1).below g2
  refine hK _ _ hD2 ?_
  clear hK K
  refine mid_cons _ rfl rfl fun K hK => ?_
  go_wp2_with fail
  refine hK _ _ hD2 ?_
  clear hK K
  refine mid_cons _ rfl rfl fun K hK => ?_
  go_wp2_with fail
  have hD3:=hD2.below ((Below.refl _ _).alloc (Nat.le_refl _) (.cells (wrC (k,bAt s)).toArray 168))
  refine hK _ _ hD3 ?_
  clear hK K
  refine mid_nil ?_
  simp only [List.filterMap_cons,List.getElem?_toArray,List.getElem?_cons_succ,List.getElem?_cons_zero,List.filterMap_nil]
  have z2:w1.heap.size <= w2.heap.size:=g2.size
  obtain ⟨i0,hi0,hz0,hz1,hz2⟩:=info_parts infoW
  refine wpList_append_lies _ rfl _ _ _ rfl 0 168 i0 _ 257 264 Tryz.underlying115 hi0 hz0 hz1 hz2 Tryz.zeroCells168_size (by omega) v W.length (wrsC W) rfl hD3.row
          ⟨w2.heap.size,0,none⟩ 1 1 (wrC (k,bAt s)) rfl (by rw [wrC_len]) (World.news_of_block (cs:=(wrC (k,bAt s)).toArray) (t:=168) (fr:=(0,0)) (heap_alloc_new w2 _)) (wrC_one _)
          (by omega) (by unfold maxLen;omega) (by omega) (Nat.zero_le _) (w2.heap.size + 1) (by simp) ?_
  intro g3 cap w3 hown3 hg3 hat3 hlt3
  have hb3:Blk w3 b (devA S v (decide (0 <= burnt F)) l1) 117:=hD3.blk.grown hg3 (fun e => (hD1.rown b e.symm).2 rfl)
  have fz3:=fun j => hb3.frozen j
  have c03:w3.cell? ⟨b,16896,none⟩ = some v:=by rw [hb3.cell,devA_0]
  clear hz0 hz1 hz2 hi0
  go_wp2_with fail
  go_ret
  have z1:=hu1.size
  have z3:=hg3.size
  simp only [World.size_alloc] at z3
  have gne:g3 ≠ b:=by
    rcases hat3 with h | h
    · exact (hD1.rown g3 h).2
    · omega
  refine ⟨rfl,⟨.slice (some ⟨g3,0,none⟩) (W.length + 1) cap,l1,?_⟩,?_⟩
  · refine ⟨by have:=hb3.set 16896 (.slice (some ⟨g3,0,none⟩) (W.length + 1) cap);rw [devA_set0] at this;exact this,hD1.left,hD1.top,?_,Or.inl hD1.own,?_,?_⟩
    · refine ownsRow_same (w:=w3) (by rw [<- wrsC_snoc,List.length_append];exact hown3) (fun g hg => ?_)
      simp only [Value.ownBlock,Option.some.injEq] at hg
      subst hg
      exact Below.heap_setCell _ _ _ _ (by exact gne)
    · intro g hg
      simp only [Value.ownBlock,Option.some.injEq] at hg
      subst hg
      refine ⟨?_,gne⟩
      rcases hat3 with h | h
      · exact Or.inl (hD1.rown g3 h).1
      · exact Or.inr ⟨by omega,by simpa [World.setCell] using hlt3⟩
    · intro p hp
      rcases List.mem_append.1 hp with h | h
      · exact hD1.at' p h
      · simp at h;subst h;exact hk
  · refine Chg.setCell (Chg.grown (((((Chg.refl w' O).upd hu1 (Or.inl hD1.own)).drewN 1).below g2).alloc _) hg3 (fun k' hk' => Or.inl (hD1.rown k' hk').1)) (Or.inl hD1.own) _
end Go.Proofs.YtjmpjfikcgccdaaGreatDoor.Dv
namespace Go.Proofs.YtjmpjfikcgccdaaGreatDoor.Dv
open Go.RowKit
def loseS (S:Nat -> Nat -> UInt8) (W:List (Nat × (Nat -> UInt8))) (kp:Nat -> Bool):Nat -> Nat -> Nat -> UInt8
  | 0 => S
  | i + 1 => match W[i]? with
    | some p => if kp i then putS (loseS S W kp i) p.1 p.2 else loseS S W kp i
    | none => loseS S W kp i
theorem loseS_yes {S:Nat -> Nat -> UInt8} {W:List (Nat × (Nat -> UInt8))} {kp:Nat -> Bool} {i:Nat} {p:Nat × (Nat -> UInt8)} (h:W[i]? = some p) (hk:kp i = true):loseS S W kp (i + 1) = putS (loseS S W kp i) p.1 p.2:=by
  simp [loseS,h,hk]
theorem Dev.form {w:World} {O:Nat -> Prop} {b:Nat} {S:Nat -> Nat -> UInt8} {W:List (Nat × (Nat -> UInt8))} {F:Int} {v:Value} {lf:Int} (h:Dev w O b S W F v lf) :
    ∃ ao cap,v = .slice ao W.length cap ∧ W.length <= maxLen ∧ ∀ i p,W[i]? = some p -> ∃ g cur,ao = some ⟨g,0,none⟩ ∧ Blk w g cur 168 ∧ i * 257 + 257 <= cur.size ∧ cur.extract (i * 257) (i * 257 + 257) = (wrC p).toArray:=by
  obtain ⟨_,h2⟩:=h.row
  rcases h2 with ⟨h2,h3⟩ | ⟨g,cap,cur,hv,hg,hh,hc1,hc2,hs,ht⟩
  · refine ⟨none,0,by rw [h2,h3],by rw [h3];exact Nat.zero_le _,fun i p hp => ?_⟩
    rw [List.eq_nil_of_length_eq_zero h3] at hp;cases hp
  · refine ⟨some ⟨g,0,none⟩,cap,hv,Nat.le_trans hc1 hc2,fun i p hp => ⟨g,cur,rfl,hh,?_,?_⟩⟩
    · have:=(List.getElem?_eq_some_iff.1 hp).1
      rw [hs]
      have:=Nat.mul_le_mul (Nat.le_trans (Nat.succ_le_of_lt this) hc1) (Nat.le_refl 257)
      simp only [Nat.succ_eq_add_one] at this;omega
    · have hc:=wrsC_cut W i p hp
      have hi:=(List.getElem?_eq_some_iff.1 hp).1
      rw [<- ht,List.drop_take,List.take_take,Nat.min_eq_left (by
        have:=Nat.mul_le_mul (Nat.succ_le_of_lt hi) (Nat.le_refl 257)
        simp only [Nat.succ_eq_add_one] at this;omega)] at hc
      apply Array.toList_inj.1
      rw [Array.toList_extract,List.extract_eq_take_drop,show i * 257 + 257 - i * 257 = 257 from by omega]
      exact hc
theorem loadVarG_run (P:Program) (w:World) (t:TypeId) (n:Nat) (ha:∀ w,(isAgg t).run P w = .ok true w) (hi0:(P.info? t).map (·.size) = some n)
    (b off:Nat) (arr:Array Value) (T:TypeId) (hb:Blk w b arr T) (hn:off + n <= arr.size):(loadVar t ⟨b,off,none⟩).run P w = .ok (.agg (arr.extract off (off + n))) w:=by
  obtain ⟨i,hi,hsize⟩:=Option.map_eq_some_iff.1 hi0
  have hl:=loadCellsFrom_run P w b off arr T hb n 0 #[] (by omega)
  simp only [loadVar,ha,sizeOf,typeInfo,loadCells,hi,hsize,Sem.run_bind,Sem.run_pure,run_program,Result.andThen_ok,if_true,hl]
  simp only [Nat.add_zero,Array.empty_append]
section
variable {P:Program} {ops:Array Oper} {Q:Exit -> Act -> World -> Prop} {a:Act} {w:World} {rest:List Oper} {o:Oper}
theorem wpl_loadG (hgd:o.guard = none) (t:TypeId) (x:Operand) (ho:o.op = .load t x) (n:Nat) (hag:∀ w,(isAgg t).run P w = .ok true w) (hi0:(P.info? t).map (·.size) = some n)
    (b off:Nat) (arr:Array Value) (T:TypeId) (hx:a.eval x = .pointer (some ⟨b,off,none⟩)) (hb:Blk w b arr T) (hn:off + n <= arr.size)
    (h:wpList P ops Q rest (a.put o.dst (.agg (arr.extract off (off + n)))) w):wpList P ops Q (o :: rest) a w:=by
  refine wpList_plain hgd fun K hK => ?_
  unfold Oper.wp execOp
  simp only [ho,hx,Instr.loadAt,Instr.sureAddr,Sem.run_bind,Sem.run_pure,Result.andThen_ok,loadVarG_run P w t n hag hi0 b off arr T hb hn]
  exact hK _ _ h
theorem lead_load {S:World -> Prop} {L:Act -> Prop} {i:Nat} {l:List (Nat × Bool)} (o:Oper) (ho:ops[i]? = some o) (d:Tmp) (hd:o.dst = some d) (hg:o.guard = none) (t:TypeId) (x:Operand) (hop:o.op = .load t x) (n:Nat) (hag:∀ w,(isAgg t).run P w = .ok true w) (hi0:(P.info? t).map (·.size) = some n)
    (b off:Nat) (arr:Array Value) (T:TypeId) (hx:a.eval x = .pointer (some ⟨b,off,none⟩)) (hb:∀ w,S w -> Blk w b arr T) (hn:off + n <= arr.size) (v:Value) (hv:v = .agg (arr.extract off (off + n)))
    (h:wpLead P ops S L l (a.put (some d) v)):wpLead P ops S L ((i,false) :: l) a:=by
  subst hv
  refine lead_read o ho d hd hg _ (fun w hS => ?_) h
  simp only [execOp,hop,hx,Instr.loadAt,Instr.sureAddr,Sem.run_bind,Sem.run_pure,Result.andThen_ok,loadVarG_run P w t n hag hi0 b off arr T (hb w hS) hn]
end
theorem wr_what (x:Nat × (Nat -> UInt8)):(wrC x).toArray.extract 1 (1 + 256) = tb 256 x.2:=by
  apply Array.toList_inj.1
  rw [Array.toList_extract,List.extract_eq_take_drop]
  simp only [wrC,List.drop_succ_cons,List.drop_zero]
  rw [List.take_of_length_le (by simp [tb_size])]
set_option maxRecDepth 100000 in
set_option maxHeartbeats 400000 in
theorem sync_ok (b:Nat) (O:Nat -> Prop) (S:Nat -> Nat -> UInt8) (W:List (Nat × (Nat -> UInt8))) (F:Int) (v:Value) (lf:Int) (w:World) (hD:Dev w O b S W F v lf) (hF:F ≠ 0) :
    Calls Tryz.prog 279 #[.pointer (some ⟨b,0,none⟩)] w fun e w' => e = .returned .nilIface ∧ (∃ l',Dev w' O b (loseS S W (fun _ => true) W.length) [] (burnt F) (.slice none 0 0) l') ∧ Chg w w' O:=by
  have dF:decide (F ≠ 0) = true:=decide_eq_true hF
  go_enter Tryz.func279,Tryz.ntmps279
  go_wp2_with (go_at_call 325;refine (burn_any _ _ _ _ _ _ _ _ hD).mono ?_;rintro e w1 ⟨rfl,⟨l1,hD1⟩,hu1⟩;rw [dF];(obtain ⟨ao,cap,hv,hml,hf⟩:=hD1.form);unfold maxLen at hml;subst hv;have c0:=hD1.c0)
  have HC:Chg w w1 O:=(Chg.refl w O).upd hu1 (Or.inl hD1.own)
  clear hf c0
  go_loopw [14] (fun i wr => ∃ k:Nat,k <= W.length ∧ i = .int .i64 k ∧ Dev wr O b (loseS S W (fun _ => true) k) W (burnt F) (.slice ao W.length cap) l1 ∧ Chg w wr O) (fun i _ => W.length - (intOf i).toNat)
  case atStart => exact ⟨0,by omega,rfl,hD1,HC⟩
  case round =>
    clear HC hD1
    obtain ⟨k,hk,rfl,hD1,HC⟩:=hrel
    by_cases hlt:k < W.length
    · obtain ⟨ao',cap',hv',_,hf⟩:=hD1.form
      obtain ⟨rfl,_,rfl⟩:ao = ao' ∧ W.length = W.length ∧ cap = cap':=by injection hv' with a1 a2 a3;exact ⟨a1,a2,a3⟩
      obtain ⟨g,cur,rfl,hg,hcs,hce⟩:=hf k W[k] (List.getElem?_eq_getElem hlt)
      have hat:=hD1.at' W[k] (List.getElem_mem hlt)
      have hp:W[k]? = some W[k]:=List.getElem?_eq_getElem hlt
      generalize W[k] = p at *
      go_wp2_with (first
        | (refine wpl_loadG rfl 168 _ rfl 257 Tryz.isAgg168 szWr g (k * 257) cur 168 rfl hg hcs ?_;rw [hce])
        | (refine wpl_storeAt rfl rfl 168 _ _ rfl 257 szWr _ 0 _ 168 (wrC p).toArray rfl rfl (by simp [wrC_len]) (by simpa using wrC_one p) (Blk.new _ _ _) (by rw [Tryz.zeroCells168_size];omega) ?_;intro w3 hu3 j3))
      rw [foldset_all _ _ (by rw [Tryz.zeroCells168_size];simp [wrC_len])] at j3
      have g3:=below_upd ((Below.refl wr.heap.size wr).alloc (Nat.le_refl _) (.cells Tryz.zeroCells168 168)) hu3 (Nat.le_refl _)
      have hD3:=hD1.below g3
      have HC3:=HC.below g3
      have z3:wr.heap.size <= w3.heap.size:=g3.size
      have h0:(0:Int) <= (p.1:Int):=by omega
      have h1:(p.1:Int) < 66:=by omega
      clear hg hcs hce hu3 g3
      obtain ⟨B,hB⟩:∃ B,Hid (B = wr.heap.size):=⟨_,rfl⟩
      rw [<- hB.out] at j3
      rw [<- hB.out]
      refine region_s [(0,true),(1,true),(2,false),(3,true),(4,false),(5,true),(6,true),(7,true)] [] [8] (fun w' => Blk w' B (wrC p).toArray 168) mixed (by kernel_rfl) (fun _ _ _ _ _ h => h) (j3.drewN 1) ?_
      repeat (refine lead_pure _ rfl _ rfl rfl _ (fun w' => by go_simp;rfl) ?_)
      refine lead_read _ rfl _ rfl rfl (.int .i64 (p.1:Int)) (fun w' hS => by have c:=hS.cell 0;rw [show (wrC p).toArray[0]? = some (.int .i64 (p.1:Int)) from rfl] at c;go_simp) ?_
      refine lead_pure _ rfl _ rfl rfl _ (fun w' => by go_simp;rfl) ?_
      refine lead_load _ rfl _ rfl rfl 113 _ rfl 256 Tryz.isAgg113 szBl B 1 _ 168 rfl (fun _ h => h) (by simp [wrC_len]) (.agg (tb 256 p.2)) (by rw [wr_what]) ?_
      repeat (refine lead_pure _ rfl _ rfl rfl _ (fun w' => by go_simp;rfl) ?_)
      refine lead_nil ?_
      refine mid_nil ?_
      simp only [Act.put,List.setIfInBounds_toArray,List.set_cons_succ,List.set_cons_zero,List.filterMap_cons,List.getElem?_toArray,List.getElem?_cons_succ,List.getElem?_cons_zero,List.filterMap_nil]
      refine wpl_storeAt rfl rfl 113 _ _ rfl 256 szBl b (p.1 * 256) _ 117 (tb 256 p.2) rfl rfl (tb_size _ _) (tb_one _ _) (hD3.drewN 1).blk (by rw [devA_size];omega) ?_
      intro w4 hu4 j4
      rw [devA_put _ _ _ _ _ hat] at j4
      have hD4:=(hD3.drewN 1).put hu4 j4 hD3.left hD3.top
      go_wp2_with fail
      go_light
      refine ⟨⟨k + 1,by omega,by go_num,?_,(HC3.drewN 1).upd hu4 (Or.inl hD3.own)⟩,by simp [intOf];omega⟩
      rw [loseS_yes hp rfl];exact hD4
    · have hk':k = W.length:=by omega
      subst hk'
      have fz:=fun j => hD1.blk.frozen j
      have c0:=hD1.c0
      go_wp2_with fail
      go_ret
      have hb:=hD1.blk.set 16896 (.slice none 0 0)
      rw [devA_set0] at hb
      exact ⟨rfl,⟨l1,hD1.cleared hb hD1.left hD1.top⟩,HC.setCell (Or.inl hD1.own) _⟩
end Go.Proofs.YtjmpjfikcgccdaaGreatDoor.Dv
namespace Go.Proofs.YtjmpjfikcgccdaaGreatDoor.Dv
open Go.RowKit
section
variable {P:Program} {ops:Array Oper} {Q:Exit -> Act -> World -> Prop} {a:Act} {w:World} {rest:List Oper} {o:Oper}
end
def Texts (w:World) (O:Nat -> Prop) (a:Option Addr) (ls:List ByteArray):Prop:=
  ∀ i x,ls[i]? = some x -> ∃ g o,a = some ⟨g,o,none⟩ ∧ g < w.heap.size ∧ ¬ O g ∧ w.cell? ⟨g,o + i,none⟩ = some (.string x)
theorem Texts.chg {w w':World} {O P:Nat -> Prop} {a:Option Addr} {ls:List ByteArray} (h:Texts w O a ls) (hc:Chg w w' P) (hp:∀ k,k < w.heap.size -> P k -> O k):Texts w' O a ls:=by
  intro i x hx
  obtain ⟨g,o,h1,h2,h3,h4⟩:=h i x hx
  exact ⟨g,o,h1,Nat.lt_of_lt_of_le h2 hc.size,h3,(World.cell?_of_block (hc.block g h2 (fun hh => h3 (hp g h2 hh)))).trans h4⟩
attribute [local go_sem] zeroBlk
end Go.Proofs.YtjmpjfikcgccdaaGreatDoor.Dv
namespace Go.Proofs.YtjmpjfikcgccdaaGreatDoor.Dv
open Go.RowKit Go.Shelf
theorem below_putObj {B l:Nat} (W:World) (o:Obj) (h:B <= l):Below B W (W.putObj l o):=
  ⟨rfl,rfl,rfl,by simp [World.putObj],fun k hk => World.putObj_heap_other (by omega)⟩
def Gives (F:Fence) (n:Nat) (P:Program) (gf:Nat) (rv:Value) (enc:Nat -> Array Value) (N:Nat) (I:Nat -> World -> Prop):Prop:=
  ∀ (l:Nat) (J:Nat -> World -> Prop) (Jx:World -> Prop) (W:World),(∀ i W,J i W -> I i W) ->
    (∀ i W1,i < N -> J i W1 -> YieldAt F (n - 1) P l (enc i) W1 fun e W' => (e = .returned (.bool true) ∧ J (i + 1) W') ∨ (e = .returned (.bool false) ∧ Jx W')) -> J 0 W ->
    CallsIn F n P gf #[rv,.func (.yield l) #[] #[]] W fun e W' => (∃ v,e = .returned v) ∧ (J N W' ∨ Jx W')
def roundPost (B:Nat) (I:World -> Prop) (Ix:World -> Prop) (W:World):Exit -> Act -> World -> Prop
  | .normal,_,W' => KeepsFrom B W W' ∧ I W'
  | .ret,_,W' => KeepsFrom B W W' ∧ Ix W'
  | _,_,_ => False
set_option maxHeartbeats 400000 in
theorem range_bound {F:Fence} {n:Nat} {P:Program} {g:Operand} {ps:Array Tmp} {assign body:Code} {Q:Exit -> Act -> World -> Prop} {a:Act} {w:World} (hro:F.round = none) (h1:1 <= n) (gf:Nat) (rv:Value)
    (hg:a.eval g = .func (.func gf) #[rv] #[]) (hF:F.fn gf) (eg:∀ args w,(callFunc gf args).run P w = .ok (.enter gf args) w) (enc:Nat -> Array Value) (N:Nat) (hps:∀ i,(enc i).size = ps.size)
    (I:Nat -> World -> Prop) (Ix:World -> Prop) (hI:∀ i W W',Below w.heap.size W W' -> I i W -> I i W') (hIx:∀ W W',Below w.heap.size W W' -> Ix W -> Ix W') (h0:I 0 w) (hit:Gives F (n - 1) P gf rv enc N I)
    (Ax:Nat -> Act -> World -> Prop) (hAx:∀ i a' W o,W.heap[w.heap.size + 1]? = some (.loop o) -> ∀ o',Ax i a' W -> Ax i a' (W.putObj (w.heap.size + 1) (.loop o')))
    (hassign:∀ (i:Nat) (W:World) (K:Act -> World -> Prop),i < N -> I i W -> (∀ a' W',Below W.heap.size W W' -> Ax i a' W' -> K a' W') ->
      assign.wpIn (F.inRound (w.heap.size + 1)) (n - 1 - 1) P (Exit.then K (fun _ _ _ => False)) { tmps:=(ps.zip (enc i)).foldl (fun t (p,v) => t.setIfInBounds p v) a.tmps,defers:=[] } W)
    (hbody:∀ (i:Nat) (a':Act) (W:World),i < N -> I i W -> Ax i a' W -> body.wpIn (F.inRound (w.heap.size + 1)) (n - 1 - 1) P (roundPost w.heap.size (I (i + 1)) Ix W) a' W)
    (hdone:∀ (D:Nat) (W:World),w.heap.size <= D -> I N W -> W.heap[D]? = some (.deferred (some [])) -> Q .normal { a with defers:={ target:=.collected D,args:=#[] } :: a.defers } W)
    (hstop:∀ (D:Nat) (W:World),w.heap.size <= D -> Ix W -> W.heap[D]? = some (.deferred (some [])) -> Code.ret.wpIn F n P Q { a with defers:={ target:=.collected D,args:=#[] } :: a.defers } W) :
    (Code.rangeFunc g ps assign body).wpIn F n P Q a w:=by
  refine wpIn_rangeFunc fun fn hfn => ?_
  rw [hro]
  generalize hB:w.heap.size = B at *
  obtain ⟨lp,hlp⟩:∃ lp:LoopState -> Option Code -> Loop,lp = fun st pe => { state:=st,pending:=pe,fn,tmps:=a.tmps,params:=ps,assign,body,defers:=B }:=⟨_,rfl⟩
  have hin:=run_enterLoop_outer (P:=P) (w:=w) fn a.tmps ps assign body
  rw [hB,show ({ state:=.ready,pending:=none,fn,tmps:=a.tmps,params:=ps,assign,body,defers:=B }:Loop) = lp .ready none from by rw [hlp]] at hin
  obtain ⟨W1,hW1⟩:∃ W1,W1 = (w.alloc (.deferred (some []))).alloc (.loop (lp .ready none)):=⟨_,rfl⟩
  rw [<- hW1] at hin
  have hb1:Below B w W1:=by rw [hW1,<- hB];exact ((Below.refl _ w).alloc (Nat.le_refl _) _).alloc (by simp) _
  have hl1:W1.heap[B + 1]? = some (.loop (lp .ready none)):=by
    rw [hW1];have:=World.alloc_heap_new (w.alloc (.deferred (some []))) (.loop (lp .ready none));rwa [World.size_alloc,hB] at this
  have hk1:W1.heap[B]? = some (.deferred (some [])):=by
    rw [hW1];refine (Below.heap_alloc _ _ _ (by simp [hB])).trans ?_;have:=World.alloc_heap_new w (.deferred (some []));rwa [hB] at this
  refine ⟨B + 1,_,W1,{ target:=.fn (.func gf) #[],args:=#[rv,.func (.yield (B + 1)) #[] #[]] },W1,gf,#[rv,.func (.yield (B + 1)) #[] #[]],W1,hin,?_,?_,?_,fun _ => h1,?_⟩
  · simp only [resolve,hg]
    simp [go_sem]
  · intro f' hf';simp [Target.leads] at hf';subst hf';exact hF
  · simp [invoke,go_sem,eg]
  refine (hit (B + 1) (fun i W => I i W ∧ W.heap[B + 1]? = some (.loop (lp .ready none)) ∧ W.heap[B]? = some (.deferred (some [])))
    (fun W => Ix W ∧ W.heap[B + 1]? = some (.loop (lp .done (some .ret))) ∧ W.heap[B]? = some (.deferred (some []))) W1 (fun _ _ h => h.1) ?_ ⟨hI 0 _ _ hb1 h0,hl1,hk1⟩).mono ?_
  · rintro i W hi ⟨hiI,hl,hk⟩
    have hy:=run_yield (P:=P) (args:=enc i) hl (by rw [hlp];exact hps i)
    rw [hlp] at hy
    refine ⟨fn,_,assign,body,hy,roundIn_of_wpIn hfn (hassign i W _ hi hiI ?_)⟩
    intro a' Wa hba hax
    have hlW:=(Array.getElem?_eq_some_iff.1 hl).1
    have hla:=(hba.block (B + 1) hlW).trans hl
    have hka:=(hba.block B (by omega)).trans hk
    have hza:B + 1 < Wa.heap.size:=(Array.getElem?_eq_some_iff.1 hla).1
    refine ⟨_,run_beginRound hla (by rw [hlp]),?_⟩
    obtain ⟨busy,hbusy⟩:∃ busy,busy = ({ lp .ready none with state:=.busy }:Loop):=⟨_,rfl⟩
    rw [<- hbusy]
    have hl2:(Wa.putObj (B + 1) (.loop busy)).heap[B + 1]? = some (.loop busy):=World.putObj_heap_same hza
    have hk2:(Wa.putObj (B + 1) (.loop busy)).heap[B]? = some (.deferred (some [])):=(World.putObj_heap_other (by omega)).trans hka
    refine wpIn_mono (hbody i a' _ hi (hI _ _ _ ((hba.mono (by omega)).trans (below_putObj Wa (.loop busy) (by omega))) hiI) (hAx i a' Wa _ hla _ hax)) ?_
    have fin:∀ (j:Option Code) (W3:World),KeepsFrom B (Wa.putObj (B + 1) (.loop busy)) W3 -> (Instr.endRound (B + 1) j).run P W3 = .ok (.bool j.isNone) (W3.putObj (B + 1) (.loop (lp (if j.isNone then .ready else .done) j))) ∧
        (W3.putObj (B + 1) (.loop (lp (if j.isNone then .ready else .done) j))).heap[B + 1]? = some (.loop (lp (if j.isNone then .ready else .done) j)) ∧ (W3.putObj (B + 1) (.loop (lp (if j.isNone then .ready else .done) j))).heap[B]? = some (.deferred (some [])):=by
      intro j W3 hk3
      have hl3:=hk3.same _ _ (by omega) hl2 rfl
      have hr:=run_endRound (P:=P) j hl3
      rw [hbusy,hlp] at hr
      refine ⟨by rw [hlp];exact hr,World.putObj_heap_same (Array.getElem?_eq_some_iff.1 hl3).1,(World.putObj_heap_other (by omega)).trans (hk3.same _ _ (Nat.le_refl _) hk2 rfl)⟩
    rintro e a3 W3 hp
    cases e with
    | normal =>
      obtain ⟨hr,hl4,hk4⟩:=fin none W3 hp.1
      exact ⟨_,_,hr,.inl ⟨rfl,hI _ _ _ (below_putObj W3 _ (by omega)) hp.2,hl4,hk4⟩⟩
    | ret =>
      obtain ⟨hr,hl4,hk4⟩:=fin (some .ret) W3 hp.1
      exact ⟨_,_,hr,.inr ⟨rfl,hIx _ _ (below_putObj W3 _ (by omega)) hp.2,hl4,hk4⟩⟩
    | exit id => exact hp.elim
    | goto t => exact hp.elim
    | panic ch => exact hp.elim
    | outgrown => exact hp.elim
  · rintro e W2 ⟨⟨v,rfl⟩,(⟨hi,hl,hk⟩ | ⟨hi,hl,hk⟩)⟩
    · have hr:=run_endLoop (P:=P) hl (by rw [hlp];simp)
      rw [show (lp .ready none).pending = none from by rw [hlp]] at hr
      exact ⟨none,_,hr,hdone B _ (Nat.le_refl _) (hI _ _ _ (below_putObj W2 _ (by omega)) hi) ((World.putObj_heap_other (by omega)).trans hk)⟩
    · have hr:=run_endLoop (P:=P) hl (by rw [hlp];simp)
      rw [show (lp .done (some .ret)).pending = some .ret from by rw [hlp]] at hr
      exact ⟨some .ret,_,hr,hstop B _ (Nat.le_refl _) (hIx _ _ (below_putObj W2 _ (by omega)) hi) ((World.putObj_heap_other (by omega)).trans hk)⟩
section
variable {n:Nat} {F:Fence} {P:Program} {ops:Array Oper} {Q:Exit -> Act -> World -> Prop} {a:Act} {w:World} {rest:List Oper} {o:Oper}
theorem wplIn_run (hF:∀ f,F.fn f) (hg:o.guard = none) (hnd:∀ c,o.op ≠ .defer c) (v:Value) (w':World) (hr:(execOp a.eval o).run P w = .ok (.value v) w') (h:wpListIn F n P ops Q rest (a.put o.dst v) w'):wpListIn F n P ops Q (o :: rest) a w:=by
  refine wpListIn_plain hg fun K hK => ⟨fun f _ => hF f,?_⟩
  rw [Oper.semAt_plain F a.eval o hnd,hr]
  exact hK _ _ h
theorem wplIn_skip (hF:∀ f,F.fn f) (hg:o.guard = none) (hnd:∀ c,o.op ≠ .defer c) (hd:o.dst = none) (w':World) (hr:(execOp a.eval o).run P w = .ok .skip w') (h:wpListIn F n P ops Q rest a w'):wpListIn F n P ops Q (o :: rest) a w:=by
  refine wpListIn_plain hg fun K hK => ⟨fun f _ => hF f,?_⟩
  rw [Oper.semAt_plain F a.eval o hnd,hr,Oper.uponIn_skip,hd]
  exact hK _ _ h
end
end Go.Proofs.YtjmpjfikcgccdaaGreatDoor.Dv
namespace Go.Proofs.YtjmpjfikcgccdaaGreatDoor.Dv
open Go.RowKit Go.Shelf
attribute [local go_sem] Oper.semAt_some
def pAt (Wr:List (Nat × (Nat -> UInt8))) (i:Nat):Nat × (Nat -> UInt8):=(Wr[Wr.length - 1 - i]?).getD (0,fun _ => 0)
section
variable {P:Program} {a:Act} {w:World} {o:Oper}
theorem run_loadG (t:TypeId) (x:Operand) (ho:o.op = .load t x) (n:Nat) (hag:∀ w,(isAgg t).run P w = .ok true w) (hi0:(P.info? t).map (·.size) = some n)
    (b off:Nat) (arr:Array Value) (T:TypeId) (hx:a.eval x = .pointer (some ⟨b,off,none⟩)) (hb:Blk w b arr T) (hn:off + n <= arr.size):(execOp a.eval o).run P w = .ok (.value (.agg (arr.extract off (off + n)))) w:=by
  unfold execOp
  simp only [ho,hx,Instr.loadAt,Instr.sureAddr,Sem.run_bind,Sem.run_pure,Result.andThen_ok,loadVarG_run P w t n hag hi0 b off arr T hb hn]
theorem run_storeAt (t:TypeId) (x y:Operand) (ho:o.op = .store t x y) (n:Nat) (hi0:(P.info? t).map (·.size) = some n)
    (b off:Nat) (arr:Array Value) (T:TypeId) (vs:Array Value) (hx:a.eval x = .pointer (some ⟨b,off,none⟩)) (hy:a.eval y = .agg vs) (hvs:vs.size = n) (h1:∀ v ∈ vs.toList,v.oneCell' = true) (hb:Blk w b arr T) (hn:off + n <= arr.size) :
    (execOp a.eval o).run P w = .ok .skip (putBlk w b (.cells (foldset arr off vs.toList) T)):=by
  obtain ⟨i,hi,hsize⟩:=Option.map_eq_some_iff.1 hi0
  unfold execOp
  have hl:=storeCells_at P w b off hb.lt T vs.toList 0 arr (by simp [hvs];omega) h1
  rw [putBlk_self hb] at hl
  simp only [ho,hx,hy,Instr.storeAt,Instr.sureAddr,storeVar,sizeOf,typeInfo,hi,hsize,Sem.run_bind,Sem.run_pure,run_program,Result.andThen_ok,Value.cells,hvs,ne_eq,not_true,if_false,hl]
  rfl
theorem run_sb (src dst e:TypeId) (x:Operand) (ho:o.op = .convert src dst x) (hs:P.underlying src = some (.slice e)) (he:P.underlying e = some (.int .u8)) (hd:P.underlying dst = some .string)
    (b off n cap:Nat) (arr:Array Value) (T:TypeId) (hx:a.eval x = .slice (some ⟨b,off,none⟩) n cap) (hb:Blk w b arr T) (hn:off + n <= arr.size) (f:Nat -> UInt8) (hl:arr.extract off (off + n) = tb n f) :
    (execOp a.eval o).run P w = .ok (.value (.string (sb n f))) w:=by
  unfold execOp
  simp only [ho,hx,Sem.run_bind,Sem.run_pure,Result.andThen_ok,run_convert_bytes_string w src dst e _ _ _ hs he hd,bytes_run P w b off n cap arr T hb hn ((List.range n).map f) (by rw [hl];simp [tb,Lib.byteCells])]
  rfl
end
set_option maxRecDepth 100000 in
set_option maxHeartbeats 1000000 in
theorem back_gives (n b:Nat) (hn:1 <= n) (O:Nat -> Prop) (S:Nat -> Nat -> UInt8) (Wr:List (Nat × (Nat -> UInt8))) (Fu:Int) (v:Value) (lf:Int) (I:Nat -> World -> Prop) (hID:∀ i W,I i W -> Dev W O b S Wr Fu v lf) (hlen:Wr.length <= 1000) :
    Gives Fence.wide n Tryz.prog 338 (.pointer (some ⟨b,0,none⟩)) (fun i => #[.agg (wrC (pAt Wr i)).toArray]) Wr.length I:=by
  intro l J Jx W hJI hY h0
  have hD:=hID 0 W (hJI 0 W h0)
  obtain ⟨ao,cap,hv,_,_⟩:=hD.form
  subst hv
  have c0:=hD.c0
  refine callsIn_of_wp Tryz.func338 rfl trivial ?_ rfl
  simp only [Tryz.ntmps338,List.size_toArray,List.length_cons,List.length_nil,Nat.reduceAdd,Nat.reduceSub,Array.replicate_succ,Array.replicate_zero,List.push_toArray,List.append_toArray,List.nil_append,List.cons_append]
  gi_wp2
  clear c0
  gi_loopw [4] (fun p wr => ∃ i:Nat,i <= Wr.length ∧ p = .int .i64 ((Wr.length:Int) - 1 - i) ∧ J i wr) (fun p _ => (intOf p + 1).toNat)
  case atStart => exact ⟨0,by omega,by simp,h0⟩
  case round =>
    obtain ⟨i,hi,rfl,hJ⟩:=hrel
    by_cases hlt:i < Wr.length
    · obtain ⟨t,ht⟩:∃ t:Nat,t = Wr.length - 1 - i:=⟨_,rfl⟩
      have e:(Wr.length:Int) - 1 - i = (t:Int):=by omega
      have htl:t < Wr.length:=by omega
      have hD1:=hID i wr (hJI i wr hJ)
      obtain ⟨ao',cap',hv',_,hf⟩:=hD1.form
      obtain ⟨rfl,_,rfl⟩:ao = ao' ∧ Wr.length = Wr.length ∧ cap = cap':=by injection hv' with a1 a2 a3;exact ⟨a1,a2,a3⟩
      obtain ⟨g,cur,rfl,hg,hcs,hce⟩:=hf t Wr[t] (List.getElem?_eq_getElem htl)
      have hp:Hid (Wr[t] = pAt Wr i):=by unfold Hid pAt;rw [<- ht,List.getElem?_eq_getElem htl];rfl
      rw [hp.out] at hce
      have c1:=hD1.c0
      rw [e]
      obtain ⟨fn,tmps,assign,body,hy,hR⟩:=hY i wr hlt hJ
      generalize pAt Wr i = p at *
      have h0t:(0:Int) <= (t:Int):=by omega
      have h1t:(t:Int) < (Wr.length:Int):=by omega
      clear hp ht
      gi_wp2_with (refine wplIn_run (fun _ => trivial) rfl (fun _ => by simp) (.agg (wrC p).toArray) _ (by rw [<- hce];exact run_loadG 168 _ rfl 257 Tryz.isAgg168 szWr g (t * 257) cur 168 rfl hg hcs) ?_)
      refine hR.mono ?_
      rintro e' W3 (⟨rfl,hJ3⟩ | ⟨rfl,hJx3⟩)
      · gi_wp2
        go_light
        exact ⟨⟨i + 1,by omega,by go_num,hJ3⟩,by simp [intOf]⟩
      · gi_wp2
        refine bodyPost_ret (results_none rfl _ _ _) rfl ?_
        exact ⟨⟨_,rfl⟩,.inr hJx3⟩
    · have hi':i = Wr.length:=by omega
      subst hi'
      rw [show (Wr.length:Int) - 1 - Wr.length = -1 from by omega]
      gi_wp2
      go_end0
      exact ⟨⟨_,rfl⟩,.inl hJ⟩
def readF (S:Nat -> Nat -> UInt8) (Wr:List (Nat × (Nat -> UInt8))) (k:Nat):Nat -> UInt8:=Wr.foldl (fun g p => if p.1 = k then p.2 else g) (S k)
theorem readF_snoc (S:Nat -> Nat -> UInt8) (Wr:List (Nat × (Nat -> UInt8))) (p:Nat × (Nat -> UInt8)) (k:Nat):readF S (Wr ++ [p]) k = if p.1 = k then p.2 else readF S Wr k:=by simp [readF]
theorem take_pAt (Wr:List (Nat × (Nat -> UInt8))) (i:Nat) (h:i < Wr.length):Wr.take (Wr.length - i) = Wr.take (Wr.length - (i + 1)) ++ [pAt Wr i]:=by
  unfold pAt
  rw [show Wr.length - i = Wr.length - 1 - i + 1 from by omega,List.take_add_one,show Wr.length - (i + 1) = Wr.length - 1 - i from by omega,List.getElem?_eq_getElem (by omega)]
  rfl
theorem readF_at {S:Nat -> Nat -> UInt8} {Wr:List (Nat × (Nat -> UInt8))} {k i:Nat} (h:i < Wr.length):readF S (Wr.take (Wr.length - i)) k = if (pAt Wr i).1 = k then (pAt Wr i).2 else readF S (Wr.take (Wr.length - (i + 1))) k:=by
  rw [take_pAt Wr i h,readF_snoc]
theorem blk_putObj {w:World} {c:Nat} {arr:Array Value} {T:TypeId} (h:Blk w c arr T) (D:Nat) (hne:c ≠ D) (o:Obj):Blk (w.putObj D o) c arr T:=by
  unfold Blk at *;rw [World.putObj_heap_other hne];exact h
set_option maxRecDepth 100000 in
set_option maxHeartbeats 1000000 in
theorem read_ok (b:Nat) (O:Nat -> Prop) (S:Nat -> Nat -> UInt8) (Wr:List (Nat × (Nat -> UInt8))) (Fu:Int) (v:Value) (lf:Int) (k:Nat) (w:World) (hD:Dev w O b S Wr Fu v lf) (hk:k < 66) (hlen:Wr.length <= 1000) :
    Calls Tryz.prog 296 #[.pointer (some ⟨b,0,none⟩),.int .i64 (k:Int)] w fun e w' => e = .returned (.tuple #[.string (sb 256 (readF S Wr k)),.nilIface]) ∧ Below w.heap.size w w':=by
  have d:decide (0 <= (k:Int) ∧ (k:Int) < 66) = true:=decide_eq_true (by omega)
  have lb:=hD.blk.lt
  refine (callsIn_wide (n:=10)).1 ?_
  refine callsIn_of_wp_marks Tryz.func296 rfl trivial ?_ rfl
  refine wpIn_wide.2 ?_
  simp only [Tryz.ntmps296,List.size_toArray,List.length_cons,List.length_nil,Nat.reduceAdd,Nat.reduceSub,Array.replicate_succ,Array.replicate_zero,List.push_toArray,List.append_toArray,List.nil_append,List.cons_append]
  go_wp2_with (go_at_call 324;refine (has_any _ _ _).mono ?_;rintro e w' ⟨rfl,rfl⟩;rw [d])
  have j3:=((Blk.new w #[.int .i64 (k:Int)] 3).alloc (.cells #[.string ⟨#[]⟩] 9)).alloc (.cells #[.nilIface] 40)
  have j4:=(Blk.new' (w.alloc (.cells #[.int .i64 (k:Int)] 3)) #[.string ⟨#[]⟩] 9 (b:=w.heap.size + 1) (by simp)).alloc (.cells #[.nilIface] 40)
  have j5:=Blk.new' ((w.alloc (.cells #[.int .i64 (k:Int)] 3)).alloc (.cells #[.string ⟨#[]⟩] 9)) #[.nilIface] 40 (b:=w.heap.size + 1 + 1) (by simp)
  have g0:=(((Below.refl w.heap.size w).alloc (Nat.le_refl _) (.cells #[.int .i64 (k:Int)] 3)).alloc (by simp) (.cells #[.string ⟨#[]⟩] 9)).alloc (by simp;omega) (.cells #[.nilIface] 40)
  have hsz:(((w.alloc (.cells #[.int .i64 (k:Int)] 3)).alloc (.cells #[.string ⟨#[]⟩] 9)).alloc (.cells #[.nilIface] 40)).heap.size = w.heap.size + 3:=by simp
  obtain ⟨W0,hW0⟩:∃ W0,((w.alloc (.cells #[.int .i64 (k:Int)] 3)).alloc (.cells #[.string ⟨#[]⟩] 9)).alloc (.cells #[.nilIface] 40) = W0:=⟨_,rfl⟩
  rw [hW0] at j3 j4 j5 g0 hsz ⊢
  clear hW0
  have stay:∀ (X Y:World) (c:Nat) (arr:Array Value) (T:TypeId),Below W0.heap.size X Y -> c < W0.heap.size -> Blk X c arr T -> Blk Y c arr T:=fun X Y c arr T h hc hb => by unfold Blk at *;rw [h.block c hc];exact hb
  refine wpIn_wide.1 (range_bound (F:=Fence.wide) (n:=10) rfl (by decide) 338 (.pointer (some ⟨b,0,none⟩)) rfl trivial (enters_of Tryz.func338 (by kernel_rfl) rfl) (fun i => #[.agg (wrC (pAt Wr i)).toArray]) Wr.length (fun _ => rfl)
    (fun i W => readF S Wr k = readF S (Wr.take (Wr.length - i)) k ∧ Below w.heap.size w W ∧ Blk W w.heap.size #[.int .i64 (k:Int)] 3 ∧ Blk W (w.heap.size + 1) #[.string ⟨#[]⟩] 9 ∧ Blk W (w.heap.size + 1 + 1) #[.nilIface] 40)
    (fun W => Below w.heap.size w W ∧ Blk W (w.heap.size + 1) #[.string (sb 256 (readF S Wr k))] 9 ∧ Blk W (w.heap.size + 1 + 1) #[.nilIface] 40)
    (fun i X Y hb h => ⟨h.1,h.2.1.trans (hb.mono (by omega)),stay X Y _ _ _ hb (by omega) h.2.2.1,stay X Y _ _ _ hb (by omega) h.2.2.2.1,stay X Y _ _ _ hb (by omega) h.2.2.2.2⟩)
    (fun X Y hb h => ⟨h.1.trans (hb.mono (by omega)),stay X Y _ _ _ hb (by omega) h.2.1,stay X Y _ _ _ hb (by omega) h.2.2⟩)
    ⟨by simp,g0,j3,j4,j5⟩ (back_gives 9 b (by decide) O S Wr Fu v lf _ (fun i W h => hD.below h.2.1) hlen)
    (fun i a' W => ∃ Bx,Blk W Bx (wrC (pAt Wr i)).toArray 168 ∧ a' = { tmps:=#[.pointer (some ⟨b,0,none⟩),.int .i64 (k:Int),undef,.pointer (some ⟨w.heap.size,0,none⟩),.pointer (some ⟨w.heap.size + 1,0,none⟩),.pointer (some ⟨w.heap.size + 1 + 1,0,none⟩),.pointer (some ⟨Bx,0,none⟩),.pointer (some ⟨b,0,none⟩),.int .i64 (k:Int),.bool true,.bool false,undef,.pointer (some ⟨b,0,none⟩),.func (.func 338) #[.pointer (some ⟨b,0,none⟩)] #[],.agg (wrC (pAt Wr i)).toArray,undef,undef,undef,undef,undef,undef,undef,undef,undef,undef,undef,undef,undef,undef],defers:=[] })
    ?hAx ?assign ?body ?done ?stop)
  case hAx =>
    rintro i a' W o ho o' ⟨Bx,h2,h3⟩
    refine ⟨Bx,?_,h3⟩
    unfold Blk at *
    rw [World.putObj_heap_other (fun e => by rw [e,ho] at h2;cases h2)];exact h2
  case assign =>
    rintro i W K hi ⟨_,hbW,_,_,_⟩ hK
    have hzW:=hbW.size
    generalize pAt Wr i = p at *
    gi_wp2_with (refine wplIn_skip (fun _ => trivial) rfl (fun _ => by simp) rfl _ (run_storeAt 168 _ _ rfl 257 szWr _ 0 _ 168 (wrC p).toArray rfl rfl (by simp [wrC_len]) (by simpa using wrC_one p) (Blk.new _ _ _) (by rw [Tryz.zeroCells168_size];omega)) ?_)
    refine hK _ _ (below_put ((Below.refl _ _).alloc (Nat.le_refl _) _) (Nat.le_refl _) _) ⟨W.heap.size,?_,rfl⟩
    have:=putBlk_blk (arr':=foldset Tryz.zeroCells168 0 (wrC p)) (T':=168) (Blk.new W Tryz.zeroCells168 168)
    rw [foldset_all _ _ (by rw [Tryz.zeroCells168_size,wrC_len])] at this ⊢
    exact this
  case body =>
    rintro i a' W hi ⟨hr,hbW,k3,k4,k5⟩ ⟨Bx,hx,rfl⟩
    have e:=readF_at (S:=S) (k:=k) hi
    have hr':Hid (readF S Wr k = if (pAt Wr i).1 = k then (pAt Wr i).2 else readF S (Wr.take (Wr.length - (i + 1))) k):=hr.trans e
    clear hr e
    generalize pAt Wr i = p at *
    have c0:W.cell? ⟨Bx,0,none⟩ = some (.int .i64 (p.1:Int)):=by rw [hx.cell];rfl
    have c3:=k3.cell 0
    have c4:=k4.cell 0
    have c5:=k5.cell 0
    have f4:=k4.frozen 0
    have f5:=k5.frozen 0
    by_cases hpk:p.1 = k
    · have hpe:((p.1:Int) == (k:Int)) = true:=by simp [hpk]
      gi_wp2_with (refine wplIn_run (fun _ => trivial) rfl (fun _ => by simp) (.string (sb 256 p.2)) _ (run_sb 180 9 5 _ rfl Tryz.underlying180 Tryz.underlying5 Tryz.underlying9 Bx 1 256 256 _ 168 rfl hx (by simp [wrC_len]) p.2 (wr_what p)) ?_)
      have hrd:readF S Wr k = p.2:=by rw [hr'.out,if_pos hpk]
      have m4:=(k4.set 0 (.string (sb 256 p.2))).setOther ⟨w.heap.size + 1 + 1,0,none⟩ (by simp) .nilIface
      have m5:=(k5.setOther ⟨w.heap.size + 1,0,none⟩ (by simp) (.string (sb 256 p.2))).set 0 .nilIface
      refine ⟨((KeepsOthers.setCell _ _ _).trans (KeepsOthers.setCell _ _ _)).from _,(hbW.setCell (by simp) _).setCell (by simp;omega) _,?_,m5⟩
      rw [hrd];exact m4
    · have hpe:((p.1:Int) == (k:Int)) = false:=by simp;omega
      gi_wp2
      exact ⟨KeepsFrom.refl _ _,hr'.out.trans (if_neg hpk),hbW,k3,k4,k5⟩
  case done =>
    rintro D W hD' ⟨hr,hbW,k3,k4,k5⟩ hK
    have hrd:Hid (readF S Wr k = S k):=by unfold Hid;rw [hr,Nat.sub_self];rfl
    clear hr
    have hDW:=hD.below hbW
    have hk0:(0:Int) <= (k:Int):=by omega
    have hk1:(k:Int) < 66:=by omega
    go_wp2_with fail
    refine wp_region_noPanic ?_
    refine region_s [(0,true),(1,false),(2,true),(3,true),(4,true),(5,true),(6,false)] [] [7,8] (fun w' => Blk w' w.heap.size #[.int .i64 (k:Int)] 3 ∧ Blk w' b (devA S v (decide (0 <= Fu)) lf) 117) mixed (by kernel_rfl) (fun _ _ _ _ _ h => h) ⟨k3.drewN 1,(hDW.drewN 1).blk⟩ ?_
    repeat (refine lead_pure _ rfl _ rfl rfl _ (fun w' => by go_simp;rfl) ?_)
    refine lead_read _ rfl _ rfl rfl (.int .i64 (k:Int)) (fun w' hS => by have c:=hS.1.cell 0;go_simp) ?_
    repeat (refine lead_pure _ rfl _ rfl rfl _ (fun w' => by go_simp;rfl) ?_)
    refine lead_read _ rfl _ rfl rfl (.string (sb 256 (S k))) (fun w' hS => run_sb 180 9 5 _ rfl Tryz.underlying180 Tryz.underlying5 Tryz.underlying9 b (k * 256) 256 256 _ 117 rfl hS.2 (by rw [devA_size];omega) (S k) (devA_ext _ _ _ _ _ hk)) ?_
    refine lead_nil ?_
    refine mid_nil ?_
    simp only [Act.put,List.setIfInBounds_toArray,List.set_cons_succ,List.set_cons_zero,List.filterMap_cons,List.getElem?_toArray,List.getElem?_cons_succ,List.getElem?_cons_zero,List.filterMap_nil]
    have c4:=k4.cell 0
    have c5:=k5.cell 0
    have f4:=k4.frozen 0
    have f5:=k5.frozen 0
    go_wp2_with fail
    refine NoPanic.normal ?_
    go_wp2_with fail
    have m4:=((k4.drewN 1).set 0 (.string (sb 256 (S k)))).setOther ⟨w.heap.size + 1 + 1,0,none⟩ (by simp) .nilIface
    have m5:=((k5.drewN 1).setOther ⟨w.heap.size + 1,0,none⟩ (by simp) (.string (sb 256 (S k)))).set 0 .nilIface
    have hK':(((W.setCell ⟨w.heap.size + 1,0,none⟩ (.string (sb 256 (S k)))).setCell ⟨w.heap.size + 1 + 1,0,none⟩ .nilIface).drew).heap[D]? = some (.deferred (some [])):=
      (Below.heap_setCell _ _ _ _ (by simp;omega)).trans ((Below.heap_setCell _ _ _ _ (by simp;omega)).trans hK)
    have hB':Below w.heap.size w (((W.setCell ⟨w.heap.size + 1,0,none⟩ (.string (sb 256 (S k)))).setCell ⟨w.heap.size + 1 + 1,0,none⟩ .nilIface).drew):=below_drewN ((hbW.setCell (by simp) _).setCell (by simp;omega) _) 1
    refine ⟨by simp,.inl ⟨_,_,rfl,run_takeDeferred hK',?_⟩⟩
    refine ⟨.tuple #[.string (sb 256 (S k)),.nilIface],?_,by rw [hrd.out],hB'.trans (below_putObj _ _ (by omega))⟩
    have r4:=(blk_putObj (w:=((W.setCell ⟨w.heap.size + 1,0,none⟩ (.string (sb 256 (S k)))).setCell ⟨w.heap.size + 1 + 1,0,none⟩ .nilIface).drew) m4 D (by omega) (.deferred none)).cell 0
    have r5:=(blk_putObj (w:=((W.setCell ⟨w.heap.size + 1,0,none⟩ (.string (sb 256 (S k)))).setCell ⟨w.heap.size + 1 + 1,0,none⟩ .nilIface).drew) m5 D (by omega) (.deferred none)).cell 0
    simp [results,Tryz.results296,go_sem,r4,r5]
  case stop =>
    rintro D W hD' ⟨hbW,k4,k5⟩ hK
    refine wpIn_wide.2 ?_
    go_wp2_with fail
    refine ⟨by simp,.inl ⟨_,_,rfl,run_takeDeferred hK,?_⟩⟩
    refine ⟨.tuple #[.string (sb 256 (readF S Wr k)),.nilIface],?_,rfl,hbW.trans (below_putObj _ _ (by omega))⟩
    have r4:=(blk_putObj k4 D (by omega) (.deferred none)).cell 0
    have r5:=(blk_putObj k5 D (by omega) (.deferred none)).cell 0
    simp [results,Tryz.results296,go_sem,r4,r5]
end Go.Proofs.YtjmpjfikcgccdaaGreatDoor.Dv
namespace Go.Proofs.YtjmpjfikcgccdaaGreatDoor.Dv
open Go.RowKit
abbrev Cnt (w:World) (c:Nat) (n:Int):Prop:=Blk w c #[.int .i64 n] 32
theorem raise_yes (c:Nat) (n m:Int) (w:World) (h:Cnt w c n) (hm:n < m) :
    Calls Tryz.prog 173 #[.pointer (some ⟨c,0,none⟩),.int .i64 m] w fun e w' => e = .returned .nilIface ∧ Cnt w' c m ∧ Upd w w' c:=by
  have c0:=h.cell 0
  have f0:=h.frozen 0
  have hd:decide (m <= n) = false:=by simp;omega
  go_enter Tryz.func173,Tryz.ntmps173
  go_wp2
  go_ret
  exact ⟨rfl,h.set 0 (.int .i64 m),setCell_upd _ _ _ _⟩
theorem get_any (c:Nat) (n:Int) (w:World) (h:Cnt w c n) :
    Calls Tryz.prog 171 #[.pointer (some ⟨c,0,none⟩)] w fun e w' => e = .returned (.int .i64 n) ∧ w' = w:=by
  have c0:=h.cell 0
  go_enter Tryz.func171,Tryz.ntmps171
  go_wp2
  go_ret
  exact ⟨rfl,rfl⟩
def Bd (B:Nat) (O:Nat -> Prop) (w:World):Prop:=∀ k,O k -> B <= k ∧ k < w.heap.size
theorem Bd.gro {B:Nat} {O:Nat -> Prop} {w w':World} (h:Bd B O w) (hB:B <= w.heap.size) (hz:w.heap.size <= w'.heap.size):Bd B (gro O w w') w':=
  fun k hk => hk.elim (fun h1 => ⟨(h k h1).1,Nat.lt_of_lt_of_le (h k h1).2 hz⟩) (fun h1 => ⟨Nat.le_trans hB h1.1,h1.2⟩)
theorem Bd.mono {B:Nat} {O:Nat -> Prop} {w w':World} (h:Bd B O w) (hz:w.heap.size <= w'.heap.size):Bd B O w':=fun k hk => ⟨(h k hk).1,Nat.lt_of_lt_of_le (h k hk).2 hz⟩
theorem Chg.low {w0 w w':World} {O:Nat -> Prop} {B:Nat} (h:Chg w w' O) (hb:Below B w0 w) (hB:B <= w.heap.size) (hO:Bd B O w):Below B w0 w':=h.to hb hB fun k hk => (hO k hk).1
end Go.Proofs.YtjmpjfikcgccdaaGreatDoor.Dv
