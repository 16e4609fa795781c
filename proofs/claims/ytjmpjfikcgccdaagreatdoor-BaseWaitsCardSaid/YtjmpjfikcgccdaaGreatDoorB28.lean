/-
  Part of the proof of BaseWaitsCard (D6 and on).
-/
import Derived.Test.YtjmpjfikcgccdaaGreatDoorB27
import Derived.Deep.RegionHeld3
import Derived.Test.YtjmpjfikcgccdaaGreatDoorB20
import Derived.Test.YtjmpjfikcgccdaaGreatDoorB24
import Derived.Test.YtjmpjfikcgccdaaGreatDoorB26
import Derived.Test.YtjmpjfikcgccdaaGreatDoorB03
namespace Go.Proofs.YtjmpjfikcgccdaaGreatDoor.Dv
open Go.RowKit Go.Shelf
attribute [local go_sem] Oper.semAt_some
def pAt (Wr:List (Nat × (Nat -> UInt8))) (i:Nat):Nat × (Nat -> UInt8):=(Wr[Wr.length - 1 - i]?).getD (0,fun _ => 0)
section
variable {P:Program} {a:Act} {w:World} {o:Oper}
theorem run_loadG (t:TypeId) (x:Operand) (ho:o.op = .load t x) (n:Nat) (hag:∀ w,(isAgg t).run P w = .ok true w) (hi0:(P.info? t).map (·.size) = some n)
    (b off:Nat) (arr:Array Value) (T:TypeId) (hx:a.eval x = .pointer (some ⟨b,off,none⟩)) (hb:Blk w b arr T) (hn:off + n <= arr.size):(execOp a.eval o).run P w = .ok (.value (.agg (arr.extract off (off + n)))) w:=by
  unfold execOp
  simp only [ho,hx,Instr.loadAt,Instr.sureAddr,Sem.run_bind,Sem.run_pure,Result.andThen_ok,loadVarG_run P w t n hag hi0 b off arr T hb hn]
theorem run_storeAt (t:TypeId) (x y:Operand) (ho:o.op = .store t x y) (n:Nat) (hi0:(P.info? t).map (·.size) = some n)
    (b off:Nat) (arr:Array Value) (T:TypeId) (vs:Array Value) (hx:a.eval x = .pointer (some ⟨b,off,none⟩)) (hy:a.eval y = .agg vs) (hvs:vs.size = n) (h1:∀ v ∈ vs.toList,v.oneCell' = true) (hb:Blk w b arr T) (hn:off + n <= arr.size) :
    (execOp a.eval o).run P w = .ok .skip (putBlk w b (.cells (foldset arr off vs.toList) T)):=by
  obtain ⟨i,hi,hsize⟩:=Option.map_eq_some_iff.1 hi0
  unfold execOp
  have hl:=storeCells_at P w b off hb.lt T vs.toList 0 arr (by simp [hvs];omega) h1
  rw [putBlk_self hb] at hl
  simp only [ho,hx,hy,Instr.storeAt,Instr.sureAddr,storeVar,sizeOf,typeInfo,hi,hsize,Sem.run_bind,Sem.run_pure,run_program,Result.andThen_ok,Value.cells,hvs,ne_eq,not_true,if_false,hl]
  rfl
theorem run_sb (src dst e:TypeId) (x:Operand) (ho:o.op = .convert src dst x) (hs:P.underlying src = some (.slice e)) (he:P.underlying e = some (.int .u8)) (hd:P.underlying dst = some .string)
    (b off n cap:Nat) (arr:Array Value) (T:TypeId) (hx:a.eval x = .slice (some ⟨b,off,none⟩) n cap) (hb:Blk w b arr T) (hn:off + n <= arr.size) (f:Nat -> UInt8) (hl:arr.extract off (off + n) = tb n f) :
    (execOp a.eval o).run P w = .ok (.value (.string (sb n f))) w:=by
  unfold execOp
  simp only [ho,hx,Sem.run_bind,Sem.run_pure,Result.andThen_ok,run_convert_bytes_string w src dst e _ _ _ hs he hd,bytes_run P w b off n cap arr T hb hn ((List.range n).map f) (by rw [hl];simp [tb,Lib.byteCells])]
  rfl
end
set_option maxRecDepth 100000 in
set_option maxHeartbeats 1000000 in
theorem back_gives (n b:Nat) (hn:1 <= n) (O:Nat -> Prop) (S:Nat -> Nat -> UInt8) (Wr:List (Nat × (Nat -> UInt8))) (Fu:Int) (v:Value) (lf:Int) (I:Nat -> World -> Prop) (hID:∀ i W,I i W -> Dev W O b S Wr Fu v lf) (hlen:Wr.length <= 1000) :
    Gives Fence.wide n Tryz.prog 338 (.pointer (some ⟨b,0,none⟩)) (fun i => #[.agg (wrC (pAt Wr i)).toArray]) Wr.length I:=by
  intro l J Jx W hJI hY h0
  have hD:=hID 0 W (hJI 0 W h0)
  obtain ⟨ao,cap,hv,_,_⟩:=hD.form
  subst hv
  have c0:=hD.c0
  refine callsIn_of_wp Tryz.func338 rfl trivial ?_ rfl
  simp only [Tryz.ntmps338,List.size_toArray,List.length_cons,List.length_nil,Nat.reduceAdd,Nat.reduceSub,Array.replicate_succ,Array.replicate_zero,List.push_toArray,List.append_toArray,List.nil_append,List.cons_append]
  gi_wp2
  clear c0
  gi_loopw [4] (fun p wr => ∃ i:Nat,i <= Wr.length ∧ p = .int .i64 ((Wr.length:Int) - 1 - i) ∧ J i wr) (fun p _ => (intOf p + 1).toNat)
  case atStart => exact ⟨0,by omega,by simp,h0⟩
  case round =>
    obtain ⟨i,hi,rfl,hJ⟩:=hrel
    by_cases hlt:i < Wr.length
    · obtain ⟨t,ht⟩:∃ t:Nat,t = Wr.length - 1 - i:=⟨_,rfl⟩
      have e:(Wr.length:Int) - 1 - i = (t:Int):=by omega
      have htl:t < Wr.length:=by omega
      have hD1:=hID i wr (hJI i wr hJ)
      obtain ⟨ao',cap',hv',_,hf⟩:=hD1.form
      obtain ⟨rfl,_,rfl⟩:ao = ao' ∧ Wr.length = Wr.length ∧ cap = cap':=by injection hv' with a1 a2 a3;exact ⟨a1,a2,a3⟩
      obtain ⟨g,cur,rfl,hg,hcs,hce⟩:=hf t Wr[t] (List.getElem?_eq_getElem htl)
      have hp:Hid (Wr[t] = pAt Wr i):=by unfold Hid pAt;rw [<- ht,List.getElem?_eq_getElem htl];rfl
      rw [hp.out] at hce
      have c1:=hD1.c0
      rw [e]
      obtain ⟨fn,tmps,assign,body,hy,hR⟩:=hY i wr hlt hJ
      generalize pAt Wr i = p at *
      have h0t:(0:Int) <= (t:Int):=by omega
      have h1t:(t:Int) < (Wr.length:Int):=by omega
      clear hp ht
      gi_wp2_with (refine wplIn_run (fun _ => trivial) rfl (fun _ => by simp) (.agg (wrC p).toArray) _ (by rw [<- hce];exact run_loadG 168 _ rfl 257 Tryz.isAgg168 szWr g (t * 257) cur 168 rfl hg hcs) ?_)
      refine hR.mono ?_
      rintro e' W3 (⟨rfl,hJ3⟩ | ⟨rfl,hJx3⟩)
      · gi_wp2
        go_light
        exact ⟨⟨i + 1,by omega,by go_num,hJ3⟩,by simp [intOf]⟩
      · gi_wp2
        refine bodyPost_ret (results_none rfl _ _ _) rfl ?_
        exact ⟨⟨_,rfl⟩,.inr hJx3⟩
    · have hi':i = Wr.length:=by omega
      subst hi'
      rw [show (Wr.length:Int) - 1 - Wr.length = -1 from by omega]
      gi_wp2
      go_end0
      exact ⟨⟨_,rfl⟩,.inl hJ⟩
def readF (S:Nat -> Nat -> UInt8) (Wr:List (Nat × (Nat -> UInt8))) (k:Nat):Nat -> UInt8:=Wr.foldl (fun g p => if p.1 = k then p.2 else g) (S k)
theorem readF_snoc (S:Nat -> Nat -> UInt8) (Wr:List (Nat × (Nat -> UInt8))) (p:Nat × (Nat -> UInt8)) (k:Nat):readF S (Wr ++ [p]) k = if p.1 = k then p.2 else readF S Wr k:=by simp [readF]
theorem take_pAt (Wr:List (Nat × (Nat -> UInt8))) (i:Nat) (h:i < Wr.length):Wr.take (Wr.length - i) = Wr.take (Wr.length - (i + 1)) ++ [pAt Wr i]:=by
  unfold pAt
  rw [show Wr.length - i = Wr.length - 1 - i + 1 from by omega,List.take_add_one,show Wr.length - (i + 1) = Wr.length - 1 - i from by omega,List.getElem?_eq_getElem (by omega)]
  rfl
theorem readF_at {S:Nat -> Nat -> UInt8} {Wr:List (Nat × (Nat -> UInt8))} {k i:Nat} (h:i < Wr.length):readF S (Wr.take (Wr.length - i)) k = if (pAt Wr i).1 = k then (pAt Wr i).2 else readF S (Wr.take (Wr.length - (i + 1))) k:=by
  rw [take_pAt Wr i h,readF_snoc]
theorem blk_putObj {w:World} {c:Nat} {arr:Array Value} {T:TypeId} (h:Blk w c arr T) (D:Nat) (hne:c ≠ D) (o:Obj):Blk (w.putObj D o) c arr T:=by
  unfold Blk at *;rw [World.putObj_heap_other hne];exact h
set_option maxRecDepth 100000 in
set_option maxHeartbeats 1000000 in
theorem read_ok (b:Nat) (O:Nat -> Prop) (S:Nat -> Nat -> UInt8) (Wr:List (Nat × (Nat -> UInt8))) (Fu:Int) (v:Value) (lf:Int) (k:Nat) (w:World) (hD:Dev w O b S Wr Fu v lf) (hk:k < 66) (hlen:Wr.length <= 1000) :
    Calls Tryz.prog 296 #[.pointer (some ⟨b,0,none⟩),.int .i64 (k:Int)] w fun e w' => e = .returned (.tuple #[.string (sb 256 (readF S Wr k)),.nilIface]) ∧ Below w.heap.size w w':=by
  have d:decide (0 <= (k:Int) ∧ (k:Int) < 66) = true:=decide_eq_true (by omega)
  have lb:=hD.blk.lt
  refine (callsIn_wide (n:=10)).1 ?_
  refine callsIn_of_wp_marks Tryz.func296 rfl trivial ?_ rfl
  refine wpIn_wide.2 ?_
  simp only [Tryz.ntmps296,List.size_toArray,List.length_cons,List.length_nil,Nat.reduceAdd,Nat.reduceSub,Array.replicate_succ,Array.replicate_zero,List.push_toArray,List.append_toArray,List.nil_append,List.cons_append]
  go_wp2_with (go_at_call 324;refine (has_any _ _ _).mono ?_;rintro e w' ⟨rfl,rfl⟩;rw [d])
  have j3:=((Blk.new w #[.int .i64 (k:Int)] 3).alloc (.cells #[.string ⟨#[]⟩] 9)).alloc (.cells #[.nilIface] 40)
  have j4:=(Blk.new' (w.alloc (.cells #[.int .i64 (k:Int)] 3)) #[.string ⟨#[]⟩] 9 (b:=w.heap.size + 1) (by simp)).alloc (.cells #[.nilIface] 40)
  have j5:=Blk.new' ((w.alloc (.cells #[.int .i64 (k:Int)] 3)).alloc (.cells #[.string ⟨#[]⟩] 9)) #[.nilIface] 40 (b:=w.heap.size + 1 + 1) (by simp)
  have g0:=(((Below.refl w.heap.size w).alloc (Nat.le_refl _) (.cells #[.int .i64 (k:Int)] 3)).alloc (by simp) (.cells #[.string ⟨#[]⟩] 9)).alloc (by simp;omega) (.cells #[.nilIface] 40)
  have hsz:(((w.alloc (.cells #[.int .i64 (k:Int)] 3)).alloc (.cells #[.string ⟨#[]⟩] 9)).alloc (.cells #[.nilIface] 40)).heap.size = w.heap.size + 3:=by simp
  obtain ⟨W0,hW0⟩:∃ W0,((w.alloc (.cells #[.int .i64 (k:Int)] 3)).alloc (.cells #[.string ⟨#[]⟩] 9)).alloc (.cells #[.nilIface] 40) = W0:=⟨_,rfl⟩
  rw [hW0] at j3 j4 j5 g0 hsz ⊢
  clear hW0
  have stay:∀ (X Y:World) (c:Nat) (arr:Array Value) (T:TypeId),Below W0.heap.size X Y -> c < W0.heap.size -> Blk X c arr T -> Blk Y c arr T:=fun X Y c arr T h hc hb => by unfold Blk at *;rw [h.block c hc];exact hb
  refine wpIn_wide.1 (range_bound (F:=Fence.wide) (n:=10) rfl (by decide) 338 (.pointer (some ⟨b,0,none⟩)) rfl trivial (enters_of Tryz.func338 (by kernel_rfl) rfl) (fun i => #[.agg (wrC (pAt Wr i)).toArray]) Wr.length (fun _ => rfl)
    (fun i W => readF S Wr k = readF S (Wr.take (Wr.length - i)) k ∧ Below w.heap.size w W ∧ Blk W w.heap.size #[.int .i64 (k:Int)] 3 ∧ Blk W (w.heap.size + 1) #[.string ⟨#[]⟩] 9 ∧ Blk W (w.heap.size + 1 + 1) #[.nilIface] 40)
    (fun W => Below w.heap.size w W ∧ Blk W (w.heap.size + 1) #[.string (sb 256 (readF S Wr k))] 9 ∧ Blk W (w.heap.size + 1 + 1) #[.nilIface] 40)
    (fun i X Y hb h => ⟨h.1,h.2.1.trans (hb.mono (by omega)),stay X Y _ _ _ hb (by omega) h.2.2.1,stay X Y _ _ _ hb (by omega) h.2.2.2.1,stay X Y _ _ _ hb (by omega) h.2.2.2.2⟩)
    (fun X Y hb h => ⟨h.1.trans (hb.mono (by omega)),stay X Y _ _ _ hb (by omega) h.2.1,stay X Y _ _ _ hb (by omega) h.2.2⟩)
    ⟨by simp,g0,j3,j4,j5⟩ (back_gives 9 b (by decide) O S Wr Fu v lf _ (fun i W h => hD.below h.2.1) hlen)
    (fun i a' W => ∃ Bx,Blk W Bx (wrC (pAt Wr i)).toArray 168 ∧ a' = { tmps:=#[.pointer (some ⟨b,0,none⟩),.int .i64 (k:Int),undef,.pointer (some ⟨w.heap.size,0,none⟩),.pointer (some ⟨w.heap.size + 1,0,none⟩),.pointer (some ⟨w.heap.size + 1 + 1,0,none⟩),.pointer (some ⟨Bx,0,none⟩),.pointer (some ⟨b,0,none⟩),.int .i64 (k:Int),.bool true,.bool false,undef,.pointer (some ⟨b,0,none⟩),.func (.func 338) #[.pointer (some ⟨b,0,none⟩)] #[],.agg (wrC (pAt Wr i)).toArray,undef,undef,undef,undef,undef,undef,undef,undef,undef,undef,undef,undef,undef,undef],defers:=[] })
    ?hAx ?assign ?body ?done ?stop)
  case hAx =>
    rintro i a' W o ho o' ⟨Bx,h2,h3⟩
    refine ⟨Bx,?_,h3⟩
    unfold Blk at *
    rw [World.putObj_heap_other (fun e => by rw [e,ho] at h2;cases h2)];exact h2
  case assign =>
    rintro i W K hi ⟨_,hbW,_,_,_⟩ hK
    have hzW:=hbW.size
    generalize pAt Wr i = p at *
    gi_wp2_with (refine wplIn_skip (fun _ => trivial) rfl (fun _ => by simp) rfl _ (run_storeAt 168 _ _ rfl 257 szWr _ 0 _ 168 (wrC p).toArray rfl rfl (by simp [wrC_len]) (by simpa using wrC_one p) (Blk.new _ _ _) (by rw [Tryz.zeroCells168_size];omega)) ?_)
    refine hK _ _ (below_put ((Below.refl _ _).alloc (Nat.le_refl _) _) (Nat.le_refl _) _) ⟨W.heap.size,?_,rfl⟩
    have:=putBlk_blk (arr':=foldset Tryz.zeroCells168 0 (wrC p)) (T':=168) (Blk.new W Tryz.zeroCells168 168)
    rw [foldset_all _ _ (by rw [Tryz.zeroCells168_size,wrC_len])] at this ⊢
    exact this
  case body =>
    rintro i a' W hi ⟨hr,hbW,k3,k4,k5⟩ ⟨Bx,hx,rfl⟩
    have e:=readF_at (S:=S) (k:=k) hi
    have hr':Hid (readF S Wr k = if (pAt Wr i).1 = k then (pAt Wr i).2 else readF S (Wr.take (Wr.length - (i + 1))) k):=hr.trans e
    clear hr e
    generalize pAt Wr i = p at *
    have c0:W.cell? ⟨Bx,0,none⟩ = some (.int .i64 (p.1:Int)):=by rw [hx.cell];rfl
    have c3:=k3.cell 0
    have c4:=k4.cell 0
    have c5:=k5.cell 0
    have f4:=k4.frozen 0
    have f5:=k5.frozen 0
    by_cases hpk:p.1 = k
    · have hpe:((p.1:Int) == (k:Int)) = true:=by simp [hpk]
      gi_wp2_with (refine wplIn_run (fun _ => trivial) rfl (fun _ => by simp) (.string (sb 256 p.2)) _ (run_sb 180 9 5 _ rfl Tryz.underlying180 Tryz.underlying5 Tryz.underlying9 Bx 1 256 256 _ 168 rfl hx (by simp [wrC_len]) p.2 (wr_what p)) ?_)
      have hrd:readF S Wr k = p.2:=by rw [hr'.out,if_pos hpk]
      have m4:=(k4.set 0 (.string (sb 256 p.2))).setOther ⟨w.heap.size + 1 + 1,0,none⟩ (by simp) .nilIface
      have m5:=(k5.setOther ⟨w.heap.size + 1,0,none⟩ (by simp) (.string (sb 256 p.2))).set 0 .nilIface
      refine ⟨((KeepsOthers.setCell _ _ _).trans (KeepsOthers.setCell _ _ _)).from _,(hbW.setCell (by simp) _).setCell (by simp;omega) _,?_,m5⟩
      rw [hrd];exact m4
    · have hpe:((p.1:Int) == (k:Int)) = false:=by simp;omega
      gi_wp2
      exact ⟨KeepsFrom.refl _ _,hr'.out.trans (if_neg hpk),hbW,k3,k4,k5⟩
  case done =>
    rintro D W hD' ⟨hr,hbW,k3,k4,k5⟩ hK
    have hrd:Hid (readF S Wr k = S k):=by unfold Hid;rw [hr,Nat.sub_self];rfl
    clear hr
    have hDW:=hD.below hbW
    have hk0:(0:Int) <= (k:Int):=by omega
    have hk1:(k:Int) < 66:=by omega
    go_wp2_with fail
    refine wp_region_noPanic ?_
    refine region_s [(0,true),(1,false),(2,true),(3,true),(4,true),(5,true),(6,false)] [] [7,8] (fun w' => Blk w' w.heap.size #[.int .i64 (k:Int)] 3 ∧ Blk w' b (devA S v (decide (0 <= Fu)) lf) 117) mixed (by kernel_rfl) (fun _ _ _ _ _ h => h) ⟨k3.drewN 1,(hDW.drewN 1).blk⟩ ?_
    repeat (refine lead_pure _ rfl _ rfl rfl _ (fun w' => by go_simp;rfl) ?_)
    refine lead_read _ rfl _ rfl rfl (.int .i64 (k:Int)) (fun w' hS => by have c:=hS.1.cell 0;go_simp) ?_
    repeat (refine lead_pure _ rfl _ rfl rfl _ (fun w' => by go_simp;rfl) ?_)
    refine lead_read _ rfl _ rfl rfl (.string (sb 256 (S k))) (fun w' hS => run_sb 180 9 5 _ rfl Tryz.underlying180 Tryz.underlying5 Tryz.underlying9 b (k * 256) 256 256 _ 117 rfl hS.2 (by rw [devA_size];omega) (S k) (devA_ext _ _ _ _ _ hk)) ?_
    refine lead_nil ?_
    refine mid_nil ?_
    simp only [Act.put,List.setIfInBounds_toArray,List.set_cons_succ,List.set_cons_zero,List.filterMap_cons,List.getElem?_toArray,List.getElem?_cons_succ,List.getElem?_cons_zero,List.filterMap_nil]
    have c4:=k4.cell 0
    have c5:=k5.cell 0
    have f4:=k4.frozen 0
    have f5:=k5.frozen 0
    go_wp2_with fail
    refine NoPanic.normal ?_
    go_wp2_with fail
    have m4:=((k4.drewN 1).set 0 (.string (sb 256 (S k)))).setOther ⟨w.heap.size + 1 + 1,0,none⟩ (by simp) .nilIface
    have m5:=((k5.drewN 1).setOther ⟨w.heap.size + 1,0,none⟩ (by simp) (.string (sb 256 (S k)))).set 0 .nilIface
    have hK':(((W.setCell ⟨w.heap.size + 1,0,none⟩ (.string (sb 256 (S k)))).setCell ⟨w.heap.size + 1 + 1,0,none⟩ .nilIface).drew).heap[D]? = some (.deferred (some [])):=
      (Below.heap_setCell _ _ _ _ (by simp;omega)).trans ((Below.heap_setCell _ _ _ _ (by simp;omega)).trans hK)
    have hB':Below w.heap.size w (((W.setCell ⟨w.heap.size + 1,0,none⟩ (.string (sb 256 (S k)))).setCell ⟨w.heap.size + 1 + 1,0,none⟩ .nilIface).drew):=below_drewN ((hbW.setCell (by simp) _).setCell (by simp;omega) _) 1
    refine ⟨by simp,.inl ⟨_,_,rfl,run_takeDeferred hK',?_⟩⟩
    refine ⟨.tuple #[.string (sb 256 (S k)),.nilIface],?_,by rw [hrd.out],hB'.trans (below_putObj _ _ (by omega))⟩
    have r4:=(blk_putObj (w:=((W.setCell ⟨w.heap.size + 1,0,none⟩ (.string (sb 256 (S k)))).setCell ⟨w.heap.size + 1 + 1,0,none⟩ .nilIface).drew) m4 D (by omega) (.deferred none)).cell 0
    have r5:=(blk_putObj (w:=((W.setCell ⟨w.heap.size + 1,0,none⟩ (.string (sb 256 (S k)))).setCell ⟨w.heap.size + 1 + 1,0,none⟩ .nilIface).drew) m5 D (by omega) (.deferred none)).cell 0
    simp [results,Tryz.results296,go_sem,r4,r5]
  case stop =>
    rintro D W hD' ⟨hbW,k4,k5⟩ hK
    refine wpIn_wide.2 ?_
    go_wp2_with fail
    refine ⟨by simp,.inl ⟨_,_,rfl,run_takeDeferred hK,?_⟩⟩
    refine ⟨.tuple #[.string (sb 256 (readF S Wr k)),.nilIface],?_,rfl,hbW.trans (below_putObj _ _ (by omega))⟩
    have r4:=(blk_putObj k4 D (by omega) (.deferred none)).cell 0
    have r5:=(blk_putObj k5 D (by omega) (.deferred none)).cell 0
    simp [results,Tryz.results296,go_sem,r4,r5]
end Go.Proofs.YtjmpjfikcgccdaaGreatDoor.Dv
namespace Go.Proofs.YtjmpjfikcgccdaaGreatDoor.Dv
open Go.RowKit
abbrev Cnt (w:World) (c:Nat) (n:Int):Prop:=Blk w c #[.int .i64 n] 32
theorem raise_yes (c:Nat) (n m:Int) (w:World) (h:Cnt w c n) (hm:n < m) :
    Calls Tryz.prog 173 #[.pointer (some ⟨c,0,none⟩),.int .i64 m] w fun e w' => e = .returned .nilIface ∧ Cnt w' c m ∧ Upd w w' c:=by
  have c0:=h.cell 0
  have f0:=h.frozen 0
  have hd:decide (m <= n) = false:=by simp;omega
  go_enter Tryz.func173,Tryz.ntmps173
  go_wp2
  go_ret
  exact ⟨rfl,h.set 0 (.int .i64 m),setCell_upd _ _ _ _⟩
theorem get_any (c:Nat) (n:Int) (w:World) (h:Cnt w c n) :
    Calls Tryz.prog 171 #[.pointer (some ⟨c,0,none⟩)] w fun e w' => e = .returned (.int .i64 n) ∧ w' = w:=by
  have c0:=h.cell 0
  go_enter Tryz.func171,Tryz.ntmps171
  go_wp2
  go_ret
  exact ⟨rfl,rfl⟩
def Bd (B:Nat) (O:Nat -> Prop) (w:World):Prop:=∀ k,O k -> B <= k ∧ k < w.heap.size
theorem Bd.gro {B:Nat} {O:Nat -> Prop} {w w':World} (h:Bd B O w) (hB:B <= w.heap.size) (hz:w.heap.size <= w'.heap.size):Bd B (gro O w w') w':=
  fun k hk => hk.elim (fun h1 => ⟨(h k h1).1,Nat.lt_of_lt_of_le (h k h1).2 hz⟩) (fun h1 => ⟨Nat.le_trans hB h1.1,h1.2⟩)
theorem Bd.mono {B:Nat} {O:Nat -> Prop} {w w':World} (h:Bd B O w) (hz:w.heap.size <= w'.heap.size):Bd B O w':=fun k hk => ⟨(h k hk).1,Nat.lt_of_lt_of_le (h k hk).2 hz⟩
theorem Chg.low {w0 w w':World} {O:Nat -> Prop} {B:Nat} (h:Chg w w' O) (hb:Below B w0 w) (hB:B <= w.heap.size) (hO:Bd B O w):Below B w0 w':=h.to hb hB fun k hk => (hO k hk).1
end Go.Proofs.YtjmpjfikcgccdaaGreatDoor.Dv
namespace Go.Proofs.YtjmpjfikcgccdaaGreatDoor.Vt
open Go.RowKit
def ent (x:Int × ByteArray):Value:=.agg #[.int .i64 x.1,.string x.2]
def ent0:Int × ByteArray:=(0,⟨#[]⟩)
def pv (p:Int -> Option (Int × ByteArray)) (i:Int):Option Value:=(p i).map ent
def rd (p:Int -> Option (Int × ByteArray)) (i:Int):Int × ByteArray:=(p i).getD ent0
theorem pv_get (p:Int -> Option (Int × ByteArray)) (i:Int):(pv p i).getD (ent ent0) = ent (rd p i):=by
  unfold pv rd;cases p i <;> rfl
def sv (g:Int -> Option ByteArray) (i:Int):Option Value:=(g i).map Value.string
theorem kOk_small {i:Int} (h0:0 <= i) (h1:i < 32):kOk i:=by
  have h1:IntKind.min .i64 = -9223372036854775808:=by decide
  have h2:IntKind.max .i64 = 9223372036854775807:=by decide
  show (decide (IntKind.min .i64 <= i) && decide (i <= IntKind.max .i64)) = true
  rw [h1,h2,decide_eq_true (by omega),decide_eq_true (by omega)];rfl
theorem und3:Tryz.prog.underlying 3 = some (.int .i64):=Tryz.underlying3
theorem undE:Tryz.prog.underlying 187 = some (.map 3 227):=Tryz.underlying187
theorem undS:Tryz.prog.underlying 148 = some (.map 3 9):=Tryz.underlying148
theorem zeroE:∀ w,(zeroValue 227).run Tryz.prog w = .ok (ent ent0) w:=Tryz.zeroValue227
theorem szE:(Tryz.prog.info? 227).map (·.size) = some 2:=by kernel_rfl
theorem szSt:(Tryz.prog.info? 189).map (·.size) = some 36:=by kernel_rfl
def stA (c e:Int) (f:Nat -> Bool) (r:ByteArray) (m:Value):Array Value:=Su.supA c e f r ++ #[m]
section
variable (c e:Int) (f:Nat -> Bool) (r:ByteArray) (m:Value)
theorem stA_size:(stA c e f r m).size = 36:=by simp [stA,Su.supA_size]
theorem stA_lo (j:Nat) (h:j < 35):(stA c e f r m)[j]? = (Su.supA c e f r)[j]?:=by
  unfold stA;rw [Array.getElem?_append_left (by rw [Su.supA_size];exact h)]
theorem stA_0:(stA c e f r m)[0]? = some (.int .i64 c):=by rw [stA_lo _ _ _ _ _ _ (by decide),Su.supA_0]
theorem stA_1:(stA c e f r m)[1]? = some (.int .i64 e):=by rw [stA_lo _ _ _ _ _ _ (by decide),Su.supA_1]
theorem stA_side (j:Nat) (h:j < 32):(stA c e f r m)[2 + j]? = some (.bool (f j)):=by rw [stA_lo _ _ _ _ _ _ (by omega),Su.supA_side _ _ _ _ _ h]
theorem stA_35:(stA c e f r m)[35]? = some m:=by
  unfold stA;rw [Array.getElem?_append_right (by rw [Su.supA_size];decide),Su.supA_size];rfl
theorem stA_sup (n:Nat) (h:0 + 35 = n):(stA c e f r m).extract 0 n = Su.supA c e f r:=by
  subst h
  apply Array.ext_getElem?;intro j
  by_cases hj:j < 35
  · rw [Array.getElem?_extract,if_pos (by rw [stA_size];omega),Nat.zero_add,stA_lo _ _ _ _ _ _ hj]
  · rw [Array.getElem?_eq_none (by rw [Array.size_extract,stA_size];omega),Array.getElem?_eq_none (by rw [Su.supA_size];omega)]
theorem stA_one (hm:m.oneCell' = true):∀ v ∈ (stA c e f r m).toList,v.oneCell' = true:=by
  intro v hv
  simp only [stA,Array.toList_append,List.mem_append] at hv
  rcases hv with hv | hv
  · exact Su.supA_one _ _ _ _ v hv
  · simp at hv;subst hv;exact hm
theorem stA_put (k:Nat) (hk:k < 32) (v:Bool):(stA c e f r m).setIfInBounds (2 + k) (.bool v) = stA c e (Su.putF f k v) r m:=by
  unfold stA;rw [Array.setIfInBounds_append_left (by rw [Su.supA_size];omega),Su.supA_put _ _ _ _ _ hk]
theorem stA_set0 (x:Int):(stA c e f r m).setIfInBounds 0 (.int .i64 x) = stA x e f r m:=by
  unfold stA Su.supA;rw [Array.setIfInBounds_append_left (by simp [Su.bl_size]),Array.setIfInBounds_append_left (by simp [Su.bl_size]),Array.setIfInBounds_append_left (by simp)];rfl
theorem stA_set1 (x:Int):(stA c e f r m).setIfInBounds 1 (.int .i64 x) = stA c x f r m:=by
  unfold stA Su.supA;rw [Array.setIfInBounds_append_left (by simp [Su.bl_size]),Array.setIfInBounds_append_left (by simp [Su.bl_size]),Array.setIfInBounds_append_left (by simp)];rfl
theorem stA_set34 (x:ByteArray):(stA c e f r m).setIfInBounds 34 (.string x) = stA c e f x m:=by
  unfold stA Su.supA;rw [Array.setIfInBounds_append_left (by simp [Su.bl_size]),Array.setIfInBounds_append_right (by simp [Su.bl_size])];simp [Su.bl_size]
end
def vaA (d c:Nat) (sec:ByteArray) (st:Array Value) (stuck:Bool):Array Value:=#[.pointer (some ⟨d,0,none⟩),.pointer (some ⟨c,0,none⟩),.string sec] ++ st ++ #[.bool stuck]
section
variable (d c:Nat) (sec:ByteArray) (st:Array Value) (stuck:Bool)
theorem vaA_size (hs:st.size = 36):(vaA d c sec st stuck).size = 40:=by simp [vaA,hs]
theorem vaA_0:(vaA d c sec st stuck)[0]? = some (.pointer (some ⟨d,0,none⟩)):=by
  unfold vaA;rw [Array.getElem?_append_left (by simp;omega),Array.getElem?_append_left (by simp)];rfl
theorem vaA_1:(vaA d c sec st stuck)[1]? = some (.pointer (some ⟨c,0,none⟩)):=by
  unfold vaA;rw [Array.getElem?_append_left (by simp;omega),Array.getElem?_append_left (by simp)];rfl
theorem vaA_2:(vaA d c sec st stuck)[2]? = some (.string sec):=by
  unfold vaA;rw [Array.getElem?_append_left (by simp;omega),Array.getElem?_append_left (by simp)];rfl
theorem vaA_st (hs:st.size = 36) (j:Nat) (h:j < 36):(vaA d c sec st stuck)[3 + j]? = st[j]?:=by
  unfold vaA
  rw [Array.getElem?_append_left (by simp [hs];omega),Array.getElem?_append_right (by simp)]
  simp
theorem vaA_39 (hs:st.size = 36):(vaA d c sec st stuck)[39]? = some (.bool stuck):=by
  unfold vaA;rw [Array.getElem?_append_right (by simp [hs])];simp [hs]
theorem vaA_now (hs:st.size = 36):(vaA d c sec st stuck).extract 3 (3 + 36) = st:=by
  apply Array.ext_getElem?;intro j
  by_cases hj:j < 36
  · rw [Array.getElem?_extract,if_pos (by rw [vaA_size _ _ _ _ _ hs];omega),vaA_st _ _ _ _ _ hs _ hj]
  · rw [Array.getElem?_eq_none (by rw [Array.size_extract,vaA_size _ _ _ _ _ hs];omega),Array.getElem?_eq_none (by omega)]
end
theorem isPage_any (id:Int) (w:World):Calls Tryz.prog 174 #[.int .i64 id] w fun e w' => e = .returned (.bool (decide (0 <= id ∧ id < 32))) ∧ w' = w:=by
  by_cases h:0 <= id
  · go_enter Tryz.func174,Tryz.ntmps174
    go_wp2
    go_ret
    refine ⟨?_,rfl⟩
    simp [h]
  · have d:decide ((0:Int) <= id) = false:=decide_eq_false h
    go_enter Tryz.func174,Tryz.ntmps174
    go_wp2
    go_ret
    refine ⟨?_,rfl⟩
    simp
theorem superPlace_any (n:Nat) (w:World) (hn:n < 9007199254740992):Calls Tryz.prog 215 #[.int .i64 (n:Int)] w fun e w' => e = .returned (.int .i64 ((n % 2:Nat):Int)) ∧ w' = w:=by
  have e1:(n:Int).tmod 2 = ((n % 2:Nat):Int):=by rw [Int.tmod_eq_emod_of_nonneg (by omega)];omega
  go_enter Tryz.func215,Tryz.ntmps215
  go_wp2
  go_ret
  exact ⟨rfl,rfl⟩
theorem parts1 {w:World} {b:Nat} {T:TypeId} {x:ByteArray} (h:Blk w b #[.string x] T):Sm.Parts w (some ⟨b,0,none⟩) 1 [x]:=by
  refine ⟨rfl,fun j hj => ?_⟩
  have hc:=h.cell j
  match j,hj with
  | 0,_ => exact ⟨b,0,x,rfl,h.lt,hc,rfl⟩
theorem mark1 {k:Int} (hk:k = 115) {b:Nat} {T:TypeId} {x:ByteArray} {w:World} (h:Blk w b #[.string x] T) (hx:x.size <= 300) (hK:Sm.KB w) :
    Calls Tryz.prog 273 #[.int .u8 k,.slice (some ⟨b,0,none⟩) 1 1] w fun e w' => e = .returned (.string (Pg.mk 115 [x])) ∧ Below w.heap.size w w':=by
  subst hk;exact Sm.mark_any 115 _ 1 1 _ w (parts1 h) (by decide) (fun p hp => by simp at hp;subst hp;exact hx) hK
theorem mark2k {k:Int} (hk:k = 107) {b:Nat} {T:TypeId} {x y:ByteArray} {w:World} (h:Blk w b #[.string x,.string y] T) (hx:x.size <= 300) (hy:y.size <= 300) (hK:Sm.KB w) :
    Calls Tryz.prog 273 #[.int .u8 k,.slice (some ⟨b,0,none⟩) 2 2] w fun e w' => e = .returned (.string (Pg.mk 107 [x,y])) ∧ Below w.heap.size w w':=by
  subst hk;exact Sm.mark_any 107 _ 2 2 _ w (Su.parts2 h) (by decide) (Su.all2 hx hy) hK
def supK (sec:ByteArray):ByteArray:=Sm.sumS (Pg.mk 115 [sec])
def epoK (sec:ByteArray) (n:Int):ByteArray:=Sm.sumS (Pg.mk 107 [sec,Pg.numS n])
theorem supK_size (sec:ByteArray):(supK sec).size = 32:=Pg.sumS_size _
theorem epoK_size (sec:ByteArray) (n:Int):(epoK sec n).size = 32:=Pg.sumS_size _
set_option maxRecDepth 100000 in
set_option maxHeartbeats 400000 in
theorem superKey_any (sec:ByteArray) (w:World) (hs:sec.size <= 300) (hK:Sm.KB w):Calls Tryz.prog 213 #[.string sec] w fun e w' => e = .returned (.string (supK sec)) ∧ Below w.heap.size w w':=by
  have zm:=Pg.mk_size 115 [sec]
  go_enter Tryz.func213,Tryz.ntmps213
  go_wp2_with fail
  have g:=Pg.below_alloc w (.cells #[.string sec] 9)
  refine (mark1 rfl (Blk.new w _ 9) hs (hK.below g)).mono ?_
  rintro e w2 ⟨rfl,g2⟩
  have b2:=g.trans (g2.mono g.size)
  go_wp2_with fail
  refine (Sm.sum_any _ _ (by omega) (hK.below b2)).mono ?_
  rintro e w3 ⟨rfl,g3⟩
  go_wp2
  go_ret
  exact ⟨rfl,b2.trans (g3.mono b2.size)⟩
set_option maxRecDepth 100000 in
set_option maxHeartbeats 400000 in
theorem epochKey_any (sec:ByteArray) (n:Int) (w:World) (hs:sec.size <= 300) (hK:Sm.KB w):Calls Tryz.prog 250 #[.string sec,.int .i64 n] w fun e w' => e = .returned (.string (epoK sec n)) ∧ Below w.heap.size w w':=by
  have zm:=Pg.mk_size 107 [sec,Pg.numS n]
  have zn:=Pg.numS_size n
  go_enter Tryz.func250,Tryz.ntmps250
  go_wp2_with fail
  refine (Pg.num_s n _).mono ?_
  rintro e w1 ⟨rfl,g1⟩
  go_wp2_with fail
  have g:=Pg.below_alloc w1 (.cells #[.string sec,.string (Pg.numS n)] 9)
  have b1:=g1.trans (g.mono g1.size)
  refine (mark2k rfl (Blk.new w1 _ 9) hs (by omega) (hK.below b1)).mono ?_
  rintro e w2 ⟨rfl,g2⟩
  have b2:=b1.trans (g2.mono b1.size)
  go_wp2_with fail
  refine (Sm.sum_any _ _ (by omega) (hK.below b2)).mono ?_
  rintro e w3 ⟨rfl,g3⟩
  go_wp2
  go_ret
  exact ⟨rfl,b2.trans (g3.mono b2.size)⟩
def plc (f:Nat -> Bool) (id:Nat):Nat:=2 + 2 * id + if f id then 1 else 0
theorem plc_lt (f:Nat -> Bool) (id:Nat) (h:id < 32):plc f id < 66:=by unfold plc;split <;> omega
theorem plc_ge (f:Nat -> Bool) (id:Nat):2 <= plc f id:=by unfold plc;omega
set_option maxRecDepth 100000 in
set_option maxHeartbeats 400000 in
theorem place_any (c e:Int) (f:Nat -> Bool) (r:ByteArray) (m:Value) (id:Nat) (w:World) (h:id < 32) :
    Calls Tryz.prog 252 #[.agg (stA c e f r m),.int .i64 (id:Int)] w fun e' w' => e' = .returned (.int .i64 (plc f id:Int)) ∧ Below w.heap.size w w':=by
  have hs:=stA_size c e f r m
  have hc:=stA_side c e f r m id h
  obtain ⟨V,hV⟩:∃ V,Hid (stA c e f r m = V):=⟨_,rfl⟩
  rw [hV.out] at hs hc
  rw [hV.out]
  have j0:=Blk.new w V 189
  have c0:(w.alloc (.cells V 189)).cell? ⟨w.heap.size,2 + id,none⟩ = some (.bool (f id)):=by rw [j0.cell,hc]
  have g0:=Pg.below_alloc w (.cells V 189)
  have h':(id:Int) < 32:=by omega
  cases hf:f id with
  | false =>
    have ep:((plc f id:Nat):Int) = 2 + 2 * (id:Int):=by unfold plc;rw [hf];simp
    rw [hf] at c0
    rw [ep]
    go_enter Tryz.func252,Tryz.ntmps252
    go_wp2
    go_ret
    exact ⟨rfl,g0⟩
  | true =>
    have ep:((plc f id:Nat):Int) = 2 + 2 * (id:Int) + 1:=by unfold plc;rw [hf];simp
    rw [hf] at c0
    rw [ep]
    go_enter Tryz.func252,Tryz.ntmps252
    go_wp2
    go_ret
    exact ⟨rfl,g0⟩
end Go.Proofs.YtjmpjfikcgccdaaGreatDoor.Vt
namespace Go.Proofs.YtjmpjfikcgccdaaGreatDoor.Vt
open Go.RowKit
def Far (g:Int -> Option ByteArray):Prop:=∃ i,kOk i ∧ (g i).isSome = true ∧ ¬ (0 <= i ∧ i < 32)
def Wide (g:Int -> Option ByteArray):Prop:=∃ i s,kOk i ∧ g i = some s ∧ 200 < s.size
open Classical in
noncomputable def chkC (g:Int -> Option ByteArray):Int:=if Far g then 2 else if Wide g then 4 else 0
def errV (n:Int):Value:=if n = 0 then .nilIface else .iface 34 (.int .i64 n)
theorem chk2 {g:Int -> Option ByteArray} (h:Far g):errV (chkC g) = .iface 34 (.int .i64 2):=by unfold chkC;rw [if_pos h];rfl
theorem chk4 {g:Int -> Option ByteArray} (h:¬ Far g) (h2:Wide g):errV (chkC g) = .iface 34 (.int .i64 4):=by unfold chkC;rw [if_neg h,if_pos h2];rfl
theorem chk0 {g:Int -> Option ByteArray} (h:¬ Far g) (h2:¬ Wide g):errV (chkC g) = .nilIface:=by unfold chkC;rw [if_neg h,if_neg h2];rfl
theorem sv_inv {g:Int -> Option ByteArray} {i:Int} {u:Value} (h:sv g i = some u):∃ s,g i = some s ∧ u = .string s:=by
  unfold sv at h
  cases hg:g i with
  | none => rw [hg] at h;cases h
  | some s => rw [hg] at h;injection h with h;exact ⟨s,rfl,h.symm⟩
set_option maxRecDepth 100000 in
set_option maxHeartbeats 1000000 in
theorem check_any (m:Value) (n:Nat) (g:Int -> Option ByteArray) (w:World) (hM:MapV Tryz.prog w m n (sv g)) (hs:∀ i s,g i = some s -> s.size <= 10000) :
    Calls Tryz.prog 136 #[m] w fun e w' => e = .returned (errV (chkC g)) ∧ Below w.heap.size w w':=by
  have HS:Hid (∀ i s,g i = some s -> s.size <= 10000):=hs
  clear hs
  obtain ⟨w1,cnt1,hrg,hR1,_,hb1,hz1⟩:=hM.range und3 undS
  have HI:Hid (∀ i,kOk i -> (g i).isSome = true -> (sv g i).isSome = false -> 0 <= i ∧ i < 32):=fun i _ h1 h2 => by
    unfold sv at h2;cases hg:g i <;> rw [hg] at h1 h2 <;> cases h1 <;> cases h2
  go_enter Tryz.func136,Tryz.ntmps136
  go_wp2_with fail
  obtain ⟨R,hR⟩:∃ R,Hid (R = w.heap.size):=⟨_,rfl⟩
  rw [<- hR.out] at hR1
  rw [<- hR.out]
  have hRw:Hid (w.heap.size <= R):=Nat.le_of_eq hR.out.symm
  clear hR hrg
  go_loopw [] (fun wr => ∃ left cnt,RngV Tryz.prog wr m R n (sv g) left cnt ∧ Hid (∀ i,kOk i -> (g i).isSome = true -> left i = false -> 0 <= i ∧ i < 32) ∧ Below w.heap.size w wr) (fun wr => rleft wr R)
  case atStart => exact ⟨_,_,hR1,HI,hb1⟩
  case round =>
    clear hR1 HI hb1 hz1
    obtain ⟨left,cnt,hRr,HL,hbr⟩:=hrel
    have hm0:=hRr.left_eq
    rcases hRr.next und3 0 with ⟨hd,hrun⟩ | ⟨i,u,w2,cnt2,hi,hl,hf,hrun,hR2,hlt,hu,hen⟩
    · have nF:Hid (¬ Far g):=fun ⟨i,h1,h2,h3⟩ => h3 (HL.out i h1 h2 (hd i h1))
      have hMr:=hRr.map
      obtain ⟨w3,cnt3,hrg3,hR3,_,hb3,hz3⟩:=hMr.range und3 undS
      have B3:=hbr.trans (hb3.mono hbr.size)
      have HI3:Hid (∀ i s,kOk i -> g i = some s -> (sv g i).isSome = false -> s.size <= 200):=fun i s _ h1 h2 => by
        unfold sv at h2;rw [h1] at h2;cases h2
      go_wp2_with fail
      obtain ⟨R',hR'⟩:∃ R',Hid (R' = wr.heap.size):=⟨_,rfl⟩
      rw [<- hR'.out] at hR3
      rw [<- hR'.out]
      have hRw':Hid (w.heap.size <= R'):=by unfold Hid;rw [hR'.out];exact hbr.size
      clear hR' hrg3 hrun hd hRr hMr hm0 HL
      go_loopw [] (fun wq => ∃ left cnt,RngV Tryz.prog wq m R' n (sv g) left cnt ∧ Hid (∀ i s,kOk i -> g i = some s -> left i = false -> s.size <= 200) ∧ Below w.heap.size w wq) (fun wq => rleft wq R')
      case atStart => exact ⟨_,_,hR3,HI3,B3⟩
      case round =>
        clear hR3 HI3 B3 hb3 hz3 hbr
        obtain ⟨left,cnt,hRr,HL,hbr⟩:=hrel
        have hm0:=hRr.left_eq
        rcases hRr.next und3 0 with ⟨hd,hrun⟩ | ⟨i,u,w2,cnt2,hi,hl,hf,hrun,hR2,hlt,hu,hen⟩
        · have nW:Hid (¬ Wide g):=fun ⟨i,s,h1,h2,h3⟩ => absurd (HL.out i s h1 h2 (hd i h1)) (by omega)
          go_wp2_with fail
          go_ret
          exact ⟨by rw [chk0 nF.out nW.out];rfl,hbr⟩
        · obtain ⟨s,hgi,rfl⟩:=sv_inv hf
          have hz:=HS.out i s hgi
          have hm2:=hR2.left_eq
          by_cases hw:s.size <= 200
          · have hw':(s.size:Int) <= 200:=by omega
            have HL2:Hid (∀ j t,kOk j -> g j = some t -> (left j && !decide (j = i)) = false -> t.size <= 200):=fun j t h1 h2 h3 => by
              by_cases e:j = i
              · subst e;rw [hgi] at h2;injection h2 with h2;rw [<- h2];exact hw
              · exact HL.out j t h1 h2 (by simpa [e] using h3)
            go_wp2_with fail
            refine ⟨⟨_,_,hR2,HL2,below_upd hbr hu hRw'.out⟩,?_⟩
            rw [hm2,hm0];exact hlt
          · have hw':¬ ((s.size:Int) <= 200):=by omega
            have hW:Hid (Wide g):=⟨i,s,hi,hgi,by omega⟩
            go_wp2_with fail
            go_ret
            exact ⟨by rw [chk4 nF.out hW.out];rfl,below_upd hbr hu hRw'.out⟩
    · obtain ⟨s,hgi,rfl⟩:=sv_inv hf
      have hm2:=hR2.left_eq
      by_cases hp:0 <= i ∧ i < 32
      · have hd:decide (0 <= i ∧ i < 32) = true:=decide_eq_true hp
        have HL2:Hid (∀ j,kOk j -> (g j).isSome = true -> (left j && !decide (j = i)) = false -> 0 <= j ∧ j < 32):=fun j h1 h2 h3 => by
          by_cases e:j = i
          · rw [e];exact hp
          · exact HL.out j h1 h2 (by simpa [e] using h3)
        clear hp
        go_wp2_with (go_at_call 174;refine (isPage_any _ _).mono ?_;rintro e w' ⟨rfl,rfl⟩;rw [hd])
        refine ⟨⟨_,_,hR2,HL2,below_upd hbr hu hRw.out⟩,?_⟩
        rw [hm2,hm0];exact hlt
      · have hd:decide (0 <= i ∧ i < 32) = false:=decide_eq_false hp
        have hF:Hid (Far g):=⟨i,hi,by rw [hgi];rfl,hp⟩
        clear hp
        go_wp2_with (go_at_call 174;refine (isPage_any _ _).mono ?_;rintro e w' ⟨rfl,rfl⟩;rw [hd])
        go_ret
        exact ⟨by rw [chk2 hF.out];rfl,below_upd hbr hu hRw.out⟩
structure Vlt (w:World) (vb d c:Nat) (sec:ByteArray) (cn en:Int) (f:Nat -> Bool) (r:ByteArray) (mb n:Nat) (p:Int -> Option (Int × ByteArray)) (stuck:Bool):Prop where
  blk:Blk w vb (vaA d c sec (stA cn en f r (.map (some mb))) stuck) 193
  map:MapF Tryz.prog w mb n (pv p)
section
variable {w:World} {vb d c:Nat} {sec:ByteArray} {cn en:Int} {f:Nat -> Bool} {r:ByteArray} {mb n:Nat} {p:Int -> Option (Int × ByteArray)} {stuck:Bool}
theorem Vlt.c0 (h:Vlt w vb d c sec cn en f r mb n p stuck):w.cell? ⟨vb,0,none⟩ = some (.pointer (some ⟨d,0,none⟩)):=by rw [h.blk.cell,vaA_0]
theorem Vlt.c1 (h:Vlt w vb d c sec cn en f r mb n p stuck):w.cell? ⟨vb,1,none⟩ = some (.pointer (some ⟨c,0,none⟩)):=by rw [h.blk.cell,vaA_1]
theorem Vlt.c2 (h:Vlt w vb d c sec cn en f r mb n p stuck):w.cell? ⟨vb,2,none⟩ = some (.string sec):=by rw [h.blk.cell,vaA_2]
theorem Vlt.c3 (h:Vlt w vb d c sec cn en f r mb n p stuck):w.cell? ⟨vb,3,none⟩ = some (.int .i64 cn):=by
  rw [h.blk.cell,show 3 = 3 + 0 from rfl,vaA_st _ _ _ _ _ (stA_size _ _ _ _ _) _ (by decide),stA_0]
theorem Vlt.c4 (h:Vlt w vb d c sec cn en f r mb n p stuck):w.cell? ⟨vb,4,none⟩ = some (.int .i64 en):=by
  rw [h.blk.cell,show 4 = 3 + 1 from rfl,vaA_st _ _ _ _ _ (stA_size _ _ _ _ _) _ (by decide),stA_1]
theorem Vlt.c38 (h:Vlt w vb d c sec cn en f r mb n p stuck):w.cell? ⟨vb,38,none⟩ = some (.map (some mb)):=by
  rw [h.blk.cell,show 38 = 3 + 35 from rfl,vaA_st _ _ _ _ _ (stA_size _ _ _ _ _) _ (by decide),stA_35]
theorem Vlt.c39 (h:Vlt w vb d c sec cn en f r mb n p stuck):w.cell? ⟨vb,39,none⟩ = some (.bool stuck):=by rw [h.blk.cell,vaA_39 _ _ _ _ _ (stA_size _ _ _ _ _)]
theorem Vlt.below {w':World} {B:Nat} (h:Vlt w vb d c sec cn en f r mb n p stuck) (hb:Below B w w') (h1:vb < B) (h2:mb < B):Vlt w' vb d c sec cn en f r mb n p stuck:=⟨h.blk.below hb h1,h.map.below hb h2⟩
theorem Vlt.same {w':World} (h:Vlt w vb d c sec cn en f r mb n p stuck) (h1:w'.heap[vb]? = w.heap[vb]?) (h2:w'.heap[mb]? = w.heap[mb]?):Vlt w' vb d c sec cn en f r mb n p stuck:=⟨h1.trans h.blk,h.map.same h2⟩
theorem Vlt.upd {w':World} {b:Nat} (h:Vlt w vb d c sec cn en f r mb n p stuck) (hu:Upd w w' b) (h1:vb ≠ b) (h2:mb ≠ b):Vlt w' vb d c sec cn en f r mb n p stuck:=⟨h.blk.upd hu h1,h.map.upd hu h2⟩
end
theorem ready_any (w:World) (vb d c:Nat) (sec:ByteArray) (cn en:Int) (f:Nat -> Bool) (r:ByteArray) (mb n:Nat) (p:Int -> Option (Int × ByteArray)) (stuck:Bool) (h:Vlt w vb d c sec cn en f r mb n p stuck) :
    Calls Tryz.prog 135 #[.pointer (some ⟨vb,0,none⟩)] w fun e w' => e = .returned (.bool (!stuck)) ∧ w' = w:=by
  have c0:=h.c0
  have c39:=h.c39
  go_enter Tryz.func135,Tryz.ntmps135
  go_wp2
  go_ret
  exact ⟨rfl,rfl⟩
theorem count_any (w:World) (vb d c:Nat) (sec:ByteArray) (cn en:Int) (f:Nat -> Bool) (r:ByteArray) (mb n:Nat) (p:Int -> Option (Int × ByteArray)) (stuck:Bool) (h:Vlt w vb d c sec cn en f r mb n p stuck) :
    Calls Tryz.prog 83 #[.pointer (some ⟨vb,0,none⟩)] w fun e w' => e = .returned (.int .i64 cn) ∧ w' = w:=by
  have c3:=h.c3
  go_enter Tryz.func83,Tryz.ntmps83
  go_wp2
  go_ret
  exact ⟨rfl,rfl⟩
theorem epoch_any (w:World) (vb d c:Nat) (sec:ByteArray) (cn en:Int) (f:Nat -> Bool) (r:ByteArray) (mb n:Nat) (p:Int -> Option (Int × ByteArray)) (stuck:Bool) (h:Vlt w vb d c sec cn en f r mb n p stuck) :
    Calls Tryz.prog 84 #[.pointer (some ⟨vb,0,none⟩)] w fun e w' => e = .returned (.int .i64 en) ∧ w' = w:=by
  have c4:=h.c4
  go_enter Tryz.func84,Tryz.ntmps84
  go_wp2
  go_ret
  exact ⟨rfl,rfl⟩
theorem fldE (a:Int) (b:ByteArray) (w:World):(Instr.field 227 (.agg #[.int .i64 a,.string b]) 1).run Tryz.prog w = .ok (.string b) w:=by kernel_rfl
def getT (p:Int -> Option (Int × ByteArray)) (id:Int):ByteArray:=if 0 <= id ∧ id < 32 then (rd p id).2 else ⟨#[]⟩
def getC (id:Int):Int:=if 0 <= id ∧ id < 32 then 0 else 2
set_option maxRecDepth 100000 in
set_option maxHeartbeats 400000 in
theorem get_any (w:World) (vb d c:Nat) (sec:ByteArray) (cn en:Int) (f:Nat -> Bool) (r:ByteArray) (mb n:Nat) (p:Int -> Option (Int × ByteArray)) (stuck:Bool) (id:Int) (h:Vlt w vb d c sec cn en f r mb n p stuck) :
    Calls Tryz.prog 113 #[.pointer (some ⟨vb,0,none⟩),.int .i64 id] w fun e w' => e = .returned (.tuple #[.string (getT p id),errV (getC id)]) ∧ w' = w:=by
  have c38:=h.c38
  by_cases hp:0 <= id ∧ id < 32
  · have hl:=run_lookV (t:=187) und3 undE _ zeroE (Or.inr ⟨mb,rfl,h.map⟩) (kOk_small hp.1 hp.2)
    rw [pv_get] at hl
    unfold ent at hl
    have e1:getT p id = (rd p id).2:=by unfold getT;rw [if_pos hp]
    have e2:errV (getC id) = .nilIface:=by unfold getC errV;rw [if_pos hp];rfl
    have hd:decide (0 <= id ∧ id < 32) = true:=decide_eq_true hp
    rw [e1,e2]
    clear hp
    generalize rd p id = x at *
    have hfe:=fldE
    go_enter Tryz.func113,Tryz.ntmps113
    go_wp2_with (go_at_call 174;refine (isPage_any _ _).mono ?_;rintro e w' ⟨rfl,rfl⟩;rw [hd])
    go_ret2
    exact ⟨rfl,rfl⟩
  · have e1:getT p id = ⟨#[]⟩:=by unfold getT;rw [if_neg hp]
    have e2:errV (getC id) = .iface 34 (.int .i64 2):=by unfold getC errV;rw [if_neg hp];rfl
    have hd:decide (0 <= id ∧ id < 32) = false:=decide_eq_false hp
    rw [e1,e2]
    clear hp
    go_enter Tryz.func113,Tryz.ntmps113
    go_wp2_with (go_at_call 174;refine (isPage_any _ _).mono ?_;rintro e w' ⟨rfl,rfl⟩;rw [hd])
    go_ret2
    exact ⟨rfl,rfl⟩
end Go.Proofs.YtjmpjfikcgccdaaGreatDoor.Vt
