/-
  Part of the proof of BaseFindsCard (BA12 and on).
-/
import Derived.WideKeyEntry
import Derived.Test.YtjmpjfikcgccdaaGreatDoorB31
namespace Go.Proofs.YtjmpjfikcgccdaaGreatDoor.Bs
open Go.RowKit Go.Shelf Go.Maps
open Go.MapKept Go.WideShapes Go.ChangeShapes Go.ChangeMaps
open It Nr Vt
theorem mkMapS' (w:World):(Instr.makeMap 148 none).run Tryz.prog w = .ok (.map (some w.heap.size)) (w.alloc (.map #[] 0)):=by kernel_rfl
theorem setBlock_two (w:World) (b:Nat) (x y:Obj):ChangeMaps.setBlock (ChangeMaps.setBlock w b x) b y = ChangeMaps.setBlock w b y:=by
  simp [ChangeMaps.setBlock]
theorem entry_both {P:Program} {w:World} {b:Nat} {t e:TypeId} {es:Array MapEntry} {clock:Nat} {R:Value -> Option (DataW Value × List MemPlace)} (hk:P.underlying 3 = some (.int .i64)) (ht:P.underlying t = some (.map 3 e)) {z:Value} (hz:∀ u:World,(zeroValue e).run P u = .ok z u) (hb:w.heap[b]? = some (.map es clock)) (F:WideElems.Fit P 3 R es clock) {i:Int} (hi:Go.Proofs.YtjmpjfikcgccdaaGreatDoor.kOk i) :
    ∃ (v0:Value) (st:Int) (w1:World),(Instr.mapEntry t (.map (some b)) (.int .i64 i)).run P w = .ok (.tuple #[v0,.int .i64 st]) w1 ∧ ∀ u:Value,∃ w2,(Instr.entryStore t (.map (some b)) (.int .i64 st) u).run P w1 = .ok () w2 ∧ (Instr.mapUpdate t (.map (some b)) (.int .i64 i) u).run P w = .ok () w2:=by
  have K:=int_keyed (P:=P) hk
  have key:=Go.Maps.keyOf_int_mk (P:=P) hk hi
  have hlt:=(Array.getElem?_eq_some_iff.1 hb).1
  obtain ⟨q1,q2,_⟩:=F.stamped
  have fin:∀ (es1:Array MapEntry) (c1 st:Nat) (j:Nat) (v0:Value) (y:MapEntry),(es1.toList.map (·.born)).Nodup -> es1.toList[j]? = some y -> y.born = st -> (Instr.mapEntry t (.map (some b)) (.int .i64 i)).run P w = .ok (.tuple #[v0,.int .i64 (st:Int)]) (ChangeMaps.setBlock w b (.map es1 c1)) ->
      (∀ u,(Instr.mapUpdate t (.map (some b)) (.int .i64 i) u).run P w = .ok () (ChangeMaps.setBlock w b (.map (es1.modify j fun x => { x with val:=u }) c1))) ->
      ∃ (v0:Value) (st:Int) (w1:World),(Instr.mapEntry t (.map (some b)) (.int .i64 i)).run P w = .ok (.tuple #[v0,.int .i64 st]) w1 ∧ ∀ u:Value,∃ w2,(Instr.entryStore t (.map (some b)) (.int .i64 st) u).run P w1 = .ok () w2 ∧ (Instr.mapUpdate t (.map (some b)) (.int .i64 i) u).run P w = .ok () w2:=by
    intro es1 c1 st j v0 y hn hy hst hr hu
    refine ⟨v0,st,_,hr,fun u => ⟨_,?_,hu u⟩⟩
    have h1:(ChangeMaps.setBlock w b (.map es1 c1)).heap[b]? = some (.map es1 c1):=by simp [ChangeMaps.setBlock,hlt]
    have h2:es1.findIdx? (fun x => ((x.born:Nat):Int) == (st:Int)) = some j:=by
      rw [WideElems.findIdx_arr,<- hst]
      exact WideElems.findIdx_born hn hy
    simp only [Instr.entryStore,Sem.run_bind,MapKept.run_getObj_map h1,asInt,asIntOf,Sem.run_pure,Result.andThen_ok,h2,MapKept.run_setObj_map _ h1]
    exact congrArg (Result.ok ()) (setBlock_two w b _ _)
  rcases K.find w key es.toList F.keys with ⟨f1,f2⟩ | ⟨j,x,f1,f2,f3⟩
  · refine fin (es.push ⟨.int .i64 i,z,clock⟩) (clock + 1) clock es.size z ⟨.int .i64 i,z,clock⟩ ?_ (by simp) rfl ?_ ?_
    · rw [Array.toList_push,List.map_append,List.nodup_append]
      refine ⟨q2,by simp,fun a ha c hc e1 => ?_⟩
      obtain ⟨x,hx,rfl⟩:=List.mem_map.1 ha
      have:=q1 x hx
      simp at hc
      omega
    · simp [Instr.mapEntry,run_underlying ht,MapKept.run_getObj_map hb,K.check w false key,f1,hz,MapKept.run_setObj_map _ hb,Result.andThen,ChangeMaps.setBlock,goInt]
    · intro u
      have hm:(es.push ⟨.int .i64 i,z,clock⟩).modify es.size (fun x => { x with val:=u }) = es.push ⟨.int .i64 i,u,clock⟩:=by
        apply Array.ext'
        rw [Array.toList_modify,Array.toList_push,Array.toList_push,<- Array.length_toList,WideElems.modify_last]
      simp [hm,Instr.mapUpdate,run_underlying ht,MapKept.run_getObj_map hb,K.check w false key,f1,MapKept.run_setObj_map _ hb,Result.andThen,ChangeMaps.setBlock]
  · have hj:es[j]? = some x:=by simpa using f2
    have hsame:es.modify j (fun y => { y with key:=.int .i64 i }) = es:=by
      apply Array.ext'
      rw [Array.toList_modify,modify_eq_set _ _ _ _ f2,show ({ x with key:=.int .i64 i }:MapEntry) = x from by rw [<- f3]]
      exact WideElems.set_self _ _ _ f2
    refine fin es clock x.born j x.val x q2 f2 rfl ?_ ?_
    · simp [Instr.mapEntry,run_underlying ht,MapKept.run_getObj_map hb,K.check w false key,f1,hj,f3,K.stays w key,hsame,MapKept.run_setObj_map _ hb,Result.andThen,ChangeMaps.setBlock,goInt]
    · intro u
      have hm:es.modify j (fun y => { y with key:=.int .i64 i,val:=u }) = es.modify j (fun y => { y with val:=u }):=by
        apply Array.ext'
        rw [Array.toList_modify,Array.toList_modify,modify_eq_set _ _ _ _ f2,modify_eq_set _ _ _ _ f2,<- f3]
      simp [Instr.mapUpdate,run_underlying ht,MapKept.run_getObj_map hb,K.check w false key,f1,hj,f3,K.stays w key,hm,MapKept.run_setObj_map _ hb,Result.andThen,ChangeMaps.setBlock]
theorem mapF_entry {P:Program} {w:World} {b n:Nat} {f:Int -> Option Value} {t e:TypeId} (h:MapF P w b n f) (hk:P.underlying 3 = some (.int .i64)) (ht:P.underlying t = some (.map 3 e)) {z:Value} (hz:∀ u:World,(zeroValue e).run P u = .ok z u) (hn:n < maxLen) {i:Int} (hi:Go.Proofs.YtjmpjfikcgccdaaGreatDoor.kOk i) :
    ∃ (v0:Value) (st:Int) (w1:World),(Instr.mapEntry t (.map (some b)) (.int .i64 i)).run P w = .ok (.tuple #[v0,.int .i64 st]) w1 ∧ ∀ u:Value,∃ w2,(Instr.entryStore t (.map (some b)) (.int .i64 st) u).run P w1 = .ok () w2 ∧ MapF P w2 b (n + 1) (fun j => if j = i then some u else f j) ∧ Upd w w2 b:=by
  obtain ⟨D,⟨es,clock,hb,F,hs,hD⟩,hT⟩:=id h
  obtain ⟨v0,st,w1,hr,hst⟩:=entry_both hk ht hz hb F hi
  refine ⟨v0,st,w1,hr,fun u => ?_⟩
  obtain ⟨w2,h1,h2⟩:=hst u
  obtain ⟨w',hrun',hM,hg,hsz⟩:=h.update hk ht hn hi u
  rw [h2] at hrun'
  injection hrun' with _ hw
  subst hw
  exact ⟨_,h1,hM,upd_of_grown hg hsz⟩
section
variable {P:Program} {Q:Exit -> Act -> World -> Prop} {a:Act} {w:World} {o:Oper} {K:Act -> World -> Prop}
theorem op_mapEntry (t:TypeId) (m x:Operand) (ho:o.op = .mapEntry t m x) (u y v:Value) (w1:World) (hm:a.eval m = u) (hx:a.eval x = y) (hrun:(Instr.mapEntry t u y).run P w = .ok v w1) (h:K (a.put o.dst v) w1):o.wp P a w K Q:=by
  unfold Oper.wp
  simp [execOp,ho,hm,hx,hrun,Result.andThen]
  exact h
theorem op_entryStore (hdn:o.dst = none) (t:TypeId) (m s x:Operand) (ho:o.op = .entryStore t m s x) (u y z:Value) (w1:World) (hm:a.eval m = u) (hs:a.eval s = y) (hx:a.eval x = z) (hrun:(Instr.entryStore t u y z).run P w = .ok () w1) (h:K a w1):o.wp P a w K Q:=by
  unfold Oper.wp
  simp [execOp,ho,hm,hs,hx,hrun,Result.andThen]
  simp only [Oper.upon_skip,hdn,Act.put]
  exact h
end
set_option maxRecDepth 100000 in
set_option maxHeartbeats 1000000 in
theorem pgs_any (s:ByteArray) (w:World) :
    Calls Tryz.prog 69 #[.string s] w fun e w' => (e = .returned (.map (some w.heap.size)) ∧ MapF Tryz.prog w' w.heap.size 32 (sv (pgG s.data.toList 32))) ∧ Below w.heap.size w w':=by
  have m0:MapF Tryz.prog (w.alloc (.map #[] 0)) w.heap.size 0 (sv (pgG s.data.toList 0)):=(mapF_made Tryz.prog w).congr fun i _ => by unfold sv pgG;rw [if_neg (by omega)];rfl
  have g0:=below_alloc w (.map #[] 0)
  have hmk:=mkMapS' w
  go_enter Tryz.func69,Tryz.ntmps69
  go_wp2_with fail
  generalize w.alloc (.map #[] 0) = w0 at *
  obtain ⟨tm,htm⟩:∃ tm,Hid (w.heap.size = tm):=⟨_,rfl⟩
  rw [htm.out] at m0
  rw [htm.out]
  clear hmk
  go_loopw [0,7] (fun t i wr => ∃ (k:Nat) (x:ByteArray),k <= 32 ∧ i = .int .i64 k ∧ t = .string x ∧ Hid (x.data.toList = s.data.toList.drop (200 * k)) ∧ MapF Tryz.prog wr tm k (sv (pgG s.data.toList k)) ∧ Below w.heap.size w wr) (fun _ i _ => 32 - (intOf i).toNat)
  case atStart => exact ⟨0,s,by omega,rfl,rfl,rfl,m0,g0⟩
  case round =>
    clear m0 g0
    obtain ⟨k,x,hk,rfl,rfl,HX,mr,br⟩:=hrel
    by_cases hlt:k < 32
    · have hlt':(k:Int) < 32:=by omega
      obtain ⟨e,he⟩:∃ e:Nat,Hid (min x.size 200 = e):=⟨_,rfl⟩
      go_wp2_with fail
      have hmin:min (x.size:Int) 200 = (e:Int):=by have:=he.out;omega
      rw [hmin]
      refine regS_in 12 (fun _ => True) Nr.mixed rfl ?_
      refine regS_take 0 13 (.map (some tm)) rfl rfl (by kernel_rfl) (fun _ _ _ h => h) (by kernel_rfl) (fun w _ => by go_simp) trivial ?_
      refine regS_take 1 14 (.int .i64 (k:Int)) rfl rfl (by kernel_rfl) (fun _ _ _ h => h) (by kernel_rfl) (fun w _ => by go_simp) trivial ?_
      refine regS_take 2 15 (.string x) rfl rfl (by kernel_rfl) (fun _ _ _ h => h) (by kernel_rfl) (fun w _ => by go_simp) trivial ?_
      refine regS_take 3 16 (.int .i64 (e:Int)) rfl rfl (by kernel_rfl) (fun _ _ _ h => h) (by kernel_rfl) (fun w _ => by go_simp) trivial ?_
      have hle:¬ x.size < e:=by have:=he.out;omega
      refine regS_take 4 17 (.string (x.extract 0 e)) rfl rfl (by kernel_rfl) (fun _ _ _ h => h) (by kernel_rfl) (fun w _ => by go_simp) trivial ?_
      refine regS_take 5 18 (.string x) rfl rfl (by kernel_rfl) (fun _ _ _ h => h) (by kernel_rfl) (fun w _ => by go_simp) trivial ?_
      refine regS_take 6 19 (.int .i64 (e:Int)) rfl rfl (by kernel_rfl) (fun _ _ _ h => h) (by kernel_rfl) (fun w _ => by go_simp) trivial ?_
      refine regS_take 7 20 (.string (x.extract e x.size)) rfl rfl (by kernel_rfl) (fun _ _ _ h => h) (by kernel_rfl) (fun w _ => by go_simp) trivial ?_
      simp only [Act.put,List.setIfInBounds_toArray,List.set_cons_succ,List.set_cons_zero]
      obtain ⟨v0,st,w1,hrun,hst⟩:=mapF_entry (e:=9) mr.drew Tryz.underlying3 Tryz.underlying148 Tryz.zeroValue9 (by unfold maxLen;omega) (kOk_small (i:=(k:Int)) (by omega) (by omega))
      obtain ⟨w2,hrun2,m2,u2⟩:=hst (.string (x.extract 0 e))
      refine regS_one 8 rfl (by kernel_rfl) (by kernel_rfl) (fun K hK => ?_)
      refine op_mapEntry 148 _ _ rfl (.map (some tm)) (.int .i64 (k:Int)) _ w1 rfl rfl hrun ?_
      refine hK _ _ trivial ?_
      clear hK K
      refine regS_take 9 22 (.int .i64 st) rfl rfl (by kernel_rfl) (fun _ _ _ h => h) (by kernel_rfl) (fun w _ => by go_simp) trivial ?_
      simp only [Act.put,List.setIfInBounds_toArray,List.set_cons_succ,List.set_cons_zero]
      refine regS_one 10 rfl (by kernel_rfl) (by kernel_rfl) (fun K hK => ?_)
      refine op_entryStore rfl 148 _ _ _ rfl (.map (some tm)) (.int .i64 st) (.string (x.extract 0 e)) w2 rfl rfl rfl hrun2 ?_
      refine hK _ _ trivial ?_
      clear hK K
      refine regS_take 11 0 (.string (x.extract e x.size)) rfl rfl (by kernel_rfl) (fun _ _ _ h => h) (by kernel_rfl) (fun w _ => by go_simp) trivial ?_
      refine regS_end (by kernel_rfl) ?_
      simp only [Act.put,List.setIfInBounds_toArray,List.set_cons_zero]
      have hx1:x.extract 0 e = ba (pgL s.data.toList k):=by
        refine bytes_inj ?_
        rw [ba_list,ByteArray.data_extract,Array.toList_extract,HX.out]
        unfold pgL
        have h1:=congrArg List.length HX.out
        have h2:=he.out
        rw [<- Lib.size_eq] at h1
        simp only [List.extract_eq_take_drop,Nat.sub_zero,List.drop_zero]
        rw [List.take_eq_take_iff]
        rw [h1] at h2
        omega
      have hx2:(x.extract e x.size).data.toList = s.data.toList.drop (200 * (k + 1)):=by
        rw [ByteArray.data_extract,Array.toList_extract,HX.out]
        have h1:=congrArg List.length HX.out
        have h2:=he.out
        rw [<- Lib.size_eq] at h1
        simp only [List.extract_eq_take_drop]
        rw [List.drop_drop,List.take_of_length_le (by rw [List.length_drop];rw [List.length_drop] at h1;omega)]
        rw [List.length_drop] at h1
        by_cases h3:x.size <= 200
        · rw [List.drop_eq_nil_of_le (by omega),List.drop_eq_nil_of_le (by omega)]
        · rw [show e = 200 from by omega,show 200 * k + 200 = 200 * (k + 1) from by omega]
      rw [hx1,pgG_step] at m2
      have HX2:Hid ((x.extract e x.size).data.toList = s.data.toList.drop (200 * (k + 1))):=hx2
      obtain ⟨y,hy⟩:∃ y,x.extract e x.size = y:=⟨_,rfl⟩
      have hu:Upd wr w2 tm:=⟨u2.os,u2.tape,u2.output,u2.size,u2.block⟩
      have bt:=below_upd br hu (by have:=htm.out;omega)
      rw [hy] at HX2 ⊢
      clear hx1 hx2 hy hrun hrun2 hst u2 he hmin HX hle mr br
      go_wp2_with fail
      exact ⟨⟨k + 1,y,by omega,by go_num,rfl,HX2.out,m2,bt⟩,by simp [intOf];omega⟩
    · have hk':k = 32:=by omega
      subst hk'
      go_wp2_with fail
      go_ret
      exact ⟨⟨by rw [<- htm.out];rfl,by rw [htm.out];exact mr⟩,br⟩
theorem said_get {p:Int -> Option (Int × ByteArray)} {l:List UInt8} (h:Says p l) {k:Nat} (hk:k < 32):getT p (k:Int) = ba (pgL l k) ∧ errV (getC (k:Int)) = .nilIface:=by
  constructor
  · unfold getT;rw [if_pos (by omega)];exact h k hk
  · unfold getC;rw [if_pos (by omega)];rfl
set_option maxRecDepth 100000 in
set_option maxHeartbeats 1000000 in
theorem said_any (vb d c:Nat) (sec:ByteArray) (cn en:Int) (f:Nat -> Bool) (r:ByteArray) (mb n:Nat) (p:Int -> Option (Int × ByteArray)) (stuck:Bool) (l:List UInt8) (w:World) (hV:Vlt w vb d c sec cn en f r mb n p stuck) (hp:Says p l) (hl:l.length <= 6400) :
    Calls Tryz.prog 53 #[.pointer (some ⟨vb,0,none⟩)] w fun e w' => e = .returned (.tuple #[.string (ba l),.nilIface]) ∧ Below w.heap.size w w':=by
  have b0:Bd (w.alloc (.cells #[.pointer none,.slice none 0 0] 182)) w.heap.size []:=Lib.fresh_isBuilder 182 5 w
  have g0:=below_alloc w (.cells #[.pointer none,.slice none 0 0] 182)
  have hvl:=hV.blk.lt
  have hml:=hV.map.lt
  have HV:Hid (∀ W,Below w.heap.size w W -> Vlt W vb d c sec cn en f r mb n p stuck):=fun W hW => hV.below hW hvl hml
  have HP:Hid (Says p l):=hp
  clear hV hp
  go_enter Tryz.func53,Tryz.ntmps53
  go_wp2_with fail
  generalize w.alloc (.cells #[.pointer none,.slice none 0 0] 182) = w0 at *
  obtain ⟨B0,hB⟩:∃ B0,Hid (w.heap.size = B0):=⟨_,rfl⟩
  rw [hB.out] at b0
  rw [hB.out]
  go_loopw [8] (fun i wr => ∃ k:Nat,k <= 32 ∧ i = .int .i64 k ∧ Bd wr B0 (l.take (200 * k)) ∧ Below w.heap.size w wr) (fun i _ => 32 - (intOf i).toNat)
  case atStart => exact ⟨0,by omega,rfl,by simpa using b0,g0⟩
  case round =>
    clear b0 g0
    obtain ⟨k,hk,rfl,bd,br⟩:=hrel
    by_cases hlt:k < 32
    · have hlt':(k:Int) < 32:=by omega
      obtain ⟨e1,e2⟩:=said_get HP.out hlt
      have HG:Hid _:=get_any wr vb d c sec cn en f r mb n p stuck (k:Int) (HV.out wr br)
      rw [e1,e2] at HG
      clear e1 e2
      go_wp2_with fail
      refine Calls.mono HG.out ?_
      rintro e w1 ⟨rfl,hw⟩
      obtain rfl:wr = w1:=hw.symm
      clear HG hw
      have hlen:(l.take (200 * k)).length + (ba (pgL l k)).size <= 1000000:=by rw [ba_size,List.length_take];have:=pgL_len l k;omega
      have HW:Hid _:=write_any B0 (l.take (200 * k)) (ba (pgL l k)) wr bd hlen
      clear hlen
      go_wp2_with fail
      refine Calls.mono HW.out ?_
      rintro e w2 ⟨rfl,b2,g2⟩
      rw [ba_list,pgL_cat] at b2
      have bt:=br.trans (by rw [<- hB.out] at g2;exact g2)
      clear HW bd br g2
      go_wp2_with fail
      exact ⟨⟨k + 1,by omega,by go_num,b2,bt⟩,by simp [intOf];omega⟩
    · have hk':k = 32:=by omega
      subst hk'
      rw [List.take_of_length_le (by omega)] at bd
      have HS:Hid _:=string_any B0 l wr bd
      clear bd
      go_wp2_with fail
      refine Calls.mono HS.out ?_
      rintro e w2 ⟨rfl,g2⟩
      go_wp2_with fail
      go_ret2
      exact ⟨rfl,br.trans (by rw [<- hB.out] at g2;exact g2)⟩
end Go.Proofs.YtjmpjfikcgccdaaGreatDoor.Bs
namespace Go.Proofs.YtjmpjfikcgccdaaGreatDoor.Bs
open Go.RowKit Go.Shelf Go.Maps
open It Nr Ce
theorem szMapP:(Tryz.prog.info? 128).map (·.size) = some 1:=by kernel_rfl
theorem szInt:(Tryz.prog.info? 3).map (·.size) = some 1:=by kernel_rfl
theorem szCellsP:(Tryz.prog.info? 129).map (·.size) = some 1:=by kernel_rfl
theorem chg_of_upd {w w':World} {b:Nat} (h:Upd w w' b):Dv.Chg w w' (fun k => k = b):=(Dv.Chg.refl w _).upd h (Or.inl rfl)
set_option maxRecDepth 100000 in
set_option maxHeartbeats 1000000 in
theorem undo_any (bb vb mt:Nat) (dim:Int) (x3 x4:Value) (L:List ItD) (w:World) (hb:Blk w bb #[.pointer (some ⟨vb,0,none⟩),.int .i64 dim,.map (some mt),x3,x4] 131) (ht:IM w mt L) (hne:mt ≠ bb) :
    Calls Tryz.prog 22 #[.pointer (some ⟨bb,0,none⟩)] w fun e w' => e = .returned (.tuple #[]) ∧ Blk w' bb #[.pointer (some ⟨vb,0,none⟩),.int .i64 dim,.map (some mt),.map (some w.heap.size),x4] 131 ∧ IM w' w.heap.size L ∧ IM w' mt L ∧ Dv.Chg w w' (fun k => k = bb) ∧ w'.heap.size = w.heap.size + 1:=by
  have c2:=hb.cell 2
  have HC:Hid _:=bclone_any mt L w ht
  have HT:Hid (IM w mt L):=ht
  have hlt:=hb.lt
  clear ht
  go_enter Tryz.func22,Tryz.ntmps22
  go_wp2_with fail
  refine Calls.mono HC.out ?_
  rintro e w1 ⟨rfl,hM,g1,z1⟩
  have HZ:Hid (w1.heap.size = w.heap.size + 1):=z1
  have j1:=hb.below g1 hb.lt
  have HM:Hid (IM w1 w.heap.size L):=hM
  have HM2:Hid (IM w1 mt L):=HT.out.below g1 HT.out.lt
  have HG:Hid (Below w.heap.size w w1):=g1
  have hne2:w.heap.size ≠ bb:=by omega
  clear HC c2 hb z1 hM g1
  obtain ⟨nb,hnb⟩:∃ nb,w.heap.size = nb:=⟨_,rfl⟩
  rw [hnb] at HM HZ HG hne2 hlt ⊢
  go_wp2_with (first
    | (refine Vt.wpl_put1 rfl rfl 128 _ _ rfl szMapP bb 3 _ 131 (.map (some nb)) rfl rfl rfl rfl j1 (Nat.le_of_ble_eq_true rfl) ?_;intro w2 hu2 j2)
    | fail)
  go_end0
  subst hnb
  exact ⟨rfl,j2,HM.out.upd hu2 hne2,HM2.out.upd hu2 hne,(Dv.Chg.of HG.out _).upd hu2 (Or.inl rfl),by rw [hu2.size];exact HZ.out⟩
theorem okl_its {w:World} {Z:Nat -> Prop} {dim:Int} {L:List ItD} {B:Nat} {v:Value} (h:Okl w Z dim L) (ho:w.ownsRow B 45 3 v L.length (flatI (srtI L))):∃ a c,v = .slice a L.length c ∧ Its w a (srtI L):=by
  have h1:=(srtI_perm L)
  rw [<- srtI_len] at ho
  obtain ⟨a,c,h2,h3⟩:=its_own ho (fun d hd => (h.1 d (h1.mem_iff.1 hd)).1)
  rw [srtI_len] at h2
  exact ⟨a,c,h2,h3⟩
theorem okl_name {w:World} {Z:Nat -> Prop} {dim:Int} {L:List ItD} (h:Okl w Z dim L):∀ d ∈ L,d.x.name.size <= maxLen:=fun d hd => (h.1 d hd).1.2.2.1
set_option maxRecDepth 100000 in
set_option maxHeartbeats 2000000 in
theorem become_any (bb vb mt:Nat) (dim:Int) (x1 x2 x3 x4:Value) (L:List ItD) (Z:Nat -> Prop) (w:World) (hb:Blk w bb #[.pointer (some ⟨vb,0,none⟩),x1,x2,x3,x4] 131) (ht:IM w mt L) (hok:Okl w Z dim L) (zb:¬ Z bb) (zt:Z mt) (hz:∀ k,Z k -> k < w.heap.size) :
    Calls Tryz.prog 54 #[.pointer (some ⟨bb,0,none⟩),.int .i64 dim,.map (some mt)] w fun e w' => e = .returned (.tuple #[]) ∧ (∃ mn pc,Bse w' (fun k => more Z w w' k ∧ k ≠ mn) bb vb dim L L mt mn pc ∧ w.heap.size <= mn ∧ mn < w'.heap.size) ∧ Dv.Chg w w' (fun k => k = bb):=by
  have hlt:=hb.lt
  have hne:=im_ne ht hb
  have HT:Hid (IM w mt L):=ht
  have HOK:Hid (Okl w Z dim L):=hok
  have hll:=hok.2
  clear ht hok
  go_enter Tryz.func54,Tryz.ntmps54
  go_wp2_with (first
    | (refine Vt.wpl_put1 rfl rfl 3 _ _ rfl szInt bb 1 _ 131 (.int .i64 dim) rfl rfl rfl rfl hb (Nat.le_of_ble_eq_true rfl) ?_;intro w1 hu1 j1)
    | (refine Vt.wpl_put1 rfl rfl 128 _ _ rfl szMapP bb 2 _ 131 (.map (some mt)) rfl rfl rfl rfl j1 (Nat.le_of_ble_eq_true rfl) ?_;intro w2 hu2 j2)
    | fail)
  have j2':Blk w2 bb #[.pointer (some ⟨vb,0,none⟩),.int .i64 dim,.map (some mt),x3,x4] 131:=j2
  have hu:Upd w w2 bb:=hu1.trans hu2
  have hs2:∀ k,Z k -> w2.heap[k]? = w.heap[k]?:=fun k hk => hu.block k (fun e => zb (by rw [<- e];exact hk))
  have HT2:Hid (IM w2 mt L):=HT.out.upd hu hne
  have HOK2:Hid (Okl w2 Z dim L):=HOK.out.same hs2
  have HR:Hid _:=rising_any mt L (okl_name HOK2.out) (by omega) w2 HT2.out
  have hsz:w2.heap.size = w.heap.size:=hu.size
  have HU:Hid (Upd w w2 bb):=hu
  clear hb j1 hu1 hu2 j2 HT HOK hu hs2
  go_wp2_with fail
  refine Calls.mono HR.out ?_
  rintro e w3 ⟨v,rfl,ho,g3⟩
  have hlt2:bb < w2.heap.size:=by omega
  have hz2:∀ k,Z k -> w3.heap[k]? = w2.heap[k]?:=fun k hk => g3.block k (by have:=hz k hk;omega)
  have HOK3:Hid (Okl w3 Z dim L):=HOK2.out.same hz2
  obtain ⟨a,c,rfl,hI⟩:=okl_its HOK3.out ho
  have HT3:Hid (IM w3 mt L):=HT2.out.below g3 HT2.out.lt
  have j3:=j2'.below g3 hlt2
  have HN:Hid _:=newCel dim a c (srtI L) w3 hI (by rw [srtI_len];omega) (fun x hx => HOK3.out.nums x ((srtI_perm L).mem_iff.1 hx))
  rw [srtI_len] at HN
  have HG3:Hid (Below w2.heap.size w2 w3):=g3
  clear HR ho hI j2' HT2 HOK2 g3 hz2
  go_wp2_with fail
  refine Calls.mono HN.out ?_
  rintro e w4 ⟨⟨pc,v,os,rfl,hC⟩,g4⟩
  have h34:w2.heap.size <= w3.heap.size:=HG3.out.size
  have h45:w3.heap.size <= w4.heap.size:=g4.size
  have j4:=j3.below g4 j3.lt
  have HT4:Hid (IM w4 mt L):=HT3.out.below g4 HT3.out.lt
  have HOK4:Hid (Okl w4 Z dim L):=HOK3.out.same (fun k hk => g4.block k (by have:=hz k hk;omega))
  have HC:Hid (Cel w4 (fun k => w3.heap.size <= k ∧ k < w4.heap.size) pc dim (srtI L) w3.heap.size v os):=hC
  have HG4:Hid (Below w3.heap.size w3 w4):=g4
  clear HN hC j3 HT3 HOK3 g4
  go_wp2_with (first
    | (refine Vt.wpl_put1 rfl rfl 129 _ _ rfl szCellsP bb 4 _ 131 (.pointer (some ⟨pc,0,none⟩)) rfl rfl rfl rfl j4 (Nat.le_of_ble_eq_true rfl) ?_;intro w5 hu5 j5)
    | fail)
  have j5':Blk w5 bb #[.pointer (some ⟨vb,0,none⟩),.int .i64 dim,.map (some mt),x3,.pointer (some ⟨pc,0,none⟩)] 131:=j5
  have z5:w5.heap.size = w4.heap.size:=hu5.size
  have HT5:Hid (IM w5 mt L):=HT4.out.upd hu5 hne
  have HOK5:Hid (Okl w5 Z dim L):=HOK4.out.same (fun k hk => hu5.block k (fun e => zb (by rw [<- e];exact hk)))
  have HC5:Hid (Cel w5 (fun k => w3.heap.size <= k ∧ k < w4.heap.size) pc dim (srtI L) w3.heap.size v os):=HC.out.same (fun k hk => hu5.block k (by omega))
  have HUN:Hid _:=undo_any bb vb mt dim x3 (.pointer (some ⟨pc,0,none⟩)) L w5 j5' HT5.out hne
  have HG5:Hid (Dv.Chg w w5 (fun k => k = bb)):=by
    have c2:Dv.Chg w w2 (fun k => k = bb):=chg_of_upd HU.out
    have c4:=(c2.below HG3.out).below HG4.out
    exact c4.upd hu5 (Or.inl rfl)
  clear j5 j5' j4 HT4 HOK4 HC hu5 HT5 HG3 HG4 HU
  go_wp2_with fail
  refine Calls.mono HUN.out ?_
  rintro e w6 ⟨rfl,j6,hM,hM2,c6,z6⟩
  have HFIN:Hid _:=hM
  go_wp2_with fail
  go_end0
  have hB6:∀ k,k < w5.heap.size -> k ≠ bb -> w6.heap[k]? = w5.heap[k]?:=fun k hk hn => c6.block k hk hn
  refine ⟨rfl,⟨w5.heap.size,pc,⟨j6,hM2,hM,⟨_,_,_,((HC5.out.perm' (srtI_perm L)).same (fun k hk => hB6 k (by omega) (by omega))).mono (fun k hk => ⟨Or.inr ⟨by omega,by omega⟩,by omega⟩)⟩,fun h => ?_,fun h => h.2 rfl,⟨Or.inl zt,?_⟩,?_,?_⟩,by omega,by omega⟩,?_⟩
  · rcases h.1 with h | h
    · exact zb h
    · omega
  · have:=hz mt zt;omega
  · exact (HOK5.out.same (fun k hk => hB6 k (by have:=hz k hk;omega) (fun e => zb (by rw [<- e];exact hk)))).mono (fun k hk => ⟨Or.inl hk,by have:=hz k hk;omega⟩)
  · exact (HOK5.out.same (fun k hk => hB6 k (by have:=hz k hk;omega) (fun e => zb (by rw [<- e];exact hk)))).mono (fun k hk => ⟨Or.inl hk,by have:=hz k hk;omega⟩)
  · exact HG5.out.trans c6
theorem dim_any (bb:Nat) (x0 x2 x3 x4:Value) (dim:Int) (w:World) (hb:Blk w bb #[x0,.int .i64 dim,x2,x3,x4] 131) :
    Calls Tryz.prog 27 #[.pointer (some ⟨bb,0,none⟩)] w fun e w' => e = .returned (.int .i64 dim) ∧ w' = w:=by
  have c1:=hb.cell 1
  go_enter Tryz.func27,Tryz.ntmps27
  go_wp2
  go_ret
  exact ⟨rfl,rfl⟩
theorem exec_item {w:World} {a:Act} {o:Oper} {b:Nat} {arr:Array Value} (x:Operand) (ho:o.op = .load 45 x) (hx:a.eval x = .pointer (some ⟨b,0,none⟩)) (hb:Blk w b arr 45) (hn:arr.size = 3):(execOp a.eval o).run Tryz.prog w = .ok (.value (.agg arr)) w:=by
  refine Su.exec_load 45 x ho ⟨b,0,none⟩ hx _ ?_
  have h:=Su.loadV_run w 45 Tryz.isAgg45 3 It.szIt b 0 arr 45 hb (by omega)
  rwa [Nat.zero_add,Su.ext_all hn] at h
theorem put_no (bb:Nat) (x0 x2 x3 x4:Value) (dim:Int) (x:ItD) (w:World) (hb:Blk w bb #[x0,.int .i64 dim,x2,x3,x4] 131) (hx:x.Ok w) (hd:1 <= dim) (hr:rightB x.x dim = false) :
    Calls Tryz.prog 17 #[.pointer (some ⟨bb,0,none⟩),.agg x.arr] w fun e w' => e = .returned errA ∧ Below w.heap.size w w':=by
  obtain ⟨⟨nm,tg,zs⟩,xa,xc⟩:=x
  show Calls Tryz.prog 17 #[.pointer (some ⟨bb,0,none⟩),.agg #[.string nm,.string tg,.slice xa zs.length xc]] w _
  have hd':(dim == 0) = false:=by rw [beq_eq_false_iff_ne];omega
  have s1:=below_alloc w (.cells #[.string nm,.string tg,.slice xa zs.length xc] 45)
  have j1:Blk (w.alloc (.cells #[.string nm,.string tg,.slice xa zs.length xc] 45)) w.heap.size #[.string nm,.string tg,.slice xa zs.length xc] 45:=Blk.new w _ _
  have hb1:=hb.below s1 hb.lt
  have hx1:=hx.below s1
  have hzz:w.heap.size < (w.alloc (.cells #[.string nm,.string tg,.slice xa zs.length xc] 45)).heap.size:=by simp
  go_enter Tryz.func17,Tryz.ntmps17
  go_wp2_with fail
  generalize w.alloc (.cells #[.string nm,.string tg,.slice xa zs.length xc] 45) = w1 at *
  have HD:Hid _:=dim_any bb x0 x2 x3 x4 dim w1 hb1
  refine Calls.mono HD.out ?_
  rintro e w2 ⟨rfl,hw⟩
  obtain rfl:w1 = w2:=hw.symm
  clear hw HD
  have HR:Hid (∀ W,Below w1.heap.size w1 W -> Calls Tryz.prog 59 #[.agg #[.string nm,.string tg,.slice xa zs.length xc],.int .i64 dim] W fun e w' => e = .returned (.bool false) ∧ Below W.heap.size W w'):=fun W hW => by
    have h:=right_any ⟨⟨nm,tg,zs⟩,xa,xc⟩ dim W (hx1.below hW)
    rw [hr] at h
    exact h
  have HB:Hid (Blk w1 bb #[x0,.int .i64 dim,x2,x3,x4] 131):=hb1
  have HJ:Hid (Blk w1 w.heap.size #[.string nm,.string tg,.slice xa zs.length xc] 45):=j1
  have HS:Hid (Below w.heap.size w w1):=s1
  clear hb1 j1 s1 hx1 hx hb hr
  go_wp2_with fail
  have s0:Below w1.heap.size w1 w1.drew:=below_drewN (Below.refl _ _) 1
  refine regS_in 7 (fun W => Below w1.heap.size w1 W) Nr.mixed rfl ?_
  refine regS_take 0 11 (.agg #[.string nm,.string tg,.slice xa zs.length xc]) rfl rfl (by kernel_rfl) (fun _ _ _ h => h) (by kernel_rfl) (fun W hW => exec_item _ rfl rfl (HJ.out.below hW hzz) rfl) s0 ?_
  refine regS_take 1 12 (.pointer (some ⟨bb,0,none⟩)) rfl rfl (by kernel_rfl) (fun _ _ _ h => h) (by kernel_rfl) (fun W hW => by go_simp) s0 ?_
  refine regS_take 2 13 (.pointer (some ⟨bb,0,none⟩)) rfl rfl (by kernel_rfl) (fun _ _ _ h => h) (by kernel_rfl) (fun W hW => by go_simp) s0 ?_
  refine regS_take 3 14 (.pointer (some ⟨bb,1,none⟩)) rfl rfl (by kernel_rfl) (fun _ _ _ h => h) (by kernel_rfl) (fun W hW => by go_simp) s0 ?_
  refine regS_take 4 15 (.int .i64 dim) rfl rfl (by kernel_rfl) (fun _ _ _ h => h) (by kernel_rfl) (fun W hW => by have a0:=(HB.out.below hW HB.out.lt).cell 1;go_simp) s0 ?_
  simp only [Act.put,List.setIfInBounds_toArray,List.set_cons_succ,List.set_cons_zero]
  refine regS_one 5 rfl (by kernel_rfl) (by kernel_rfl) (fun K hK => ?_)
  go_wp2_with fail
  refine Calls.mono (HR.out _ s0) ?_
  rintro e w3 ⟨rfl,g3⟩
  have s1:=s0.trans (g3.mono s0.size)
  refine hK _ _ s1 ?_
  clear hK K HR g3
  refine regS_take 6 17 (.bool true) rfl rfl (by kernel_rfl) (fun _ _ _ h => h) (by kernel_rfl) (fun W hW => by go_simp) s1 ?_
  refine regS_end (by kernel_rfl) ?_
  simp only [Act.put,List.setIfInBounds_toArray,List.set_cons_succ,List.set_cons_zero]
  go_wp2_with fail
  go_ret
  exact ⟨rfl,HS.out.trans (s1.mono HS.out.size)⟩
end Go.Proofs.YtjmpjfikcgccdaaGreatDoor.Bs
