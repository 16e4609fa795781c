/-
  Part of the proof of BaseWaitsCard (I7 and on).
-/
import Derived.Test.YtjmpjfikcgccdaaGreatDoorB06
namespace Go.Proofs.YtjmpjfikcgccdaaGreatDoor.It
open Go.RowKit
section
variable {P:Program} {ops:Array Oper} {Q:Exit -> Act -> World -> Prop} {a:Act} {w:World} {rest:List Oper} {o:Oper} {K:Act -> World -> Prop}
theorem storeVar_run (t:TypeId) (n:Nat) (hi0:(P.info? t).map (·.size) = some n) (b:Nat) (arr vs:Array Value) (T:TypeId) (hone:∀ v ∈ vs.toList,v.oneCell' = true) (hb:Blk w b arr T) (hn:arr.size = n) (hv:vs.size = n) :
    (storeVar t ⟨b,0,none⟩ (.agg vs)).run P w = .ok () (putBlk w b (.cells vs T)):=by
  obtain ⟨i,hi,hsize⟩:=Option.map_eq_some_iff.1 hi0
  have hl:=storeCells_run P w b hb.lt T vs.toList 0 arr (by simp [hv,hn]) hone
  rw [putBlk_self hb,foldset_all _ _ (by simp [hv,hn])] at hl
  simp only [storeVar,sizeOf,typeInfo,hi,hsize,Sem.run_bind,Sem.run_pure,run_program,Result.andThen_ok,Value.cells,hv,ne_eq,not_true,if_false,hl]
theorem wpl_storeV (hgd:o.guard = none) (hdn:o.dst = none) (t:TypeId) (x y:Operand) (ho:o.op = .store t x y) (n:Nat) (hi0:(P.info? t).map (·.size) = some n)
    (b:Nat) (arr:Array Value) (T:TypeId) (vs:Array Value) (hone:∀ v ∈ vs.toList,v.oneCell' = true) (hx:a.eval x = .pointer (some ⟨b,0,none⟩)) (hy:a.eval y = .agg vs) (hb:Blk w b arr T) (hn:arr.size = n) (hv:vs.size = n)
    (h:∀ w',Upd w w' b -> Blk w' b vs T -> wpList P ops Q rest a w'):wpList P ops Q (o :: rest) a w:=by
  refine wpList_plain hgd fun K hK => ?_
  unfold Oper.wp execOp
  simp only [ho,hx,hy,Instr.storeAt,Instr.sureAddr,Sem.run_bind,Sem.run_pure,Result.andThen_ok,storeVar_run t n hi0 b arr vs T hone hb hn hv]
  simp only [Oper.upon_skip,hdn,Act.put]
  exact hK _ _ (h _ (putBlk_upd _ _ _) (putBlk_blk hb))
theorem loadV_run (w:World) (t:TypeId) (ha:∀ w,(isAgg t).run P w = .ok true w) (n:Nat) (hi0:(P.info? t).map (·.size) = some n) (b off:Nat) (arr:Array Value) (T:TypeId) (hb:Blk w b arr T) (hn:off + n <= arr.size):(loadVar t ⟨b,off,none⟩).run P w = .ok (.agg (arr.extract off (off + n))) w:=by
  obtain ⟨i,hi,hsize⟩:=Option.map_eq_some_iff.1 hi0
  have hl:=loadCellsFrom_run P w b off arr T hb n 0 #[] (by omega)
  simp only [loadVar,ha,sizeOf,typeInfo,loadCells,hi,hsize,Sem.run_bind,Sem.run_pure,run_program,Result.andThen_ok,if_true,hl]
  simp only [Nat.add_zero,Array.empty_append]
theorem op_storeV (hdn:o.dst = none) (t:TypeId) (x y:Operand) (ho:o.op = .store t x y) (n:Nat) (hi0:(P.info? t).map (·.size) = some n)
    (b:Nat) (arr:Array Value) (T:TypeId) (vs:Array Value) (hone:∀ v ∈ vs.toList,v.oneCell' = true) (hx:a.eval x = .pointer (some ⟨b,0,none⟩)) (hy:a.eval y = .agg vs) (hb:Blk w b arr T) (hn:arr.size = n) (hv:vs.size = n)
    (h:∀ w',Upd w w' b -> Blk w' b vs T -> K a w'):o.wp P a w K Q:=by
  unfold Oper.wp execOp
  simp only [ho,hx,hy,Instr.storeAt,Instr.sureAddr,Sem.run_bind,Sem.run_pure,Result.andThen_ok,storeVar_run t n hi0 b arr vs T hone hb hn hv]
  simp only [Oper.upon_skip,hdn,Act.put]
  exact h _ (putBlk_upd _ _ _) (putBlk_blk hb)
theorem wpl_loadV' (hgd:o.guard = none) (t:TypeId) (x:Operand) (ho:o.op = .load t x) (ha:∀ w,(isAgg t).run P w = .ok true w) (n:Nat) (hi0:(P.info? t).map (·.size) = some n)
    (b off:Nat) (arr:Array Value) (T:TypeId) (hx:a.eval x = .pointer (some ⟨b,off,none⟩)) (hb:Blk w b arr T) (hn:off + n <= arr.size)
    (h:wpList P ops Q rest (a.put o.dst (.agg (arr.extract off (off + n)))) w):wpList P ops Q (o :: rest) a w:=by
  refine wpList_plain hgd fun K hK => ?_
  unfold Oper.wp execOp
  simp only [ho,hx,Instr.loadAt,Instr.sureAddr,Sem.run_bind,Sem.run_pure,Result.andThen_ok,loadV_run w t ha n hi0 b off arr T hb hn]
  exact hK _ _ h
end
theorem ret_cellV2 {P:Program} {fn:Func} {R:Ending -> World -> Prop} {a:Act} {w:World} (p q:Tmp) (t:TypeId) (hf:fn.results = #[.cell p t,.tmp q]) (ha:∀ w,(isAgg t).run P w = .ok true w) (n:Nat) (hi0:(P.info? t).map (·.size) = some n)
    (b:Nat) (vs:Array Value) (T:TypeId) (hn:vs.size = n) (v:Value) (hx:a.tmps.getD p undef = .pointer (some ⟨b,0,none⟩)) (hq:a.tmps.getD q undef = v) (hb:Blk w b vs T) (hd:a.defers = []) (hR:R (.returned (.tuple #[.agg vs,v])) w):bodyPost P fn R .ret a w:=by
  refine bodyPost_ret ?_ hd hR
  have hl:=loadV_run w t ha n hi0 b 0 vs T hb (by omega)
  rw [Nat.zero_add,<- hn,Array.extract_size] at hl
  have hx':a.tmps[p]?.getD undef = .pointer (some ⟨b,0,none⟩):=by rw [<- hx];simp
  have hq':a.tmps[q]?.getD undef = v:=by rw [<- hq];simp
  simp only [results,hf]
  simp [hx',hq',asAddr,hl]
section
variable {P:Program} {l:List Oper} {Q:Exit -> Act -> World -> Prop} {S:World -> Prop} {fuel:Nat} {listed:Array Bool} {a:Act} {w:World}
end
theorem grown_blk {w w':World} {b:Nat} {arr:Array Value} {T:TypeId} {row:Option Nat} (h:Blk w b arr T) (hg:w.grownBy w' row) (hne:∀ k,row = some k -> k ≠ b):Blk w' b arr T:=by
  have hl:=h.lt
  unfold Blk at *
  rw [hg.block b hl (fun e => hne b e.symm rfl)];exact h
theorem grown_cell {w w':World} {b o:Nat} {v:Value} {row:Option Nat} (h:w.cell? ⟨b,o,none⟩ = some v) (hg:w.grownBy w' row) (hne:∀ k,row = some k -> k ≠ b):w'.cell? ⟨b,o,none⟩ = some v:=by
  have hl:=World.block_lt_of_cell? w _ h
  unfold World.cell? at *
  rw [hg.block b hl (fun e => hne b e.symm rfl)];exact h
theorem set_cell {w:World} {b c o j:Nat} {v u:Value} (h:w.cell? ⟨b,o,none⟩ = some v) (hne:c ≠ b):(w.setCell ⟨c,j,none⟩ u).cell? ⟨b,o,none⟩ = some v:=by
  unfold World.cell? World.setCell at *
  simp only [Array.getElem?_modify,hne,if_false];exact h
theorem pcs_size (s:ByteArray):∀ x ∈ pcs s,x.size <= s.size:=by
  have key:∀ (k:Nat) (s:ByteArray),∀ x ∈ Lib.splitB ⟨#[32]⟩ 0 k s,x.size <= s.size:=by
    intro k
    induction k with
    | zero => intro s x hx;rw [Lib.splitB_zero,List.mem_singleton] at hx;subst hx;exact Nat.le_refl _
    | succ k ih =>
      intro s x hx
      unfold Lib.splitB at hx
      split at hx
      · rw [List.mem_singleton] at hx;subst hx;exact Nat.le_refl _
      · rcases List.mem_cons.1 hx with rfl | hx
        · rw [ByteArray.size_extract];omega
        · have:=ih _ x hx
          rw [ByteArray.size_extract] at this;omega
  exact key _ s
theorem itemP_pcs (s:ByteArray):itemP s.data.toList = match pcs s with
    | a :: b :: r => (numsP (r.map (·.data.toList))).map fun ns => ⟨a,b,ns⟩
    | _ => none:=by
  unfold itemP
  rw [<- pcs_data]
  match pcs s with
  | [] => rfl
  | [a] => rfl
  | a :: b :: r => rfl
theorem numsP_snoc {w:List UInt8} {n:Int} (hw:numP w = some n):∀ {l:List (List UInt8)} {ns:List Int},numsP l = some ns -> numsP (l ++ [w]) = some (ns ++ [n])
  | [],ns,h => by simp only [numsP,Option.some.injEq] at h;subst h;simp [numsP,hw]
  | v :: l,ns,h => by
    simp only [List.cons_append,numsP] at h ⊢
    cases e:numP v with
    | none => simp [e] at h
    | some m =>
      simp only [e] at h ⊢
      obtain ⟨ms,h1,rfl⟩:=Option.map_eq_some_iff.1 h
      rw [numsP_snoc hw h1];rfl
theorem numsP_bad {w:List UInt8} (hw:numP w = none):∀ {l:List (List UInt8)},w ∈ l -> numsP l = none
  | v :: l,h => by
    simp only [numsP]
    rcases List.mem_cons.1 h with rfl | h
    · rw [hw]
    · cases numP v with
      | none => rfl
      | some m => simp only;rw [numsP_bad hw h];rfl
theorem numsP_len:∀ {l:List (List UInt8)} {ns:List Int},numsP l = some ns -> ns.length = l.length
  | [],ns,h => by simp only [numsP,Option.some.injEq] at h;subst h;rfl
  | v :: l,ns,h => by
    simp only [numsP] at h
    cases e:numP v with
    | none => simp [e] at h
    | some m =>
      simp only [e] at h
      obtain ⟨ms,h1,rfl⟩:=Option.map_eq_some_iff.1 h
      simp [numsP_len h1]
theorem szIt:(Tryz.prog.info? 45).map (·.size) = some 3:=by kernel_rfl
def ItemPost (l:List UInt8) (N:Nat) (e:Ending) (w':World):Prop:=match itemP l with
  | some x => ∃ a c,e = .returned (.tuple #[.agg (ItD.mk x a c).arr,.bool true]) ∧ (ItD.mk x a c).Ok w' ∧ ∀ g o,a = some ⟨g,o,none⟩ -> N <= g ∧ g < w'.heap.size
  | none => e = .returned (.tuple #[.agg #[.string ByteArray.empty,.string ByteArray.empty,.slice none 0 0],.bool false])
theorem itemPost_no {l:List UInt8} {N:Nat} (h:itemP l = none) (w':World):ItemPost l N (.returned (.tuple #[.agg #[.string ByteArray.empty,.string ByteArray.empty,.slice none 0 0],.bool false])) w':=by
  unfold ItemPost;rw [h]
theorem itemPost_ok {l:List UInt8} {x:Itm} {N:Nat} (h:itemP l = some x) (a:Option Addr) (c:Nat) (w':World) (hk:(ItD.mk x a c).Ok w') (hg:∀ g o,a = some ⟨g,o,none⟩ -> N <= g ∧ g < w'.heap.size):ItemPost l N (.returned (.tuple #[.agg (ItD.mk x a c).arr,.bool true])) w':=by
  unfold ItemPost;rw [h];exact ⟨a,c,rfl,hk,hg⟩
set_option maxRecDepth 100000 in
set_option maxHeartbeats 4000000 in
theorem itemOf_any (s:ByteArray) (w:World) (hs:s.size <= 100000) (hL:LB w) :
    Calls Tryz.prog 182 #[.string s] w fun e w' => ItemPost s.data.toList w.heap.size e w' ∧ Below w.heap.size w w':=by
  have zit:=zeroIt
  go_enter Tryz.func182,Tryz.ntmps182
  go_wp2_with fail
  have jR:Blk (w.alloc (.cells #[.string ByteArray.empty,.string ByteArray.empty,.slice none 0 0] 45)) w.heap.size #[.string ByteArray.empty,.string ByteArray.empty,.slice none 0 0] 45:=Blk.new _ _ _
  have g0:=below_alloc w (.cells #[.string ByteArray.empty,.string ByteArray.empty,.slice none 0 0] 45)
  generalize w.alloc (.cells #[.string ByteArray.empty,.string ByteArray.empty,.slice none 0 0] 45) = w0 at *
  refine (split_any s w0 (by omega) (hL.below g0)).mono ?_
  rintro e wA ⟨⟨b,c,rfl,hb0,hb1,hbc,hcell⟩,gA⟩
  have hL0:=hL.below g0
  have hLA:=hL0.below gA
  have jRA:=jR.below gA jR.lt
  have gwA:=g0.trans (gA.mono g0.size)
  have hRb:w.heap.size < b:=by have:=jR.lt;omega
  have hpc:=pcs_size s
  have hip:=itemP_pcs s
  have hlen:=pcs_len s
  clear jR gA g0
  generalize pcs s = ps at *
  match ps with
  | [] =>
    have HI:Hid (itemP s.data.toList = none):=hip
    clear hip hcell
    go_wp2_with (refine wpl_storeV rfl rfl 45 _ _ rfl 3 szIt w.heap.size _ 45 #[.string ByteArray.empty,.string ByteArray.empty,.slice none 0 0] (by decide) rfl rfl jRA rfl rfl ?_;intro w1 hu1 j1)
    refine ret_cellV2 2 3 45 rfl Tryz.isAgg45 3 szIt w.heap.size _ 45 rfl _ rfl rfl j1 rfl ?_
    exact ⟨itemPost_no HI.out _,below_upd gwA hu1 (Nat.le_refl _)⟩
  | [a] =>
    have HI:Hid (itemP s.data.toList = none):=hip
    clear hip hcell
    go_wp2_with (refine wpl_storeV rfl rfl 45 _ _ rfl 3 szIt w.heap.size _ 45 #[.string ByteArray.empty,.string ByteArray.empty,.slice none 0 0] (by decide) rfl rfl jRA rfl rfl ?_;intro w1 hu1 j1)
    refine ret_cellV2 2 3 45 rfl Tryz.isAgg45 3 szIt w.heap.size _ 45 rfl _ rfl rfl j1 rfl ?_
    exact ⟨itemPost_no HI.out _,below_upd gwA hu1 (Nat.le_refl _)⟩
  | wa :: wb :: r =>
    have HI:Hid (itemP s.data.toList = (numsP (r.map (·.data.toList))).map fun ns => ⟨wa,wb,ns⟩):=hip
    clear hip
    have ka:=hcell 0 wa rfl
    have kb:=hcell 1 wb rfl
    have la:=hpc wa (by simp)
    have lb:=hpc wb (by simp)
    have hone:∀ v ∈ (#[Value.string wa,Value.string wb,Value.slice none 0 0]:Array Value).toList,v.oneCell' = true:=by intro v hv;simp at hv;rcases hv with rfl | rfl | rfl <;> rfl
    go_wp2_with fail
    refine Code.wp_mono (Q:=fun ex a' w' => ex = .normal ∧ ∃ B5,a' = ⟨#[.string s,undef,.pointer (some ⟨w.heap.size,0,none⟩),.bool false,.slice (some ⟨b,0,none⟩) (r.length + 1 + 1) c,.pointer (some ⟨B5,0,none⟩),undef,undef,undef,undef,.string s,.slice (some ⟨b,0,none⟩) (r.length + 1 + 1) c,.slice (some ⟨b,0,none⟩) (r.length + 1 + 1) c,.int .i64 ((r.length:Int) + 1 + 1),.bool (decide ((r.length:Int) + 1 + 1 < 2)),undef,.slice (some ⟨b,0,none⟩) (r.length + 1 + 1) c,.pointer (some ⟨b,0,none⟩),.string wa,.string wa,.slice (some ⟨b,0,none⟩) (r.length + 1 + 1) c,.pointer (some ⟨b,1,none⟩),.string wb,.string wb,.agg #[.string wa,.string wb,.slice none 0 0],undef,undef,undef,undef,undef,undef,undef,undef,undef,undef,undef,undef,undef,undef,undef,undef,undef,undef,undef,undef,undef,undef,undef],[]⟩ ∧ wA.heap.size <= B5 ∧ Blk w' B5 #[.string wa,.string wb,.slice none 0 0] 45 ∧ Below wA.heap.size wA w') ?_ ?_
    rotate_left
    · have hS:=below_drawn wA 1
      refine regS_in 11 (fun w' => Below wA.heap.size wA w') mixed rfl ?_
      refine regS_take 0 16 (.slice (some ⟨b,0,none⟩) (r.length + 1 + 1) c) rfl rfl (by kernel_rfl) (fun _ _ _ h => by cases h.1) rfl (fun w' hS => by go_simp) hS ?_
      refine regS_take 1 17 (.pointer (some ⟨b,0,none⟩)) rfl rfl (by kernel_rfl) (fun _ _ _ h => by cases h.1) rfl (fun w' hS => by go_simp;intro h;exfalso;omega) hS ?_
      refine regS_take 2 18 (.string wa) rfl rfl (by kernel_rfl) (fun _ _ _ h => by cases h.1) rfl (fun w' hS => by have c0:=cell_below hS ka;go_simp) hS ?_
      refine regS_take 4 20 (.slice (some ⟨b,0,none⟩) (r.length + 1 + 1) c) rfl rfl (by kernel_rfl) (fun _ _ _ h => by cases h.1) rfl (fun w' hS => by go_simp) hS ?_
      refine regS_take 5 21 (.pointer (some ⟨b,1,none⟩)) rfl rfl (by kernel_rfl) (fun _ _ _ h => by cases h.1) rfl (fun w' hS => by go_simp;intro h;exfalso;omega) hS ?_
      refine regS_take 6 22 (.string wb) rfl rfl (by kernel_rfl) (fun _ _ _ h => by cases h.1) rfl (fun w' hS => by have c0:=cell_below hS kb;go_simp) hS ?_
      simp only [Act.put,List.setIfInBounds_toArray,List.set_cons_succ,List.set_cons_zero]
      refine regS_two 3 9 rfl rfl (by kernel_rfl) rfl rfl (fun K hK' => ?_) (fun K hK' => ?_)
      · go_wp2_with fail
        refine (clone_any wa _ (by omega)).mono ?_
        rintro e' v1 ⟨rfl,g1⟩
        have s1:=hS.trans (g1.mono hS.size)
        refine hK' _ _ s1 ?_
        clear hK' K
        refine regS_two 7 9 rfl rfl (by kernel_rfl) rfl rfl (fun K hK' => ?_) (fun K hK' => ?_)
        · go_wp2_with fail
          refine (clone_any wb _ (by omega)).mono ?_
          rintro e' v2 ⟨rfl,g2⟩
          have s2:=s1.trans (g2.mono s1.size)
          refine hK' _ _ s2 ?_
          clear hK' K
          refine regS_take 8 24 (.agg #[.string wa,.string wb,.slice none 0 0]) rfl rfl (by kernel_rfl) (fun _ _ _ h => by cases h.1) rfl (fun w' hS => by go_simp) s2 ?_
          simp only [Act.put,List.setIfInBounds_toArray,List.set_cons_succ,List.set_cons_zero]
          refine regS_one 9 rfl (by kernel_rfl) rfl (fun K hK' => ?_)
          go_wp2_with fail
          have s3:=s2.trans ((below_alloc v2 (.cells #[.string ByteArray.empty,.string ByteArray.empty,.slice none 0 0] 45)).mono s2.size)
          have j3:Blk (World.alloc v2 (.cells #[.string ByteArray.empty,.string ByteArray.empty,.slice none 0 0] 45)) (World.heap v2).size #[.string ByteArray.empty,.string ByteArray.empty,.slice none 0 0] 45:=Blk.new _ _ _
          refine hK' _ _ s3 ?_
          clear hK' K
          refine regS_last 10 rfl (by kernel_rfl) rfl (fun K hK' => ?_)
          refine op_storeV rfl 45 (.tmp 5) (.tmp 24) rfl 3 szIt v2.heap.size _ 45 #[.string wa,.string wb,.slice none 0 0] hone rfl rfl j3 rfl rfl ?_
          intro w4 hu4 j4
          have s9:=below_upd s3 hu4 (by have:=(s2).size;first | omega | exact this)
          exact hK' _ _ s9 ⟨rfl,v2.heap.size,rfl,by have:=(s2).size;first | omega | exact this,j4,s9⟩
        · go_wp2_with fail
          have s4:=s1.trans ((below_alloc v1 (.cells #[.string ByteArray.empty,.string ByteArray.empty,.slice none 0 0] 45)).mono s1.size)
          have j4:Blk (World.alloc v1 (.cells #[.string ByteArray.empty,.string ByteArray.empty,.slice none 0 0] 45)) (World.heap v1).size #[.string ByteArray.empty,.string ByteArray.empty,.slice none 0 0] 45:=Blk.new _ _ _
          refine hK' _ _ s4 ?_
          clear hK' K
          refine regS_one 7 rfl (by kernel_rfl) rfl (fun K hK' => ?_)
          go_wp2_with fail
          refine (clone_any wb _ (by omega)).mono ?_
          rintro e' v5 ⟨rfl,g5⟩
          have s5:=s4.trans (g5.mono s4.size)
          have j5:=j4.below g5 j4.lt
          refine hK' _ _ s5 ?_
          clear hK' K
          refine regS_take 8 24 (.agg #[.string wa,.string wb,.slice none 0 0]) rfl rfl (by kernel_rfl) (fun _ _ _ h => by cases h.1) rfl (fun w' hS => by go_simp) s5 ?_
          simp only [Act.put,List.setIfInBounds_toArray,List.set_cons_succ,List.set_cons_zero]
          refine regS_last 10 rfl (by kernel_rfl) rfl (fun K hK' => ?_)
          refine op_storeV rfl 45 (.tmp 5) (.tmp 24) rfl 3 szIt v1.heap.size _ 45 #[.string wa,.string wb,.slice none 0 0] hone rfl rfl j5 rfl rfl ?_
          intro w4 hu4 j4
          have s9:=below_upd s5 hu4 (by have:=(s1).size;first | omega | exact this)
          exact hK' _ _ s9 ⟨rfl,v1.heap.size,rfl,by have:=(s1).size;first | omega | exact this,j4,s9⟩
      · go_wp2_with fail
        have s6:=hS.trans ((below_alloc wA.drew (.cells #[.string ByteArray.empty,.string ByteArray.empty,.slice none 0 0] 45)).mono hS.size)
        have j6:Blk (World.alloc wA.drew (.cells #[.string ByteArray.empty,.string ByteArray.empty,.slice none 0 0] 45)) (World.heap wA.drew).size #[.string ByteArray.empty,.string ByteArray.empty,.slice none 0 0] 45:=Blk.new _ _ _
        refine hK' _ _ s6 ?_
        clear hK' K
        refine regS_one 3 rfl (by kernel_rfl) rfl (fun K hK' => ?_)
        go_wp2_with fail
        refine (clone_any wa _ (by omega)).mono ?_
        rintro e' v7 ⟨rfl,g7⟩
        have s7:=s6.trans (g7.mono s6.size)
        have j7:=j6.below g7 j6.lt
        refine hK' _ _ s7 ?_
        clear hK' K
        refine regS_one 7 rfl (by kernel_rfl) rfl (fun K hK' => ?_)
        go_wp2_with fail
        refine (clone_any wb _ (by omega)).mono ?_
        rintro e' v8 ⟨rfl,g8⟩
        have s8:=s7.trans (g8.mono s7.size)
        have j8:=j7.below g8 j7.lt
        refine hK' _ _ s8 ?_
        clear hK' K
        refine regS_take 8 24 (.agg #[.string wa,.string wb,.slice none 0 0]) rfl rfl (by kernel_rfl) (fun _ _ _ h => by cases h.1) rfl (fun w' hS => by go_simp) s8 ?_
        simp only [Act.put,List.setIfInBounds_toArray,List.set_cons_succ,List.set_cons_zero]
        refine regS_last 10 rfl (by kernel_rfl) rfl (fun K hK' => ?_)
        refine op_storeV rfl 45 (.tmp 5) (.tmp 24) rfl 3 szIt wA.drew.heap.size _ 45 #[.string wa,.string wb,.slice none 0 0] hone rfl rfl j8 rfl rfl ?_
        intro w4 hu4 j4
        have s9:=below_upd s8 hu4 (by have:=(hS).size;first | omega | exact this)
        exact hK' _ _ s9 ⟨rfl,wA.drew.heap.size,rfl,by have:=(hS).size;first | omega | exact this,j4,s9⟩
    rintro _ _ wB ⟨rfl,B5,rfl,hB5,j5,gB⟩
    have jRB:=jRA.below gB jRA.lt
    have gwB:=gwA.trans (gB.mono gwA.size)
    have HC:Hid (∀ (j:Nat) x,r[j]? = some x -> wB.cell? ⟨b,2 + j,none⟩ = some (.string x)):=fun j x hj => cell_below gB (hcell (2 + j) x (by rw [Nat.add_comm];exact hj))
    have HSZ:Hid (∀ x ∈ r,x.size <= 100000):=fun x hx => by have:=hpc x (by simp [hx]);omega
    have n8:r.length <= 8:=by simp at hlen;omega
    have hbB:b < wB.heap.size:=by have:=gB.size;omega
    have hb5:b < B5:=by omega
    have h5B:B5 < wB.heap.size:=j5.lt
    have hRB:w.heap.size < wB.heap.size:=jRB.lt
    have hR5:w.heap.size < B5:=by omega
    have hrc:r.length + 2 <= c:=by simpa using hbc
    clear hcell hpc hlen hbc ka kb hone gB jRA gwA hB5 hb0 hb1
    have hone3:∀ (v:Value),v.oneCell' = true -> ∀ u ∈ (#[Value.string wa,Value.string wb,v]:Array Value).toList,u.oneCell' = true:=by
      intro v hv u hu
      simp at hu
      rcases hu with rfl | rfl | rfl
      · rfl
      · rfl
      · exact hv
    by_cases hc2:c = 2
    · subst hc2
      have hr0:r = []:=List.eq_nil_of_length_eq_zero (by omega)
      subst hr0
      have HI':Hid (itemP s.data.toList = some ⟨wa,wb,[]⟩):=HI.out
      clear HI HC HSZ
      go_wp2_with fail
      go_loopw [28] (fun i wr => i = .int .i64 0 ∧ wr = wB) (fun i _ => 0)
      case atStart => exact ⟨rfl,rfl⟩
      case round =>
        obtain ⟨rfl,rfl⟩:=hrel
        go_wp2_with (first
          | (refine wpl_loadV' rfl 45 _ rfl Tryz.isAgg45 3 szIt B5 0 _ 45 rfl j5 (Nat.le_refl _) ?_)
          | (refine wpl_storeV rfl rfl 45 _ _ rfl 3 szIt w.heap.size _ 45 #[.string wa,.string wb,.slice none 0 0] (hone3 _ rfl) rfl rfl jRB rfl rfl ?_;intro w2 hu2 j2))
        refine ret_cellV2 2 3 45 rfl Tryz.isAgg45 3 szIt w.heap.size _ 45 rfl _ rfl rfl j2 rfl ?_
        exact ⟨itemPost_ok HI'.out none 0 _ ⟨fun i z h => by simp at h,by simp,by simp [maxLen];omega,by simp [maxLen];omega,by simp⟩ (fun g o e => by cases e),below_upd gwB hu2 (Nat.le_refl _)⟩
    · have hc3:¬ (c:Int) = 2:=by omega
      go_wp2_with fail
      go_loopw [28] (fun i wr => ∃ (k:Nat) (v:Value) (ns:List Int),k <= r.length ∧ i = .int .i64 k ∧ numsP ((r.take k).map (·.data.toList)) = some ns ∧ Blk wr B5 #[.string wa,.string wb,v] 45 ∧ wr.ownsRow wB.heap.size 3 1 v k (ns.map (Value.int .i64)) ∧ Blk wr w.heap.size #[.string ByteArray.empty,.string ByteArray.empty,.slice none 0 0] 45 ∧ (∀ (j:Nat) x,r[j]? = some x -> wr.cell? ⟨b,2 + j,none⟩ = some (.string x)) ∧ Below w.heap.size w wr ∧ wB.heap.size <= wr.heap.size) (fun i _ => r.length - (intOf i).toNat)
      case atStart => exact ⟨0,_,[],by omega,rfl,rfl,j5,⟨rfl,Or.inl ⟨rfl,rfl⟩⟩,jRB,HC.out,gwB,Nat.le_refl _⟩
      case round =>
        obtain ⟨k,v,ns,hk,rfl,hns,jv,hrow,jr,hcs,hbel,hsz⟩:=hrel
        clear j5 jRB gwB
        have HNS:Hid (numsP ((r.take k).map (·.data.toList)) = some ns):=hns
        have HCS:Hid (∀ (j:Nat) x,r[j]? = some x -> wr.cell? ⟨b,2 + j,none⟩ = some (.string x)):=hcs
        clear hns hcs
        by_cases hlt:k < r.length
        · have hlt':(k:Int) < (r.length:Int):=by omega
          have q:=HCS.out k r[k] (List.getElem?_eq_getElem hlt)
          have hxk:Hid (r[k]? = some r[k]):=List.getElem?_eq_getElem hlt
          have hxs:r[k].size <= 100000:=HSZ.out _ (List.getElem_mem hlt)
          generalize r[k] = x at *
          have hLr:=hL.below hbel
          cases hn:numP x.data.toList with
          | none =>
            have HN:Hid (itemP s.data.toList = none):=by
              unfold Hid
              rw [HI.out,numsP_bad hn (List.mem_map.2 ⟨x,List.mem_of_getElem? hxk.out,rfl⟩)];rfl
            go_wp2_with fail
            refine (number_no x _ (by omega) hLr hn).mono ?_
            rintro e w1 ⟨⟨z,rfl⟩,g1⟩
            have jr1:=jr.below g1 jr.lt
            have hbel1:=hbel.trans (g1.mono hbel.size)
            clear jv hrow jr q g1
            go_wp2_with (refine wpl_storeV rfl rfl 45 _ _ rfl 3 szIt w.heap.size _ 45 #[.string ByteArray.empty,.string ByteArray.empty,.slice none 0 0] (by decide) rfl rfl jr1 rfl rfl ?_;intro w2 hu2 j2)
            refine ret_cellV2 2 3 45 rfl Tryz.isAgg45 3 szIt w.heap.size _ 45 rfl _ rfl rfl j2 rfl ?_
            exact ⟨itemPost_no HN.out _,below_upd hbel1 hu2 (Nat.le_refl _)⟩
          | some n =>
            have HN:Hid (numsP ((r.take (k + 1)).map (·.data.toList)) = some (ns ++ [n])):=by
              unfold Hid
              rw [List.take_add_one,hxk.out,Option.toList_some,List.map_append]
              exact numsP_snoc hn HNS.out
            go_wp2_with fail
            refine (number_ok x _ (by omega) n hn).mono ?_
            rintro e w1 ⟨rfl,g1⟩
            have jr1:=jr.below g1 jr.lt
            have jv1:=jv.below g1 jv.lt
            have hrow1:=ownsRow_below hrow g1
            have hbel1:=hbel.trans (g1.mono hbel.size)
            have hsz1:=Nat.le_trans hsz g1.size
            have HC1:Hid (∀ (j:Nat) x,r[j]? = some x -> w1.cell? ⟨b,2 + j,none⟩ = some (.string x)):=fun j x hj => cell_below g1 (HCS.out j x hj)
            have k2:w1.cell? ⟨B5,2,none⟩ = some v:=jv1.cell 2
            clear jv hrow jr q g1 hbel hsz HCS hn
            go_wp2_with (refine wpl_pushZ rfl _ _ 23 rfl wB.heap.size 3 (.int .i64 0) 1 8 Tryz.underlying23 infoInt rfl (by decide) v k _ rfl (ownsRow_below hrow1 (below_alloc _ _)) _ _ [.int .i64 n] rfl 3 (Blk.new w1 _ 3) rfl (fun u hu => by rw [List.mem_singleton] at hu;subst hu;rfl) (by omega) (by decide) (by simp;omega) ?_;intro g4 cap4 w4 hrow4 hgrow4 hat4 hlt4;have hne4:∀ m,v.ownBlock = some m -> wB.heap.size <= m:=fun m e => (row_ownLt hrow1 m e).1;have jv4:=grown_blk (jv1.alloc (.cells #[.int .i64 n] 3)) hgrow4 (fun m e => by have:=hne4 m e;omega);have k4:w4.cell? ⟨B5,2,none⟩ = some v:=jv4.cell 2;have f4:w4.frozen? ⟨B5,2,none⟩ = false:=jv4.frozen 2)
            have jr4:=grown_blk (jr1.alloc (.cells #[.int .i64 n] 3)) hgrow4 (fun m e => by have:=hne4 m e;omega)
            have hs4:wB.heap.size <= w4.heap.size:=by have:=hgrow4.size;simp at this;omega
            refine ⟨⟨k + 1,_,ns ++ [n],by omega,by go_num,HN.out,by simpa using jv4.set 2 (.slice (some ⟨g4,0,none⟩) (k + 1) cap4),?_,jr4.setOther _ (by simp;omega) _,fun j y hj => ?_,?_,by simpa [World.setCell] using hs4⟩,by simp [intOf];omega⟩
            · rw [List.map_append]
              refine ⟨hrow4.1,?_⟩
              rcases hrow4.2 with h | ⟨g',cap',cur,hv,hg,hh,rr⟩
              · exact Or.inl h
              · refine Or.inr ⟨g',cap',cur,hv,hg,?_,rr⟩
                rw [(setCell_upd w4 B5 2 _).block g' (by omega)];exact hh
            · have c1:=HC1.out j y hj
              have c2:(w1.alloc (.cells #[.int .i64 n] 3)).cell? ⟨b,2 + j,none⟩ = some (.string y):=cell_below (below_alloc _ _) c1
              exact set_cell (grown_cell c2 hgrow4 (fun m e => by have:=hne4 m e;omega)) (by omega)
            · exact ((hbel1.alloc (by omega) _).grown hgrow4 (by simp;omega) (fun m e => by have:=hne4 m e;omega)).setCell (by simp;omega) _
        · have hk':k = r.length:=by omega
          subst hk'
          have HN:Hid (itemP s.data.toList = some ⟨wa,wb,ns⟩):=by
            have:=HNS.out
            rw [List.take_length] at this
            unfold Hid;rw [HI.out,this];rfl
          have hln:Hid (ns.length = r.length):=by
            have:=numsP_len HNS.out
            unfold Hid;simpa using this
          have hform:∃ a5 c5,v = .slice a5 r.length c5 ∧ r.length <= c5 ∧ Ints wr a5 ns ∧ (∀ g o,a5 = some ⟨g,o,none⟩ -> wB.heap.size <= g ∧ g < wr.heap.size):=by
            obtain ⟨h1,⟨h2,h3⟩ | ⟨g',cap',cur,hv,hg,hh,hcp,rr⟩⟩:=hrow
            · exact ⟨none,0,by rw [h2,h3],by omega,fun i z hz => by
                have:=(List.getElem?_eq_some_iff.1 hz).1
                have:=hln.out;omega,fun g o e => by cases e⟩
            · refine ⟨some ⟨g',0,none⟩,cap',hv,hcp,fun i z hz => ⟨g',0,rfl,?_⟩,fun g o e => by
                injection e with e;injection e with e1;subst e1
                refine ⟨hg,?_⟩
                rcases Nat.lt_or_ge g' wr.heap.size with h' | h'
                · exact h'
                · simp [Array.getElem?_eq_none h'] at hh⟩
              rw [Nat.zero_add]
              exact row_cell (n:=r.length) (cap:=cap') (by rw [<- hv];exact ⟨h1,Or.inr ⟨g',cap',cur,hv,hg,hh,hcp,rr⟩⟩) i _ (by rw [List.getElem?_map,hz];rfl)
          obtain ⟨a5,c5,rfl,hc5,hI,ha5⟩:=hform
          have HI5:Hid (Ints wr a5 ns):=hI
          have HA5:Hid (∀ g o,a5 = some ⟨g,o,none⟩ -> wB.heap.size <= g ∧ g < wr.heap.size):=ha5
          clear hrow hI ha5
          go_wp2_with (first
            | (refine wpl_loadV' rfl 45 _ rfl Tryz.isAgg45 3 szIt B5 0 _ 45 rfl jv (Nat.le_refl _) ?_)
            | (refine wpl_storeV rfl rfl 45 _ _ rfl 3 szIt w.heap.size _ 45 #[.string wa,.string wb,.slice a5 r.length c5] (hone3 _ rfl) rfl rfl jr rfl rfl ?_;intro w2 hu2 j2))
          refine ret_cellV2 2 3 45 rfl Tryz.isAgg45 3 szIt w.heap.size _ 45 rfl _ rfl rfl j2 rfl ?_
          have hp:=itemPost_ok HN.out a5 c5 w2 ⟨fun i z hz => ?_,by simp [maxLen,hln.out];omega,by simp [maxLen];omega,by simp [maxLen];omega,by simpa [hln.out] using hc5⟩ (N:=w.heap.size) (fun g o e => by have:=HA5.out g o e;have:=hu2.size;omega)
          · unfold ItD.arr ItD.val at hp
            simp only [hln.out] at hp
            exact ⟨hp,below_upd hbel hu2 (Nat.le_refl _)⟩
          · obtain ⟨g,o,e1,e2⟩:=HI5.out i z hz
            refine ⟨g,o,e1,?_⟩
            have hg:=(HA5.out g o e1).1
            have hgl:=World.block_lt_of_cell? wr _ e2
            unfold World.cell? at e2 ⊢
            rw [hu2.block g (by omega)];exact e2
end Go.Proofs.YtjmpjfikcgccdaaGreatDoor.It
namespace Go.Proofs.YtjmpjfikcgccdaaGreatDoor.It
open Go.RowKit
theorem infoIt:(Tryz.prog.info? 45).map (fun i => (i.zero,i.size,i.bytes)) = some (some (.agg #[.string ByteArray.empty,.string ByteArray.empty,.slice none 0 0]),3,56):=by kernel_rfl
def flat:List ItD -> List Value
  | [] => []
  | d :: ds => .string d.x.name :: .string d.x.tag :: d.val :: flat ds
theorem flat_snoc (ds:List ItD) (d:ItD):flat (ds ++ [d]) = flat ds ++ [.string d.x.name,.string d.x.tag,d.val]:=by
  induction ds with
  | nil => rfl
  | cons e ds ih => simp [flat,ih]
theorem flat_get:∀ (ds:List ItD) (i:Nat) (d:ItD),ds[i]? = some d -> (flat ds)[i * 3]? = some (.string d.x.name) ∧ (flat ds)[i * 3 + 1]? = some (.string d.x.tag) ∧ (flat ds)[i * 3 + 2]? = some d.val
  | [],i,d,h => by simp at h
  | e :: ds,0,d,h => by simp at h;subst h;exact ⟨rfl,rfl,rfl⟩
  | e :: ds,i + 1,d,h => by
    have ih:=flat_get ds i d (by simpa using h)
    rw [show (i + 1) * 3 = i * 3 + 3 from by omega,show i * 3 + 3 + 1 = i * 3 + 1 + 3 from by omega,show i * 3 + 3 + 2 = i * 3 + 2 + 3 from by omega]
    exact ih
def Own (w:World) (B:Nat) (v:Value) (ds:List ItD):Prop:=w.ownsRow B 45 3 v ds.length (flat ds) ∧ ∀ d ∈ ds,d.Ok w ∧ ∀ g o,d.a = some ⟨g,o,none⟩ -> g < w.heap.size ∧ v.ownBlock ≠ some g
theorem Own.nil (w:World) (B:Nat):Own w B (.slice none 0 0) []:=⟨⟨rfl,Or.inl ⟨rfl,rfl⟩⟩,fun d h => by cases h⟩
theorem Own.below {w w':World} {B:Nat} {v:Value} {ds:List ItD} (h:Own w B v ds) (hb:Below w.heap.size w w'):Own w' B v ds:=
  ⟨ownsRow_below h.1 hb,fun d hd => ⟨(h.2 d hd).1.below hb,fun g o e => ⟨Nat.lt_of_lt_of_le ((h.2 d hd).2 g o e).1 hb.size,((h.2 d hd).2 g o e).2⟩⟩⟩
theorem Own.its {w:World} {B:Nat} {v:Value} {ds:List ItD} (h:Own w B v ds):∃ a c,v = .slice a ds.length c ∧ Its w a ds:=by
  obtain ⟨⟨h1,⟨h2,h3⟩ | ⟨g,cap,cur,hv,hg,hh,hc,rr⟩⟩,hO⟩:=h
  · refine ⟨none,0,by rw [h2,h3],fun i d hd => ?_⟩
    have:=(List.getElem?_eq_some_iff.1 hd).1
    omega
  · refine ⟨some ⟨g,0,none⟩,cap,hv,fun i d hd => ?_⟩
    obtain ⟨f0,f1,f2⟩:=flat_get ds i d hd
    have hr:w.ownsRow B 45 3 (.slice (some ⟨g,0,none⟩) ds.length cap) ds.length (flat ds):=by rw [<- hv];exact ⟨h1,Or.inr ⟨g,cap,cur,hv,hg,hh,hc,rr⟩⟩
    refine ⟨g,0,rfl,?_,?_,?_,(hO d (List.mem_of_getElem? hd)).1⟩
    · rw [Nat.zero_add];exact row_cell hr _ _ f0
    · rw [Nat.zero_add];exact row_cell hr _ _ f1
    · rw [Nat.zero_add];exact row_cell hr _ _ f2
theorem okd_grown {w w':World} {d:ItD} {row:Option Nat} (h:d.Ok w) (hg:w.grownBy w' row) (hne:∀ g o,d.a = some ⟨g,o,none⟩ -> row ≠ some g):d.Ok w':=by
  refine ⟨fun i z hz => ?_,h.2⟩
  obtain ⟨g,o,e1,e2⟩:=h.1 i z hz
  exact ⟨g,o,e1,grown_cell e2 hg (fun k ek hk => hne g o e1 (by rw [ek,hk]))⟩
def LowI (B:Nat) (ds:List ItD):Prop:=∀ d ∈ ds,∀ g o,d.a = some ⟨g,o,none⟩ -> B <= g
def FieldsPost (l:List UInt8) (B:Nat) (e:Ending) (w':World):Prop:=match fieldsP l with
  | some (d,xs) => ∃ a c ds,e = .returned (.tuple #[.int .i64 d,.slice a ds.length c,.bool true]) ∧ xsOf ds = xs ∧ Its w' a ds ∧ ds.length <= 60 ∧ LowI B ds
  | none => e = .returned (.tuple #[.int .i64 0,.slice none 0 0,.bool false])
theorem fieldsPost_no {l:List UInt8} {B:Nat} (h:fieldsP l = none) (w':World):FieldsPost l B (.returned (.tuple #[.int .i64 0,.slice none 0 0,.bool false])) w':=by
  unfold FieldsPost;rw [h]
theorem fieldsPost_ok {l:List UInt8} {B:Nat} {d:Int} {xs:List Itm} (h:fieldsP l = some (d,xs)) (a:Option Addr) (c:Nat) (ds:List ItD) (w':World) (h1:xsOf ds = xs) (h2:Its w' a ds) (h3:ds.length <= 60) (h4:LowI B ds):FieldsPost l B (.returned (.tuple #[.int .i64 d,.slice a ds.length c,.bool true])) w':=by
  unfold FieldsPost;rw [h];exact ⟨a,c,ds,rfl,h1,h2,h3,h4⟩
theorem cut_lens (l:List UInt8):(Lib.cut l [10]).1.length <= l.length ∧ (Lib.cut l [10]).2.1.length <= l.length ∧ (l ≠ [] -> (Lib.cut l [10]).2.1.length < l.length):=by
  unfold Lib.cut
  split
  · refine ⟨by simp;omega,by simp,fun h => ?_⟩
    have:0 < l.length:=List.length_pos_iff.2 h
    simp;try omega
  · refine ⟨by simp,by simp,fun h => ?_⟩
    simpa using List.length_pos_iff.2 h
def sLen (v:Value):Nat:=match v with
  | .string s => s.size
  | _ => 0
set_option maxRecDepth 100000 in
set_option maxHeartbeats 4000000 in
theorem fields_any (s:ByteArray) (w:World) (hs:s.size <= 100000) (hL:LB w) :
    Calls Tryz.prog 115 #[.string s] w fun e w' => FieldsPost s.data.toList w.heap.size e w' ∧ Below w.heap.size w w':=by
  obtain ⟨c1,c2,_⟩:=cut_lens s.data.toList
  rw [<- Lib.size_eq] at c1 c2
  have HF:Hid (fieldsP s.data.toList = match numP (trimP (Lib.cut s.data.toList [10]).1) with
    | none => none
    | some d => (itemsP 60 (Lib.cut s.data.toList [10]).2.1).map fun xs => (d,xs)):=rfl
  have cc:=cut_any s w (by omega) hL
  generalize Lib.cut s.data.toList [10] = q at *
  obtain ⟨qa,qb,qc⟩:=q
  simp only at c1 c2 cc HF
  have t4:(trimP qa).length <= qa.length:=by unfold trimP;split <;> simp
  cases hn:numP (trimP qa) with
  | none =>
    have HN:Hid (fieldsP s.data.toList = none):=by unfold Hid;rw [HF.out,hn]
    go_enter Tryz.func115,Tryz.ntmps115
    go_wp2_with fail
    refine cc.mono ?_
    rintro e w1 ⟨rfl,g1⟩
    go_wp2_with fail
    refine (trim_any _ w1).mono ?_
    rintro e w2 ⟨rfl,hw⟩
    obtain rfl:w1 = w2:=hw.symm
    clear hw
    go_wp2_with fail
    refine (number_no _ w1 (by rw [Lib.size_eq];simp;omega) (hL.below g1) hn).mono ?_
    rintro e w3 ⟨⟨z,rfl⟩,g3⟩
    go_wp2_with fail
    refine bodyPost_ret (v:=.tuple #[.int .i64 0,.slice none 0 0,.bool false]) (by simp [results,Tryz.results115,go_sem]) rfl ?_
    exact ⟨fieldsPost_no HN.out _,g1.trans (g3.mono g1.size)⟩
  | some d =>
    go_enter Tryz.func115,Tryz.ntmps115
    go_wp2_with fail
    refine cc.mono ?_
    rintro e w1 ⟨rfl,g1⟩
    go_wp2_with fail
    refine (trim_any _ w1).mono ?_
    rintro e w2 ⟨rfl,hw⟩
    obtain rfl:w1 = w2:=hw.symm
    clear hw
    go_wp2_with fail
    refine (number_ok _ w1 (by rw [Lib.size_eq];simp;omega) d hn).mono ?_
    rintro e w3 ⟨rfl,g3⟩
    have HF3:Hid (fieldsP s.data.toList = (itemsP 60 qb).map fun xs => (d,xs)):=by unfold Hid;rw [HF.out,hn]
    have hb3:=g1.trans (g3.mono g1.size)
    clear HF cc hn g1 g3
    go_wp2_with fail
    go_loopw [6,10] (fun rs v wr => ∃ (ds:List ItD) (l:List UInt8),rs = .string (ba l) ∧ l.length <= s.size ∧ ds.length <= 60 ∧ itemsP 60 qb = (itemsP (60 - ds.length) l).map (xsOf ds ++ ·) ∧ Own wr w.heap.size v ds ∧ Hid (LowI w.heap.size ds) ∧ Below w.heap.size w wr) (fun rs _ _ => sLen rs)
    case atStart => exact ⟨[],qb,rfl,c2,by simp,by simp [xsOf],Own.nil _ _,(fun d hd => (by cases hd)),hb3⟩
    case round =>
      obtain ⟨ds,l,rfl,hl,h60,hit,hown,HLW,hbel⟩:=hrel
      have HIT:Hid (itemsP 60 qb = (itemsP (60 - ds.length) l).map (xsOf ds ++ ·)):=hit
      clear hit hb3
      cases l with
      | nil =>
        have HX:Hid (fieldsP s.data.toList = some (d,xsOf ds)):=by
          unfold Hid
          rw [HF3.out,HIT.out]
          simp [itemsP]
        obtain ⟨a5,c5,rfl,hits⟩:=hown.its
        have HIts:Hid (Its wr a5 ds):=hits
        have hempe:(ba []).toList.isEmpty = true:=by rw [Lib.toList_data];rfl
        clear hown hits
        go_wp2_with fail
        go_ret3
        exact ⟨fieldsPost_ok HX.out a5 c5 ds wr rfl HIts.out h60 HLW.out,hbel⟩
      | cons ch l =>
        have hemp:¬ (ba (ch :: l)).toList = []:=by rw [Lib.toList_data,ba_list];simp
        have hempe:(ba (ch :: l)).toList.isEmpty = false:=by simpa using hemp
        obtain ⟨a5,c5,hv5,_⟩:=hown.its
        subst hv5
        by_cases hd60:ds.length = 60
        · have hd60':(ds.length:Int) = 60:=by omega
          have HX:Hid (fieldsP s.data.toList = none):=by
            unfold Hid
            rw [HF3.out,HIT.out,hd60]
            simp [itemsP]
          clear hown
          go_wp2_with fail
          go_ret3
          exact ⟨fieldsPost_no HX.out _,hbel⟩
        · have hd60':¬ (ds.length:Int) = 60:=by omega
          obtain ⟨l1,l2,l3⟩:=cut_lens (ch :: l)
          have l3:=l3 (by simp)
          have hd60e:60 - ds.length = (59 - ds.length) + 1:=by omega
          have HST:Hid (itemsP (60 - ds.length) (ch :: l) = match itemP (Lib.cut (ch :: l) [10]).1 with
            | none => none
            | some x => (itemsP (59 - ds.length) (Lib.cut (ch :: l) [10]).2.1).map (x :: ·)):=by unfold Hid;rw [hd60e];rfl
          have cl:=cut_any (ba (ch :: l)) wr (by rw [ba_size];omega) (hL.below hbel)
          rw [ba_list] at cl
          have hbl:=ba_size (ch :: l)
          generalize Lib.cut (ch :: l) [10] = q at *
          obtain ⟨qa',qb',qc'⟩:=q
          simp only at l1 l2 l3 cl HST
          clear hd60e
          go_wp2_with fail
          refine cl.mono ?_
          rintro e w4 ⟨rfl,g4⟩
          have hown4:=hown.below g4
          have hb4:=hbel.trans (g4.mono hbel.size)
          clear cl hown hbel g4
          go_wp2_with fail
          refine (itemOf_any (ba qa') w4 (by rw [ba_size];omega) (hL.below hb4)).mono ?_
          rintro e w5 ⟨hp,g5⟩
          rw [ba_list] at hp
          have hown5:=hown4.below g5
          have hb5:=hb4.trans (g5.mono hb4.size)
          have hg5:w4.heap.size <= w5.heap.size:=g5.size
          unfold ItemPost at hp
          cases hx:itemP qa' with
          | none =>
            rw [hx] at hp
            subst hp
            have HX:Hid (fieldsP s.data.toList = none):=by
              unfold Hid
              rw [HF3.out,HIT.out,HST.out,hx]
              simp
            clear hx hown4 hown5 g5
            go_wp2_with fail
            go_ret3
            exact ⟨fieldsPost_no HX.out _,hb5.alloc hb5.size _⟩
          | some x =>
            rw [hx] at hp
            obtain ⟨xa,xc,rfl,hxok,hxg⟩:=hp
            have HN:Hid (itemsP 60 qb = (itemsP (60 - (ds ++ [ItD.mk x xa xc]).length) qb').map (xsOf (ds ++ [ItD.mk x xa xc]) ++ ·)):=by
              have e1:60 - (ds ++ [ItD.mk x xa xc]).length = 59 - ds.length:=by rw [List.length_append];show 60 - (ds.length + 1) = 59 - ds.length;omega
              unfold Hid
              rw [e1,HIT.out,HST.out,hx]
              simp only [Option.map_map]
              congr 1
              funext ys
              simp [xsOf]
            have hrow4:=hown4.1
            clear hx hown4 g5 HIT HST
            obtain ⟨nm,tg,zs⟩:=x
            unfold ItD.arr ItD.val
            simp only
            have hB5:w.heap.size <= w5.heap.size:=hb5.size
            have g6:=below_alloc w5 (.cells #[.string nm,.string tg,.slice xa zs.length xc] 45)
            have hownA:=hown5.below g6
            have hokA:=hxok.below g6
            generalize hwA:w5.alloc (.cells #[.string nm,.string tg,.slice xa zs.length xc] 45) = wA at *
            have HWA:Hid (w5.alloc (.cells #[.string nm,.string tg,.slice xa zs.length xc] 45) = wA):=hwA
            clear hwA
            have g7:=below_alloc wA (.cells #[.string nm,.string tg,.slice xa zs.length xc] 45)
            have hownB:=hownA.below g7
            have hokB:=hokA.below g7
            have hbB:=(hb5.trans (g6.mono hb5.size)).trans (g7.mono (by have:=g6.size;omega))
            have hsA:w5.heap.size < wA.heap.size:=by rw [<- HWA.out];simp
            clear hownA hokA hxok hown5 hb5
            go_wp2_with (at_builtin;refine Hid.out ?_)
            refine Lib.hid ?_
            rw [HWA.out]
            refine wpl_pushZ rfl _ _ 49 rfl w.heap.size 45 (.agg #[.string ByteArray.empty,.string ByteArray.empty,.slice none 0 0]) 3 56 Tryz.underlying49 infoIt rfl (by decide) (.slice a5 ds.length c5) ds.length _ rfl hownB.1 _ _ [.string nm,.string tg,.slice xa zs.length xc] rfl 45 (Blk.new' wA _ _ (by rw [<- HWA.out];simp)) rfl (fun u hu => by simp at hu;rcases hu with rfl | rfl | rfl <;> rfl) (by omega) (by decide) (by simp;omega) ?_
            intro g8 cap8 w8 hrow8 hgrow8 hat8 hlt8
            go_wp2_with fail
            have hbel8:=row_grownBelow hbB hownB.1 hgrow8 (by simp;omega)
            have hne8:∀ g o,xa = some ⟨g,o,none⟩ -> (Value.slice a5 ds.length c5).ownBlock ≠ some g:=fun g o e hb => by
              have h1:=hxg g o e
              have h2:=(row_ownLt hrow4 g hb).2
              omega
            refine ⟨⟨ds ++ [ItD.mk ⟨nm,tg,zs⟩ xa xc],qb',rfl,by omega,by rw [List.length_append];show ds.length + 1 <= 60;omega,HN.out,⟨?_,?_⟩,?_,hbel8⟩,?_⟩
            · rw [flat_snoc,List.length_append]
              exact hrow8
            · have key:∀ y:ItD,y.Ok (wA.alloc (.cells #[.string nm,.string tg,.slice xa zs.length xc] 45)) -> (∀ g o,y.a = some ⟨g,o,none⟩ -> g < (wA.alloc (.cells #[.string nm,.string tg,.slice xa zs.length xc] 45)).heap.size ∧ (Value.slice a5 ds.length c5).ownBlock ≠ some g) -> y.Ok w8 ∧ ∀ g o,y.a = some ⟨g,o,none⟩ -> g < w8.heap.size ∧ (Value.slice (some ⟨g8,0,none⟩) (ds.length + 1) cap8).ownBlock ≠ some g:=by
                intro y hy hya
                refine ⟨okd_grown hy hgrow8 (fun g o e => (hya g o e).2),fun g o e => ⟨Nat.lt_of_lt_of_le (hya g o e).1 hgrow8.size,fun hb => ?_⟩⟩
                have hg8:g8 = g:=by simpa [Value.ownBlock] using hb
                rcases hat8 with h | h
                · exact (hya g o e).2 (by rw [h,hg8])
                · have:=(hya g o e).1
                  omega
              intro y hy
              rcases List.mem_append.1 hy with hy | hy
              · exact key y (hownB.2 y hy).1 (hownB.2 y hy).2
              · rw [List.mem_singleton] at hy
                subst hy
                refine key _ hokB (fun g o e => ⟨?_,hne8 g o e⟩)
                have:=(hxg g o e).2
                have:=g7.size
                omega
            · intro y hy g o e
              rcases List.mem_append.1 hy with hy | hy
              · exact HLW.out y hy g o e
              · rw [List.mem_singleton] at hy
                subst hy
                have h1:=hxg g o e
                have h2:=hb4.size
                omega
            · show (ba qb').size < (ba (ch :: l)).size
              rw [ba_size,ba_size];exact l3
end Go.Proofs.YtjmpjfikcgccdaaGreatDoor.It
