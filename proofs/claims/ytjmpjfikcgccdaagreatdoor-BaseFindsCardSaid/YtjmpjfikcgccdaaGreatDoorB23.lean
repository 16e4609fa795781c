/-
  Part of the proof of BaseFindsCard (Su1 and on).
-/
import Derived.Test.YtjmpjfikcgccdaaGreatDoorB02
import Derived.Laws.StructEq
import Derived.ChangeKeysEq
import Derived.Test.YtjmpjfikcgccdaaGreatDoorB20
import Derived.Test.YtjmpjfikcgccdaaGreatDoorB04
namespace Go.Proofs.YtjmpjfikcgccdaaGreatDoor.Su
open Go.RowKit
def bl (n:Nat) (f:Nat -> Bool):Array Value:=((List.range n).map fun j => Value.bool (f j)).toArray
theorem bl_size (n:Nat) (f:Nat -> Bool):(bl n f).size = n:=by simp [bl]
theorem bl_get (n:Nat) (f:Nat -> Bool) (j:Nat) (h:j < n):(bl n f)[j]? = some (.bool (f j)):=by simp [bl,h]
theorem bl_congr (n:Nat) (f g:Nat -> Bool) (h:∀ j,j < n -> f j = g j):bl n f = bl n g:=by
  unfold bl;congr 1;apply List.map_congr_left;intro j hj;rw [h j (by simpa using hj)]
theorem bl_one (n:Nat) (f:Nat -> Bool):∀ v ∈ (bl n f).toList,v.oneCell' = true:=by
  intro v hv;simp [bl] at hv;obtain ⟨j,_,rfl⟩:=hv;rfl
def putF (f:Nat -> Bool) (k:Nat) (v:Bool) (j:Nat):Bool:=if j = k then v else f j
theorem bl_set (n:Nat) (f:Nat -> Bool) (k:Nat) (v:Bool):(bl n f).setIfInBounds k (.bool v) = bl n (putF f k v):=by
  apply Array.ext_getElem?;intro j
  rw [Array.getElem?_setIfInBounds]
  by_cases hj:j < n
  · rw [bl_get n (putF f k v) _ hj]
    by_cases e:k = j
    · subst e;simp [bl_size,hj,putF]
    · rw [if_neg e,bl_get _ _ _ hj];simp [putF,Ne.symm e]
  · rw [Array.getElem?_eq_none (xs:=bl n (putF f k v)) (by rw [bl_size];omega)]
    by_cases e:k = j
    · subst e;simp [bl_size,hj]
    · rw [if_neg e,Array.getElem?_eq_none (by rw [bl_size];omega)]
def supA (c e:Int) (f:Nat -> Bool) (r:ByteArray):Array Value:=#[.int .i64 c,.int .i64 e] ++ bl 32 f ++ #[.string r]
section
variable (c e:Int) (f:Nat -> Bool) (r:ByteArray)
theorem supA_size:(supA c e f r).size = 35:=by simp [supA,bl_size]
theorem supA_0:(supA c e f r)[0]? = some (.int .i64 c):=by kernel_rfl
theorem supA_1:(supA c e f r)[1]? = some (.int .i64 e):=by kernel_rfl
theorem supA_34:(supA c e f r)[34]? = some (.string r):=by
  unfold supA;rw [Array.getElem?_append_right (by simp [bl_size])];simp [bl_size]
theorem supA_side (j:Nat) (h:j < 32):(supA c e f r)[2 + j]? = some (.bool (f j)):=by
  unfold supA
  rw [Array.getElem?_append_left (by simp [bl_size];omega),Array.getElem?_append_right (by simp)]
  simp [bl_get _ _ _ h]
theorem supA_sides:(supA c e f r).extract 2 (2 + 32) = bl 32 f:=by
  apply Array.ext_getElem?;intro j
  by_cases hj:j < 32
  · rw [bl_get _ _ _ hj,Array.getElem?_extract,if_pos (by rw [supA_size];omega),supA_side _ _ _ _ _ hj]
  · rw [Array.getElem?_eq_none (by rw [Array.size_extract,supA_size];omega),Array.getElem?_eq_none (by rw [bl_size];omega)]
theorem supA_put (k:Nat) (hk:k < 32) (v:Bool):(supA c e f r).setIfInBounds (2 + k) (.bool v) = supA c e (putF f k v) r:=by
  unfold supA
  rw [Array.setIfInBounds_append_left (by simp [bl_size];omega),Array.setIfInBounds_append_right (by simp)]
  simp [bl_set]
theorem supA_one:∀ v ∈ (supA c e f r).toList,v.oneCell' = true:=by
  intro v hv
  simp only [supA,Array.toList_append,List.mem_append] at hv
  rcases hv with (hv | hv) | hv
  · simp at hv;rcases hv with rfl | rfl <;> rfl
  · exact bl_one _ _ v hv
  · simp at hv;subst hv;rfl
end
theorem supA_congr (c e:Int) (f g:Nat -> Bool) (r:ByteArray) (h:∀ j,j < 32 -> f j = g j):supA c e f r = supA c e g r:=by
  unfold supA;rw [bl_congr 32 f g h]
def dig (b:Bool):UInt8:=if b then 49 else 48
def dg (f:Nat -> Bool):ByteArray:=sb 32 (fun j => dig (f j))
theorem dg_size (f:Nat -> Bool):(dg f).size = 32:=sb_size _ _
section
variable {P:Program} {ops:Array Oper} {Q:Exit -> Act -> World -> Prop} {a:Act} {w:World} {rest:List Oper} {o:Oper}
theorem storeVar_run (t:TypeId) (n:Nat) (hi0:(P.info? t).map (·.size) = some n) (b:Nat) (arr vs:Array Value) (T:TypeId) (hone:∀ v ∈ vs.toList,v.oneCell' = true) (hb:Blk w b arr T) (hn:arr.size = n) (hv:vs.size = n) :
    (storeVar t ⟨b,0,none⟩ (.agg vs)).run P w = .ok () (putBlk w b (.cells vs T)):=by
  obtain ⟨i,hi,hsize⟩:=Option.map_eq_some_iff.1 hi0
  have hl:=storeCells_run P w b hb.lt T vs.toList 0 arr (by simp [hv,hn]) hone
  rw [putBlk_self hb,foldset_all _ _ (by simp [hv,hn])] at hl
  simp only [storeVar,sizeOf,typeInfo,hi,hsize,Sem.run_bind,Sem.run_pure,run_program,Result.andThen_ok,Value.cells,hv,ne_eq,not_true,if_false,hl]
theorem wpl_storeV (hgd:o.guard = none) (hdn:o.dst = none) (t:TypeId) (x y:Operand) (ho:o.op = .store t x y) (n:Nat) (hi0:(P.info? t).map (·.size) = some n)
    (b:Nat) (arr:Array Value) (T:TypeId) (vs:Array Value) (hone:∀ v ∈ vs.toList,v.oneCell' = true) (hx:a.eval x = .pointer (some ⟨b,0,none⟩)) (hy:a.eval y = .agg vs) (hb:Blk w b arr T) (hn:arr.size = n) (hv:vs.size = n)
    (h:∀ w',Upd w w' b -> Blk w' b vs T -> wpList P ops Q rest a w'):wpList P ops Q (o :: rest) a w:=by
  refine wpList_plain hgd fun K hK => ?_
  unfold Oper.wp execOp
  simp only [ho,hx,hy,Instr.storeAt,Instr.sureAddr,Sem.run_bind,Sem.run_pure,Result.andThen_ok,storeVar_run t n hi0 b arr vs T hone hb hn hv]
  simp only [Oper.upon_skip,hdn,Act.put]
  exact hK _ _ (h _ (putBlk_upd _ _ _) (putBlk_blk hb))
theorem loadV_run (w:World) (t:TypeId) (ha:∀ w,(isAgg t).run P w = .ok true w) (n:Nat) (hi0:(P.info? t).map (·.size) = some n) (b off:Nat) (arr:Array Value) (T:TypeId) (hb:Blk w b arr T) (hn:off + n <= arr.size):(loadVar t ⟨b,off,none⟩).run P w = .ok (.agg (arr.extract off (off + n))) w:=by
  obtain ⟨i,hi,hsize⟩:=Option.map_eq_some_iff.1 hi0
  have hl:=loadCellsFrom_run P w b off arr T hb n 0 #[] (by omega)
  simp only [loadVar,ha,sizeOf,typeInfo,loadCells,hi,hsize,Sem.run_bind,Sem.run_pure,run_program,Result.andThen_ok,if_true,hl]
  simp only [Nat.add_zero,Array.empty_append]
theorem wpl_loadV (hgd:o.guard = none) (t:TypeId) (x:Operand) (ho:o.op = .load t x) (ha:∀ w,(isAgg t).run P w = .ok true w) (n:Nat) (hi0:(P.info? t).map (·.size) = some n)
    (b off:Nat) (arr:Array Value) (T:TypeId) (hx:a.eval x = .pointer (some ⟨b,off,none⟩)) (hb:Blk w b arr T) (hn:off + n <= arr.size)
    (h:wpList P ops Q rest (a.put o.dst (.agg (arr.extract off (off + n)))) w):wpList P ops Q (o :: rest) a w:=by
  refine wpList_plain hgd fun K hK => ?_
  unfold Oper.wp execOp
  simp only [ho,hx,Instr.loadAt,Instr.sureAddr,Sem.run_bind,Sem.run_pure,Result.andThen_ok,loadV_run w t ha n hi0 b off arr T hb hn]
  exact hK _ _ h
end
theorem sz93:(Tryz.prog.info? 66).map (·.size) = some 35:=by kernel_rfl
theorem sz91:(Tryz.prog.info? 64).map (·.size) = some 32:=by kernel_rfl
theorem sz4:(Tryz.prog.info? 4).map (·.size) = some 1:=by kernel_rfl
theorem sz5:(Tryz.prog.info? 5).map (·.size) = some 1:=by kernel_rfl
def sup0:Array Value:=supA 0 0 (fun _ => false) ⟨#[]⟩
theorem zero93:∀ w,(zeroValue 66).run Tryz.prog w = .ok (.agg sup0) w:=fun w => (Tryz.zeroValue66 w).trans (by kernel_rfl)
theorem zero91:∀ w,(zeroValue 64).run Tryz.prog w = .ok (.agg (bl 32 fun _ => false)) w:=fun w => (Tryz.zeroValue64 w).trans (by kernel_rfl)
theorem zero165:∀ w,(zeroValue 401).run Tryz.prog w = .ok (.agg (tb 32 fun _ => 0)) w:=fun w => (Tryz.zeroValue401 w).trans (by kernel_rfl)
section
variable (c e:Int) (f:Nat -> Bool) (r:ByteArray) (w:World)
end
end Go.Proofs.YtjmpjfikcgccdaaGreatDoor.Su
namespace Go.Proofs.YtjmpjfikcgccdaaGreatDoor.Su
open Go.RowKit Pg
def okN (n:Int):Bool:=decide (1 <= n) && decide (n <= 1099511627776)
theorem isNumber_any (n:Int) (w:World):Calls Tryz.prog 270 #[.int .i64 n] w fun e w' => e = .returned (.bool (okN n)) ∧ w' = w:=by
  unfold okN
  by_cases h1:1 <= n
  · go_enter Tryz.func270,Tryz.ntmps270
    go_wp2
    go_ret
    simp [h1]
  · have d1:decide (1 <= n) = false:=by simpa using h1
    go_enter Tryz.func270,Tryz.ntmps270
    go_wp2
    go_ret
    simp
set_option maxRecDepth 100000 in
set_option maxHeartbeats 1000000 in
theorem snumber_any (s:ByteArray) (w:World) (h8:8 <= s.size) (hs:s.size <= 10000) :
    Calls Tryz.prog 360 #[.string s] w fun e w' => e = .returned (.int .i64 (verN s)) ∧ w' = w:=by
  go_enter Tryz.func360,Tryz.ntmps360
  go_wp2_with fail
  go_loop [3,5] (fun z i => ∃ k:Nat,k <= 8 ∧ i = .int .i64 k ∧ z = .int .u64 (verF s k:Int)) (fun _ i => 8 - (intOf i).toNat)
  case atStart => exact ⟨0,by omega,rfl,rfl⟩
  case round =>
    obtain ⟨k,hk,rfl,rfl⟩:=hrel
    by_cases hlt:k < 8
    · have hv:=verF_lt7 s k hlt
      have hks:k < s.size:=by omega
      have hb:=bt_lt s k
      have hbe:=bt_eq s k hks
      have ho:=or_word (verF s k) (bt s k) hv hb
      rw [Int.natCast_mul] at ho
      go_wp2
      exact ⟨⟨k + 1,by omega,by go_num,congrArg (Value.int .u64) (ho.trans (by simp [verF]))⟩,by simp [intOf];omega⟩
    · have hk':k = 8:=by omega
      subst hk'
      go_wp2
      go_ret
      exact ⟨rfl,rfl⟩
def digTo (f:Nat -> Bool) (k j:Nat):UInt8:=if j < k then dig (f j) else 0
theorem digTo_set (f:Nat -> Bool) (k:Nat) (v:UInt8) (h:v = dig (f k)):tb 32 (fun j => if j = k then v else digTo f k j) = tb 32 (digTo f (k + 1)):=by
  refine tb_congr _ _ _ fun j _ => ?_
  unfold digTo
  by_cases e:j = k
  · subst e;simp [h]
  · simp only [e,if_false]
    by_cases h2:j < k
    · rw [if_pos h2,if_pos (by omega)]
    · rw [if_neg h2,if_neg (by omega)]
def dgL (f:Nat -> Bool):List UInt8:=(List.range 32).map fun j => dig (f j)
theorem dgL_eq (f:Nat -> Bool):(⟨(dgL f).toArray⟩:ByteArray) = dg f:=rfl
theorem digTo_all (f:Nat -> Bool) (m:Nat) (h:0 + 32 = m):(tb 32 (digTo f 32)).extract 0 m = (Lib.byteCells (dgL f)).toArray:=by
  have e:tb 32 (digTo f 32) = tb 32 (fun j => dig (f j)):=tb_congr _ _ _ fun j hj => by unfold digTo;rw [if_pos hj]
  rw [e];exact tb_bytes _ _ _ h
set_option maxRecDepth 100000 in
set_option maxHeartbeats 1000000 in
theorem sidesText_any (f:Nat -> Bool) (w:World) :
    Calls Tryz.prog 272 #[.agg (bl 32 f)] w fun e w' => e = .returned (.string (dg f)) ∧ Below w.heap.size w w':=by
  have z165:=zero165
  go_enter Tryz.func272,Tryz.ntmps272
  go_wp2_with fail
  have j0:Blk ((w.alloc (.cells (bl 32 f) 64)).alloc (.cells (tb 32 fun _ => 0) 401)) w.heap.size (bl 32 f) 64:=(Blk.new w _ _).alloc _
  have j1:Blk ((w.alloc (.cells (bl 32 f) 64)).alloc (.cells (tb 32 fun _ => 0) 401)) (w.heap.size + 1) (tb 32 (digTo f 0)) 401:=Blk.new' _ _ _ (by simp)
  have jb:Below w.heap.size w ((w.alloc (.cells (bl 32 f) 64)).alloc (.cells (tb 32 fun _ => 0) 401)):=((Below.refl _ _).alloc (Nat.le_refl _) _).alloc (by simp) _
  go_loopw [5] (fun i wr => ∃ k:Nat,k <= 32 ∧ i = .int .i64 k ∧ Blk wr w.heap.size (bl 32 f) 64 ∧ Blk wr (w.heap.size + 1) (tb 32 (digTo f k)) 401 ∧ Below w.heap.size w wr) (fun i _ => 32 - (intOf i).toNat)
  case atStart => exact ⟨0,by omega,rfl,j0,j1,jb⟩
  case round =>
    clear j0 j1 jb
    obtain ⟨k,hk,rfl,j0,j1,jb⟩:=hrel
    by_cases hlt:k < 32
    · cases hf:f k with
      | false =>
        go_wp2_with (first
          | (refine wpl_put rfl rfl 5 _ _ rfl sz5 (w.heap.size + 1) k _ _ _ _ rfl rfl j1 (by rw [tb_size];exact hlt) ?_;intro w1 hu1 j2;have c0:w1.cell? ⟨w.heap.size,k,none⟩ = some (.bool false):=by rw [(j0.upd hu1 (by omega)).cell,bl_get _ _ _ hlt,hf])
          | fail)
        have j3:Blk w1 (w.heap.size + 1) (tb 32 (digTo f (k + 1))) 401:=by
          rw [<- digTo_set f k 48 (by rw [hf];rfl),<- tb_set];exact j2
        exact ⟨⟨k + 1,by omega,by go_num,j0.upd hu1 (by omega),j3,below_upd jb hu1 (by omega)⟩,by simp [intOf];omega⟩
      | true =>
        go_wp2_with (first
          | (refine wpl_put rfl rfl 5 _ _ rfl sz5 (w.heap.size + 1) k _ _ _ _ rfl rfl j2 (by rw [Array.size_setIfInBounds,tb_size];exact hlt) ?_;intro w2 hu2 j3)
          | (refine wpl_put rfl rfl 5 _ _ rfl sz5 (w.heap.size + 1) k _ _ _ _ rfl rfl j1 (by rw [tb_size];exact hlt) ?_;intro w1 hu1 j2;have c0:w1.cell? ⟨w.heap.size,k,none⟩ = some (.bool true):=by rw [(j0.upd hu1 (by omega)).cell,bl_get _ _ _ hlt,hf])
          | fail)
        have j4:Blk w2 (w.heap.size + 1) (tb 32 (digTo f (k + 1))) 401:=by
          rw [<- digTo_set f k 49 (by rw [hf];rfl),<- tb_set]
          rw [Array.setIfInBounds_setIfInBounds] at j3
          exact j3
        have hu:=hu1.trans hu2
        exact ⟨⟨k + 1,by omega,by go_num,j0.upd hu (by omega),j4,below_upd jb hu (by omega)⟩,by simp [intOf];omega⟩
    · have hk':k = 32:=by omega
      subst hk'
      go_wp2_with (refine wpl_string rfl 180 9 5 _ rfl Tryz.underlying180 Tryz.underlying5 Tryz.underlying9 _ _ _ _ _ _ rfl j1 (by simp [tb_size]) _ (digTo_all f _ rfl) ?_;rw [dgL_eq])
      go_ret
      exact ⟨rfl,jb⟩
def sideF (s:ByteArray) (o j:Nat):Bool:=bt s (o + j) == 49
def sideTo (s:ByteArray) (o k j:Nat):Bool:=if j < k then sideF s o j else false
theorem sideTo_set (s:ByteArray) (o k:Nat):bl 32 (putF (sideTo s o k) k (sideF s o k)) = bl 32 (sideTo s o (k + 1)):=by
  refine bl_congr _ _ _ fun j _ => ?_
  unfold putF sideTo
  by_cases e:j = k
  · subst e;simp
  · simp only [e,if_false]
    by_cases h2:j < k
    · rw [if_pos h2,if_pos (by omega)]
    · rw [if_neg h2,if_neg (by omega)]
theorem sideTo_all (s:ByteArray) (o:Nat):bl 32 (sideTo s o 32) = bl 32 (sideF s o):=bl_congr _ _ _ fun j hj => by unfold sideTo;rw [if_pos hj]
section
variable {P:Program} {ops:Array Oper} {Q:Exit -> Act -> World -> Prop} {a:Act} {w:World} {rest:List Oper} {o:Oper}
theorem wpl_putB (hgd:o.guard = none) (hdn:o.dst = none) (t:TypeId) (x y:Operand) (ho:o.op = .store t x y) (hi0:(P.info? t).map (·.size) = some 1)
    (b j:Nat) (arr:Array Value) (T:TypeId) (z:Bool) (hx:a.eval x = .pointer (some ⟨b,j,none⟩)) (hy:a.eval y = .bool z) (hb:Blk w b arr T) (hj:j < arr.size)
    (h:∀ w',Upd w w' b -> Blk w' b (arr.setIfInBounds j (.bool z)) T -> wpList P ops Q rest a w'):wpList P ops Q (o :: rest) a w:=by
  refine wpList_plain hgd fun K hK => ?_
  obtain ⟨i,hi,hsize⟩:=Option.map_eq_some_iff.1 hi0
  unfold Oper.wp execOp
  have ha:(⟨b,j,none⟩:Addr).add 0 = ⟨b,j,none⟩:=by unfold Addr.add;simp
  have hl:(storeCells ⟨b,j,none⟩ [Value.bool z] 0).run P w = .ok () (w.setCell ⟨b,j,none⟩ (.bool z)):=by
    simp only [storeCells,Sem.run_bind,ha]
    rw [run_store _ _ _ _ _ rfl,hb.cell,Array.getElem?_eq_getElem hj]
    simp only [hb.frozen,Bool.false_eq_true,if_false,Result.andThen_ok]
    rfl
  simp only [ho,hx,hy,Instr.storeAt,Instr.sureAddr,storeVar,sizeOf,typeInfo,hi,hsize,Sem.run_bind,Sem.run_pure,run_program,Result.andThen_ok,Value.cells,List.size_toArray,List.length_cons,List.length_nil,Nat.zero_add,ne_eq,not_true,if_false,hl]
  simp only [Oper.upon_skip,hdn,Act.put]
  exact hK _ _ (h _ (setCell_upd _ _ _ _) (hb.set j _))
end
theorem ret_cellV {P:Program} {fn:Func} {R:Ending -> World -> Prop} {a:Act} {w:World} (p:Tmp) (t:TypeId) (hf:fn.results = #[.cell p t]) (ha:∀ w,(isAgg t).run P w = .ok true w) (n:Nat) (hi0:(P.info? t).map (·.size) = some n)
    (b:Nat) (vs:Array Value) (T:TypeId) (hn:vs.size = n) (hx:a.tmps.getD p undef = .pointer (some ⟨b,0,none⟩)) (hb:Blk w b vs T) (hd:a.defers = []) (hR:R (.returned (.agg vs)) w):bodyPost P fn R .ret a w:=by
  refine bodyPost_ret ?_ hd hR
  have hl:=loadV_run w t ha n hi0 b 0 vs T hb (by omega)
  rw [Nat.zero_add,<- hn,Array.extract_size] at hl
  have hx':a.tmps[p]?.getD undef = .pointer (some ⟨b,0,none⟩):=by rw [<- hx];simp
  simp only [results,hf]
  simp [hx',asAddr,hl]
theorem ret_cellV2 {P:Program} {fn:Func} {R:Ending -> World -> Prop} {a:Act} {w:World} (p q:Tmp) (t:TypeId) (hf:fn.results = #[.cell p t,.tmp q]) (ha:∀ w,(isAgg t).run P w = .ok true w) (n:Nat) (hi0:(P.info? t).map (·.size) = some n)
    (b:Nat) (vs:Array Value) (T:TypeId) (hn:vs.size = n) (v:Value) (hx:a.tmps.getD p undef = .pointer (some ⟨b,0,none⟩)) (hq:a.tmps.getD q undef = v) (hb:Blk w b vs T) (hd:a.defers = []) (hR:R (.returned (.tuple #[.agg vs,v])) w):bodyPost P fn R .ret a w:=by
  refine bodyPost_ret ?_ hd hR
  have hl:=loadV_run w t ha n hi0 b 0 vs T hb (by omega)
  rw [Nat.zero_add,<- hn,Array.extract_size] at hl
  have hx':a.tmps[p]?.getD undef = .pointer (some ⟨b,0,none⟩):=by rw [<- hx];simp
  have hq':a.tmps[q]?.getD undef = v:=by rw [<- hq];simp
  simp only [results,hf]
  simp [hx',hq',asAddr,hl]
set_option maxRecDepth 100000 in
set_option maxHeartbeats 1000000 in
theorem sides_any (s:ByteArray) (w:World) (hs:s.size = 32) :
    Calls Tryz.prog 361 #[.string s] w fun e w' => e = .returned (.agg (bl 32 (sideF s 0))) ∧ Below w.heap.size w w':=by
  have z91:=zero91
  go_enter Tryz.func361,Tryz.ntmps361
  go_wp2_with fail
  have j0:Blk ((w.alloc (.cells (bl 32 fun _ => false) 64)).alloc (.cells (bl 32 fun _ => false) 64)) w.heap.size (bl 32 fun _ => false) 64:=(Blk.new w _ _).alloc _
  have j1:Blk ((w.alloc (.cells (bl 32 fun _ => false) 64)).alloc (.cells (bl 32 fun _ => false) 64)) (w.heap.size + 1) (bl 32 (sideTo s 0 0)) 64:=Blk.new' _ _ _ (by simp)
  have jb:Below w.heap.size w ((w.alloc (.cells (bl 32 fun _ => false) 64)).alloc (.cells (bl 32 fun _ => false) 64)):=((Below.refl _ _).alloc (Nat.le_refl _) _).alloc (by simp) _
  go_loopw [5] (fun i wr => ∃ k:Nat,k <= 32 ∧ i = .int .i64 k ∧ Blk wr w.heap.size (bl 32 fun _ => false) 64 ∧ Blk wr (w.heap.size + 1) (bl 32 (sideTo s 0 k)) 64 ∧ Below w.heap.size w wr) (fun i _ => 32 - (intOf i).toNat)
  case atStart => exact ⟨0,by omega,rfl,j0,j1,jb⟩
  case round =>
    clear j0 j1 jb
    obtain ⟨k,hk,rfl,j0,j1,jb⟩:=hrel
    by_cases hlt:k < 32
    · have hks:k < s.size:=by omega
      have hbe:=bt_eq s k hks
      go_wp2_with (first
        | (refine wpl_putB rfl rfl 4 _ _ rfl sz4 (w.heap.size + 1) k _ _ _ rfl rfl j1 (by rw [bl_size];exact hlt) ?_;intro w1 hu1 j2)
        | fail)
      have ev:((bt s k:Int) == 49) = sideF s 0 k:=by unfold sideF;rw [Nat.zero_add,Bool.eq_iff_iff,beq_iff_eq,beq_iff_eq];omega
      have j3:Blk w1 (w.heap.size + 1) (bl 32 (sideTo s 0 (k + 1))) 64:=by
        rw [<- sideTo_set,<- bl_set,<- ev];exact j2
      exact ⟨⟨k + 1,by omega,by go_num,j0.upd hu1 (by omega),j3,below_upd jb hu1 (by omega)⟩,by simp [intOf];omega⟩
    · have hk':k = 32:=by omega
      subst hk'
      rw [sideTo_all] at j1
      go_wp2_with (first
        | (refine wpl_loadV rfl 64 _ rfl Tryz.isAgg64 32 sz91 (w.heap.size + 1) 0 _ _ rfl j1 (by rw [bl_size];omega) ?_;rw [show (bl 32 (sideF s 0)).extract 0 (0 + 32) = bl 32 (sideF s 0) from by rw [Nat.zero_add];have:=Array.extract_size (xs:=bl 32 (sideF s 0));rw [bl_size] at this;exact this])
        | (refine wpl_storeV rfl rfl 64 _ _ rfl 32 sz91 w.heap.size _ _ (bl 32 (sideF s 0)) (bl_one _ _) rfl rfl j0 (bl_size _ _) (bl_size _ _) ?_;intro w1 hu1 j2)
        | fail)
      refine ret_cellV 2 64 rfl Tryz.isAgg64 32 sz91 _ _ _ (bl_size _ _) rfl j2 rfl ⟨rfl,below_upd jb hu1 (Nat.le_refl _)⟩
def blank (s:ByteArray):Bool:=decide (∀ j,j < s.size -> bt s j = 0)
set_option maxRecDepth 100000 in
set_option maxHeartbeats 1000000 in
theorem isBlank_any (s:ByteArray) (w:World) (hs:s.size <= 10000) :
    Calls Tryz.prog 340 #[.string s] w fun e w' => e = .returned (.bool (blank s)) ∧ w' = w:=by
  go_enter Tryz.func340,Tryz.ntmps340
  go_wp2_with fail
  go_loop [6] (fun i => ∃ k:Nat,k <= s.size ∧ i = .int .i64 k ∧ Hid (∀ j,j < k -> bt s j = 0)) (fun i => s.size - (intOf i).toNat)
  case atStart => exact ⟨0,by omega,rfl,fun j hj => by omega⟩
  case round =>
    obtain ⟨k,hk,rfl,hz⟩:=hrel
    by_cases hlt:k < s.size
    · have hbe:=bt_eq s k hlt
      have hlt':(k:Int) < (s.size:Int):=by omega
      by_cases h0:bt s k = 0
      · go_wp2
        have hz':Hid (∀ j,j < k + 1 -> bt s j = 0):=fun j hj => by
          by_cases e:j = k
          · rw [e];exact h0
          · exact hz.out j (by omega)
        exact ⟨⟨k + 1,by omega,by go_num,hz'⟩,by simp [intOf];omega⟩
      · have hne:¬ ((bt s k:Int) = 0):=by omega
        have hf:blank s = false:=decide_eq_false (fun h => h0 (h k hlt))
        go_wp2
        go_ret
        exact ⟨rfl,rfl⟩
    · have hk':k = s.size:=by omega
      subst hk'
      have ht:blank s = true:=decide_eq_true hz.out
      go_wp2
      go_ret
      exact ⟨rfl,rfl⟩
end Go.Proofs.YtjmpjfikcgccdaaGreatDoor.Su
namespace Go.Proofs.YtjmpjfikcgccdaaGreatDoor.Su
open Go.RowKit Pg
def okW (key:ByteArray) (c e:Int) (r:ByteArray):Bool:=decide (key.size = 32) && okN c && okN e && decide (r.size = 16)
def ahd (c e:Int) (f:Nat -> Bool) (r:ByteArray):ByteArray:=⟨#[99,102]⟩ ++ numS c ++ numS e ++ dg f ++ r
theorem ahd_size (c e:Int) (f:Nat -> Bool) (r:ByteArray):(ahd c e f r).size = 50 + r.size:=by
  unfold ahd
  rw [ByteArray.size_append,ByteArray.size_append,ByteArray.size_append,ByteArray.size_append,numS_size,numS_size,dg_size]
  have:ByteArray.size ⟨#[99,102]⟩ = 2:=rfl
  omega
def allT (key:ByteArray) (c e:Int) (f:Nat -> Bool) (r:ByteArray):ByteArray:=ahd c e f r ++ mk 122 [key,ahd c e f r]
theorem allT_size (key:ByteArray) (c e:Int) (f:Nat -> Bool) (r:ByteArray):(allT key c e f r).size = 66 + r.size:=by
  unfold allT;rw [ByteArray.size_append,ahd_size,mk_size];omega
def wrT (key:ByteArray) (c e:Int) (f:Nat -> Bool) (r:ByteArray):ByteArray:=if okW key c e r then allT key c e f r else ⟨#[]⟩
def wrC (key:ByteArray) (c e:Int) (r:ByteArray):Int:=if okW key c e r then 0 else 1
def errV (n:Int):Value:=if n = 0 then .nilIface else .iface 34 (.int .i64 n)
theorem parts2 {w:World} {b:Nat} {T:TypeId} {x y:ByteArray} (h:Blk w b #[.string x,.string y] T):Sm.Parts w (some ⟨b,0,none⟩) 2 [x,y]:=by
  refine ⟨rfl,fun j hj => ?_⟩
  have hc:=h.cell j
  match j,hj with
  | 0,_ => exact ⟨b,0,x,rfl,h.lt,hc,rfl⟩
  | 1,_ => exact ⟨b,0,y,rfl,h.lt,hc,rfl⟩
theorem all2 {x y:ByteArray} (hx:x.size <= 300) (hy:y.size <= 300):∀ p ∈ [x,y],p.size <= 300:=by
  intro p hp
  simp only [List.mem_cons,List.not_mem_nil,or_false] at hp
  rcases hp with rfl | rfl <;> assumption
theorem mark2 {k:Int} (hk:k = 122) {b:Nat} {T:TypeId} {x y:ByteArray} {w:World} (h:Blk w b #[.string x,.string y] T) (hx:x.size <= 300) (hy:y.size <= 300) (hK:Sm.KB w) :
    Calls Tryz.prog 273 #[.int .u8 k,.slice (some ⟨b,0,none⟩) 2 2] w fun e w' => e = .returned (.string (mk 122 [x,y])) ∧ Below w.heap.size w w':=by
  subst hk;exact Sm.mark_any 122 _ 2 2 _ w (parts2 h) (by decide) (all2 hx hy) hK
theorem exec_load {P:Program} {a:Act} {o:Oper} {w:World} (t:TypeId) (x:Operand) (ho:o.op = .load t x) (p:Addr) (hx:a.eval x = .pointer (some p)) (v:Value) (hl:(loadVar t p).run P w = .ok v w):(execOp a.eval o).run P w = .ok (.value v) w:=by
  unfold execOp
  simp only [ho,hx,Instr.loadAt,Instr.sureAddr,Sem.run_bind,Sem.run_pure,Result.andThen_ok,hl]
section
variable {w:World} {b:Nat} {c e:Int} {f:Nat -> Bool} {r:ByteArray}
theorem sup_c0 (h:Blk w b (supA c e f r) 66):w.cell? ⟨b,0,none⟩ = some (.int .i64 c):=by rw [h.cell,supA_0]
theorem sup_c1 (h:Blk w b (supA c e f r) 66):w.cell? ⟨b,1,none⟩ = some (.int .i64 e):=by rw [h.cell,supA_1]
theorem sup_c3 (h:Blk w b (supA c e f r) 66):w.cell? ⟨b,34,none⟩ = some (.string r):=by rw [h.cell,supA_34]
theorem sup_ld (h:Blk w b (supA c e f r) 66):(loadVar 64 ⟨b,2,none⟩).run Tryz.prog w = .ok (.agg (bl 32 f)) w:=by
  rw [loadV_run w _ Tryz.isAgg64 32 sz91 b 2 _ _ h (by rw [supA_size];omega),supA_sides]
end
set_option maxRecDepth 100000 in
set_option maxHeartbeats 2000000 in
theorem write_bad (key:ByteArray) (c e:Int) (f:Nat -> Bool) (r:ByteArray) (w:World) (ho:okW key c e r = false) :
    Calls Tryz.prog 212 #[.string key,.agg (supA c e f r)] w fun e w' => e = .returned (.tuple #[.string ⟨#[]⟩,.iface 34 (.int .i64 1)]) ∧ Below w.heap.size w w':=by
  have j0:=Blk.new w (supA c e f r) 66
  have c0:=sup_c0 j0
  have c1:=sup_c1 j0
  have c3:=sup_c3 j0
  have g0:=below_alloc w (.cells (supA c e f r) 66)
  by_cases h1:key.size = 32
  · have h1':(key.size:Int) = 32:=by omega
    cases h2:okN c with
    | false =>
      go_enter Tryz.func212,Tryz.ntmps212
      go_wp2_with (go_at_call 270;refine (isNumber_any _ _).mono ?_;rintro e' w' ⟨rfl,rfl⟩;rw [h2])
      go_ret2
      exact ⟨rfl,g0⟩
    | true =>
      cases h3:okN e with
      | false =>
        go_enter Tryz.func212,Tryz.ntmps212
        go_wp2_with (go_at_call 270;refine (isNumber_any _ _).mono ?_;rintro e' w' ⟨rfl,rfl⟩;first | rw [h2] | rw [h3])
        go_ret2
        exact ⟨rfl,g0⟩
      | true =>
        have h4:¬ ((r.size:Int) = 16):=by
          intro h4
          have h5:r.size = 16:=by omega
          unfold okW at ho
          rw [h2,h3,decide_eq_true h1,decide_eq_true h5] at ho
          cases ho
        go_enter Tryz.func212,Tryz.ntmps212
        go_wp2_with (go_at_call 270;refine (isNumber_any _ _).mono ?_;rintro e' w' ⟨rfl,rfl⟩;first | rw [h2] | rw [h3])
        go_ret2
        exact ⟨rfl,g0⟩
  · have h1':¬ ((key.size:Int) = 32):=by omega
    go_enter Tryz.func212,Tryz.ntmps212
    go_wp2
    go_ret2
    exact ⟨rfl,g0⟩
theorem okW_parts {key:ByteArray} {c e:Int} {r:ByteArray} (h:okW key c e r = true):key.size = 32 ∧ okN c = true ∧ okN e = true ∧ r.size = 16:=by
  unfold okW at h
  simp only [Bool.and_eq_true,decide_eq_true_eq] at h
  exact ⟨h.1.1.1,h.1.1.2,h.1.2,h.2⟩
set_option maxRecDepth 100000 in
set_option maxHeartbeats 2000000 in
theorem write_good (key:ByteArray) (c e:Int) (f:Nat -> Bool) (r:ByteArray) (w:World) (ho:okW key c e r = true) (hK:Sm.KB w) :
    Calls Tryz.prog 212 #[.string key,.agg (supA c e f r)] w fun e' w' => e' = .returned (.tuple #[.string (allT key c e f r),.nilIface]) ∧ Below w.heap.size w w':=by
  obtain ⟨h1,h2,h3,h4⟩:=okW_parts ho
  have h1':(key.size:Int) = 32:=by omega
  have h4':(r.size:Int) = 16:=by omega
  have j0:=Blk.new w (supA c e f r) 66
  have c0:=sup_c0 j0
  have c1:=sup_c1 j0
  have c3:=sup_c3 j0
  have g0:=below_alloc w (.cells (supA c e f r) 66)
  have za:=ahd_size c e f r
  have zm:=mk_size 122 [key,ahd c e f r]
  have z1:=numS_size c
  have z2:=numS_size e
  have z3:=dg_size f
  have HF:Hid (⟨#[99,102]⟩ ++ numS c ++ numS e ++ dg f ++ r = ahd c e f r):=rfl
  have HA:Hid (ahd c e f r ++ mk 122 [key,ahd c e f r] = allT key c e f r):=rfl
  go_enter Tryz.func212,Tryz.ntmps212
  go_wp2_with (go_at_call 270;refine (isNumber_any _ _).mono ?_;rintro e' w' ⟨rfl,rfl⟩;first | rw [h2] | rw [h3])
  generalize hw1:w.alloc (.cells (supA c e f r) 66) = w1 at *
  have HW:Hid (w.heap.size < w1.heap.size):=by unfold Hid;rw [<- hw1];simp
  clear hw1 c0 c1 c3
  have HS:Hid (∀ w',Below w1.heap.size w1 w' -> Blk w' w.heap.size (supA c e f r) 66):=fun w' hb => j0.below hb HW.out
  refine regS_in 16 (fun w' => Below w1.heap.size w1 w') mixed rfl ?_
  have s0:Below w1.heap.size w1 w1.drew:=below_drewN (Below.refl _ _) 1
  refine regS_take 0 29 (.pointer (some ⟨w.heap.size,0,none⟩)) rfl rfl (by kernel_rfl) (fun _ _ _ h => h) rfl (fun w _ => by go_simp) s0 ?_
  refine regS_take 1 30 (.int .i64 c) rfl rfl (by kernel_rfl) (fun _ _ _ h => h) rfl (fun w hs => by have c0:=sup_c0 (HS.out w hs);go_simp) s0 ?_
  refine regS_take 4 33 (.pointer (some ⟨w.heap.size,1,none⟩)) rfl rfl (by kernel_rfl) (fun _ _ _ h => h) rfl (fun w _ => by go_simp) s0 ?_
  refine regS_take 5 34 (.int .i64 e) rfl rfl (by kernel_rfl) (fun _ _ _ h => h) rfl (fun w hs => by have c0:=sup_c1 (HS.out w hs);go_simp) s0 ?_
  refine regS_take 8 37 (.pointer (some ⟨w.heap.size,2,none⟩)) rfl rfl (by kernel_rfl) (fun _ _ _ h => h) rfl (fun w _ => by go_simp) s0 ?_
  refine regS_take 9 38 (.agg (bl 32 f)) rfl rfl (by kernel_rfl) (fun _ _ _ h => h) rfl (fun w' hs => exec_load 64 _ rfl ⟨w.heap.size,2,none⟩ rfl _ (sup_ld (HS.out w' hs))) s0 ?_
  refine regS_take 12 41 (.pointer (some ⟨w.heap.size,34,none⟩)) rfl rfl (by kernel_rfl) (fun _ _ _ h => h) rfl (fun w _ => by go_simp) s0 ?_
  refine regS_take 13 42 (.string r) rfl rfl (by kernel_rfl) (fun _ _ _ h => h) rfl (fun w hs => by have c0:=sup_c3 (HS.out w hs);go_simp) s0 ?_
  simp only [Act.put,List.setIfInBounds_toArray,List.set_cons_succ,List.set_cons_zero]
  refine regS_one 2 rfl (by kernel_rfl) rfl (fun K hK' => ?_)
  go_wp2_with fail
  refine (num_s c _).mono ?_
  rintro e' w2 ⟨rfl,g2⟩
  have s2:=s0.trans g2
  refine hK' _ _ s2 ?_
  clear hK' K
  refine regS_take 3 32 (.string (⟨#[99,102]⟩ ++ numS c)) rfl rfl (by kernel_rfl) (fun _ _ _ h => h) rfl (fun w _ => by go_simp) s2 ?_
  simp only [Act.put,List.setIfInBounds_toArray,List.set_cons_succ,List.set_cons_zero]
  refine regS_one 6 rfl (by kernel_rfl) rfl (fun K hK' => ?_)
  go_wp2_with fail
  refine (num_s e _).mono ?_
  rintro e' w3 ⟨rfl,g3⟩
  have s3:=s2.trans (g3.mono s2.size)
  refine hK' _ _ s3 ?_
  clear hK' K
  refine regS_take 7 36 (.string (⟨#[99,102]⟩ ++ numS c ++ numS e)) rfl rfl (by kernel_rfl) (fun _ _ _ h => h) rfl (fun w _ => by go_simp) s3 ?_
  simp only [Act.put,List.setIfInBounds_toArray,List.set_cons_succ,List.set_cons_zero]
  refine regS_one 10 rfl (by kernel_rfl) rfl (fun K hK' => ?_)
  go_wp2_with fail
  refine (sidesText_any f _).mono ?_
  rintro e' w4 ⟨rfl,g4⟩
  have s4:=s3.trans (g4.mono s3.size)
  refine hK' _ _ s4 ?_
  clear hK' K
  refine regS_take 11 40 (.string (⟨#[99,102]⟩ ++ numS c ++ numS e ++ dg f)) rfl rfl (by kernel_rfl) (fun _ _ _ h => h) rfl (fun w _ => by go_simp) s4 ?_
  refine regS_take 14 43 (.string (⟨#[99,102]⟩ ++ numS c ++ numS e ++ dg f ++ r)) rfl rfl (by kernel_rfl) (fun _ _ _ h => h) rfl (fun w _ => by go_simp) s4 ?_
  refine regS_take 15 6 (.string (⟨#[99,102]⟩ ++ numS c ++ numS e ++ dg f ++ r)) rfl rfl (by kernel_rfl) (fun _ _ _ h => h) rfl (fun w _ => by go_simp) s4 ?_
  simp only [Act.put,List.setIfInBounds_toArray,List.set_cons_succ,List.set_cons_zero]
  rw [HF.out]
  refine regS_end (by kernel_rfl) ?_
  have b4:=g0.trans (s4.mono g0.size)
  clear g2 g3 g4 s0 s2 s3 s4 HS HW j0 g0 HF
  go_wp2_with fail
  have g5:=below_alloc w4 (.cells #[.string key,.string (ahd c e f r)] 9)
  have b5:=b4.trans (g5.mono b4.size)
  refine (mark2 rfl (Blk.new w4 _ 9) (by omega) (by omega) (hK.below b5)).mono ?_
  rintro e' w6 ⟨rfl,g6⟩
  have b6:=b5.trans (g6.mono b5.size)
  clear g5 g6 b5 b4
  generalize mk 122 [key,ahd c e f r] = M at *
  generalize ahd c e f r = A at *
  go_wp2
  rw [HA.out]
  go_ret2
  exact ⟨rfl,b6⟩
theorem write_any (key:ByteArray) (c e:Int) (f:Nat -> Bool) (r:ByteArray) (w:World) (hK:Sm.KB w) :
    Calls Tryz.prog 212 #[.string key,.agg (supA c e f r)] w fun e' w' => e' = .returned (.tuple #[.string (wrT key c e f r),errV (wrC key c e r)]) ∧ Below w.heap.size w w':=by
  unfold wrT wrC errV
  cases ho:okW key c e r with
  | false => exact write_bad key c e f r w ho
  | true => exact write_good key c e f r w ho hK
end Go.Proofs.YtjmpjfikcgccdaaGreatDoor.Su
