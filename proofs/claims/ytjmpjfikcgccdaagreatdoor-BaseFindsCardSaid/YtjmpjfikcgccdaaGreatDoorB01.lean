/-
  Part of the proof of BaseFindsCard (SpecA and on).
-/
import Derived.WalkKit
import Derived.Test.YtjmpjfikcgccdaaGreatDoorRows
import Derived.WalkSpells
import Derived.WalkLawsBesides
import Derived.Deep.QuietTactic
import Derived.BigQuiet
import Derived.RegionTactic
import Derived.BigRegion
import Derived.Deep.Light
import Derived.StillTailTactics
import Derived.Deep.Quiet
import Derived.StillTail
import Derived.Lib.UnsafeStr
namespace Go.Proofs.YtjmpjfikcgccdaaGreatDoor
open Go.RowKit
def I (v:BitVec 32):Int:=(v.toNat:Int)
theorem I_xor (x y:BitVec 32):bits .xor .u32 (I x) (I y) = I (x ^^^ y):=by
  have hx:=x.isLt;have hy:=y.isLt
  unfold I;rw [u32_xor_nat _ _ (by omega) (by omega)];simp
theorem I_and (x y:BitVec 32):bits .and .u32 (I x) (I y) = I (x &&& y):=by
  have hx:=x.isLt;have hy:=y.isLt
  unfold I;rw [u32_and_nat _ _ (by omega) (by omega)];simp
theorem I_or (x y:BitVec 32):bits .or .u32 (I x) (I y) = I (x ||| y):=by
  have hx:=x.isLt;have hy:=y.isLt
  unfold I;rw [u32_or_nat _ _ (by omega) (by omega)];simp
theorem I_shr (x:BitVec 32) (n:Nat):I x / 2 ^ n = I (x >>> n):=by
  unfold I;rw [BitVec.toNat_ushiftRight,Nat.shiftRight_eq_div_pow];simp
theorem I_addm (x y:BitVec 32):(I x + I y) % 4294967296 = I (x + y):=by
  unfold I;simp
theorem I_shlm (x:BitVec 32) (n:Nat):I x * 2 ^ n % 4294967296 = I (x <<< n):=by
  unfold I;rw [BitVec.toNat_shiftLeft,Nat.shiftLeft_eq];simp
theorem I_not (x:BitVec 32):bits .xor .u32 IntKind.u32.max (I x) = I (~~~x):=by
  have h:I (BitVec.allOnes 32) = IntKind.u32.max:=rfl
  rw [<- h,I_xor,BitVec.allOnes_xor]
theorem and31 (k:Int) (h0:-31 <= k) (h1:k <= -1):bits .and .u64 (IntKind.u64.wrap k) 31 = 32 + k:=by
  have e:IntKind.u64.wrap k = ((k + 18446744073709551616).toNat:Int):=by
    simp [IntKind.wrap,IntKind.bits,IntKind.signed];omega
  rw [e,show (31:Int) = ((31:Nat):Int) from rfl,bits_and_u64_nat _ _ (by omega) (by omega)]
  rw [show (31:Nat) = 2 ^ 5 - 1 from rfl,Nat.and_two_pow_sub_one_eq_mod];omega
theorem rot_eq (x:BitVec 32) (n:Nat) (h0:1 <= n) (h1:n <= 31):(x <<< (32 - n)) ||| (x >>> n) = x.rotateRight n:=by
  rw [BitVec.rotateRight_def,Nat.mod_eq_of_lt (by omega),BitVec.or_comm]
theorem ret_int {k:IntKind} {a b:Int} (h:a = b):Ending.returned (.int k a) = .returned (.int k b):=by rw [h]
theorem I_shr3 (x:BitVec 32):I x / (8:Int) = I (x >>> 3):=I_shr x 3
theorem I_shr10 (x:BitVec 32):I x / (1024:Int) = I (x >>> 10):=I_shr x 10
theorem I_add3 (x y z:BitVec 32):(I x + I y + I z) % 4294967296 = I (x + y + z):=by
  rw [<- I_addm,<- I_addm];omega
theorem I_add4 (x y z u:BitVec 32):(I x + I y + I z + I u) % 4294967296 = I (x + y + z + u):=by
  rw [<- I_addm,<- I_add3];omega
theorem I_add5 (x y z u v:BitVec 32):(I x + I y + I z + I u + I v) % 4294967296 = I (x + y + z + u + v):=by
  rw [<- I_addm,<- I_add4];omega
def tab (n:Nat) (f:Nat -> BitVec 32):Array Value:=((List.range n).map fun j => Value.int .u32 (I (f j))).toArray
theorem tab_size (n:Nat) (f:Nat -> BitVec 32):(tab n f).size = n:=by simp [tab]
theorem tab_get (n:Nat) (f:Nat -> BitVec 32) (j:Nat) (h:j < n):(tab n f)[j]? = some (.int .u32 (I (f j))):=by
  simp [tab,h]
theorem tab_congr (n:Nat) (f g:Nat -> BitVec 32) (h:∀ j,j < n -> f j = g j):tab n f = tab n g:=by
  unfold tab;congr 1;apply List.map_congr_left;intro j hj;rw [h j (by simpa using hj)]
theorem tab_set (n:Nat) (f:Nat -> BitVec 32) (k:Nat) (v:BitVec 32):(tab n f).setIfInBounds k (.int .u32 (I v)) = tab n (fun j => if j = k then v else f j):=by
  apply Array.ext_getElem?;intro i
  rw [Array.getElem?_setIfInBounds]
  by_cases hi:i < n
  · rw [tab_get _ _ i hi,tab_get _ _ i hi,tab_size]
    by_cases hk:k = i
    · subst hk;simp [hi]
    · simp [hk,Ne.symm hk]
  · have e:∀ g,(tab n g)[i]? = none:=fun g => by rw [Array.getElem?_eq_none];rw [tab_size];omega
    rw [e,e,tab_size];split <;> simp_all
def Blk (w:World) (b:Nat) (arr:Array Value) (T:TypeId):Prop:=w.heap[b]? = some (.cells arr T (0,0))
section
variable {w:World} {b:Nat} {arr:Array Value} {T:TypeId}
theorem Blk.cell (h:Blk w b arr T) (j:Nat):w.cell? ⟨b,j,none⟩ = arr[j]?:=by
  unfold Blk at h;simp [World.cell?,h]
theorem Blk.tcell {n:Nat} {f:Nat -> BitVec 32} (h:Blk w b (tab n f) T) (j:Nat) (hj:j < n):w.cell? ⟨b,j,none⟩ = some (.int .u32 (I (f j))):=by
  rw [h.cell,tab_get _ _ _ hj]
theorem Blk.frozen (h:Blk w b arr T) (j:Nat):w.frozen? ⟨b,j,none⟩ = false:=by
  unfold Blk at h;simp [World.frozen?,h]
theorem Blk.lt (h:Blk w b arr T):b < w.heap.size:=by
  unfold Blk at h
  rcases Nat.lt_or_ge b w.heap.size with h' | h'
  · exact h'
  · simp [Array.getElem?_eq_none h'] at h
theorem Blk.set (h:Blk w b arr T) (j:Nat) (v:Value):Blk (w.setCell ⟨b,j,none⟩ v) b (arr.setIfInBounds j v) T:=by
  unfold Blk at *;simp [World.setCell,Array.getElem?_modify,h]
theorem Blk.setOther (h:Blk w b arr T) (a:Addr) (hb:a.block ≠ b) (v:Value):Blk (w.setCell a v) b arr T:=by
  unfold Blk at *;simp [World.setCell,Array.getElem?_modify,h,hb]
theorem Blk.drew (h:Blk w b arr T):Blk w.drew b arr T:=h
theorem Blk.drewN (h:Blk w b arr T) (n:Nat):Blk (w.drewN n) b arr T:=h
theorem Blk.alloc (h:Blk w b arr T) (o:Obj):Blk (w.alloc o) b arr T:=by
  have hl:=h.lt
  unfold Blk at *;rw [Below.heap_alloc _ _ _ hl];exact h
theorem Blk.below {w':World} {B:Nat} (h:Blk w b arr T) (hb:Below B w w') (hB:b < B):Blk w' b arr T:=by
  unfold Blk at *;rw [hb.block b hB];exact h
theorem Blk.new (w:World) (arr:Array Value) (T:TypeId):Blk (w.alloc (.cells arr T)) w.heap.size arr T:=by
  unfold Blk World.alloc;simp
end
theorem Blk.new' (w:World) (arr:Array Value) (T:TypeId) {b:Nat} (h:b = w.heap.size):Blk (w.alloc (.cells arr T)) b arr T:=by
  subst h;exact Blk.new w arr T
def putBlk (w:World) (b:Nat) (o:Obj):World:={ w with heap:=w.heap.setIfInBounds b o }
theorem putBlk_blk {w:World} {b:Nat} {arr arr':Array Value} {T T':TypeId} (h:Blk w b arr T):Blk (putBlk w b (.cells arr' T')) b arr' T':=by
  have:=h.lt
  unfold Blk putBlk;simp [this]
theorem putBlk_size (w:World) (b:Nat) (o:Obj):(putBlk w b o).heap.size = w.heap.size:=by simp [putBlk]
theorem below_put {B b:Nat} {a w:World} (h:Below B a w) (hb:B <= b) (o:Obj):Below B a (putBlk w b o):=
  h.trans ⟨rfl,rfl,rfl,by simp [putBlk],fun k hk => by simp [putBlk,show ¬ b = k from by omega]⟩
theorem putBlk_self {w:World} {b:Nat} {arr:Array Value} {T:TypeId} (h:Blk w b arr T):putBlk w b (.cells arr T) = w:=by
  have hl:=h.lt
  unfold putBlk;unfold Blk at h
  have:w.heap.setIfInBounds b (.cells arr T) = w.heap:=by
    apply Array.ext_getElem?;intro i
    rw [Array.getElem?_setIfInBounds]
    by_cases e:b = i
    · subst e;rw [h];simp [hl]
    · simp [e]
  rw [this]
theorem putBlk_setCell {w:World} {b:Nat} (hl:b < w.heap.size) (c:Array Value) (T:TypeId) (j:Nat) (v:Value) :
    (putBlk w b (.cells c T)).setCell ⟨b,j,none⟩ v = putBlk w b (.cells (c.setIfInBounds j v) T):=by
  unfold putBlk World.setCell
  congr 1
  apply Array.ext_getElem?;intro i
  simp only [Array.getElem?_modify,Array.getElem?_setIfInBounds]
  by_cases e:b = i
  · subst e;simp [hl]
  · simp [e]
def foldset (c:Array Value) (i:Nat):List Value -> Array Value
  | [] => c
  | v :: vs => foldset (c.setIfInBounds i v) (i + 1) vs
theorem foldset_toList (vs:List Value):∀ (c:Array Value) (i:Nat),c.size = i + vs.length -> (foldset c i vs).toList = c.toList.take i ++ vs:=by
  induction vs with
  | nil => intro c i h;simp [foldset];rw [List.take_of_length_le (by simp at h ⊢;omega)]
  | cons v vs ih =>
    intro c i h
    simp only [List.length_cons] at h
    simp only [foldset]
    rw [ih _ _ (by simp;omega),Array.toList_setIfInBounds]
    rw [List.take_add_one,List.take_set_of_le (Nat.le_refl i),List.getElem?_set_self (by simp;omega)]
    simp
theorem foldset_all (c:Array Value) (vs:List Value) (h:c.size = vs.length):foldset c 0 vs = vs.toArray:=by
  apply Array.toList_inj.1
  rw [foldset_toList vs c 0 (by omega)];simp
theorem addr_add (b i:Nat):(⟨b,0,none⟩:Addr).add i = ⟨b,i,none⟩:=by
  unfold Addr.add;split
  · rename_i h;subst h;rfl
  · simp
theorem storeCells_run (P:Program) (w:World) (b:Nat) (hl:b < w.heap.size) (T:TypeId):∀ (vs:List Value) (i:Nat) (c:Array Value),i + vs.length <= c.size -> (∀ v ∈ vs,v.oneCell' = true) ->
    (storeCells ⟨b,0,none⟩ vs i).run P (putBlk w b (.cells c T)) = .ok () (putBlk w b (.cells (foldset c i vs) T)):=by
  intro vs
  induction vs with
  | nil => intro i c _ _;rfl
  | cons v vs ih =>
    intro i c h hv
    simp only [List.length_cons] at h
    have hb:Blk (putBlk w b (.cells c T)) b c T:=by unfold Blk putBlk;simp [hl]
    simp only [storeCells,Sem.run_bind,addr_add]
    rw [run_store _ _ _ _ _ (hv v (by simp)),hb.cell,Array.getElem?_eq_getElem (by omega)]
    simp only [hb.frozen,Bool.false_eq_true,if_false,Result.andThen_ok]
    rw [putBlk_setCell hl,ih _ _ (by simp;omega) (fun x hx => hv x (by simp [hx]))]
    rfl
theorem loadCellsFrom_run (P:Program) (w:World) (b off:Nat) (arr:Array Value) (T:TypeId) (h:Blk w b arr T):∀ (n i:Nat) (acc:Array Value),off + i + n <= arr.size ->
    (loadCellsFrom ⟨b,off,none⟩ i n acc).run P w = .ok (acc ++ arr.extract (off + i) (off + i + n)) w:=by
  intro n
  induction n with
  | zero => intro i acc _;simp [loadCellsFrom];omega
  | succ n ih =>
    intro i acc hi
    have ha:(⟨b,off,none⟩:Addr).add i = ⟨b,off + i,none⟩:=by
      unfold Addr.add;split
      · rename_i e;subst e;rfl
      · rfl
    simp only [loadCellsFrom,Sem.run_bind,run_load,ha,h.cell]
    rw [Array.getElem?_eq_getElem (by omega)]
    simp only [Result.andThen_ok]
    rw [ih _ _ (by omega)]
    congr 1
    apply Array.toList_inj.1
    simp only [Array.toList_append,Array.toList_push,Array.toList_extract,List.extract_eq_take_drop,List.append_assoc]
    congr 1
    rw [show off + (i + 1) + n - (off + (i + 1)) = n from by omega,show off + i + (n + 1) - (off + i) = n + 1 from by omega]
    rw [List.drop_eq_getElem_cons (i:=off + i) (by simp;omega)]
    simp [Nat.add_assoc]
theorem tab_one (n:Nat) (f:Nat -> BitVec 32):∀ v ∈ (tab n f).toList,v.oneCell' = true:=by
  intro v hv;simp [tab] at hv;obtain ⟨j,_,rfl⟩:=hv;rfl
section
variable {P:Program} {ops:Array Oper} {Q:Exit -> Act -> World -> Prop} {a:Act} {w:World} {rest:List Oper} {o:Oper}
theorem wpl_load (hgd:o.guard = none) (t:TypeId) (x:Operand) (ho:o.op = .load t x) (n:Nat) (e:TypeId) (ht:P.underlying t = some (.array n e)) (hi0:(P.info? t).map (·.size) = some n)
    (b off:Nat) (arr:Array Value) (T:TypeId) (hx:a.eval x = .pointer (some ⟨b,off,none⟩)) (hb:Blk w b arr T) (hn:off + n <= arr.size)
    (h:wpList P ops Q rest (a.put o.dst (.agg (arr.extract off (off + n)))) w):wpList P ops Q (o :: rest) a w:=by
  refine wpList_plain hgd fun K hK => ?_
  obtain ⟨i,hi,hsize⟩:=Option.map_eq_some_iff.1 hi0
  unfold Oper.wp execOp
  have hl:=loadCellsFrom_run P w b off arr T hb n 0 #[] (by omega)
  simp only [ho,hx,Instr.loadAt,Instr.sureAddr,loadVar,isAgg,underlying,sizeOf,typeInfo,loadCells,ht,hi,hsize,Sem.run_bind,Sem.run_pure,run_program,Result.andThen_ok,if_true,hl]
  simp only [Nat.add_zero,Array.empty_append]
  exact hK _ _ h
theorem wpl_store (hgd:o.guard = none) (hdn:o.dst = none) (t:TypeId) (x y:Operand) (ho:o.op = .store t x y) (n:Nat) (hi0:(P.info? t).map (·.size) = some n)
    (b:Nat) (arr:Array Value) (T:TypeId) (f:Nat -> BitVec 32) (hx:a.eval x = .pointer (some ⟨b,0,none⟩)) (hy:a.eval y = .agg (tab n f)) (hb:Blk w b arr T) (hn:arr.size = n)
    (h:wpList P ops Q rest a (putBlk w b (.cells (tab n f) T))):wpList P ops Q (o :: rest) a w:=by
  refine wpList_plain hgd fun K hK => ?_
  obtain ⟨i,hi,hsize⟩:=Option.map_eq_some_iff.1 hi0
  unfold Oper.wp execOp
  have hl:=storeCells_run P w b hb.lt T (tab n f).toList 0 arr (by simp [tab_size,hn]) (tab_one n f)
  rw [putBlk_self hb,foldset_all _ _ (by simp [tab_size,hn])] at hl
  simp only [ho,hx,hy,Instr.storeAt,Instr.sureAddr,storeVar,sizeOf,typeInfo,hi,hsize,Sem.run_bind,Sem.run_pure,run_program,Result.andThen_ok,Value.cells,tab_size,ne_eq,not_true,if_false,hl]
  simp only [Oper.upon_skip,hdn,Act.put]
  exact hK _ _ h
end
theorem loadVar_run (P:Program) (w:World) (t:TypeId) (n:Nat) (e:TypeId) (ht:P.underlying t = some (.array n e)) (hi0:(P.info? t).map (·.size) = some n)
    (b off:Nat) (arr:Array Value) (T:TypeId) (hb:Blk w b arr T) (hn:off + n <= arr.size):(loadVar t ⟨b,off,none⟩).run P w = .ok (.agg (arr.extract off (off + n))) w:=by
  obtain ⟨i,hi,hsize⟩:=Option.map_eq_some_iff.1 hi0
  have hl:=loadCellsFrom_run P w b off arr T hb n 0 #[] (by omega)
  simp only [loadVar,isAgg,underlying,sizeOf,typeInfo,loadCells,ht,hi,hsize,Sem.run_bind,Sem.run_pure,run_program,Result.andThen_ok,if_true,hl]
  simp only [Nat.add_zero,Array.empty_append]
theorem tab_all (n m:Nat) (f:Nat -> BitVec 32) (h:0 + n = m):(tab n f).extract 0 m = tab n f:=by
  subst h;rw [Nat.zero_add]
  have:=Array.extract_size (xs:=tab n f)
  rw [tab_size] at this;exact this
theorem ret_cell {P:Program} {fn:Func} {R:Ending -> World -> Prop} {a:Act} {w:World} (p:Tmp) (t:TypeId) (hf:fn.results = #[.cell p t]) (n:Nat) (e:TypeId) (ht:P.underlying t = some (.array n e)) (hi0:(P.info? t).map (·.size) = some n)
    (b:Nat) (f:Nat -> BitVec 32) (T:TypeId) (hx:a.tmps.getD p undef = .pointer (some ⟨b,0,none⟩)) (hb:Blk w b (tab n f) T) (hd:a.defers = []) (hR:R (.returned (.agg (tab n f))) w):bodyPost P fn R .ret a w:=by
  refine bodyPost_ret ?_ hd hR
  have hl:=loadVar_run P w t n e ht hi0 b 0 (tab n f) T hb (by simp [tab_size])
  rw [tab_all _ _ _ rfl] at hl
  have hx':a.tmps[p]?.getD undef = .pointer (some ⟨b,0,none⟩):=by rw [<- hx];simp
  simp only [results,hf]
  simp [hx',asAddr,hl]
theorem below_drewN {B:Nat} {a w:World} (h:Below B a w) (n:Nat):Below B a (w.drewN n):=⟨h.os,h.tape,h.output,h.size,h.block⟩
structure Upd (w w':World) (b:Nat):Prop where
  os:w'.os = w.os
  tape:w'.tape = w.tape
  output:w'.output = w.output
  size:w'.heap.size = w.heap.size
  block:∀ k,k ≠ b -> w'.heap[k]? = w.heap[k]?
theorem putBlk_upd (w:World) (b:Nat) (o:Obj):Upd w (putBlk w b o) b:=
  ⟨rfl,rfl,rfl,putBlk_size w b o,fun k hk => by simp [putBlk,show ¬ b = k from fun e => hk e.symm]⟩
theorem setCell_upd (w:World) (b j:Nat) (v:Value):Upd w (w.setCell ⟨b,j,none⟩ v) b:=
  ⟨rfl,rfl,rfl,by simp [World.setCell],fun k hk => Below.heap_setCell w _ v k hk⟩
theorem Blk.upd {w w':World} {b c:Nat} {arr:Array Value} {T:TypeId} (h:Blk w c arr T) (hu:Upd w w' b) (hne:c ≠ b):Blk w' c arr T:=by
  unfold Blk at *;rw [hu.block c hne];exact h
theorem below_upd {B b:Nat} {a w w':World} (h:Below B a w) (hu:Upd w w' b) (hb:B <= b):Below B a w':=
  h.trans ⟨hu.os,hu.tape,hu.output,Nat.le_of_eq hu.size.symm,fun k hk => hu.block k (by omega)⟩
section
variable {P:Program} {ops:Array Oper} {Q:Exit -> Act -> World -> Prop} {a:Act} {w:World} {rest:List Oper} {o:Oper}
theorem wpl_store_u (hgd:o.guard = none) (hdn:o.dst = none) (t:TypeId) (x y:Operand) (ho:o.op = .store t x y) (n:Nat) (hi0:(P.info? t).map (·.size) = some n)
    (b:Nat) (arr:Array Value) (T:TypeId) (f:Nat -> BitVec 32) (hx:a.eval x = .pointer (some ⟨b,0,none⟩)) (hy:a.eval y = .agg (tab n f)) (hb:Blk w b arr T) (hn:arr.size = n)
    (h:∀ w',Upd w w' b -> Blk w' b (tab n f) T -> wpList P ops Q rest a w'):wpList P ops Q (o :: rest) a w:=
  wpl_store hgd hdn t x y ho n hi0 b arr T f hx hy hb hn (h _ (putBlk_upd _ _ _) (putBlk_blk hb))
end
section
variable {P:Program} {Q:Exit -> Act -> World -> Prop} {a:Act} {w:World} {o:Oper}
theorem region_tail {id:Nat} {l:List Oper} (n:Nat) (hm:P.follows .mixedOrders = true) (hB:Region.lexTailB .any l.toArray n = true)
    (h:wpStill P l.toArray w.drew (fun a' => wpList P l.toArray Q (l.drop n) a' w.drew) (l.take n) a):(Code.region id l.toArray true).wp P Q a w:=wp_region_still_tail n hm hB h
theorem still_load {ops:Array Oper} {rest:List Oper} {Q:Act -> Prop} (hgd:o.guard = none) (t:TypeId) (x:Operand) (ho:o.op = .load t x) (n:Nat) (e:TypeId) (ht:P.underlying t = some (.array n e)) (hi0:(P.info? t).map (·.size) = some n)
    (b:Nat) (f:Nat -> BitVec 32) (T:TypeId) (hx:a.eval x = .pointer (some ⟨b,0,none⟩)) (hb:Blk w b (tab n f) T)
    (h:wpStill P ops w Q rest (a.put o.dst (.agg (tab n f)))):wpStill P ops w Q (o :: rest) a:=by
  have hl:=loadVar_run P w t n e ht hi0 b 0 (tab n f) T hb (by simp [tab_size])
  rw [tab_all _ _ _ rfl] at hl
  refine wpStill_step fun K hK => ?_
  simp only [Region.wanted,hgd,if_true,Oper.still,execOp,ho,hx,Instr.loadAt,Instr.sureAddr,Sem.run_bind,Sem.run_pure,Result.andThen_ok,hl]
  exact ⟨rfl,hK _ h⟩
end
section
variable {P:Program} {ops:Array Oper} {Q:Exit -> Act -> World -> Prop} {a:Act} {w:World} {rest:List Oper} {o:Oper}
theorem wpl_put (hgd:o.guard = none) (hdn:o.dst = none) (t:TypeId) (x y:Operand) (ho:o.op = .store t x y) (hi0:(P.info? t).map (·.size) = some 1)
    (b j:Nat) (arr:Array Value) (T:TypeId) (k:IntKind) (z:Int) (hx:a.eval x = .pointer (some ⟨b,j,none⟩)) (hy:a.eval y = .int k z) (hb:Blk w b arr T) (hj:j < arr.size)
    (h:∀ w',Upd w w' b -> Blk w' b (arr.setIfInBounds j (.int k z)) T -> wpList P ops Q rest a w'):wpList P ops Q (o :: rest) a w:=by
  refine wpList_plain hgd fun K hK => ?_
  obtain ⟨i,hi,hsize⟩:=Option.map_eq_some_iff.1 hi0
  unfold Oper.wp execOp
  have ha:(⟨b,j,none⟩:Addr).add 0 = ⟨b,j,none⟩:=by unfold Addr.add;simp
  have hl:(storeCells ⟨b,j,none⟩ [Value.int k z] 0).run P w = .ok () (w.setCell ⟨b,j,none⟩ (.int k z)):=by
    simp only [storeCells,Sem.run_bind,ha]
    rw [run_store _ _ _ _ _ rfl,hb.cell,Array.getElem?_eq_getElem hj]
    simp only [hb.frozen,Bool.false_eq_true,if_false,Result.andThen_ok]
    rfl
  simp only [ho,hx,hy,Instr.storeAt,Instr.sureAddr,storeVar,sizeOf,typeInfo,hi,hsize,Sem.run_bind,Sem.run_pure,run_program,Result.andThen_ok,Value.cells,List.size_toArray,List.length_cons,List.length_nil,Nat.zero_add,ne_eq,not_true,if_false,hl]
  simp only [Oper.upon_skip,hdn,Act.put]
  exact hK _ _ (h _ (setCell_upd _ _ _ _) (hb.set j _))
end
end Go.Proofs.YtjmpjfikcgccdaaGreatDoor
namespace Go.Proofs.YtjmpjfikcgccdaaGreatDoor
open Go.RowKit
section
variable {P:Program} {ops:Array Oper} {C:World -> Prop}
def headQ (P:Program) (ops:Array Oper) (C:World -> Prop) (n:Nat) (L:Array Bool -> Act -> Prop):Nat -> Array Bool -> Act -> Prop
  | 0,listed,a => L listed a
  | f + 1,listed,a => Region.ready .any ops listed ≠ [] ∧ ∀ i ∈ Region.ready .any ops listed,i < n ∧ qOp P ops C i (headQ P ops C n L f (listed.setIfInBounds i true)) a
theorem any_of_headQ {n g:Nat} {L:Array Bool -> Act -> Prop} {Q:Exit -> Act -> World -> Prop} (hL:∀ listed a w,C w -> L listed a -> wpAny P .any ops Q g listed a w) (f:Nat) :
    ∀ (listed:Array Bool) (a:Act) (w:World),C w -> headQ P ops C n L f listed a -> wpAny P .any ops Q (f + g) listed a w:=by
  induction f with
  | zero => intro listed a w hw h;rw [Nat.zero_add];exact hL _ _ _ hw h
  | succ f ih =>
    intro listed a w hw h
    rw [Nat.succ_add]
    exact ⟨fun h0 => absurd h0 h.1,fun i hi => wpOp_of_qOp hw (fun a' w' hw' h' => ih _ a' w' hw' h') (h.2 i hi).2⟩
theorem headQ_first {n i:Nat} {oi:Oper} {v:Value} {L:Array Bool -> Act -> Prop} (hi:ops[i]? = some oi) (hsel:∀ (j:Nat) (o:Oper) cs b,ops[j]? = some o -> o.op ≠ .select cs b)
    (hs:Region.sinkB .any ops n = true) (hc:Region.chainB .any ops n = true) (hn:n < ops.size) (hin:i < n) (hdone:∀ listed a,L listed a -> ∀ j ∈ Region.ready .any ops listed,n <= j) (f:Nat) :
    ∀ (listed:Array Bool) (a:Act),HeadInv .any ops n listed ->
      (∀ j oj,ops[j]? = some oj -> j ≠ i -> listed.getD j true = false -> (∀ e ∈ oj.after,Region.binds .any e = true -> e.on ≠ i) -> oi.apart ops oj = true) ->
      i ∈ Region.ready .any ops listed -> YieldsIn P ops C oi v a -> headQ P ops C n L f (listed.setIfInBounds i true) (a.put oi.dst v) -> headQ P ops C n L (f + 1) listed a:=by
  induction f with
  | zero =>
    intro listed a inv _ hr hy H
    refine ⟨List.ne_nil_of_mem hr,fun j hj => ?_⟩
    have hjn:j < n:=Nat.lt_of_not_le fun hge => tail_waits hs hc hn inv _ i rfl hin (mem_ready.1 hr).1 j hge hj
    by_cases e:j = i
    · subst e;exact ⟨hjn,hy.qOp hi H⟩
    · exact absurd (hdone _ _ H j (ready_mono hj e)) (by omega)
  | succ f ih =>
    intro listed a inv hfree hr hy H
    have hun:=(mem_ready.1 hr).1
    refine ⟨List.ne_nil_of_mem hr,fun j hj => ?_⟩
    have hjn:j < n:=Nat.lt_of_not_le fun hge => tail_waits hs hc hn inv _ i rfl hin hun j hge hj
    by_cases e:j = i
    · subst e;exact ⟨hjn,hy.qOp hi H⟩
    · obtain ⟨hjun,oj,hoj,hall⟩:=mem_ready.1 hj
      have hap:oi.apart ops oj = true:=hfree j oj hoj e hjun fun x hx hb hxi => by
        have:=hall x hx hb;rw [hxi,getD_both hun] at this;cases this
      have h2:=qOp_put hoj hap (fun cs b => hsel i oi cs b hi) (fun cs b => hsel j oj cs b hoj) hy (H.2 j (ready_mono hj e)).2
      refine ⟨hjn,qOp_mono (fun a' h3 => ih _ a' (inv.set hj hjn) (fun k ok hk hki hku hno => hfree k ok hk hki ?_ hno) (ready_mono hr (Ne.symm e)) h3.1 ?_) h2⟩
      · by_cases ejk:j = k
        · subst ejk;exact hjun
        · rw [getD_set_ne true ejk] at hku;exact hku
      · rw [Array.setIfInBounds_comm _ _ e];exact h3.2
theorem headQ_lex {n g:Nat} {Lq:Act -> Prop} (hsel:Region.noSelect ops = true) (hs:Region.sinkB .any ops n = true) (hc:Region.chainB .any ops n = true) (hn:n < ops.size) (l:List Oper) :
    ∀ (k:Nat) (listed:Array Bool) (a:Act),(∀ j,j < l.length -> l[j]? = ops[k + j]?) -> k + l.length = n -> HeadInv .any ops n listed ->
    Region.lexHead .any ops g l.length k listed = true -> wpQuiet P ops C Lq l a -> headQ P ops C n (fun listed' a' => Region.seqB .any ops g n listed' = true ∧ Lq a') l.length listed a:=by
  induction l with
  | nil =>
    intro k listed a _ hk _ hB h
    have e:k = n:=hk
    subst e;exact ⟨hB,h⟩
  | cons o l ih =>
    intro k listed a hl hk inv hB h
    rw [List.length_cons] at hk
    have h0:ops[k]? = some o:=by simpa using (hl 0 (by simp)).symm
    simp only [List.length_cons,Region.lexHead,Bool.and_eq_true] at hB
    have hr:k ∈ Region.ready .any ops listed:=by simpa using hB.1.1
    have hst:qOp P ops C k (wpQuiet P ops C Lq l) a:=by unfold qOp;simp only [h0];exact h
    obtain ⟨v,hy,hK⟩:=yieldsIn_of_qOp h0 hst
    refine headQ_first h0 (Region.noSelect_spec hsel) hs hc hn (by omega) (fun _ _ hL => seqB_ready hL.1) l.length listed a inv (Region.free_spec h0 hB.1.2) hr hy ?_
    exact ih (k + 1) _ _ (fun j hj => by have:=hl (j + 1) (by simp;omega);rw [List.getElem?_cons_succ] at this;rw [this];congr 1;omega) (by omega) (inv.set hr (by omega)) hB.2 hK
theorem region_qtail {id:Nat} {Q:Exit -> Act -> World -> Prop} {a:Act} {w:World} {l:List Oper} (n:Nat) (C:World -> Prop) (hm:P.follows .mixedOrders = true) (hB:Region.lexTailB .any l.toArray n = true) (hC:C w.drew)
    (h:wpQuiet P l.toArray C (fun a' => ∀ w',C w' -> wpList P l.toArray Q (l.drop n) a' w') (l.take n) a):(Code.region id l.toArray true).wp P Q a w:=by
  simp only [Region.lexTailB,Bool.and_eq_true,decide_eq_true_eq] at hB
  obtain ⟨⟨⟨⟨hsel,hn⟩,hs⟩,hc⟩,hlex⟩:=hB
  have hnl:n < l.length:=by simpa using hn
  have ht:(l.take n).length = n:=by rw [List.length_take];omega
  have hd:(l.drop n).length = l.toArray.size - n:=by rw [List.length_drop,List.size_toArray]
  have H:=headQ_lex (P:=P) (C:=C) (g:=l.toArray.size - n) hsel hs hc hn (l.take n) 0 (Array.replicate l.toArray.size false) a
    (fun j hj => by rw [ht] at hj;rw [List.getElem?_take,if_pos hj,Nat.zero_add,List.getElem?_toArray]) (by rw [ht,Nat.zero_add])
    ⟨Array.size_replicate,fun j oj _ hl => (by rw [getD_replicate_false] at hl;cases hl),fun t _ htl => getD_in (by rw [Array.size_replicate];exact htl) (getD_replicate_false _ _)⟩
    (by rw [ht];exact hlex) h
  refine wp_region_any hm ?_
  have:=any_of_headQ (Q:=Q) (g:=l.toArray.size - n) (fun listed a' w' hw' hL => by
    have:=wpAny_of_seq (md:=.any) (Q':=Q) (l.drop n) n listed a' w' (fun j => by rw [List.getElem?_drop,List.getElem?_toArray]) (by rw [hd];exact hL.1) (hL.2 w' hw')
    rwa [hd] at this) _ _ _ _ hC H
  rw [ht,show n + (l.toArray.size - n) = l.toArray.size from by omega] at this
  exact this
end
section
variable {P:Program} {ops:Array Oper} {C:World -> Prop} {Q:Act -> Prop} {a:Act} {o:Oper} {rest:List Oper}
theorem q_pure (hgd:o.guard = none) (v:Value) (hr:∀ w,(execOp a.eval o).run P w = .ok (.value v) w) (h:wpQuiet P ops C Q rest (a.put o.dst v)):wpQuiet P ops C Q (o :: rest) a:=by
  refine wpQuiet_step fun K hK => ?_
  simp only [Region.wanted,hgd,if_true]
  exact ⟨v,fun w _ => by unfold Oper.quietAt;rw [hr];exact ⟨rfl,rfl⟩,hK _ h⟩
theorem q_read (hgd:o.guard = none) (v:Value) (hr:∀ w,C w -> (execOp a.eval o).run P w = .ok (.value v) w) (h:wpQuiet P ops C Q rest (a.put o.dst v)):wpQuiet P ops C Q (o :: rest) a:=by
  refine wpQuiet_step fun K hK => ?_
  simp only [Region.wanted,hgd,if_true]
  exact ⟨v,fun w hw => by unfold Oper.quietAt;rw [hr w hw];exact ⟨rfl,rfl⟩,hK _ h⟩
theorem q_load (hgd:o.guard = none) (t:TypeId) (x:Operand) (ho:o.op = .load t x) (n:Nat) (e:TypeId) (ht:P.underlying t = some (.array n e)) (hi0:(P.info? t).map (·.size) = some n)
    (b:Nat) (f:Nat -> BitVec 32) (T:TypeId) (hx:a.eval x = .pointer (some ⟨b,0,none⟩)) (hb:∀ w,C w -> Blk w b (tab n f) T)
    (h:wpQuiet P ops C Q rest (a.put o.dst (.agg (tab n f)))):wpQuiet P ops C Q (o :: rest) a:=by
  refine q_read hgd _ (fun w hw => ?_) h
  have hl:=loadVar_run P w t n e ht hi0 b 0 (tab n f) T (hb w hw) (by simp [tab_size])
  rw [tab_all _ _ _ rfl] at hl
  simp only [execOp,ho,hx,Instr.loadAt,Instr.sureAddr,Sem.run_bind,Sem.run_pure,Result.andThen_ok,hl]
theorem q_call (hgd:o.guard = none) (f:FuncId) (args:Array Value) (hr:∀ w,(execOp a.eval o).run P w = .ok (.enter f args) w) (v:Value)
    (hc:∀ w,C w -> Calls P f args w fun e w'' => e = .returned v ∧ C w'') (h:wpQuiet P ops C Q rest (a.put o.dst v)):wpQuiet P ops C Q (o :: rest) a:=by
  refine wpQuiet_step fun K hK => ?_
  simp only [Region.wanted,hgd,if_true]
  exact ⟨v,fun w hw => by unfold Oper.quietAt;rw [hr];exact ⟨rfl,hc w hw⟩,hK _ h⟩
end
theorem calls_below {P:Program} {f:FuncId} {args:Array Value} {w w0:World} {v:Value} (hb:Below w0.heap.size w0 w) (h:Calls P f args w fun e w' => e = .returned v ∧ Below w.heap.size w w') :
    Calls P f args w fun e w' => e = .returned v ∧ Below w0.heap.size w0 w':=h.mono fun _ _ ⟨he,hb'⟩ => ⟨he,hb.trans (hb'.mono hb.size)⟩
end Go.Proofs.YtjmpjfikcgccdaaGreatDoor
namespace Go.Proofs.YtjmpjfikcgccdaaGreatDoor
open Go.RowKit
def tb (n:Nat) (f:Nat -> UInt8):Array Value:=((List.range n).map fun j => Value.int .u8 ((f j).toNat:Int)).toArray
def sb (n:Nat) (f:Nat -> UInt8):ByteArray:=⟨((List.range n).map f).toArray⟩
theorem sb_size (n:Nat) (f:Nat -> UInt8):(sb n f).size = n:=by simp [sb,ByteArray.size]
theorem sb_congr (n:Nat) (f g:Nat -> UInt8) (h:∀ j,j < n -> f j = g j):sb n f = sb n g:=by
  unfold sb;congr 2;apply List.map_congr_left;intro j hj;rw [h j (by simpa using hj)]
theorem tb_size (n:Nat) (f:Nat -> UInt8):(tb n f).size = n:=by simp [tb]
theorem tb_get (n:Nat) (f:Nat -> UInt8) (j:Nat) (h:j < n):(tb n f)[j]? = some (.int .u8 ((f j).toNat:Int)):=by
  simp [tb,h]
theorem tb_congr (n:Nat) (f g:Nat -> UInt8) (h:∀ j,j < n -> f j = g j):tb n f = tb n g:=by
  unfold tb;congr 1;apply List.map_congr_left;intro j hj;rw [h j (by simpa using hj)]
theorem tb_set (n:Nat) (f:Nat -> UInt8) (k:Nat) (v:UInt8):(tb n f).setIfInBounds k (.int .u8 (v.toNat:Int)) = tb n (fun j => if j = k then v else f j):=by
  apply Array.ext_getElem?;intro i
  rw [Array.getElem?_setIfInBounds]
  by_cases hi:i < n
  · rw [tb_get _ _ i hi,tb_get _ _ i hi,tb_size]
    by_cases hk:k = i
    · subst hk;simp [hi]
    · simp [hk,Ne.symm hk]
  · have e:∀ g,(tb n g)[i]? = none:=fun g => by rw [Array.getElem?_eq_none];rw [tb_size];omega
    rw [e,e,tb_size];split <;> simp_all
def uptoB (f:Nat -> UInt8) (k:Nat) (j:Nat):UInt8:=if j < k then f j else 0
theorem tb_upto_succ (n k:Nat) (f:Nat -> UInt8) (v:UInt8) (h:v = f k):(tb n (uptoB f k)).setIfInBounds k (.int .u8 (v.toNat:Int)) = tb n (uptoB f (k + 1)):=by
  rw [tb_set,h];apply tb_congr;intro j _;unfold uptoB
  by_cases e:j = k
  · subst e;simp
  · simp [e];congr 1;apply propext;omega
theorem tb_full (n:Nat) (f:Nat -> UInt8):tb n (uptoB f n) = tb n f:=tb_congr _ _ _ fun j hj => by unfold uptoB;rw [if_pos hj]
theorem Blk.bcell {w:World} {b:Nat} {T:TypeId} {n:Nat} {f:Nat -> UInt8} (h:Blk w b (tb n f) T) (j:Nat) (hj:j < n):w.cell? ⟨b,j,none⟩ = some (.int .u8 ((f j).toNat:Int)):=by
  rw [h.cell,tb_get _ _ _ hj]
theorem push_foldl (l:List UInt8):∀ s:ByteArray,(l.map fun b => (b.toNat:Int)).foldl (fun r n => r.push (UInt8.ofNat n.toNat)) s = ⟨(s.data.toList ++ l).toArray⟩:=by
  induction l with
  | nil => intro s;simp
  | cons b l ih =>
    intro s
    simp only [List.map_cons,List.foldl_cons]
    rw [ih]
    simp [ByteArray.push]
theorem bytes_run (P:Program) (w:World) (b off n cap:Nat) (arr:Array Value) (T:TypeId) (hb:Blk w b arr T) (hn:off + n <= arr.size) (l:List UInt8) (hl:arr.extract off (off + n) = (Lib.byteCells l).toArray) :
    (Conv.bytesToString (.slice (some ⟨b,off,none⟩) n cap)).run P w = .ok (.string ⟨l.toArray⟩) w:=by
  have h:=loadCellsFrom_run P w b off arr T hb n 0 #[] (by omega)
  rw [Nat.add_zero,Array.empty_append,hl] at h
  have:=run_bytesToString (P:=P) w ⟨b,off,none⟩ n cap (l.map fun b => (b.toNat:Int)) (by rw [loadCells,h];simp [Lib.byteCells])
  rw [this,push_foldl];rfl
section
variable {P:Program} {ops:Array Oper} {Q:Exit -> Act -> World -> Prop} {a:Act} {w:World} {rest:List Oper} {o:Oper}
theorem wpl_string (hgd:o.guard = none) (src dst e:TypeId) (x:Operand) (ho:o.op = .convert src dst x) (hs:P.underlying src = some (.slice e)) (he:P.underlying e = some (.int .u8)) (hd:P.underlying dst = some .string)
    (b off n cap:Nat) (arr:Array Value) (T:TypeId) (hx:a.eval x = .slice (some ⟨b,off,none⟩) n cap) (hb:Blk w b arr T) (hn:off + n <= arr.size) (l:List UInt8) (hl:arr.extract off (off + n) = (Lib.byteCells l).toArray)
    (h:wpList P ops Q rest (a.put o.dst (.string ⟨l.toArray⟩)) w):wpList P ops Q (o :: rest) a w:=by
  refine wpList_plain hgd fun K hK => ?_
  unfold Oper.wp execOp
  simp only [ho,hx,Sem.run_bind,Sem.run_pure,Result.andThen_ok,run_convert_bytes_string w src dst e _ _ _ hs he hd,bytes_run P w b off n cap arr T hb hn l hl]
  exact hK _ _ h
end
theorem tb_bytes (n m:Nat) (f:Nat -> UInt8) (h:0 + n = m):(tb n f).extract 0 m = (Lib.byteCells ((List.range n).map f)).toArray:=by
  subst h;rw [Nat.zero_add]
  have:=Array.extract_size (xs:=tb n f)
  rw [tb_size] at this;rw [this];simp [tb,Lib.byteCells]
end Go.Proofs.YtjmpjfikcgccdaaGreatDoor
