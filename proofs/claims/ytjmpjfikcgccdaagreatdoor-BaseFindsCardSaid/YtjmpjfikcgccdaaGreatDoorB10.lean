/-
  Part of the proof of BaseFindsCard (SyB and on).
-/
import Derived.Test.YtjmpjfikcgccdaaGreatDoorB09
import Derived.Lib.SliceRun
namespace Go.Proofs.YtjmpjfikcgccdaaGreatDoor.Sy
open Go.RowKit
open It Nr
def nth {α:Type} [Inhabited α] (d:Array α) (i:Nat):α:=d[i]!
def sw {α:Type} (d:Array α) (i j:Nat):Array α:=d.swapIfInBounds i j
theorem sw_eq {α:Type} {d:Array α} {i:Nat} {j:Nat} (hi:i < d.size) (hj:j < d.size):sw d i j = d.swap i j hi hj:=by
  unfold sw Array.swapIfInBounds
  rw [dif_pos hi,dif_pos hj]
theorem sw_size {α:Type} (d:Array α) (i j:Nat):(sw d i j).size = d.size:=by simp [sw]
theorem sw_perm {α:Type} {d:Array α} {i:Nat} {j:Nat} (hi:i < d.size) (hj:j < d.size):(sw d i j).toList.Perm d.toList:=by
  rw [sw_eq hi hj]
  exact (Array.swap_perm hi hj).toList
theorem sw_nth {α:Type} [Inhabited α] {d:Array α} {i:Nat} {j:Nat} (hi:i < d.size) (hj:j < d.size) (x:Nat):nth (sw d i j) x = if x = i then nth d j else if x = j then nth d i else nth d x:=by
  unfold nth
  rw [sw_eq hi hj]
  simp only [getElem!_def]
  rw [Array.getElem?_swap]
  by_cases h1:x = i
  · subst h1
    by_cases h2:x = j
    · subst h2;simp [hi]
    · simp [hj,Ne.symm h2]
  · by_cases h2:x = j
    · subst h2;simp [h1,hi]
    · simp [h1,h2,Ne.symm h1,Ne.symm h2]
def fl {α:Type} (enc:α -> List Value) (tl:Array Value) (d:Array α):Array Value:=(d.toList.flatMap enc).toArray ++ tl
theorem flat_len {α:Type} {enc:α -> List Value} {k:Nat} (hk:∀ x,(enc x).length = k):∀ l:List α,(l.flatMap enc).length = l.length * k
  | [] => by simp
  | x :: l => by rw [List.flatMap_cons,List.length_append,hk,flat_len hk l,List.length_cons,Nat.add_mul];omega
theorem fl_size {α:Type} {enc:α -> List Value} {k:Nat} (hk:∀ x,(enc x).length = k) (tl:Array Value) (d:Array α):(fl enc tl d).size = d.size * k + tl.size:=by
  unfold fl;simp only [Array.size_append,List.size_toArray];rw [flat_len hk];simp
theorem flat_get {α:Type} {enc:α -> List Value} {k:Nat} (hk:∀ x,(enc x).length = k):∀ (l:List α) (i t:Nat) (x:α),l[i]? = some x -> t < k -> (l.flatMap enc)[i * k + t]? = (enc x)[t]?
  | [],i,t,x,h,_ => by simp at h
  | y :: l,0,t,x,h,ht => by
    simp at h;subst h
    rw [List.flatMap_cons,List.getElem?_append_left (by rw [hk];omega)];simp
  | y :: l,i + 1,t,x,h,ht => by
    rw [List.flatMap_cons,List.getElem?_append_right (by rw [hk,Nat.add_mul];omega),hk,show (i + 1) * k + t - k = i * k + t from by rw [Nat.add_mul];omega]
    exact flat_get hk l i t x (by simpa using h) ht
theorem nth_some {α:Type} [Inhabited α] {d:Array α} {i:Nat} (hi:i < d.size):d.toList[i]? = some (nth d i):=by
  unfold nth;rw [Array.getElem?_toList,getElem!_pos d i hi,Array.getElem?_eq_getElem hi]
theorem row_le {α:Type} {d:Array α} {i:Nat} (hi:i < d.size) (k:Nat):i * k + k <= d.size * k:=by
  have:=Nat.mul_le_mul_right k (show i + 1 <= d.size from hi);rwa [Nat.add_mul,Nat.one_mul] at this
theorem row_leT {α:Type} {enc:α -> List Value} {k:Nat} {d:Array α} {i:Nat} (hk:∀ x,(enc x).length = k) (hi:i < d.size) (tl:Array Value):i * k + k <= (fl enc tl d).size:=by
  rw [fl_size hk];have:=row_le hi k;omega
theorem fl_get {α:Type} [Inhabited α] {enc:α -> List Value} {tl:Array Value} {k:Nat} {d:Array α} {i:Nat} (hk:∀ x,(enc x).length = k) (hi:i < d.size) {t:Nat} (ht:t < k):(fl enc tl d)[i * k + t]? = (enc (nth d i))[t]?:=by
  have:=row_le hi k
  unfold fl;rw [Array.getElem?_append_left (by simp only [List.size_toArray];rw [flat_len hk];simp;omega),List.getElem?_toArray];exact flat_get hk _ _ _ _ (nth_some hi) ht
theorem fl_tail {α:Type} {enc:α -> List Value} {tl:Array Value} {k:Nat} {d:Array α} (hk:∀ x,(enc x).length = k) {t:Nat} (ht:d.size * k <= t):(fl enc tl d)[t]? = tl[t - d.size * k]?:=by
  unfold fl;rw [Array.getElem?_append_right (by simp only [List.size_toArray];rw [flat_len hk];simpa using ht)];simp only [List.size_toArray];rw [flat_len hk];simp
theorem fl_ext {α:Type} [Inhabited α] {enc:α -> List Value} {tl:Array Value} {k:Nat} {d:Array α} {i:Nat} (hk:∀ x,(enc x).length = k) (hi:i < d.size):(fl enc tl d).extract (i * k) (i * k + k) = (enc (nth d i)).toArray:=by
  have hr:=row_leT hk hi tl
  apply Array.ext_getElem?
  intro t
  by_cases ht:t < k
  · rw [Array.getElem?_extract,if_pos (by omega),fl_get hk hi ht,List.getElem?_toArray]
  · rw [Array.getElem?_eq_none (by simp only [Array.size_extract];omega),Array.getElem?_eq_none (by simp only [List.size_toArray];rw [hk];omega)]
theorem in_row {q r j k:Nat} (hr:r < k):(j * k <= q * k + r ∧ q * k + r < j * k + k) ↔ q = j:=by
  constructor
  · rintro ⟨h1,h2⟩
    rcases Nat.lt_trichotomy q j with h | h | h
    · have:=Nat.mul_le_mul_right k (show q + 1 <= j from h);rw [Nat.add_mul,Nat.one_mul] at this;omega
    · exact h
    · have:=Nat.mul_le_mul_right k (show j + 1 <= q from h);rw [Nat.add_mul,Nat.one_mul] at this;omega
  · rintro rfl;omega
theorem fl_sw {α:Type} [Inhabited α] {enc:α -> List Value} {tl:Array Value} {k:Nat} {d:Array α} {i:Nat} {j:Nat} (hk:∀ x,(enc x).length = k) (hi:i < d.size) (hj:j < d.size):foldset (foldset (fl enc tl d) (i * k) (enc (nth d j))) (j * k) (enc (nth d i)) = fl enc tl (sw d i j):=by
  have hs:=fl_size hk tl d
  have hs':=fl_size hk tl (sw d i j)
  rw [sw_size] at hs'
  have hri:=row_le hi k
  have hrj:=row_le hj k
  apply Array.ext_getElem?
  intro t
  rw [foldset_get _ _ _ _ (by rw [hk,foldset_size,hs];omega),foldset_get _ _ _ _ (by rw [hk,hs];omega),hk,hk]
  by_cases ht:t < d.size * k
  · have hk0:0 < k:=by
      rcases Nat.eq_zero_or_pos k with h | h
      · rw [h] at ht;simp at ht
      · exact h
    obtain ⟨q,r,rfl,hr⟩:∃ q r,t = q * k + r ∧ r < k:=⟨t / k,t % k,by have:=Nat.div_add_mod t k;rw [Nat.mul_comm] at this;exact this.symm,Nat.mod_lt _ hk0⟩
    have hq:q < d.size:=by
      rcases Nat.lt_or_ge q d.size with h | h
      · exact h
      · have:=Nat.mul_le_mul_right k h;omega
    rw [fl_get (d:=sw d i j) hk (by rw [sw_size];exact hq) hr,sw_nth hi hj]
    by_cases e1:q = j
    · rw [if_pos ((in_row hr).2 e1)]
      subst e1
      by_cases e2:q = i
      · subst e2;rw [if_pos rfl,show q * k + r - q * k = r from by omega]
      · rw [if_neg e2,if_pos rfl,show q * k + r - q * k = r from by omega]
    · rw [if_neg (fun h => e1 ((in_row hr).1 h))]
      by_cases e2:q = i
      · rw [if_pos ((in_row hr).2 e2)]
        subst e2
        rw [if_pos rfl,show q * k + r - q * k = r from by omega]
      · rw [if_neg (fun h => e2 ((in_row hr).1 h)),if_neg e2,if_neg e1,fl_get hk hq hr]
  · rw [if_neg (by omega),if_neg (by omega),fl_tail hk (by omega),fl_tail hk (by rw [sw_size];omega),sw_size]
theorem fl_one {α:Type} {enc:α -> List Value} (h1:∀ x,∀ v ∈ enc x,v.oneCell' = true) (x:α):∀ v ∈ (enc x).toArray.toList,v.oneCell' = true:=by simpa using h1 x
structure SS {α:Type} (enc:α -> List Value) (tl:Array Value) (T:TypeId) (w0:World) (g:Nat) (d0:Array α) (w:World) (d:Array α):Prop where
  upd:UpdG w0 w g
  blk:Blk w g (fl enc tl d) T
  perm:d.toList.Perm d0.toList
theorem SS.size {α:Type} {enc:α -> List Value} {tl:Array Value} {T:TypeId} {w0 w:World} {g:Nat} {d0 d:Array α} (h:SS enc tl T w0 g d0 w d):d.size = d0.size:=by
  have:=h.perm.length_eq;simpa using this
theorem SS.mem {α:Type} [Inhabited α] {enc:α -> List Value} {tl:Array Value} {T:TypeId} {w0 w:World} {g:Nat} {d0 d:Array α} (h:SS enc tl T w0 g d0 w d) {i:Nat} (hi:i < d.size):nth d i ∈ d0.toList:=
  h.perm.mem_iff.1 (List.mem_of_getElem? (nth_some hi))
theorem SS.grown {α:Type} {enc:α -> List Value} {tl:Array Value} {T:TypeId} {w0 w w':World} {g:Nat} {d0 d:Array α} (h:SS enc tl T w0 g d0 w d) (hb:Below w.heap.size w w'):SS enc tl T w0 g d0 w' d:=
  ⟨h.upd.trans ⟨hb.os,hb.tape,hb.output,hb.size,fun k hk _ => hb.block k hk⟩,h.blk.below hb h.blk.lt,h.perm⟩
theorem SS.swapped {α:Type} [Inhabited α] {enc:α -> List Value} {tl:Array Value} {k:Nat} {i:Nat} {j:Nat} {T:TypeId} {w0 w w1 w2:World} {g:Nat} {d0 d:Array α} (hk:∀ x,(enc x).length = k) (h:SS enc tl T w0 g d0 w d) (u1:Upd w w1 g) (u2:Upd w1 w2 g) (hi:i < d.size) (hj:j < d.size)
    (hb:Blk w2 g (foldset (foldset (fl enc tl d) (i * k) (enc (nth d j))) (j * k) (enc (nth d i))) T):SS enc tl T w0 g d0 w2 (sw d i j):=
  ⟨(h.upd.upd u1).upd u2,by rw [<- fl_sw hk hi hj];exact hb,(sw_perm hi hj).trans h.perm⟩
theorem SS.load {α:Type} [Inhabited α] {enc:α -> List Value} {tl:Array Value} {k:Nat} {i:Nat} {P:Program} {T:TypeId} {w:World} {g:Nat} {d:Array α} (hk:∀ x,(enc x).length = k) (ha:∀ w,(isAgg T).run P w = .ok true w) (hi0:(P.info? T).map (·.size) = some k) (h:Blk w g (fl enc tl d) T) (hi:i < d.size) :
    (loadVar T ⟨g,i * k,none⟩).run P w = .ok (.agg (enc (nth d i)).toArray) w:=by
  rw [loadV_run w T ha k hi0 g (i * k) _ T h (row_leT hk hi tl),fl_ext hk hi]
theorem exec_load {P:Program} {a:Act} {o:Oper} {w:World} (t:TypeId) (x:Operand) (ho:o.op = .load t x) (p:Addr) (hx:a.eval x = .pointer (some p)) (v:Value) (hl:(loadVar t p).run P w = .ok v w):(execOp a.eval o).run P w = .ok (.value v) w:=by
  unfold execOp
  simp only [ho,hx,Instr.loadAt,Instr.sureAddr,Sem.run_bind,Sem.run_pure,Result.andThen_ok,hl]
theorem wpl_val {P:Program} {ops:Array Oper} {Q:Exit -> Act -> World -> Prop} {a:Act} {w:World} {rest:List Oper} {o:Oper} (hgd:o.guard = none) (v:Value) (hv:(execOp a.eval o).run P w = .ok (.value v) w) (h:wpList P ops Q rest (a.put o.dst v) w):wpList P ops Q (o :: rest) a w:=by
  refine wpList_plain hgd fun K hK => ?_
  unfold Oper.wp
  rw [hv]
  exact hK _ _ h
def Cmp {α:Type} (P:Program) (f:FuncId) (cb:Array Value) (enc:α -> List Value) (cf:α -> α -> Int) (w0:World) (g:Nat) (d0:Array α):Prop:=
  ∀ (w:World),UpdG w0 w g -> ∀ x ∈ d0.toList,∀ y ∈ d0.toList,Calls P f (#[.agg (enc x).toArray,.agg (enc y).toArray] ++ cb) w fun e w' => e = .returned (.int .i64 (cf x y)) ∧ Below w.heap.size w w'
end Go.Proofs.YtjmpjfikcgccdaaGreatDoor.Sy
namespace Go.Proofs.YtjmpjfikcgccdaaGreatDoor.SyC
open Go.RowKit
open It Nr Sy
theorem szE:(Tryz.prog.info? 242).map (·.size) = some 2:=by kernel_rfl
set_option maxHeartbeats 1000000 in
theorem swap_range {α:Type} [Inhabited α] (enc:α -> List Value) (tl:Array Value) (hk:∀ x,(enc x).length = 2) (h1:∀ x,∀ v ∈ enc x,v.oneCell' = true) (g cap a b n N:Nat) (d0 d:Array α) (w0 w:World) (fv:Value) (h:SS enc tl 242 w0 g d0 w d) (hN:d.size = N) (hab:a + n <= b) (hbn:b + n <= N) (hsz:N <= 100000) :
    Calls Tryz.prog 366 #[.slice (some ⟨g,0,none⟩) N cap,.int .i64 a,.int .i64 b,.int .i64 n,fv] w fun e w' => e = .returned (.tuple #[]) ∧ ∃ d',SS enc tl 242 w0 g d0 w' d' ∧ Swr (nth d) (nth d') a b n:=by
  have HS:Hid (SS enc tl 242 w0 g d0 w d):=h
  have HN:Hid (d.size = N):=hN
  clear h hN
  go_enter Tryz.func366,Tryz.ntmps366
  go_wp2_with fail
  go_loopw [10] (fun i wr => ∃ (m:Nat) (dm:Array α),m <= n ∧ i = .int .i64 m ∧ Hid (SS enc tl 242 w0 g d0 wr dm) ∧ Hid (Swr (nth d) (nth dm) a b m)) (fun i _ => n - (intOf i).toNat)
  case atStart => exact ⟨0,d,by omega,rfl,HS.out,⟨fun t ht => by omega,fun t ht => by omega,fun _ _ _ => rfl⟩⟩
  case round =>
    obtain ⟨m,dm,hm,rfl,HM,HW⟩:=hrel
    have hds:dm.size = N:=by rw [HM.out.size,<- HS.out.size];exact HN.out
    have HDS:Hid (dm.size = N):=hds
    clear hds
    by_cases hlt:m < n
    · have hlt':(m:Int) < (n:Int):=by omega
      obtain ⟨p,hp⟩:∃ p:Nat,p = a + m:=⟨_,rfl⟩
      obtain ⟨q,hq⟩:∃ q:Nat,q = b + m:=⟨_,rfl⟩
      have HP:Hid (p = a + m):=hp
      have HQ:Hid (q = b + m):=hq
      have HBA:Hid (p < dm.size):=by unfold Hid;rw [HDS.out];omega
      have HBB:Hid (q < dm.size):=by unfold Hid;rw [HDS.out];omega
      have i3:(p:Int) < (N:Int):=by omega
      have i4:(q:Int) < (N:Int):=by omega
      have x1:IntKind.i64.wrap ((a:Int) + (m:Int)) = (p:Int):=by rw [IntKind.wrap_i64];omega
      have x2:IntKind.i64.wrap ((b:Int) + (m:Int)) = (q:Int):=by rw [IntKind.wrap_i64];omega
      clear hp hq
      go_wp2_with fail
      have hB:Blk wr.drew g (fl enc tl dm) 242:=HM.out.blk.drewN 1
      refine region_s [(0,true),(1,true),(2,true),(3,true),(4,true),(5,true),(6,true),(7,true),(8,true),(9,true),(10,true),(11,true),(12,true),(13,false),(14,true),(15,true),(16,true),(17,true),(18,true),(19,false),(20,true)] [] [21,22,23] (fun W' => Blk W' g (fl enc tl dm) 242) Nr.mixed (by kernel_rfl) (fun _ _ _ _ _ h => h) hB ?_
      refine lead_pure _ rfl _ rfl rfl (.slice (some ⟨g,0,none⟩) N cap) (fun W => by go_simp) ?_
      refine lead_pure _ rfl _ rfl rfl (.int .i64 (a:Int)) (fun W => by go_simp) ?_
      refine lead_pure _ rfl _ rfl rfl (.int .i64 (m:Int)) (fun W => by go_simp) ?_
      refine lead_pure _ rfl _ rfl rfl (.int .i64 (p:Int)) (fun W => by go_simp) ?_
      refine lead_pure _ rfl _ rfl rfl (.slice (some ⟨g,0,none⟩) N cap) (fun W => by go_simp) ?_
      refine lead_pure _ rfl _ rfl rfl (.int .i64 (b:Int)) (fun W => by go_simp) ?_
      refine lead_pure _ rfl _ rfl rfl (.int .i64 (m:Int)) (fun W => by go_simp) ?_
      refine lead_pure _ rfl _ rfl rfl (.int .i64 (q:Int)) (fun W => by go_simp) ?_
      refine lead_pure _ rfl _ rfl rfl (.slice (some ⟨g,0,none⟩) N cap) (fun W => by go_simp) ?_
      refine lead_pure _ rfl _ rfl rfl (.int .i64 (b:Int)) (fun W => by go_simp) ?_
      refine lead_pure _ rfl _ rfl rfl (.int .i64 (m:Int)) (fun W => by go_simp) ?_
      refine lead_pure _ rfl _ rfl rfl (.int .i64 (q:Int)) (fun W => by go_simp) ?_
      refine lead_pure _ rfl _ rfl rfl (.pointer (some ⟨g,q * 2,none⟩)) (fun W => by go_simp) ?_
      simp only [Act.put,List.setIfInBounds_toArray,List.set_cons_succ,List.set_cons_zero]
      refine lead_read _ rfl _ rfl rfl (.agg (enc (nth dm q)).toArray) (fun W hW => exec_load 242 _ rfl ⟨g,q * 2,none⟩ rfl _ (SS.load hk Tryz.isAgg242 szE hW HBB.out)) ?_
      refine lead_pure _ rfl _ rfl rfl (.slice (some ⟨g,0,none⟩) N cap) (fun W => by go_simp) ?_
      refine lead_pure _ rfl _ rfl rfl (.int .i64 (a:Int)) (fun W => by go_simp) ?_
      refine lead_pure _ rfl _ rfl rfl (.int .i64 (m:Int)) (fun W => by go_simp) ?_
      refine lead_pure _ rfl _ rfl rfl (.int .i64 (p:Int)) (fun W => by go_simp) ?_
      refine lead_pure _ rfl _ rfl rfl (.pointer (some ⟨g,p * 2,none⟩)) (fun W => by go_simp) ?_
      simp only [Act.put,List.setIfInBounds_toArray,List.set_cons_succ,List.set_cons_zero]
      refine lead_read _ rfl _ rfl rfl (.agg (enc (nth dm p)).toArray) (fun W hW => exec_load 242 _ rfl ⟨g,p * 2,none⟩ rfl _ (SS.load hk Tryz.isAgg242 szE hW HBA.out)) ?_
      refine lead_pure _ rfl _ rfl rfl (.pointer (some ⟨g,p * 2,none⟩)) (fun W => by go_simp) ?_
      refine lead_nil ?_
      simp only [Act.put,List.setIfInBounds_toArray,List.set_cons_succ,List.set_cons_zero]
      refine mid_nil ?_
      simp only [List.filterMap_cons,List.getElem?_toArray,List.getElem?_cons_succ,List.getElem?_cons_zero,List.filterMap_nil]
      refine wpl_storeAt rfl rfl 242 _ _ rfl 2 szE g (p * 2) _ 242 (enc (nth dm q)).toArray rfl rfl (by simp [hk]) (fl_one h1 _) hB (row_leT hk HBA.out tl) ?_
      intro w1 u1 j1
      have HS2:Hid _:=HM.out.grown (below_drewN (Below.refl _ _) 1)
      clear hB
      refine wpl_val rfl (.pointer (some ⟨g,q * 2,none⟩)) (by go_simp) ?_
      simp only [Act.put,List.setIfInBounds_toArray,List.set_cons_succ,List.set_cons_zero]
      refine wpl_storeAt rfl rfl 242 _ _ rfl 2 szE g (q * 2) _ 242 (enc (nth dm p)).toArray rfl rfl (by simp [hk]) (fl_one h1 _) j1 (by rw [foldset_size];exact row_leT hk HBB.out tl) ?_
      intro w2 u2 j2
      go_wp2_with fail
      refine ⟨⟨m + 1,sw dm p q,by omega,by go_num,SS.swapped hk HS2.out u1 u2 HBA.out HBB.out j2,?_⟩,by simp [intOf];omega⟩
      have hpq:=sw_nth HBA.out HBB.out
      refine Swr.step HW.out (by omega) ?_ ?_ ?_
      · rw [hpq,<- HP.out,if_pos rfl,HQ.out]
      · rw [hpq,<- HQ.out]
        by_cases e:q = p
        · rw [if_pos e,e,HP.out]
        · rw [if_neg e,if_pos rfl,HP.out]
      · intro x hx hx'
        rw [hpq,if_neg (by rw [HP.out];exact hx),if_neg (by rw [HQ.out];exact hx')]
    · have hm':m = n:=by omega
      subst hm'
      go_wp2_with fail
      go_end0
      exact ⟨rfl,dm,HM.out,HW.out⟩
set_option maxHeartbeats 1000000 in
theorem rotate_any {α:Type} [Inhabited α] (enc:α -> List Value) (tl:Array Value) (hk:∀ x,(enc x).length = 2) (h1:∀ x,∀ v ∈ enc x,v.oneCell' = true) (g cap a m b N:Nat) (d0 d:Array α) (w0 w:World) (fv:Value) (h:SS enc tl 242 w0 g d0 w d) (hN:d.size = N) (ham:a < m) (hmb:m < b) (hbN:b <= N) (hsz:N <= 100000) :
    Calls Tryz.prog 345 #[.slice (some ⟨g,0,none⟩) N cap,.int .i64 a,.int .i64 m,.int .i64 b,fv] w fun e w' => e = .returned (.tuple #[]) ∧ ∃ d',SS enc tl 242 w0 g d0 w' d' ∧ Rot (nth d) (nth d') a m b:=by
  have HS:Hid (SS enc tl 242 w0 g d0 w d):=h
  have HN:Hid (d.size = N):=hN
  obtain ⟨i0,hi0⟩:∃ i:Nat,i = m - a:=⟨_,rfl⟩
  obtain ⟨j0,hj0⟩:∃ j:Nat,j = b - m:=⟨_,rfl⟩
  have s1:(m:Int) - (a:Int) = (i0:Int):=by omega
  have s2:(b:Int) - (m:Int) = (j0:Int):=by omega
  have x1:IntKind.i64.wrap (i0:Int) = (i0:Int):=by rw [IntKind.wrap_i64];omega
  have x2:IntKind.i64.wrap (j0:Int) = (j0:Int):=by rw [IntKind.wrap_i64];omega
  have HI:Hid (i0 = m - a ∧ j0 = b - m):=⟨hi0,hj0⟩
  clear h hN hi0 hj0
  go_enter Tryz.func345,Tryz.ntmps345
  go_wp2_with fail
  go_loopw [10,11] (fun vi vj wr => ∃ (i j L:Nat) (c:Array α),vi = .int .i64 i ∧ vj = .int .i64 j ∧ 0 < i ∧ 0 < j ∧ Hid (L + i = m) ∧ Hid (m + j <= b) ∧ Hid (SS enc tl 242 w0 g d0 wr c) ∧ Hid (Rin (rotF (nth d) a m b) (nth c) L i j)) (fun vi vj _ => (intOf vi).toNat + (intOf vj).toNat)
  case atStart =>
    obtain ⟨hi0,hj0⟩:=HI.out
    refine ⟨i0,j0,a,d,rfl,rfl,by omega,by omega,?_,?_,HS.out,?_⟩
    · unfold Hid;omega
    · unfold Hid;omega
    · rw [hi0,hj0];exact rotF_rin _ (by omega) (by omega)
  case round =>
    clear s1 s2 x1 x2 HI
    obtain ⟨i,j,L,c,rfl,rfl,hi,hj,HL,HJ,HC,HR⟩:=hrel
    have hL:=HL.out
    have hJ:=HJ.out
    have hcs:c.size = N:=by rw [HC.out.size,<- HS.out.size];exact HN.out
    have HCS:Hid (c.size = N):=hcs
    have hs:(m:Int) - (i:Int) = (L:Int):=by omega
    have x1:IntKind.i64.wrap (L:Int) = (L:Int):=by rw [IntKind.wrap_i64];omega
    clear hcs
    rcases Nat.lt_trichotomy i j with hij | hij | hij
    · have c1:¬ ((i:Int) = (j:Int)):=by omega
      have c2:¬ ((j:Int) < (i:Int)):=by omega
      obtain ⟨t,ht⟩:∃ t:Nat,t = m + j - i:=⟨_,rfl⟩
      obtain ⟨j',hj'⟩:∃ j':Nat,j' = j - i:=⟨_,rfl⟩
      have s1:(m:Int) + (j:Int) - (i:Int) = (t:Int):=by omega
      have x2:IntKind.i64.wrap (t:Int) = (t:Int):=by rw [IntKind.wrap_i64];omega
      have x3:IntKind.i64.wrap ((m:Int) + (j:Int)) = (m:Int) + (j:Int):=by rw [IntKind.wrap_i64];omega
      have s2:(j:Int) - (i:Int) = (j':Int):=by omega
      have x4:IntKind.i64.wrap (j':Int) = (j':Int):=by rw [IntKind.wrap_i64];omega
      have HT:Hid (t = L + j ∧ j' = j - i):=⟨by omega,hj'⟩
      have HSW:Hid _:=swap_range enc tl hk h1 g cap L t i N d0 c w0 wr fv HC.out HCS.out (by omega) (by omega) hsz
      clear hL hJ ht hj'
      go_wp2_with fail
      refine Calls.mono HSW.out ?_
      rintro e w1 ⟨rfl,c',hc',hw⟩
      have HC':Hid _:=hc'
      have HW:Hid _:=hw
      clear hc' hw HSW
      go_wp2_with fail
      obtain ⟨ht,hj'⟩:=HT.out
      have hL:=HL.out
      have hJ:=HJ.out
      refine ⟨⟨i,j',L,c',rfl,by go_num,hi,by omega,HL.out,?_,HC'.out,?_⟩,by simp [intOf];omega⟩
      · unfold Hid;omega
      · rw [hj'];have h0:=HW.out;rw [ht] at h0;exact Rin.less HR.out hij h0
    · subst hij
      have HSW:Hid _:=swap_range enc tl hk h1 g cap L m i N d0 c w0 wr fv HC.out HCS.out (by omega) (by omega) hsz
      clear hL hJ
      go_wp2_with fail
      refine Calls.mono HSW.out ?_
      rintro e w1 ⟨rfl,c',hc',hw⟩
      have HC':Hid _:=hc'
      have HW:Hid _:=hw
      clear hc' hw HSW
      go_wp2_with fail
      go_end0
      refine ⟨rfl,c',HC'.out,rotF_rot _ (by omega) (by omega) fun x => ?_⟩
      have h0:=HW.out
      rw [<- HL.out] at h0
      have h2:=HR.out
      rw [<- HL.out] at h2 ⊢
      exact Rin.done h2 h0 x
    · have c1:¬ ((i:Int) = (j:Int)):=by omega
      have c2:(j:Int) < (i:Int):=by omega
      obtain ⟨i',hi'⟩:∃ i':Nat,i' = i - j:=⟨_,rfl⟩
      have s2:(i:Int) - (j:Int) = (i':Int):=by omega
      have x4:IntKind.i64.wrap (i':Int) = (i':Int):=by rw [IntKind.wrap_i64];omega
      have HT:Hid (i' = i - j):=hi'
      have HSW:Hid _:=swap_range enc tl hk h1 g cap L m j N d0 c w0 wr fv HC.out HCS.out (by omega) (by omega) hsz
      clear hL hJ hi'
      go_wp2_with fail
      refine Calls.mono HSW.out ?_
      rintro e w1 ⟨rfl,c',hc',hw⟩
      have HC':Hid _:=hc'
      have HW:Hid _:=hw
      clear hc' hw HSW
      go_wp2_with fail
      have hi':=HT.out
      have hL:=HL.out
      refine ⟨⟨i',j,L + j,c',by go_num,rfl,by omega,hj,?_,HJ.out,HC'.out,?_⟩,by simp [intOf];omega⟩
      · unfold Hid;omega
      · rw [hi'];have h0:=HW.out;rw [<- HL.out] at h0;have h2:=HR.out;exact Rin.more h2 hij h0
set_option maxHeartbeats 2000000 in
theorem insertion_any {α:Type} [Inhabited α] (enc:α -> List Value) (tl:Array Value) (hk:∀ x,(enc x).length = 2) (h1:∀ x,∀ v ∈ enc x,v.oneCell' = true) (cf:α -> α -> Int) (P:Pre cf) (g cap a b N:Nat) (d0 d:Array α) (w0 w:World) (HCM:Cmp Tryz.prog 177 #[] enc cf w0 g d0) (h:SS enc tl 242 w0 g d0 w d) (hN:d.size = N) (hab:a <= b) (hbN:b <= N) (hsz:N <= 100000) :
    Calls Tryz.prog 301 #[.slice (some ⟨g,0,none⟩) N cap,.int .i64 a,.int .i64 b,.func (.func 177) #[] #[]] w fun e w' => e = .returned (.tuple #[]) ∧ ∃ d',SS enc tl 242 w0 g d0 w' d' ∧ Sor cf (nth d') a b ∧ Wi (nth d) (nth d') a b:=by
  have HS:Hid (SS enc tl 242 w0 g d0 w d):=h
  have HN:Hid (d.size = N):=hN
  have HCC:Hid _:=HCM
  clear h hN HCM
  go_enter Tryz.func301,Tryz.ntmps301
  go_wp2_with fail
  go_loopw [8] (fun vi wr => ∃ (i:Nat) (c:Array α),vi = .int .i64 i ∧ a < i ∧ (i <= b ∨ i = a + 1) ∧ Hid (SS enc tl 242 w0 g d0 wr c) ∧ Hid (Sor cf (nth c) a i) ∧ Hid (Wi (nth d) (nth c) a b)) (fun vi _ => b + 2 - (intOf vi).toNat)
  case atStart => exact ⟨a + 1,d,by go_num,by omega,Or.inr rfl,HS.out,Sor.one P _ _ _ (Nat.le_refl _),Wi.refl _ _ _⟩
  case round =>
    obtain ⟨i,c,rfl,hai,hib,HC,HSo,HW⟩:=hrel
    by_cases hlt:i < b
    · have hlt':(i:Int) < (b:Int):=by omega
      go_wp2_with fail
      go_loopw [9] (fun vj wr => ∃ (j:Nat) (c:Array α),vj = .int .i64 j ∧ a <= j ∧ j <= i ∧ Hid (SS enc tl 242 w0 g d0 wr c) ∧ Hid (Ins cf (nth c) a j i) ∧ Hid (Wi (nth d) (nth c) a b)) (fun vj _ => (intOf vj).toNat)
      case atStart => exact ⟨i,c,rfl,by omega,Nat.le_refl _,HC.out,Ins.start HSo.out,HW.out⟩
      case round =>
        clear HC HSo HW
        obtain ⟨j,c,rfl,haj,hji,HC,HI,HW⟩:=hrel
        have hcs:c.size = N:=by rw [HC.out.size,<- HS.out.size];exact HN.out
        have HCS:Hid (c.size = N):=hcs
        clear hcs
        by_cases hja:a < j
        · obtain ⟨p,hp⟩:∃ p:Nat,j = p + 1:=⟨j - 1,by omega⟩
          have HP:Hid (j = p + 1):=hp
          have hja':(a:Int) < (j:Int):=by omega
          have HBJ:Hid (j < c.size):=by unfold Hid;rw [HCS.out];omega
          have HBP:Hid (p < c.size):=by unfold Hid;rw [HCS.out];omega
          have i1:(j:Int) - 1 = (p:Int):=by omega
          have i2:(j:Int) < (N:Int):=by omega
          have i3:(p:Int) < (N:Int):=by omega
          have x1:IntKind.i64.wrap (p:Int) = (p:Int):=by rw [IntKind.wrap_i64];omega
          clear hp
          go_wp2_with fail
          have s0:SS enc tl 242 w0 g d0 wr.drew c:=HC.out.grown (below_drewN (Below.refl _ _) 1)
          refine regS_in 17 (fun W => SS enc tl 242 w0 g d0 W c) Nr.mixed rfl ?_
          refine regS_take 0 18 (.int .i64 (j:Int)) rfl rfl (by kernel_rfl) (fun _ _ _ h => h) (by kernel_rfl) (fun W hW => by go_simp) s0 ?_
          refine regS_take 1 19 (.int .i64 (a:Int)) rfl rfl (by kernel_rfl) (fun _ _ _ h => h) (by kernel_rfl) (fun W hW => by go_simp) s0 ?_
          refine regS_take 2 20 (.bool true) rfl rfl (by kernel_rfl) (fun _ _ _ h => h) (by kernel_rfl) (fun W hW => by go_simp) s0 ?_
          refine regS_take 3 21 (.bool true) rfl rfl (by kernel_rfl) (fun _ _ _ h => h) (by kernel_rfl) (fun W hW => by go_simp) s0 ?_
          refine regS_take 4 22 (.func (.func 177) #[] #[]) rfl rfl (by kernel_rfl) (fun _ _ _ h => h) (by kernel_rfl) (fun W hW => by go_simp) s0 ?_
          refine regS_take 5 23 (.slice (some ⟨g,0,none⟩) N cap) rfl rfl (by kernel_rfl) (fun _ _ _ h => h) (by kernel_rfl) (fun W hW => by go_simp) s0 ?_
          refine regS_take 6 24 (.int .i64 (j:Int)) rfl rfl (by kernel_rfl) (fun _ _ _ h => h) (by kernel_rfl) (fun W hW => by go_simp) s0 ?_
          refine regS_take 7 25 (.pointer (some ⟨g,j * 2,none⟩)) rfl rfl (by kernel_rfl) (fun _ _ _ h => h) (by kernel_rfl) (fun W hW => by go_simp) s0 ?_
          simp only [Act.put,List.setIfInBounds_toArray,List.set_cons_succ,List.set_cons_zero]
          refine regS_take 8 26 (.agg (enc (nth c j)).toArray) rfl rfl (by kernel_rfl) (fun _ _ _ h => h) (by kernel_rfl) (fun W hW => exec_load 242 _ rfl ⟨g,j * 2,none⟩ rfl _ (SS.load hk Tryz.isAgg242 szE (SS.blk hW) HBJ.out)) s0 ?_
          refine regS_take 9 27 (.slice (some ⟨g,0,none⟩) N cap) rfl rfl (by kernel_rfl) (fun _ _ _ h => h) (by kernel_rfl) (fun W hW => by go_simp) s0 ?_
          refine regS_take 10 28 (.int .i64 (j:Int)) rfl rfl (by kernel_rfl) (fun _ _ _ h => h) (by kernel_rfl) (fun W hW => by go_simp) s0 ?_
          refine regS_take 11 29 (.int .i64 (p:Int)) rfl rfl (by kernel_rfl) (fun _ _ _ h => h) (by kernel_rfl) (fun W hW => by go_simp) s0 ?_
          refine regS_take 12 30 (.pointer (some ⟨g,p * 2,none⟩)) rfl rfl (by kernel_rfl) (fun _ _ _ h => h) (by kernel_rfl) (fun W hW => by go_simp) s0 ?_
          simp only [Act.put,List.setIfInBounds_toArray,List.set_cons_succ,List.set_cons_zero]
          refine regS_take 13 31 (.agg (enc (nth c p)).toArray) rfl rfl (by kernel_rfl) (fun _ _ _ h => h) (by kernel_rfl) (fun W hW => exec_load 242 _ rfl ⟨g,p * 2,none⟩ rfl _ (SS.load hk Tryz.isAgg242 szE (SS.blk hW) HBP.out)) s0 ?_
          simp only [Act.put,List.setIfInBounds_toArray,List.set_cons_succ,List.set_cons_zero]
          refine regS_one 14 rfl (by kernel_rfl) (by kernel_rfl) (fun K hK => ?_)
          have HCA:Hid _:=HCC.out wr.drew s0.upd (nth c j) (SS.mem s0 HBJ.out) (nth c p) (SS.mem s0 HBP.out)
          go_wp2_with fail
          refine Calls.mono HCA.out ?_
          rintro e w1 ⟨rfl,g1⟩
          have s1:=s0.grown g1
          refine hK _ _ s1 ?_
          clear hK K HCA g1 s0
          obtain ⟨cv,hcv⟩:∃ cv,cf (nth c j) (nth c p) = cv:=⟨_,rfl⟩
          have HCV:Hid (cf (nth c j) (nth c p) = cv):=hcv
          rw [hcv]
          clear hcv
          by_cases hneg:cv < 0
          · have hd:decide (cv < 0) = true:=decide_eq_true hneg
            refine regS_take 15 33 (.bool true) rfl rfl (by kernel_rfl) (fun _ _ _ h => h) (by kernel_rfl) (fun W hW => by go_simp) s1 ?_
            refine regS_take 16 34 (.bool true) rfl rfl (by kernel_rfl) (fun _ _ _ h => h) (by kernel_rfl) (fun W hW => by go_simp) s1 ?_
            refine regS_end (by kernel_rfl) ?_
            simp only [Act.put,List.setIfInBounds_toArray,List.set_cons_succ,List.set_cons_zero]
            clear HC
            have HC:Hid (SS enc tl 242 w0 g d0 w1 c):=s1
            clear s1
            generalize w1 = wr at *
            go_wp2_with fail
            have hB:Blk wr.drew g (fl enc tl c) 242:=HC.out.blk.drewN 1
            refine region_s [(0,true),(1,true),(2,true),(3,true),(4,true),(5,true),(6,true),(7,true),(8,true),(9,false),(10,true),(11,true),(12,true),(13,false),(14,true)] [] [15,16,17] (fun W => Blk W g (fl enc tl c) 242) Nr.mixed (by kernel_rfl) (fun _ _ _ _ _ h => h) hB ?_
            refine lead_pure _ rfl _ rfl rfl (.slice (some ⟨g,0,none⟩) N cap) (fun W => by go_simp) ?_
            refine lead_pure _ rfl _ rfl rfl (.int .i64 (j:Int)) (fun W => by go_simp) ?_
            refine lead_pure _ rfl _ rfl rfl (.slice (some ⟨g,0,none⟩) N cap) (fun W => by go_simp) ?_
            refine lead_pure _ rfl _ rfl rfl (.int .i64 (j:Int)) (fun W => by go_simp) ?_
            refine lead_pure _ rfl _ rfl rfl (.int .i64 (p:Int)) (fun W => by go_simp) ?_
            refine lead_pure _ rfl _ rfl rfl (.slice (some ⟨g,0,none⟩) N cap) (fun W => by go_simp) ?_
            refine lead_pure _ rfl _ rfl rfl (.int .i64 (j:Int)) (fun W => by go_simp) ?_
            refine lead_pure _ rfl _ rfl rfl (.int .i64 (p:Int)) (fun W => by go_simp) ?_
            refine lead_pure _ rfl _ rfl rfl (.pointer (some ⟨g,p * 2,none⟩)) (fun W => by go_simp) ?_
            simp only [Act.put,List.setIfInBounds_toArray,List.set_cons_succ,List.set_cons_zero]
            refine lead_read _ rfl _ rfl rfl (.agg (enc (nth c p)).toArray) (fun W hW => exec_load 242 _ rfl ⟨g,p * 2,none⟩ rfl _ (SS.load hk Tryz.isAgg242 szE hW HBP.out)) ?_
            refine lead_pure _ rfl _ rfl rfl (.slice (some ⟨g,0,none⟩) N cap) (fun W => by go_simp) ?_
            refine lead_pure _ rfl _ rfl rfl (.int .i64 (j:Int)) (fun W => by go_simp) ?_
            refine lead_pure _ rfl _ rfl rfl (.pointer (some ⟨g,j * 2,none⟩)) (fun W => by go_simp) ?_
            simp only [Act.put,List.setIfInBounds_toArray,List.set_cons_succ,List.set_cons_zero]
            refine lead_read _ rfl _ rfl rfl (.agg (enc (nth c j)).toArray) (fun W hW => exec_load 242 _ rfl ⟨g,j * 2,none⟩ rfl _ (SS.load hk Tryz.isAgg242 szE hW HBJ.out)) ?_
            refine lead_pure _ rfl _ rfl rfl (.pointer (some ⟨g,j * 2,none⟩)) (fun W => by go_simp) ?_
            refine lead_nil ?_
            simp only [Act.put,List.setIfInBounds_toArray,List.set_cons_succ,List.set_cons_zero]
            refine mid_nil ?_
            simp only [List.filterMap_cons,List.getElem?_toArray,List.getElem?_cons_succ,List.getElem?_cons_zero,List.filterMap_nil]
            refine wpl_storeAt rfl rfl 242 _ _ rfl 2 szE g (j * 2) _ 242 (enc (nth c p)).toArray rfl rfl (by simp [hk]) (fl_one h1 _) hB (row_leT hk HBJ.out tl) ?_
            intro w1 u1 j1
            have HS2:Hid _:=HC.out.grown (below_drewN (Below.refl _ _) 1)
            clear hB
            refine wpl_val rfl (.pointer (some ⟨g,p * 2,none⟩)) (by go_simp) ?_
            simp only [Act.put,List.setIfInBounds_toArray,List.set_cons_succ,List.set_cons_zero]
            refine wpl_storeAt rfl rfl 242 _ _ rfl 2 szE g (p * 2) _ 242 (enc (nth c j)).toArray rfl rfl (by simp [hk]) (fl_one h1 _) j1 (by rw [foldset_size];exact row_leT hk HBP.out tl) ?_
            intro w2 u2 j2
            have HS3:Hid _:=SS.swapped hk HS2.out u1 u2 HBJ.out HBP.out j2
            have HX:Hid _:=sw_nth HBJ.out HBP.out
            clear u1 u2 j1 j2 HS2
            go_wp2_with fail
            refine ⟨⟨p,sw c j p,by go_num,by have:=HP.out;omega,by have:=HP.out;omega,HS3.out,?_,?_⟩,by have:=HP.out;simp [intOf];omega⟩
            · have h0:=HI.out
              have hv:=HCV.out
              have hx:=HX.out
              have hpj:=HP.out
              subst hpj
              refine Ins.step P h0 (by omega) hji (by rw [hv];exact hneg) ?_ ?_ ?_
              · rw [hx,if_neg (by omega),if_pos rfl]
              · rw [hx,if_pos rfl]
              · intro x h1 h2;rw [hx,if_neg h2,if_neg h1]
            · have hx:=HX.out
              have hpj:=HP.out
              refine Wi.swap HW.out (i:=j) (j:=p) ⟨by omega,by omega⟩ ⟨by omega,by omega⟩ ?_ ?_ ?_
              · rw [hx,if_pos rfl]
              · rw [hx,if_neg (by omega),if_pos rfl]
              · intro x h1 h2;rw [hx,if_neg h1,if_neg h2]
          · have hd:decide (cv < 0) = false:=decide_eq_false hneg
            refine regS_take 15 33 (.bool false) rfl rfl (by kernel_rfl) (fun _ _ _ h => h) (by kernel_rfl) (fun W hW => by go_simp) s1 ?_
            refine regS_take 16 34 (.bool false) rfl rfl (by kernel_rfl) (fun _ _ _ h => h) (by kernel_rfl) (fun W hW => by go_simp) s1 ?_
            refine regS_end (by kernel_rfl) ?_
            simp only [Act.put,List.setIfInBounds_toArray,List.set_cons_succ,List.set_cons_zero]
            go_wp2_with fail
            refine ⟨⟨i + 1,c,by go_num,by omega,Or.inl (by omega),s1,?_,HW.out⟩,by simp [intOf];omega⟩
            refine Ins.stop P HI.out haj hji (Or.inr ?_)
            have hv:=HCV.out
            have hpj:=HP.out
            subst hpj
            rw [Nat.add_sub_cancel,hv];exact hneg
        · have hja':¬ ((a:Int) < (j:Int)):=by omega
          go_wp2_with fail
          have s0:SS enc tl 242 w0 g d0 wr.drew c:=HC.out.grown (below_drewN (Below.refl _ _) 1)
          refine regS_in 17 (fun W => SS enc tl 242 w0 g d0 W c) Nr.mixed rfl ?_
          refine regS_take 0 18 (.int .i64 (j:Int)) rfl rfl (by kernel_rfl) (fun _ _ _ h => h) (by kernel_rfl) (fun W hW => by go_simp) s0 ?_
          refine regS_take 1 19 (.int .i64 (a:Int)) rfl rfl (by kernel_rfl) (fun _ _ _ h => h) (by kernel_rfl) (fun W hW => by go_simp) s0 ?_
          refine regS_take 2 20 (.bool false) rfl rfl (by kernel_rfl) (fun _ _ _ h => h) (by kernel_rfl) (fun W hW => by go_simp) s0 ?_
          refine regS_take 3 21 (.bool false) rfl rfl (by kernel_rfl) (fun _ _ _ h => h) (by kernel_rfl) (fun W hW => by go_simp) s0 ?_
          refine regS_skip 4 22 rfl rfl (by kernel_rfl) (fun _ _ _ h => h) (by kernel_rfl) s0 ?_
          refine regS_skip 5 23 rfl rfl (by kernel_rfl) (fun _ _ _ h => h) (by kernel_rfl) s0 ?_
          refine regS_skip 6 24 rfl rfl (by kernel_rfl) (fun _ _ _ h => h) (by kernel_rfl) s0 ?_
          refine regS_skip 7 25 rfl rfl (by kernel_rfl) (fun _ _ _ h => h) (by kernel_rfl) s0 ?_
          refine regS_skip 8 26 rfl rfl (by kernel_rfl) (fun _ _ _ h => h) (by kernel_rfl) s0 ?_
          refine regS_skip 9 27 rfl rfl (by kernel_rfl) (fun _ _ _ h => h) (by kernel_rfl) s0 ?_
          refine regS_skip 10 28 rfl rfl (by kernel_rfl) (fun _ _ _ h => h) (by kernel_rfl) s0 ?_
          refine regS_skip 11 29 rfl rfl (by kernel_rfl) (fun _ _ _ h => h) (by kernel_rfl) s0 ?_
          refine regS_skip 12 30 rfl rfl (by kernel_rfl) (fun _ _ _ h => h) (by kernel_rfl) s0 ?_
          refine regS_skip 13 31 rfl rfl (by kernel_rfl) (fun _ _ _ h => h) (by kernel_rfl) s0 ?_
          refine regS_skip 14 32 rfl rfl (by kernel_rfl) (fun _ _ _ h => h) (by kernel_rfl) s0 ?_
          refine regS_skip 15 33 rfl rfl (by kernel_rfl) (fun _ _ _ h => h) (by kernel_rfl) s0 ?_
          refine regS_take 16 34 (.bool false) rfl rfl (by kernel_rfl) (fun _ _ _ h => h) (by kernel_rfl) (fun W hW => by go_simp) s0 ?_
          refine regS_end (by kernel_rfl) ?_
          simp only [Act.put,List.setIfInBounds_toArray,List.set_cons_succ,List.set_cons_zero]
          go_wp2_with fail
          refine ⟨⟨i + 1,c,by go_num,by omega,Or.inl (by omega),s0,?_,HW.out⟩,by simp [intOf];omega⟩
          exact Ins.stop P HI.out haj hji (Or.inl (by omega))
    · go_wp2_with fail
      go_end0
      exact ⟨rfl,c,HC.out,Sor.sub HSo.out (Nat.le_refl _) (by omega),HW.out⟩
end Go.Proofs.YtjmpjfikcgccdaaGreatDoor.SyC
