/-
  Part of the proof of BaseFindsCard (CE8 and on).
-/
import Derived.Test.YtjmpjfikcgccdaaGreatDoorB16
namespace Go.Proofs.YtjmpjfikcgccdaaGreatDoor.Ce
open Go.RowKit
open It Nr Sy
theorem ret_cellV2 {P:Program} {fn:Func} {R:Ending -> World -> Prop} {a:Act} {w:World} (p q:Tmp) (t:TypeId) (hf:fn.results = #[.cell p t,.tmp q]) (ha:∀ w,(isAgg t).run P w = .ok true w) (n:Nat) (hi0:(P.info? t).map (·.size) = some n)
    (b:Nat) (vs:Array Value) (T:TypeId) (hn:vs.size = n) (v:Value) (hx:a.tmps.getD p undef = .pointer (some ⟨b,0,none⟩)) (hq:a.tmps.getD q undef = v) (hb:Blk w b vs T) (hd:a.defers = []) (hR:R (.returned (.tuple #[.agg vs,v])) w):bodyPost P fn R .ret a w:=by
  refine bodyPost_ret ?_ hd hR
  have hl:=loadV_run w t ha n hi0 b 0 vs T hb (by omega)
  rw [Nat.zero_add,<- hn,Array.extract_size] at hl
  have hx':a.tmps[p]?.getD undef = .pointer (some ⟨b,0,none⟩):=by rw [<- hx];simp
  have hq':a.tmps[q]?.getD undef = v:=by rw [<- hq];simp
  simp only [results,hf]
  simp [hx',hq',asAddr,hl]
theorem next_no (far:Int) (lb:Nat) (q:Option Addr) (n c:Nat) (w:World) (hB:Blk w lb #[.slice q n c] 306) (hcase:n = 0 ∨ (0 < n ∧ ∃ g o lv,q = some ⟨g,o,none⟩ ∧ w.cell? ⟨g,o + 2,none⟩ = some (.int .i64 lv) ∧ far < lv)) :
    Calls Tryz.prog 221 #[.int .i64 far,.pointer (some ⟨lb,0,none⟩)] w fun e w' => e = .returned (.tuple #[.agg #[.slice none 0 0,.slice none 0 0],.bool false]) ∧ Below w.heap.size w w':=by
  have a1:=below_alloc w (.cells #[.slice none 0 0,.slice none 0 0] 242)
  have j1:Blk (w.alloc (.cells #[.slice none 0 0,.slice none 0 0] 242)) w.heap.size #[.slice none 0 0,.slice none 0 0] 242:=Blk.new w _ _
  have l1:=(hB.below a1 hB.lt).cell 0
  rcases hcase with rfl | ⟨hn,g,o,lv,rfl,hc,hlt⟩
  · go_enter Tryz.func221,Tryz.ntmps221
    go_wp2_with fail
    refine ret_cellV2 3 4 242 rfl Tryz.isAgg242 2 SyC.szE w.heap.size _ _ rfl (.bool false) rfl rfl j1 rfl ?_
    exact ⟨rfl,a1⟩
  · have hc1:=cell_below a1 hc
    have hn0:((n:Int) == 0) = false:=by rw [beq_eq_false_iff_ne];omega
    have hn1:(0:Int) < (n:Int):=by omega
    go_enter Tryz.func221,Tryz.ntmps221
    go_wp2_with fail
    refine ret_cellV2 3 4 242 rfl Tryz.isAgg242 2 SyC.szE w.heap.size _ _ rfl (.bool false) rfl rfl j1 rfl ?_
    exact ⟨rfl,a1⟩
theorem next_ok (far:Int) (lb g o n c:Nat) (ca ia:Option Addr) (lc cc li ic:Nat) (lv:Int) (w:World) (hB:Blk w lb #[.slice (some ⟨g,o,none⟩) (n + 1) c] 306) (hc:n + 1 <= c) (h0:w.cell? ⟨g,o,none⟩ = some (.slice ca lc cc)) (h1:w.cell? ⟨g,o + 1,none⟩ = some (.slice ia li ic)) (h2:w.cell? ⟨g,o + 2,none⟩ = some (.int .i64 lv)) (hf:¬ far < lv) :
    Calls Tryz.prog 221 #[.int .i64 far,.pointer (some ⟨lb,0,none⟩)] w fun e w' => e = .returned (.tuple #[.agg #[.slice ca lc cc,.slice ia li ic],.bool true]) ∧ (∃ q',Blk w' lb #[.slice q' n (c - 1)] 306 ∧ (0 < n -> q' = some ⟨g,o + 3,none⟩)) ∧ UpdG w w' lb:=by
  have a1:=below_alloc w (.cells #[.slice none 0 0,.slice none 0 0] 242)
  have l1:=(hB.below a1 hB.lt).cell 0
  have a2:=below_alloc (w.alloc (.cells #[.slice none 0 0,.slice none 0 0] 242)) (.cells #[.slice ca lc cc,.slice ia li ic] 242)
  have j2:=(hB.below a1 hB.lt).below a2 (hB.below a1 hB.lt).lt
  have l2:=j2.cell 0
  have f2:((w.alloc (.cells #[.slice none 0 0,.slice none 0 0] 242)).alloc (.cells #[.slice ca lc cc,.slice ia li ic] 242)).frozen? ⟨lb,0,none⟩ = false:=j2.frozen 0
  have c0:=cell_below a1 h0
  have c1:=cell_below a1 h1
  have c2:=cell_below a1 h2
  have hn0:(((n + 1:Nat):Int) == 0) = false:=by rw [beq_eq_false_iff_ne];omega
  have hn1:(0:Int) < ((n + 1:Nat):Int):=by omega
  have hlb:=hB.lt
  have hz2:((w.alloc (.cells #[.slice none 0 0,.slice none 0 0] 242)).alloc (.cells #[.slice ca lc cc,.slice ia li ic] 242)).heap.size = w.heap.size + 2:=by simp
  have HZ2:Hid _:=hz2
  obtain ⟨W2,hW2⟩:∃ W,(w.alloc (.cells #[.slice none 0 0,.slice none 0 0] 242)).alloc (.cells #[.slice ca lc cc,.slice ia li ic] 242) = W:=⟨_,rfl⟩
  have hb0:Blk W2 w.heap.size #[.slice none 0 0,.slice none 0 0] 242:=by rw [<- hW2];exact (Blk.new w _ _).alloc _
  have hb1:Blk W2 (w.heap.size + 1) #[.slice ca lc cc,.slice ia li ic] 242:=by rw [<- hW2];exact Blk.new' _ _ _ (by simp)
  have hg2:UpdG w W2 lb:=by rw [<- hW2];exact ((UpdG.refl w lb).alloc _).alloc _
  rw [hW2] at l2 f2 j2
  clear hz2 HZ2 a1 a2
  have key:∀ q':Option Addr,(0 < n -> q' = some ⟨g,o + 3,none⟩) -> ∀ W3,W2.setCell ⟨lb,0,none⟩ (.slice q' n (c - 1)) = W3 -> ∀ W4,(W3.setCell ⟨w.heap.size,0,none⟩ (.slice ca lc cc)).setCell ⟨w.heap.size,1,none⟩ (.slice ia li ic) = W4 -> Blk W3 (w.heap.size + 1) #[.slice ca lc cc,.slice ia li ic] 242 ∧ Blk W3 w.heap.size #[.slice none 0 0,.slice none 0 0] 242 ∧ Blk W4 w.heap.size #[.slice ca lc cc,.slice ia li ic] 242 ∧ Blk W4 lb #[.slice q' n (c - 1)] 306 ∧ UpdG w W4 lb:=by
    intro q' _ W3 h3 W4 h4
    have e1:Blk W3 (w.heap.size + 1) #[.slice ca lc cc,.slice ia li ic] 242:=by rw [<- h3];exact hb1.setOther ⟨lb,0,none⟩ (by show lb ≠ _;omega) _
    have e2:Blk W3 w.heap.size #[.slice none 0 0,.slice none 0 0] 242:=by rw [<- h3];exact hb0.setOther ⟨lb,0,none⟩ (by show lb ≠ _;omega) _
    have e3:Blk W3 lb #[.slice q' n (c - 1)] 306:=by rw [<- h3];exact j2.set 0 _
    have e4:UpdG w W3 lb:=by rw [<- h3];exact hg2.upd (setCell_upd _ _ _ _)
    refine ⟨e1,e2,?_,?_,?_⟩
    · rw [<- h4]
      exact (e2.set 0 (.slice ca lc cc)).set 1 (.slice ia li ic)
    · rw [<- h4]
      exact (e3.setOther ⟨w.heap.size,0,none⟩ (by show w.heap.size ≠ _;omega) _).setOther ⟨w.heap.size,1,none⟩ (by show w.heap.size ≠ _;omega) _
    · rw [<- h4]
      exact (e4.updN (setCell_upd _ _ _ _) (Nat.le_refl _)).updN (setCell_upd _ _ _ _) (Nat.le_refl _)
  have KEY:Hid _:=key
  clear key hb0 hb1 hg2 j2 hB
  by_cases hc1:c = 1
  · obtain rfl:n = 0:=by omega
    subst hc1
    obtain ⟨W3,hW3⟩:∃ W3,W2.setCell ⟨lb,0,none⟩ (.slice (some ⟨g,o,none⟩) 0 0) = W3:=⟨_,rfl⟩
    obtain ⟨W4,hW4⟩:∃ W4,(W3.setCell ⟨w.heap.size,0,none⟩ (.slice ca lc cc)).setCell ⟨w.heap.size,1,none⟩ (.slice ia li ic) = W4:=⟨_,rfl⟩
    obtain ⟨e1,e2,e3,e4,e5⟩:=KEY.out (some ⟨g,o,none⟩) (fun h => by omega) W3 hW3 W4 hW4
    have d0:=e1.cell 0
    have d1:=e1.cell 1
    have z0:=e2.cell 0
    have z1:=e2.cell 1
    have fz0:=e2.frozen 0
    have fz1:=e2.frozen 1
    have zz1:=(e2.set 0 (.slice ca lc cc)).cell 1
    have zf1:=(e2.set 0 (.slice ca lc cc)).frozen 1
    go_enter Tryz.func221,Tryz.ntmps221
    go_wp2_with fail
    refine ret_cellV2 3 4 242 rfl Tryz.isAgg242 2 SyC.szE w.heap.size _ _ rfl (.bool true) rfl rfl e3 rfl ?_
    exact ⟨rfl,⟨_,e4⟩,e5⟩
  · have hc2:1 < c:=by omega
    obtain ⟨W3,hW3⟩:∃ W3,W2.setCell ⟨lb,0,none⟩ (.slice (some ⟨g,o + 3,none⟩) n (c - 1)) = W3:=⟨_,rfl⟩
    obtain ⟨W4,hW4⟩:∃ W4,(W3.setCell ⟨w.heap.size,0,none⟩ (.slice ca lc cc)).setCell ⟨w.heap.size,1,none⟩ (.slice ia li ic) = W4:=⟨_,rfl⟩
    obtain ⟨e1,e2,e3,e4,e5⟩:=KEY.out (some ⟨g,o + 3,none⟩) (fun _ => rfl) W3 hW3 W4 hW4
    have d0:=e1.cell 0
    have d1:=e1.cell 1
    have z0:=e2.cell 0
    have z1:=e2.cell 1
    have fz0:=e2.frozen 0
    have fz1:=e2.frozen 1
    have zz1:=(e2.set 0 (.slice ca lc cc)).cell 1
    have zf1:=(e2.set 0 (.slice ca lc cc)).frozen 1
    go_enter Tryz.func221,Tryz.ntmps221
    go_wp2_with fail
    refine ret_cellV2 3 4 242 rfl Tryz.isAgg242 2 SyC.szE w.heap.size _ _ rfl (.bool true) rfl rfl e3 rfl ?_
    exact ⟨rfl,⟨_,e4,fun _ => rfl⟩,e5⟩
def ins (x:ByteArray × Int):List (ByteArray × Int) -> List (ByteArray × Int)
  | [] => [x]
  | y :: l => if ltF y x then y :: ins x l else x :: y :: l
theorem ins_perm (x:ByteArray × Int):∀ l,(ins x l).Perm (x :: l)
  | [] => List.Perm.refl _
  | y :: l => by
    unfold ins
    split
    · exact ((ins_perm x l).cons y).trans (List.Perm.swap x y l)
    · exact List.Perm.refl _
theorem ltF_asym {x y:ByteArray × Int} (h:ltF x y = true):ltF y x = false:=by
  cases h2:ltF y x with
  | false => rfl
  | true => have:=ltF_trans x y x h h2;rw [ltF_irrefl] at this;cases this
theorem ins_sorted (x:ByteArray × Int):∀ l:List (ByteArray × Int),(l.Pairwise fun x y => ltF y x = false) -> (ins x l).Pairwise fun x y => ltF y x = false
  | [],_ => List.pairwise_singleton _ _
  | y :: l,h => by
    obtain ⟨h1,h2⟩:=List.pairwise_cons.1 h
    unfold ins
    split
    · rename_i hc
      refine List.pairwise_cons.2 ⟨fun z hz => ?_,ins_sorted x l h2⟩
      rcases List.mem_cons.1 ((ins_perm x l).mem_iff.1 hz) with rfl | hz
      · exact ltF_asym hc
      · exact h1 z hz
    · rename_i hc
      have hc':ltF y x = false:=by simpa using hc
      refine List.pairwise_cons.2 ⟨fun z hz => ?_,h⟩
      rcases List.mem_cons.1 hz with rfl | hz
      · exact hc'
      · exact ltF_ntrans z y x (h1 z hz) hc'
theorem sorted_eq {l l':List (ByteArray × Int)} (h:l.Perm l') (h1:l.Pairwise fun x y => ltF y x = false) (h2:l'.Pairwise fun x y => ltF y x = false):l = l':=
  List.Perm.eq_of_pairwise (le:=fun x y => ltF y x = false) (fun a b _ _ h1 h2 => (ltF_tot b a h1 h2).symm) h1 h2 h
theorem srt_cons (x:ByteArray × Int) (l:List (ByteArray × Int)):srt (x :: l) = ins x (srt l):=
  sorted_eq ((srt_perm _).trans (((srt_perm l).symm.cons x).trans (ins_perm x _).symm)) (srt_sorted _) (ins_sorted x _ (srt_sorted l))
theorem srt_id {l:List (ByteArray × Int)} (h:l.Pairwise fun x y => ltF y x = false):srt l = l:=sorted_eq (srt_perm l) (srt_sorted l) h
theorem take_ins (x:ByteArray × Int):∀ (l:List (ByteArray × Int)) (k:Nat),(ins x l).take k = (ins x (l.take k)).take k
  | [],k => by simp
  | y :: l,0 => by simp
  | y :: l,k + 1 => by
    have ih:=take_ins x l k
    rw [List.take_succ_cons]
    unfold ins
    split
    · rw [List.take_succ_cons,List.take_succ_cons,ih]
    · rw [List.take_succ_cons,List.take_succ_cons]
      congr 1
      cases k with
      | zero => simp
      | succ k => rw [List.take_succ_cons,List.take_succ_cons,List.take_take,Nat.min_eq_left (by omega)]
def tk (k:Nat) (l:List (ByteArray × Int)):List (ByteArray × Int):=(srt l).take k
theorem tk_cons (k:Nat) (x:ByteArray × Int) (l:List (ByteArray × Int)):tk k (x :: l) = (ins x (tk k l)).take k:=by
  unfold tk;rw [srt_cons,take_ins]
theorem tk_sorted (k:Nat) (l:List (ByteArray × Int)):(tk k l).Pairwise fun x y => ltF y x = false:=List.Pairwise.sublist (List.take_sublist _ _) (srt_sorted l)
theorem tk_tk (k:Nat) (l:List (ByteArray × Int)):tk k (tk k l) = tk k l:=by
  have h:=srt_id (tk_sorted k l)
  show (srt (tk k l)).take k = _
  rw [h]
  unfold tk
  rw [List.take_take,Nat.min_self]
theorem tk_right (k:Nat) (A:List (ByteArray × Int)):∀ B:List (ByteArray × Int),tk k (B ++ tk k A) = tk k (B ++ A)
  | [] => tk_tk k A
  | x :: B => by rw [List.cons_append,List.cons_append,tk_cons,tk_cons,tk_right k A B]
theorem tk_perm {k:Nat} {l l':List (ByteArray × Int)} (h:l.Perm l'):tk k l = tk k l':=by unfold tk;rw [srt_of_perm h]
theorem tk_both (k:Nat) (A B:List (ByteArray × Int)):tk k (tk k A ++ tk k B) = tk k (A ++ B):=by
  rw [tk_right,tk_perm List.perm_append_comm,tk_right,tk_perm List.perm_append_comm]
theorem tk_len (k:Nat) (l:List (ByteArray × Int)):(tk k l).length = min k l.length:=by unfold tk;rw [List.length_take,srt_len]
theorem ins_last (x:ByteArray × Int):∀ l:List (ByteArray × Int),(∀ y ∈ l,ltF y x = true) -> ins x l = l ++ [x]
  | [],_ => rfl
  | y :: l,h => by
    unfold ins
    rw [if_pos (h y List.mem_cons_self),ins_last x l (fun z hz => h z (List.mem_cons_of_mem _ hz))]
    rfl
theorem tk_stop (k:Nat) (A:List (ByteArray × Int)) (hk:(tk k A).length = k):∀ B:List (ByteArray × Int),(∀ b ∈ B,∀ x ∈ tk k A,ltF x b = true) -> tk k (B ++ A) = tk k A
  | [],_ => rfl
  | b :: B,h => by
    rw [List.cons_append,tk_cons,tk_stop k A hk B (fun b' hb' => h b' (List.mem_cons_of_mem _ hb')),ins_last b _ (h b List.mem_cons_self),List.take_append_of_le_length (by omega),List.take_of_length_le (by omega)]
theorem tk_last (k:Nat) (A:List (ByteArray × Int)) (y:ByteArray × Int) (hy:(tk k A)[k - 1]? = some y) (hk:(tk k A).length = k):∀ x ∈ tk k A,x.2 <= y.2:=by
  intro x hx
  obtain ⟨i,hi⟩:=List.getElem?_of_mem hx
  have hil:=(List.getElem?_eq_some_iff.1 hi).1
  by_cases e:i = k - 1
  · subst e;rw [hy] at hi;obtain rfl:=Option.some.inj hi;omega
  · have hs:=tk_sorted k A
    rw [List.pairwise_iff_getElem] at hs
    have h:=hs i (k - 1) hil (by omega) (by omega)
    rw [List.getElem?_eq_getElem hil] at hi
    rw [List.getElem?_eq_getElem (by omega)] at hy
    rw [Option.some.inj hi,Option.some.inj hy] at h
    have n:¬ ltF y x = true:=by rw [h];decide
    rw [ltF_iff] at n
    have:¬ y.2 < x.2:=fun h => n (Or.inl h)
    omega
theorem sq_le {a b:Int} (h0:0 <= a) (h:a <= b):a * a <= b * b:=Int.mul_le_mul h h h0 (by omega)
theorem plF_le {c n y:Int} (h1:c <= n) (h2:n < c + 250):(plF c y - y) * (plF c y - y) <= (n - y) * (n - y):=by
  unfold plF
  by_cases h3:y <= c
  · rw [show min (max y c) (c + 249) = c from by omega]
    exact sq_le (by omega) (by omega)
  · by_cases h4:y <= c + 249
    · rw [show min (max y c) (c + 249) = y from by omega,Int.sub_self]
      rw [Int.mul_zero]
      rcases Int.le_total 0 (n - y) with h | h
      · exact Int.mul_nonneg h h
      · have:=Int.mul_nonneg (show 0 <= -(n - y) by omega) (show 0 <= -(n - y) by omega)
        rwa [Int.neg_mul_neg] at this
    · rw [show min (max y c) (c + 249) = c + 249 from by omega]
      have h:=sq_le (a:=y - (c + 249)) (b:=y - n) (by omega) (by omega)
      rw [show y - (c + 249) = -(c + 249 - y) from by omega,show y - n = -(n - y) from by omega,Int.neg_mul_neg,Int.neg_mul_neg] at h
      exact h
theorem farK_le {zs co ys:List Int} (h:zs.map begF = co):∀ k,k <= zs.length -> k <= ys.length -> farK (placeL co ys) ys k <= farK zs ys k
  | 0,_,_ => by unfold farK;simp
  | k + 1,h1,h2 => by
    have ih:=farK_le (ys:=ys) h k (by omega) (by omega)
    obtain ⟨z,hz⟩:∃ z,zs[k]? = some z:=⟨_,List.getElem?_eq_getElem (by omega)⟩
    obtain ⟨y,hy⟩:∃ y,ys[k]? = some y:=⟨_,List.getElem?_eq_getElem (by omega)⟩
    have hc:co[k]? = some (begF z):=by rw [<- h,List.getElem?_map,hz];rfl
    rw [farK_succ hz hy,farK_succ (placeL_get co ys k _ y hc hy) hy]
    have:=plF_le (y:=y) (begF_le z).1 (begF_le z).2
    omega
theorem least_le {zs co ys:List Int} (h:zs.map begF = co):leastI co ys <= farI zs ys:=by
  unfold leastI farI
  rw [placeL_len,<- h,List.length_map]
  exact farK_le rfl _ (by omega) (by omega)
theorem flatF_get (l:List (ByteArray × Int)) (i t:Nat) (x:ByteArray × Int) (h:l[i]? = some x) (ht:t < 2):(flatF l)[i * 2 + t]? = (encF x)[t]?:=flat_get (k:=2) (enc:=encF) (fun _ => rfl) l i t x h ht
set_option maxHeartbeats 1000000 in
theorem sort_row (B g cap:Nat) (l:List (ByteArray × Int)) (w:World) (h:w.ownsRow B 94 2 (.slice (some ⟨g,0,none⟩) l.length cap) l.length (flatF l)) (hl0:0 < l.length) (hl:l.length <= 1000) :
    Calls Tryz.prog 97 #[.slice (some ⟨g,0,none⟩) l.length cap,.func (.func 98) #[] #[]] w fun e w' => e = .returned (.tuple #[]) ∧ w'.ownsRow B 94 2 (.slice (some ⟨g,0,none⟩) l.length cap) l.length (flatF (srt l)) ∧ w.grownBy w' (some g):=by
  obtain ⟨g',cap',cur,hv,hgB,hgl,hh,hc1,hc2,hs,ht⟩:=own_parts h (by omega)
  injection hv with hv1 hv2 hv3
  injection hv1 with hv1
  injection hv1 with hv1
  subst hv1 hv3
  have hH:Go.Sort.HoldsK encF 2 w g 0 l.toArray:=by
    intro t htl
    rw [Go.Sort.size_flatK] at htl
    have htl':t < l.length * 2:=by simpa using htl
    have hf:=flatK_get l t htl'
    rw [<- ht,List.getElem?_take_of_lt htl',Array.getElem?_toList] at hf
    refine ⟨?_,?_⟩
    · rw [Nat.zero_add];simp only [World.cell?,hh];exact hf
    · simp [World.frozen?,hh]
  have eg:∀ args w,(callFunc 98 args).run Tryz.prog w = .ok (.enter 98 args) w:=enters_of Tryz.func98 (by kernel_rfl) rfl
  have hcon:=AnyQ.slices_SortFunc sortF 2 Tryz.isAgg94 Tryz.sizeOf94 encF (fun _ => rfl) (fun x v hv => by simp [encF] at hv;rcases hv with rfl | rfl <;> rfl) cfF swoF 98 #[] g 0 cap l.toArray w eg
    (fun m os dk _ x y => (compare_any x y _).mono fun e w' ⟨he,os',hw⟩ => ⟨he,0,os',hw⟩) hH hgl (by simp;omega)
  have hsz:l.toArray.size = l.length:=by simp
  rw [hsz] at hcon
  refine hcon.mono ?_
  rintro e w' ⟨rfl,d',n,os,hp,hso,rfl⟩
  obtain ⟨p1,_,p3⟩:=hp
  have p1':d'.size = l.length:=by rw [p1];simp
  have hd:d'.toList = srt l:=by
    have e1:(d'.extract 0 l.length).toList = d'.toList:=by rw [<- p1'];simp
    have e2:(l.toArray.extract 0 l.length).toList = l:=by simp
    rw [e1,e2] at p3
    refine List.Perm.eq_of_pairwise (le:=fun x y => ltF y x = false) (fun a b _ _ h1 h2 => (ltF_tot b a h1 h2).symm) ?_ (srt_sorted l) (p3.trans (srt_perm l).symm)
    rw [List.pairwise_iff_getElem]
    intro i j hi hj hij
    have:=hso i j (Nat.zero_le _) hij (by simpa [p1'] using hj)
    rw [getElem!_pos _ _ (by simpa using hj),getElem!_pos _ _ (by simpa using hi)] at this
    have this':ltF d'[j] d'[i] = false:=this
    simpa using this'
  have hH':=Go.Sort.holdsK_grow (enc:=encF) (k:=2) (Go.Sort.putRowK encF 2 (Go.Sort.ahead w n) g 0 d') os g 0 d' (by simpa [Go.Sort.putRowK,Go.Sort.ahead] using hgl) (Go.Sort.holdsK_putRowK (enc:=encF) (k:=2) (Go.Sort.ahead w n) g 0 l.toArray d' (Go.Sort.holdsK_ahead (enc:=encF) (k:=2) w n g 0 _ hH) (by simpa using p1'))
  have hsz2:w.heap.size = (Go.Sort.putRowK encF 2 (Go.Sort.ahead w n) g 0 d').heap.size:=by simp [Go.Sort.putRowK,Go.Sort.putRow,Go.Sort.mapBlock,Go.Sort.ahead]
  have hgrow:w.grownBy (Go.Sort.grow (Go.Sort.putRowK encF 2 (Go.Sort.ahead w n) g 0 d') os) (some g):=by
    refine ⟨rfl,rfl,rfl,?_,fun k hk hne => ?_⟩
    · show w.heap.size <= ((Go.Sort.putRowK encF 2 (Go.Sort.ahead w n) g 0 d').heap ++ os).size
      rw [Array.size_append,<- hsz2];omega
    · show ((Go.Sort.putRowK encF 2 (Go.Sort.ahead w n) g 0 d').heap ++ os)[k]? = _
      rw [Array.getElem?_append_left (by rw [<- hsz2];exact hk)]
      have:g ≠ k:=fun e => hne (by rw [e])
      simp [Go.Sort.putRowK,Go.Sort.putRow,Go.Sort.mapBlock,Go.Sort.ahead,Array.getElem?_modify,this]
  have hblk:(Go.Sort.grow (Go.Sort.putRowK encF 2 (Go.Sort.ahead w n) g 0 d') os).heap[g]? = some (.cells (Go.Sort.putCells id 0 (Go.Sort.flatK encF 2 d') cur) 94 (0,0)):=by
    show ((Go.Sort.putRowK encF 2 (Go.Sort.ahead w n) g 0 d').heap ++ os)[g]? = _
    rw [Array.getElem?_append_left (by rw [<- hsz2];exact hgl)]
    show ((w.heap.modify g (Go.Sort.onCells _)))[g]? = _
    rw [Array.getElem?_modify,if_pos rfl,hh]
    rfl
  refine ⟨rfl,⟨?_,Or.inr ⟨g,cap,_,rfl,hgB,hblk,hc1,hc2,?_,?_⟩⟩,hgrow⟩
  · rw [flatF_len,srt_len]
  · simp [Go.Sort.putCells];exact hs
  · apply List.ext_getElem?
    intro t
    by_cases htl:t < l.length * 2
    · rw [List.getElem?_take_of_lt htl]
      obtain ⟨i,r,rfl,hr⟩:∃ i r,t = i * 2 + r ∧ r < 2:=⟨t / 2,t % 2,by omega,by omega⟩
      have hil:i < d'.size:=by omega
      obtain ⟨x,hx⟩:∃ x,(srt l)[i]? = some x:=⟨_,List.getElem?_eq_getElem (by rw [srt_len];omega)⟩
      rw [flatF_get _ _ _ _ hx hr]
      rw [<- hd] at hx
      have hdx:d'[i]! = x:=by
        rw [getElem!_pos d' i hil]
        rw [Array.getElem?_toList,Array.getElem?_eq_getElem hil] at hx
        exact Option.some.inj hx
      have c0:=(hH'.cell hil hr).1
      rw [hdx] at c0
      have hcell:(Go.Sort.putCells id 0 (Go.Sort.flatK encF 2 d') cur)[0 + i * 2 + r]? = some ((encF x)[r]!):=by
        have e:=c0
        simp only [World.cell?,hblk] at e
        simpa using e
      rw [Array.getElem?_toList]
      rw [Nat.zero_add] at hcell
      rw [hcell]
      match r,hr with
      | 0,_ => rfl
      | 1,_ => rfl
    · rw [List.getElem?_eq_none (by rw [List.length_take];omega),List.getElem?_eq_none (by rw [flatF_len,srt_len];omega)]
theorem row_cut {w:World} {B g n cap:Nat} {l:List (ByteArray × Int)} (h:w.ownsRow B 94 2 (.slice (some ⟨g,0,none⟩) n cap) n (flatF l)) (m:Nat) (hm:m <= n):w.ownsRow B 94 2 (.slice (some ⟨g,0,none⟩) m cap) m (flatF (l.take m)):=by
  obtain ⟨h1,⟨h2,_⟩ | ⟨g',cap',cur,hv,hgB,hh,hc1,hc2,hs,ht⟩⟩:=h
  · injection h2 with h2;cases h2
  · injection hv with hv1 hv2 hv3
    injection hv1 with hv1
    injection hv1 with hv1
    subst hv1 hv3
    rw [flatF_len] at h1
    have e1:flatF (l.take m) ++ flatF (l.drop m) = flatF l:=by unfold flatF;rw [<- List.flatMap_append,List.take_append_drop]
    have e2:(flatF (l.take m)).length = m * 2:=by rw [flatF_len,List.length_take];omega
    have e:flatF (l.take m) = (flatF l).take (m * 2):=by
      rw [<- e1,List.take_append_of_le_length (Nat.le_of_eq e2.symm),List.take_of_length_le (Nat.le_of_eq e2)]
    refine ⟨by rw [flatF_len,List.length_take];omega,Or.inr ⟨g,cap,cur,rfl,hgB,hh,by omega,hc2,hs,?_⟩⟩
    rw [e,<- ht,List.take_take,Nat.min_eq_left (by omega)]
set_option maxHeartbeats 1000000 in
theorem nearest_any (B g cap:Nat) (l:List (ByteArray × Int)) (k:Nat) (w:World) (h:w.ownsRow B 94 2 (.slice (some ⟨g,0,none⟩) l.length cap) l.length (flatF l)) (hl0:0 < l.length) (hl:l.length <= 1000) :
    Calls Tryz.prog 148 #[.slice (some ⟨g,0,none⟩) l.length cap,.int .i64 k] w fun e w' => e = .returned (.slice (some ⟨g,0,none⟩) (min k l.length) cap) ∧ w'.ownsRow B 94 2 (.slice (some ⟨g,0,none⟩) (min k l.length) cap) (min k l.length) (flatF (tk k l)) ∧ w.grownBy w' (some g):=by
  have HS:Hid _:=sort_row B g cap l w h hl0 hl
  obtain ⟨m,hm⟩:∃ m,m = min k l.length:=⟨_,rfl⟩
  have HM:Hid (m = min k l.length):=hm
  have hmin:min (k:Int) (l.length:Int) = (m:Int):=by omega
  have hcap:l.length <= cap:=(row_cap h).2.1
  have hml:m <= l.length:=by omega
  have hmc:m <= cap:=by omega
  rw [<- hm]
  clear h hm
  go_enter Tryz.func148,Tryz.ntmps148
  go_wp2_with fail
  refine Calls.mono HS.out ?_
  rintro e w2 ⟨rfl,hr,hg⟩
  have HR:Hid _:=row_cut hr m hml
  have HG:Hid _:=hg
  clear hr hg HS
  go_wp2_with fail
  go_ret
  refine ⟨rfl,?_,HG.out⟩
  have e:tk k l = (srt l).take m:=by
    unfold tk
    rw [HM.out]
    by_cases h:k <= l.length
    · rw [Nat.min_eq_left h]
    · rw [Nat.min_eq_right (by omega),List.take_of_length_le (by rw [srt_len];omega),List.take_of_length_le (by rw [srt_len];omega)]
  rw [e];exact HR.out
theorem nearest_nil (k:Nat) (w:World) (hk:k <= 60):Calls Tryz.prog 148 #[.slice none 0 0,.int .i64 k] w fun e w' => e = .returned (.slice none 0 0) ∧ w' = w:=by
  have hmin:min (k:Int) 0 = 0:=by omega
  go_enter Tryz.func148,Tryz.ntmps148
  go_wp2_with (go_at_call 97;refine (sortNone_any _ _ _ _).mono ?_;rintro e w' ⟨rfl,rfl⟩)
  go_ret
  exact ⟨rfl,rfl⟩
def LF (w:World) (lb g N j:Nat):Prop:=∃ q c,Blk w lb #[.slice q (N - j) c] 306 ∧ (j < N -> q = some ⟨g,j * 3,none⟩) ∧ N - j <= c
theorem LF.updG {w w':World} {lb g N j h:Nat} (hf:LF w lb g N j) (hu:UpdG w w' h) (hne:lb ≠ h):LF w' lb g N j:=by
  obtain ⟨q,c,h1,h2,h3⟩:=hf
  exact ⟨q,c,Blk.updG h1 hu hne,h2,h3⟩
theorem LF.kept {w w':World} {lb g N j:Nat} {row:Option Nat} (hf:LF w lb g N j) (hg:w.grownBy w' row) (hne:row ≠ some lb):LF w' lb g N j:=by
  obtain ⟨q,c,h1,h2,h3⟩:=hf
  exact ⟨q,c,blk_grown h1 hg hne,h2,h3⟩
theorem LF.below {w w':World} {lb g N j:Nat} (hf:LF w lb g N j) (hb:Below w.heap.size w w'):LF w' lb g N j:=by
  obtain ⟨q,c,h1,h2,h3⟩:=hf
  exact ⟨q,c,h1.below hb h1.lt,h2,h3⟩
theorem updG_below {w w':World} {g:Nat} (hb:Below w.heap.size w w'):UpdG w w' g:=⟨hb.os,hb.tape,hb.output,hb.size,fun k hk _ => hb.block k hk⟩
theorem next_step (lb g N j:Nat) (tl:Array Value) (d':Array ReD) (F:Int) (w:World) (hg:Blk w g (fl encR tl d') 309) (hf:LF w lb g N j) (hN:d'.size = N) (hj:j <= N) :
    Calls Tryz.prog 221 #[.int .i64 F,.pointer (some ⟨lb,0,none⟩)] w fun e w' => (∃ (ok:Bool) (a1:Option Addr) (n1 c1:Nat) (a2:Option Addr) (n2 c2:Nat),e = .returned (.tuple #[.agg #[.slice a1 n1 c1,.slice a2 n2 c2],.bool ok]) ∧
      (ok = true -> j < N ∧ Value.slice a1 n1 c1 = (nth d' j).c.e0 ∧ Value.slice a2 n2 c2 = (nth d' j).c.e1 ∧ ¬ F < (nth d' j).least ∧ LF w' lb g N (j + 1)) ∧ (ok = false -> (j = N ∨ F < (nth d' j).least) ∧ LF w' lb g N j)) ∧ UpdG w w' lb:=by
  obtain ⟨q,c,h1,h2,h3⟩:=hf
  by_cases hjN:j = N
  · refine (next_no F lb q (N - j) c w h1 (Or.inl (by omega))).mono ?_
    rintro e w' ⟨rfl,hb⟩
    refine ⟨⟨false,none,0,0,none,0,0,rfl,fun h => (by cases h),fun _ => ⟨Or.inl hjN,q,c,h1.below hb h1.lt,h2,h3⟩⟩,updG_below hb⟩
  · have hlt:j < N:=by omega
    have hjs:j < d'.size:=by omega
    obtain rfl:=h2 hlt
    have k0:w.cell? ⟨g,j * 3,none⟩ = some (nth d' j).c.e0:=(hg.cell _).trans (fl_get (k:=3) encR_len hjs (t:=0) (by decide))
    have k1:w.cell? ⟨g,j * 3 + 1,none⟩ = some (nth d' j).c.e1:=(hg.cell _).trans (fl_get (k:=3) encR_len hjs (t:=1) (by decide))
    have k2:w.cell? ⟨g,j * 3 + 2,none⟩ = some (.int .i64 (nth d' j).least):=(hg.cell _).trans (fl_get (k:=3) encR_len hjs (t:=2) (by decide))
    by_cases hF:F < (nth d' j).least
    · refine (next_no F lb _ (N - j) c w h1 (Or.inr ⟨by omega,g,j * 3,_,rfl,k2,hF⟩)).mono ?_
      rintro e w' ⟨rfl,hb⟩
      refine ⟨⟨false,none,0,0,none,0,0,rfl,fun h => (by cases h),fun _ => ⟨Or.inr hF,_,c,h1.below hb h1.lt,h2,h3⟩⟩,updG_below hb⟩
    · have e1:N - j = (N - (j + 1)) + 1:=by omega
      rw [e1] at h1
      refine (next_ok F lb g (j * 3) (N - (j + 1)) c _ _ _ _ _ _ _ w h1 (by omega) k0 k1 k2 hF).mono ?_
      rintro e w' ⟨rfl,⟨q',hb,hq⟩,hu⟩
      refine ⟨⟨true,_,_,_,_,_,_,rfl,fun _ => ⟨hlt,rfl,rfl,hF,q',c - 1,hb,fun h => ?_,by omega⟩,fun h => (by cases h)⟩,hu⟩
      rw [hq (by omega),show j * 3 + 3 = (j + 1) * 3 from by omega]
def AI (d':Array ReD) (i:Nat):List ItD:=(d'.toList.take i).flatMap fun r => r.c.it
def XF (ys:List Int) (tag:ByteArray) (k:Nat) (d':Array ReD) (i:Nat):List (ByteArray × Int):=tk k (fnd ys tag (xsOf (AI d' i)))
theorem AI_succ {d':Array ReD} {i:Nat} (hi:i < d'.size):AI d' (i + 1) = AI d' i ++ (nth d' i).c.it:=by
  unfold AI
  rw [List.take_add_one,nth_some hi,List.flatMap_append]
  simp
theorem fnd_append (ys:List Int) (tag:ByteArray) (A B:List ItD):fnd ys tag (xsOf (A ++ B)) = fnd ys tag (xsOf A) ++ fnd ys tag (xsOf B):=by
  unfold fnd xsOf
  rw [List.map_append,List.filter_append,List.map_append]
theorem XF_succ {ys:List Int} {tag:ByteArray} {k:Nat} {d':Array ReD} {i:Nat} (hi:i < d'.size):tk k (XF ys tag k d' i ++ tk k (fnd ys tag (xsOf (nth d' i).c.it))) = XF ys tag k d' (i + 1):=by
  unfold XF
  rw [AI_succ hi,fnd_append,tk_both]
def FarOk (k:Nat) (X:List (ByteArray × Int)) (F:Int):Prop:=(X.length = k -> ∃ y,X[k - 1]? = some y ∧ F = y.2) ∧ (X.length ≠ k -> F = 9223372036854775807)
structure TI (w:World) (H4 lb g N:Nat) (tl:Array Value) (d':Array ReD) (ys:List Int) (tag:ByteArray) (k:Nat) (v:Value) (i xb:Nat) (ok:Bool) (F:Int) (lk:Nat) (wr:World):Prop where
  bel:Below w.heap.size w wr
  size:H4 <= wr.heap.size
  row:wr.ownsRow H4 94 2 v (XF ys tag k d' i).length (flatF (XF ys tag k d' i))
  nil:XF ys tag k d' i = [] -> v = .slice none 0 0
  far:FarOk k (XF ys tag k d' i) F
  lk:lk = (AI d' i).length
  bg:Blk wr g (fl encR tl d') 309
  on:ok = true -> i < N ∧ Blk wr xb (encC (nth d' i).c).toArray 242 ∧ LF wr lb g N (i + 1)
  off:ok = false -> i <= N ∧ (i = N ∨ F < (nth d' i).least)
theorem top_done {d':Array ReD} {ys:List Int} {tag:ByteArray} {k i N:Nat} {F:Int} {os:List CeD} (hN:d'.size = N) (hp:d'.toList.Perm (os.map (reF ys))) (hs:Sor cfR (nth d') 0 N) (hcor:∀ x ∈ os,∀ d ∈ x.it,d.x.nums.map begF = x.co)
    (hbig:∀ x ∈ os,leastI x.co ys <= 9223372036854775807) (hF:FarOk k (XF ys tag k d' i) F) (hi:i <= N) (hstop:i = N ∨ F < (nth d' i).least):XF ys tag k d' i = tk k (fnd ys tag (xsOf (os.flatMap CeD.it))):=by
  have hmem:∀ r ∈ d'.toList,∃ x ∈ os,r = reF ys x:=fun r hr => by
    obtain ⟨x,hx,e⟩:=List.mem_map.1 (hp.mem_iff.1 hr)
    exact ⟨x,hx,e.symm⟩
  have hall:((d'.toList).flatMap fun r => r.c.it).Perm (os.flatMap CeD.it):=by
    have h1:(d'.toList.flatMap fun r => r.c.it).Perm ((os.map (reF ys)).flatMap fun r => r.c.it):=List.Perm.flatMap_right _ hp
    rw [List.flatMap_map] at h1
    exact h1
  have hfp:(fnd ys tag (xsOf ((d'.toList).flatMap fun r => r.c.it))).Perm (fnd ys tag (xsOf (os.flatMap CeD.it))):=by
    unfold fnd xsOf
    exact ((hall.map _).filter _).map _
  rw [<- tk_perm hfp]
  have hsplit:((d'.toList).flatMap fun r => r.c.it) = AI d' i ++ (d'.toList.drop i).flatMap fun r => r.c.it:=by
    unfold AI
    rw [<- List.flatMap_append,List.take_append_drop]
  rw [hsplit,fnd_append]
  rcases hstop with h | h
  · have:d'.toList.drop i = []:=List.drop_of_length_le (by simp;omega)
    rw [this]
    show _ = tk k (_ ++ [])
    rw [List.append_nil]
    rfl
  · have hiN:i < N ∨ i = N:=by omega
    rcases hiN with hiN | hiN
    rotate_left
    · have:d'.toList.drop i = []:=List.drop_of_length_le (by simp;omega)
      rw [this]
      show _ = tk k (_ ++ [])
      rw [List.append_nil]
      rfl
    have hk:(XF ys tag k d' i).length = k:=by
      by_cases hk:(XF ys tag k d' i).length = k
      · exact hk
      · have:=hF.2 hk
        obtain ⟨x,hx,e⟩:=hmem (nth d' i) (List.mem_of_getElem? (nth_some (by omega)))
        have hb:=hbig x hx
        rw [e] at h
        unfold reF at h
        simp only at h
        omega
    obtain ⟨y,hy,hFy⟩:=hF.1 hk
    have hlast:=tk_last k _ y hy hk
    rw [tk_perm List.perm_append_comm]
    refine (tk_stop k _ hk _ fun b hb x hx => ?_).symm
    unfold fnd at hb
    obtain ⟨it,hit,rfl⟩:=List.mem_map.1 hb
    have hit2:=(List.mem_filter.1 hit).1
    obtain ⟨d,hd,rfl⟩:=List.mem_map.1 hit2
    obtain ⟨r,hr,hdr⟩:=List.mem_flatMap.1 hd
    obtain ⟨n,hn⟩:=List.getElem?_of_mem hr
    rw [List.getElem?_drop] at hn
    have hin:i + n < d'.size:=by have:=(List.getElem?_eq_some_iff.1 hn).1;simpa using this
    rw [nth_some hin] at hn
    have hrr:=Option.some.inj hn
    have hle:=cfR_le (hs i (i + n) (Nat.zero_le _) (by omega) (by omega))
    rw [hrr] at hle
    obtain ⟨c,hc,rfl⟩:=hmem r (List.mem_of_mem_drop hr)
    have hl2:leastI c.co ys <= farI d.x.nums ys:=least_le (hcor c hc d hdr)
    have hx2:=hlast x hx
    rw [ltF_iff]
    left
    show x.2 < farI d.x.nums ys
    have hle':(nth d' i).least <= leastI c.co ys:=hle
    omega
theorem run_append_no {P:Program} (w:World) (t ty e:TypeId) (i:TypeInfo) (ht:P.underlying t = some (.slice e)) (hi:P.info? e = some i) (a:Option Addr) (n c c2:Nat) (ha:a = none -> n = 0 ∧ c = 0) (hc:n <= c) :
    (Builtin.append_ #[t,t] ty #[.slice a n c,.slice none 0 c2]).run P w = .ok (.slice a n c) w:=by
  cases a with
  | none =>
    obtain ⟨rfl,rfl⟩:=ha rfl
    simp [Builtin.append_,run_underlying ht,sizeOf,typeInfo,hi,Builtin.lenOf,Builtin.firstCells]
  | some ad =>
    simp [Builtin.append_,run_underlying ht,sizeOf,typeInfo,hi,Builtin.lenOf,Builtin.firstCells,loadCells,hc,storeCells]
theorem wpl_appF {P:Program} {ops:Array Oper} {Q:Exit -> Act -> World -> Prop} {a:Act} {w:World} {o:Oper} {rest:List Oper} (hgd:o.guard = none) (s x:Operand) (t:TypeId) (ho:o.op = .call { callee:=.builtin .append,args:=#[s,x],argTypes:=#[t,t] })
    (B:Nat) (T:TypeId) (ht:P.underlying t = some (.slice T)) (hinfo:(P.info? T).map (fun i => (i.zero,i.size,i.bytes)) = some (some (.agg #[.string ByteArray.empty,.int .i64 0]),2,24))
    (v v2:Value) (X F:List (ByteArray × Int)) (hs:a.eval s = v) (hown:w.ownsRow B T 2 v X.length (flatF X)) (hx:a.eval x = v2) (hF:Fnds w v2 F) (hl:X.length + F.length < 10000) (hbase:B <= w.heap.size)
    (h:∀ v' w',w'.ownsRow B T 2 v' (X ++ F).length (flatF (X ++ F)) -> w.grownBy w' v.ownBlock -> (v = .slice none 0 0 -> F = [] -> v' = .slice none 0 0) -> wpList P ops Q rest (a.put o.dst v') w'):wpList P ops Q (o :: rest) a w:=by
  obtain ⟨i,hi,p1,p2,p3⟩:=info_parts hinfo
  obtain ⟨a2,c2,rfl,hc2,hcell⟩:=hF
  have hfl:flatF (X ++ F) = flatF X ++ flatF F:=by simp [flatF]
  refine wpList_plain hgd fun K hK => ?_
  cases a2 with
  | none =>
    have hF0:F = []:=by
      cases F with
      | nil => rfl
      | cons f r =>
        obtain ⟨g,o',e,_⟩:=hcell 0 f rfl
        cases e
    subst hF0
    obtain ⟨a1,c1,hv⟩:=own_slice hown
    have hc1:X.length <= c1 ∧ (a1 = none -> X.length = 0 ∧ c1 = 0):=by
      obtain ⟨_,⟨h2,h3⟩ | ⟨g,cap,cur,hv',_,_,hh,_⟩⟩:=hown
      · rw [h2] at hv
        injection hv with e1 e2 e3
        rw [<- e3,h3]
        exact ⟨Nat.le_refl _,fun _ => ⟨rfl,rfl⟩⟩
      · rw [hv'] at hv
        injection hv with e1 e2 e3
        rw [<- e3,<- e1]
        exact ⟨hh,fun e => by cases e⟩
    have hr:=run_append_no (P:=P) w t o.type T i ht hi a1 X.length c1 c2 hc1.2 hc1.1
    rw [<- hv] at hr
    unfold Oper.wp execOp
    simp only [ho,resolve,invoke,builtin,Sem.run_bind,Sem.run_pure,Result.andThen_ok,List.map_toArray,List.map_cons,List.map_nil,hs,hx,List.length_nil,hr]
    refine hK _ _ (h _ _ ?_ ⟨rfl,rfl,rfl,Nat.le_refl _,fun _ _ _ => rfl⟩ fun e _ => e)
    rw [List.append_nil];exact hown
  | some ad =>
    refine wp_append_own w s x t ho B T i _ 2 24 ht hi p1 p2 p3 rfl (by decide) v X.length (flatF X) hs hown ad F.length c2 (flatF F) hx (flatF_len F) ?_ ?_ (by unfold maxLen;omega) (by omega) hbase ?_
    · intro j u hu
      have hj:=(List.getElem?_eq_some_iff.1 hu).1
      rw [flatF_len] at hj
      obtain ⟨f,hf⟩:∃ f,F[j / 2]? = some f:=⟨_,List.getElem?_eq_getElem (by omega)⟩
      obtain ⟨g,o',e,_,q1,q2⟩:=hcell _ _ hf
      injection e with e
      obtain ⟨r1,r2⟩:=flatF_cell F (j / 2) f hf
      rw [e,addr_addO]
      rcases Nat.mod_two_eq_zero_or_one j with h0 | h0
      · have e2:j = j / 2 * 2:=by omega
        rw [e2,r1] at hu
        rw [e2,q1];exact hu
      · have e2:j = j / 2 * 2 + 1:=by omega
        rw [e2,r2] at hu
        rw [e2]
        have:=q2.trans hu
        rw [<- this,Nat.add_assoc]
    · intro u hu
      unfold flatF at hu
      obtain ⟨f,_,hf⟩:=List.mem_flatMap.1 hu
      simp [encF] at hf
      rcases hf with rfl | rfl <;> rfl
    · intro v' w' h1 h2 h3
      refine hK _ _ (h v' w' ?_ h2 fun e1 e2 => h3.2 ⟨e1,by rw [e2];rfl⟩)
      rw [hfl,List.length_append];exact h1
theorem fnds_own {w:World} {B:Nat} {v:Value} {l:List (ByteArray × Int)} (h:w.ownsRow B 94 2 v l.length (flatF l)):Fnds w v l:=by
  cases l with
  | nil =>
    obtain ⟨_,⟨h2,_⟩ | ⟨g,cap,cur,hv,_,_,hc,_⟩⟩:=h
    · exact ⟨none,0,h2,Nat.le_refl _,fun i x hx => by simp at hx⟩
    · exact ⟨_,cap,hv,hc,fun i x hx => by simp at hx⟩
  | cons f r =>
    obtain ⟨g,cap,cur,rfl,hgB,hgl,hh,hc,_⟩:=own_parts h (by simp)
    refine ⟨some ⟨g,0,none⟩,cap,rfl,hc,fun i x hx => ⟨g,0,rfl,hgl,?_,?_⟩⟩
    · rw [Nat.zero_add];exact row_cell h _ _ (flatF_cell _ _ _ hx).1
    · rw [Nat.zero_add];exact row_cell h _ _ (flatF_cell _ _ _ hx).2
theorem updG_two (w:World) (b:Nat) (u v:Value):UpdG w ((w.setCell ⟨b,0,none⟩ u).setCell ⟨b,1,none⟩ v) b:=((UpdG.refl w b).upd (setCell_upd w b 0 u)).upd (setCell_upd _ b 1 v)
end Go.Proofs.YtjmpjfikcgccdaaGreatDoor.Ce
