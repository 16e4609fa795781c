/-
  Part of the proof of BaseFindsCard (I4 and on).
-/
import Derived.Test.YtjmpjfikcgccdaaGreatDoorB04
namespace Go.Proofs.YtjmpjfikcgccdaaGreatDoor.It
open Go.RowKit
structure ItD where
  x:Itm
  a:Option Addr
  c:Nat
def ItD.val (d:ItD):Value:=.slice d.a d.x.nums.length d.c
def ItD.arr (d:ItD):Array Value:=#[.string d.x.name,.string d.x.tag,d.val]
def ItD.Ok (w:World) (d:ItD):Prop:=Ints w d.a d.x.nums ∧ d.x.nums.length <= maxLen ∧ d.x.name.size <= maxLen ∧ d.x.tag.size <= maxLen ∧ d.x.nums.length <= d.c
theorem ItD.Ok.below {w w':World} {d:ItD} (h:d.Ok w) (hb:Below w.heap.size w w'):d.Ok w':=⟨h.1.below hb,h.2⟩
set_option maxHeartbeats 400000 in
theorem indexInts_any (a:Option Addr) (c:Nat) (zs:List Int) (w:World) (h:Ints w a zs) (hl:zs.length <= maxLen) :
    Calls Tryz.prog 185 #[.slice a zs.length c,.func (.func 119) #[] #[]] w fun e w' => (∃ j:Int,e = .returned (.int .i64 j) ∧ (decide (0 <= j) = !zs.all numB)) ∧ w' = w:=by
  unfold maxLen at hl
  go_enter Tryz.func185,Tryz.ntmps185
  go_wp2_with fail
  go_loop [8] (fun i => ∃ k:Nat,k <= zs.length ∧ i = .int .i64 k ∧ (zs.take k).all numB = true) (fun i => zs.length - (intOf i).toNat)
  case atStart => exact ⟨0,by omega,rfl,by simp⟩
  case round =>
    obtain ⟨k,hk,rfl,hp⟩:=hrel
    by_cases hlt:k < zs.length
    · have HP:Hid ((zs.take k).all numB = true):=hp
      clear hp
      obtain ⟨g,o,rfl,hc⟩:=h k zs[k] (List.getElem?_eq_getElem hlt)
      have hg:g < w.heap.size:=World.block_lt_of_cell? w _ hc
      have htk:Hid (zs[k]? = some zs[k]):=List.getElem?_eq_getElem hlt
      have hlt':(k:Int) < (zs.length:Int):=by omega
      generalize zs[k] = x at *
      by_cases hx:numB x = true
      · go_wp2_with (go_at_call 119;refine (numOut_any _ _).mono ?_;rintro e w' ⟨rfl,rfl⟩;rw [hx])
        go_round
        case rel => exact ⟨k + 1,by omega,by go_num,by rw [List.take_add_one,htk.out,List.all_append,HP.out];simp [hx]⟩
        case measure => simp [intOf];omega
      · have hx':numB x = false:=by simpa using hx
        go_wp2_with (go_at_call 119;refine (numOut_any _ _).mono ?_;rintro e w' ⟨rfl,rfl⟩;rw [hx'])
        go_ret
        refine ⟨⟨k,rfl,?_⟩,rfl⟩
        have:zs.all numB = false:=by rw [List.all_eq_false];exact ⟨x,List.mem_of_getElem? htk.out,by simp [hx']⟩
        rw [this];simp
    · have hk':k = zs.length:=by omega
      subst hk'
      rw [List.take_length] at hp
      have HP:Hid (zs.all numB = true):=hp
      clear hp
      go_wp2_with fail
      go_ret
      exact ⟨⟨-1,rfl,by rw [HP.out];decide⟩,rfl⟩
theorem containsInts_any (a:Option Addr) (c:Nat) (zs:List Int) (w:World) (h:Ints w a zs) (hl:zs.length <= maxLen) :
    Calls Tryz.prog 118 #[.slice a zs.length c,.func (.func 119) #[] #[]] w fun e w' => e = .returned (.bool (!zs.all numB)) ∧ w' = w:=by
  go_enter Tryz.func118,Tryz.ntmps118
  go_wp2_with (go_at_call 185;refine (indexInts_any _ _ _ _ h hl).mono ?_;rintro e w' ⟨⟨j,rfl,hj⟩,rfl⟩)
  go_ret
  refine ⟨?_,rfl⟩
  rw [<- hj];simp
set_option maxHeartbeats 1000000 in
theorem right_any (x:ItD) (d:Int) (w:World) (h:x.Ok w):Calls Tryz.prog 59 #[.agg x.arr,.int .i64 d] w fun e w' => e = .returned (.bool (rightB x.x d)) ∧ Below w.heap.size w w':=by
  obtain ⟨h1,h2,h3,h4,_⟩:=h
  unfold ItD.arr ItD.val
  obtain ⟨⟨nm,tg,zs⟩,a,c⟩:=x
  simp only at h1 h2 h3 h4 ⊢
  have hl:zs.length <= 9223372036854775807:=h2
  have hb:=below_alloc w (.cells #[.string nm,.string tg,.slice a zs.length c] 45)
  have h1':=h1.below hb
  have HR:Hid (rightB ⟨nm,tg,zs⟩ d = (dimB d && decide ((zs.length:Int) = d) && nameB nm && tagB tg && zs.all numB)):=rfl
  rw [HR.out]
  by_cases c1:dimB d = true
  rotate_left
  · have c1':dimB d = false:=by simpa using c1
    go_enter Tryz.func59,Tryz.ntmps59
    go_wp2_with (go_at_call 116;refine (isDim_any _ _).mono ?_;rintro e w' ⟨rfl,rfl⟩;rw [c1'])
    go_ret
    exact ⟨by rw [c1'];rfl,hb⟩
  by_cases c2:(zs.length:Int) = d
  rotate_left
  · have c2':decide ((zs.length:Int) = d) = false:=by simpa using c2
    go_enter Tryz.func59,Tryz.ntmps59
    go_wp2_with (go_at_call 116;refine (isDim_any _ _).mono ?_;rintro e w' ⟨rfl,rfl⟩;rw [c1])
    go_ret
    exact ⟨by rw [c1,c2'];rfl,hb⟩
  have c2':decide ((zs.length:Int) = d) = true:=by simpa using c2
  by_cases c3:nameB nm = true
  rotate_left
  · have c3':nameB nm = false:=by simpa using c3
    go_enter Tryz.func59,Tryz.ntmps59
    go_wp2_with (first
      | (go_at_call 116;refine (isDim_any _ _).mono ?_;rintro e w' ⟨rfl,rfl⟩;rw [c1])
      | (go_at_call 117;refine (name_any _ _ h3).mono ?_;rintro e w' ⟨rfl,rfl⟩;rw [c3']))
    go_ret
    exact ⟨by rw [c1,c2',c3'];rfl,hb⟩
  by_cases c4:tg.size = 0
  · obtain rfl:tg = ByteArray.empty:=by
      apply ByteArray.ext;apply Array.eq_empty_of_size_eq_zero;exact c4
    have c5:tagB ByteArray.empty = true:=by decide
    by_cases c6:zs.all numB = true
    · go_enter Tryz.func59,Tryz.ntmps59
      go_wp2_with (first
        | (go_at_call 116;refine (isDim_any _ _).mono ?_;rintro e w' ⟨rfl,rfl⟩;rw [c1])
        | (go_at_call 117;refine (name_any _ _ h3).mono ?_;rintro e w' ⟨rfl,rfl⟩;rw [c3])
        | (go_at_call 118;refine (containsInts_any _ _ _ _ h1' h2).mono ?_;rintro e w' ⟨rfl,rfl⟩;rw [c6]))
      go_ret
      exact ⟨by rw [c1,c2',c3,c5,c6];rfl,hb⟩
    · have c6':zs.all numB = false:=by simpa using c6
      go_enter Tryz.func59,Tryz.ntmps59
      go_wp2_with (first
        | (go_at_call 116;refine (isDim_any _ _).mono ?_;rintro e w' ⟨rfl,rfl⟩;rw [c1])
        | (go_at_call 117;refine (name_any _ _ h3).mono ?_;rintro e w' ⟨rfl,rfl⟩;rw [c3])
        | (go_at_call 118;refine (containsInts_any _ _ _ _ h1' h2).mono ?_;rintro e w' ⟨rfl,rfl⟩;rw [c6']))
      go_ret
      exact ⟨by rw [c1,c2',c3,c5,c6'];rfl,hb⟩
  · have c4':¬ tg.toList = []:=by
      intro e
      rw [Lib.toList_data] at e
      apply c4
      rw [Lib.size_eq,e];rfl
    have c4e:tg.toList.isEmpty = false:=by simpa using c4'
    have ct:tagB tg = nameB tg:=by unfold tagB;simp [c4]
    rw [ct]
    by_cases c5:nameB tg = true
    rotate_left
    · have c5':nameB tg = false:=by simpa using c5
      go_enter Tryz.func59,Tryz.ntmps59
      go_wp2_with (first
        | (go_at_call 116;refine (isDim_any _ _).mono ?_;rintro e w' ⟨rfl,rfl⟩;rw [c1])
        | (go_at_call 117;refine (name_any _ _ (by first | exact h3 | exact h4)).mono ?_;rintro e w' ⟨rfl,rfl⟩;first | rw [c3] | rw [c5']))
      go_ret
      exact ⟨by rw [c1,c2',c3,c5'];rfl,hb⟩
    · by_cases c6:zs.all numB = true
      · go_enter Tryz.func59,Tryz.ntmps59
        go_wp2_with (first
          | (go_at_call 116;refine (isDim_any _ _).mono ?_;rintro e w' ⟨rfl,rfl⟩;rw [c1])
          | (go_at_call 117;refine (name_any _ _ (by first | exact h3 | exact h4)).mono ?_;rintro e w' ⟨rfl,rfl⟩;first | rw [c3] | rw [c5])
          | (go_at_call 118;refine (containsInts_any _ _ _ _ h1' h2).mono ?_;rintro e w' ⟨rfl,rfl⟩;rw [c6]))
        go_ret
        exact ⟨by rw [c1,c2',c3,c5,c6];rfl,hb⟩
      · have c6':zs.all numB = false:=by simpa using c6
        go_enter Tryz.func59,Tryz.ntmps59
        go_wp2_with (first
          | (go_at_call 116;refine (isDim_any _ _).mono ?_;rintro e w' ⟨rfl,rfl⟩;rw [c1])
          | (go_at_call 117;refine (name_any _ _ (by first | exact h3 | exact h4)).mono ?_;rintro e w' ⟨rfl,rfl⟩;first | rw [c3] | rw [c5])
          | (go_at_call 118;refine (containsInts_any _ _ _ _ h1' h2).mono ?_;rintro e w' ⟨rfl,rfl⟩;rw [c6']))
        go_ret
        exact ⟨by rw [c1,c2',c3,c5,c6'];rfl,hb⟩
theorem infoStr:(Tryz.prog.info? 9).map (fun i => (i.zero,i.size,i.bytes)) = some (some (.string ByteArray.empty),1,16):=by kernel_rfl
theorem infoInt:(Tryz.prog.info? 3).map (fun i => (i.zero,i.size,i.bytes)) = some (some (.int .i64 0),1,8):=by kernel_rfl
theorem row_fresh {w:World} {b B:Nat} {e:TypeId} {z n:Nat} {xs:List Value} (h:Blk w b xs.toArray e) (hB:B <= b) (hl:n <= maxLen) (hn:xs.length = n * z):w.ownsRow B e z (.slice (some ⟨b,0,none⟩) n n) n xs:=
  ⟨hn,Or.inr ⟨b,n,xs.toArray,rfl,hB,h,Nat.le_refl _,hl,by simpa using hn,by rw [<- hn];simp⟩⟩
theorem row_cap {w:World} {B g n m cap:Nat} {e:TypeId} {z:Nat} {xs:List Value} (h:w.ownsRow B e z (.slice (some ⟨g,0,none⟩) n cap) m xs):n = m ∧ n <= cap ∧ B <= g ∧ g < w.heap.size:=by
  obtain ⟨h1,h2⟩:=h
  rcases h2 with ⟨h2,_⟩ | ⟨g',cap',cur,hv,hgB,hh,hc,_⟩
  · injection h2 with a1;cases a1
  · injection hv with a1 a2 a3;injection a1 with a1;injection a1 with a1
    subst a1;subst a2;subst a3
    refine ⟨rfl,hc,hgB,?_⟩
    rcases Nat.lt_or_ge g w.heap.size with h' | h'
    · exact h'
    · simp [Array.getElem?_eq_none h'] at hh
theorem row_cell {w:World} {B g n m cap:Nat} {e:TypeId} {z:Nat} {xs:List Value} (h:w.ownsRow B e z (.slice (some ⟨g,0,none⟩) n cap) m xs) (j:Nat) (u:Value) (hj:xs[j]? = some u):w.cell? ⟨g,j,none⟩ = some u:=by
  obtain ⟨h1,h2⟩:=h
  rcases h2 with ⟨h2,_⟩ | ⟨g',cap',cur,hv,hgB,hh,_,_,_,ht⟩
  · injection h2 with a1;cases a1
  · have e:g = g':=by injection hv with a1;injection a1 with a2;injection a2
    subst e
    simp only [World.cell?,hh]
    rw [<- ht,List.getElem?_take] at hj
    split at hj
    · simpa using hj
    · cases hj
theorem row_ownLt {B:Nat} {e:TypeId} {z n:Nat} {v:Value} {xs:List Value} {w:World} (h:w.ownsRow B e z v n xs) (k:Nat) (hk:v.ownBlock = some k):B <= k ∧ k < w.heap.size:=by
  obtain ⟨_,⟨h2,_⟩ | ⟨g,cap,cur,hv,hgB,hh,_⟩⟩:=h
  · rw [h2] at hk;cases hk
  · rw [hv] at hk;simp only [Value.ownBlock,Option.some.injEq] at hk;subst hk
    refine ⟨hgB,?_⟩
    rcases Nat.lt_or_ge g w.heap.size with h' | h'
    · exact h'
    · simp [Array.getElem?_eq_none h'] at hh
theorem row_grownBelow {B:Nat} {a w w':World} {e:TypeId} {z n:Nat} {v:Value} {xs:List Value} (h:Below B a w) (hr:w.ownsRow B e z v n xs) (hg:w.grownBy w' v.ownBlock) (hB:B <= w.heap.size):Below B a w':=
  h.grown hg hB fun k hk => (row_ownLt hr k hk).1
section
variable {P:Program} {ops:Array Oper} {Q:Exit -> Act -> World -> Prop} {a:Act} {w:World} {rest:List Oper} {o:Oper}
theorem wpl_pushZ (hgd:o.guard = none) (s x:Operand) (t:TypeId) (ho:o.op = .call { callee:=.builtin .append,args:=#[s,x],argTypes:=#[t,t] })
    (B:Nat) (e:TypeId) (z:Value) (size bytes:Nat) (ht:P.underlying t = some (.slice e)) (hinfo:(P.info? e).map (fun i => (i.zero,i.size,i.bytes)) = some (some z,size,bytes)) (hz1:z.cells.size = size) (hsz:0 < size)
    (v:Value) (n:Nat) (xs:List Value) (hs:a.eval s = v) (hown:w.ownsRow B e size v n xs) (sb c:Nat) (news:List Value) (hx:a.eval x = .slice (some ⟨sb,0,none⟩) 1 c) (T:TypeId) (hu:Blk w sb news.toArray T) (hl:news.length = size) (hu1:∀ u ∈ news,u.oneCell' = true)
    (hlen:n < 100000) (hby:bytes <= 1000) (hbase:B <= w.heap.size)
    (h:∀ g cap w',w'.ownsRow B e size (.slice (some ⟨g,0,none⟩) (n + 1) cap) (n + 1) (xs ++ news) -> w.grownBy w' v.ownBlock -> (v.ownBlock = some g ∨ g = w.heap.size) -> g < w'.heap.size -> wpList P ops Q rest (a.put o.dst (.slice (some ⟨g,0,none⟩) (n + 1) cap)) w') :
    wpList P ops Q (o :: rest) a w:=by
  obtain ⟨i,hi,hp⟩:=Option.map_eq_some_iff.1 hinfo
  simp only [Prod.mk.injEq] at hp
  obtain ⟨p1,p2,p3⟩:=hp
  refine wpList_append_lies w hgd s x t ho B e i z size bytes ht hi p1 p2 p3 hz1 hsz v n xs hs hown ⟨sb,0,none⟩ 1 c news hx (by omega) ?_ hu1 (by decide) (by unfold maxLen;omega) ?_ hbase w.heap.size rfl ?_
  · intro j u hj
    rw [addr_add,hu.cell];simpa using hj
  · have:=Nat.mul_le_mul (show n + 1 <= 100000 by omega) hby;omega
  · intro g cap w' h1 h2 h3 h4
    exact h g cap w' h1 h2 h3 h4
end
def ba (l:List UInt8):ByteArray:=⟨l.toArray⟩
theorem ba_list (l:List UInt8):(ba l).data.toList = l:=rfl
theorem ba_size (l:List UInt8):(ba l).size = l.length:=by simp [ba,ByteArray.size]
def wds (x:Itm) (k:Nat):List ByteArray:=x.name :: x.tag :: (x.nums.take k).map fun n => ba (Lib.itoa n)
theorem wds_succ {x:Itm} {k:Nat} {n:Int} (h:x.nums[k]? = some n):wds x (k + 1) = wds x k ++ [ba (Lib.itoa n)]:=by
  unfold wds;rw [List.take_add_one,h];simp
theorem wds_len {x:Itm} {k:Nat} (h:k <= x.nums.length):(wds x k).length = k + 2:=by
  simp [wds];omega
theorem wds_all (x:Itm):Lib.join ((wds x x.nums.length).map (·.data.toList)) [32] = lineS x:=by
  unfold wds lineS
  rw [List.take_length,List.map_cons,List.map_cons,List.map_map];rfl
theorem join_len_le (c:UInt8) (m:Nat):∀ (x:List UInt8) (r:List (List UInt8)),(∀ w ∈ x :: r,w.length <= m) -> (Lib.join (x :: r) [c]).length <= (m + 1) * (r.length + 1)
  | x,[],h => by
    rw [Lib.join_one]
    have:=h x (by simp)
    simp;omega
  | x,y :: r,h => by
    rw [join_two]
    have h1:=join_len_le c m y r (fun w hw => h w (by simp at hw ⊢;exact Or.inr hw))
    have h2:=h x (by simp)
    simp only [List.length_append,List.length_cons] at h1 ⊢
    rw [Nat.mul_add (m + 1) (r.length + 1) 1];omega
theorem line_len {x:Itm} {d:Int} (h:rightB x d = true):(lineS x).length <= 110:=by
  obtain ⟨hd,hl,hn,ht,hz⟩:=right_parts h
  have:=join_len_le 32 10 x.name.data.toList (x.tag.data.toList :: x.nums.map Lib.itoa) (fun w hw => by
    rcases List.mem_cons.1 hw with rfl | hw
    · have:=nameB_size hn;rw [Lib.size_eq] at this;exact this
    · rcases List.mem_cons.1 hw with rfl | hw
      · have:=tagB_size ht;rw [Lib.size_eq] at this;exact this
      · obtain ⟨n,hn,rfl⟩:=List.mem_map.1 hw
        have:=List.all_eq_true.1 hz n hn
        have hb:-1000 <= n ∧ n <= 1000:=by simpa [numB] using this
        have:=itoa_len n hb.1 hb.2
        omega)
  unfold lineS
  simp only [List.length_cons,List.length_map] at this
  have h8:x.nums.length <= 8:=by omega
  have:(10 + 1) * (x.nums.length + 1 + 1) <= (10 + 1) * 10:=Nat.mul_le_mul_left _ (by omega)
  omega
set_option maxHeartbeats 1000000 in
theorem line_any (x:ItD) (d:Int) (w:World) (h:x.Ok w) (hr:rightB x.x d = true) (hL:LB w):Calls Tryz.prog 130 #[.agg x.arr] w fun e w' => e = .returned (.string (ba (lineS x.x))) ∧ Below w.heap.size w w':=by
  obtain ⟨h1,h2,h3,h4,_⟩:=h
  have hlen:=line_len hr
  obtain ⟨hd,hl,_,_,hz⟩:=right_parts hr
  unfold ItD.arr ItD.val
  obtain ⟨⟨nm,tg,zs⟩,a,c⟩:=x
  simp only at h1 h2 h3 h4 hl hz hlen ⊢
  have h8:zs.length <= 8:=by omega
  have HJ:Hid (Lib.join ((wds ⟨nm,tg,zs⟩ zs.length).map (·.data.toList)) [32] = lineS ⟨nm,tg,zs⟩):=wds_all _
  have HL:Hid ((lineS ⟨nm,tg,zs⟩).length <= 110):=hlen
  clear hlen hl
  go_enter Tryz.func130,Tryz.ntmps130
  go_wp2_with fail
  have g2:=(below_alloc w (.cells #[.string nm,.string tg,.slice a zs.length c] 45)).trans ((below_alloc (w.alloc (.cells #[.string nm,.string tg,.slice a zs.length c] 45)) (.cells #[.string nm,.string tg] 9)).mono (by simp))
  have r2:World.ownsRow ((w.alloc (.cells #[.string nm,.string tg,.slice a zs.length c] 45)).alloc (.cells #[.string nm,.string tg] 9)) w.heap.size 9 1 (.slice (some ⟨w.heap.size + 1,0,none⟩) 2 2) 2 ((wds ⟨nm,tg,zs⟩ 0).map Value.string):=row_fresh (xs:=[.string nm,.string tg]) (Blk.new' _ _ _ (by simp)) (by omega) (by simp [maxLen]) rfl
  generalize (w.alloc (.cells #[.string nm,.string tg,.slice a zs.length c] 45)).alloc (.cells #[.string nm,.string tg] 9) = w2 at *
  go_loopw [3,14] (fun v i wr => ∃ k g cap:Nat,k <= zs.length ∧ i = .int .i64 k ∧ v = .slice (some ⟨g,0,none⟩) (k + 2) cap ∧ wr.ownsRow w.heap.size 9 1 v (k + 2) ((wds ⟨nm,tg,zs⟩ k).map Value.string) ∧ Below w.heap.size w wr) (fun _ i _ => zs.length - (intOf i).toNat)
  case atStart => exact ⟨0,w.heap.size + 1,2,by omega,rfl,rfl,r2,g2⟩
  case round =>
    obtain ⟨k,g,cap,hk,rfl,rfl,hrow,hbel⟩:=hrel
    clear r2 g2
    by_cases hlt:k < zs.length
    · obtain ⟨g',o',rfl,hc⟩:=h1 k zs[k] (List.getElem?_eq_getElem hlt)
      have hg':g' < w.heap.size:=World.block_lt_of_cell? w _ hc
      have hc':=cell_below hbel hc
      have hlt':(k:Int) < (zs.length:Int):=by omega
      have hzk:numB zs[k] = true:=List.all_eq_true.1 hz _ (List.getElem_mem hlt)
      have hb:-1000 <= zs[k] ∧ zs[k] <= 1000:=by simpa [numB] using hzk
      have HW:Hid (wds ⟨nm,tg,zs⟩ (k + 1) = wds ⟨nm,tg,zs⟩ k ++ [ba (Lib.itoa zs[k])]):=wds_succ (List.getElem?_eq_getElem hlt)
      have HN:Hid (((wds ⟨nm,tg,zs⟩ k).map Value.string).length = k + 2):=by unfold Hid;rw [List.length_map,wds_len (by simpa using hk)]
      clear hzk
      obtain ⟨hb0,hb1⟩:=hb
      generalize zs[k] = n at *
      go_wp2_with fail
      refine (itoa_any n _ (by omega) (by omega) (hL.below hbel)).mono ?_
      rintro e w3 ⟨rfl,g3⟩
      have hrow3:=ownsRow_below hrow g3
      have hbel3:=hbel.trans (g3.mono hbel.size)
      have hsz3:=hbel3.size
      clear hrow hc' hc g3
      go_wp2_with (refine wpl_pushZ rfl _ _ 108 rfl w.heap.size 9 (.string ByteArray.empty) 1 16 Tryz.underlying108 infoStr rfl (by decide) _ _ _ rfl (ownsRow_below hrow3 (below_alloc _ _)) _ _ [.string (ba (Lib.itoa n))] rfl 9 (Blk.new w3 _ 9) rfl (fun u hu => by rw [List.mem_singleton] at hu;subst hu;rfl) (by omega) (by decide) (by simp;omega) ?_;intro g4 cap4 w4 hrow4 hgrow4 hat4 hlt4)
      refine ⟨⟨k + 1,g4,cap4,by omega,by go_num,by rw [Nat.add_right_comm],?_,row_grownBelow (hbel3.alloc (by omega) _) (ownsRow_below hrow3 (below_alloc _ _)) hgrow4 (by simp;omega)⟩,by simp [intOf];omega⟩
      rw [HW.out,Nat.add_right_comm k 1 2,List.map_append]
      exact hrow4
    · have hk':k = zs.length:=by omega
      subst hk'
      have hsz:=hbel.size
      obtain ⟨_,q1,q2,q3⟩:=row_cap hrow
      have hl':Hid ((wds ⟨nm,tg,zs⟩ zs.length).length = zs.length + 2):=wds_len (Nat.le_refl _)
      have HR:Hid (∀ (j:Nat) x,(wds ⟨nm,tg,zs⟩ zs.length)[j]? = some x -> wr.cell? ⟨g,0 + j,none⟩ = some (.string x)):=fun j x hj => by
        rw [Nat.zero_add];exact row_cell hrow j _ (by rw [List.getElem?_map,hj];rfl)
      clear hrow
      go_wp2_with fail
      have jc:=join_any g 0 cap (wds ⟨nm,tg,zs⟩ zs.length) wr HR.out q3 (by rw [hl'.out];omega) (by rw [hl'.out];exact q1) (by rw [HJ.out];have:=HL.out;omega)
      rw [hl'.out,HJ.out] at jc
      refine jc.mono ?_
      rintro e w5 ⟨rfl,g5⟩
      go_wp2_with fail
      go_ret
      exact ⟨rfl,hbel.trans (g5.mono hsz)⟩
end Go.Proofs.YtjmpjfikcgccdaaGreatDoor.It
namespace Go.Proofs.YtjmpjfikcgccdaaGreatDoor.It
open Go.RowKit
theorem mixed:Tryz.prog.follows .mixedOrders = true:=by kernel_rfl
theorem zeroIt:∀ w,(zeroValue 45).run Tryz.prog w = .ok (.agg #[.string ByteArray.empty,.string ByteArray.empty,.slice none 0 0]) w:=Tryz.zeroValue45
def Its (w:World) (a:Option Addr) (ds:List ItD):Prop:=∀ (i:Nat) d,ds[i]? = some d -> ∃ g o,a = some ⟨g,o,none⟩ ∧ w.cell? ⟨g,o + i * 3,none⟩ = some (.string d.x.name) ∧ w.cell? ⟨g,o + i * 3 + 1,none⟩ = some (.string d.x.tag) ∧ w.cell? ⟨g,o + i * 3 + 2,none⟩ = some d.val ∧ d.Ok w
theorem Its.below {w w':World} {a:Option Addr} {ds:List ItD} (h:Its w a ds) (hb:Below w.heap.size w w'):Its w' a ds:=by
  intro i d hd
  obtain ⟨g,o,h1,h2,h3,h4,h5⟩:=h i d hd
  exact ⟨g,o,h1,cell_below hb h2,cell_below hb h3,cell_below hb h4,h5.below hb⟩
def riseB (s t:ByteArray):Bool:=Op.bytesLess s.toList t.toList
def okAt (d:Int) (xs:List Itm):Nat -> Bool
  | 0 => match xs[0]? with
    | some x => rightB x d
    | none => true
  | i + 1 => match xs[i]?,xs[i + 1]? with
    | some y,some x => rightB x d && riseB y.name x.name
    | _,_ => true
def okB (d:Int) (xs:List Itm):Bool:=dimB d && decide (xs.length <= 60) && (List.range xs.length).all (okAt d xs)
theorem okB_parts {d:Int} {xs:List Itm} (h:okB d xs = true):(1 <= d ∧ d <= 8) ∧ xs.length <= 60 ∧ ∀ i,i < xs.length -> okAt d xs i = true:=by
  simp only [okB,dimB,Bool.and_eq_true,decide_eq_true_eq,List.all_eq_true,List.mem_range] at h
  exact ⟨h.1.1,h.1.2,h.2⟩
theorem okAt_right {d:Int} {xs:List Itm} {i:Nat} {x:Itm} (hx:xs[i]? = some x) (h:okAt d xs i = true):rightB x d = true:=by
  cases i with
  | zero => simpa [okAt,hx] using h
  | succ i =>
    have hlt:=(List.getElem?_eq_some_iff.1 hx).1
    have hy:xs[i]? = some xs[i]:=List.getElem?_eq_getElem (by omega)
    simp only [okAt,hy,hx,Bool.and_eq_true] at h
    exact h.1
theorem okB_right {d:Int} {xs:List Itm} (h:okB d xs = true):∀ x ∈ xs,rightB x d = true:=by
  obtain ⟨_,_,h3⟩:=okB_parts h
  intro x hx
  obtain ⟨i,hi⟩:=List.getElem?_of_mem hx
  exact okAt_right hi (h3 i (List.getElem?_eq_some_iff.1 hi).1)
def errA:Value:=.iface 34 (.int .i64 1)
def xsOf (ds:List ItD):List Itm:=ds.map ItD.x
def printV (d:Int) (xs:List Itm):Value:=if okB d xs = true then .tuple #[.string (ba (textS d xs)),.nilIface] else .tuple #[.string ByteArray.empty,errA]
theorem printV_no {d:Int} {xs:List Itm} (h:okB d xs = false):printV d xs = .tuple #[.string ByteArray.empty,.iface 34 (.int .i64 1)]:=by
  unfold printV;rw [h];rfl
theorem okB_no {d:Int} {xs:List Itm} {k:Nat} (hk:k < xs.length) (h:okAt d xs k = false):okB d xs = false:=by
  rw [Bool.eq_false_iff]
  intro e
  rw [(okB_parts e).2.2 k hk] at h;cases h
theorem lines_len:∀ (L:List (List UInt8)),(∀ a ∈ L,a.length <= 110) -> (linesS L).length <= 111 * L.length
  | [],_ => by simp [linesS]
  | a :: L,h => by
    have h1:=h a (by simp)
    have h2:=lines_len L (fun b hb => h b (by simp [hb]))
    rw [lines_cons];simp;omega
theorem text_len {d:Int} (hd:1 <= d ∧ d <= 8) {xs:List Itm} (h:∀ x ∈ xs,rightB x d = true) (k:Nat) (hk:k <= 60):(linesS (headS d :: (xs.take k).map lineS)).length <= 111 * 61:=by
  have:=lines_len (headS d :: (xs.take k).map lineS) (fun a ha => by
    rcases List.mem_cons.1 ha with rfl | ha
    · have:=itoa_len d (by omega) (by omega)
      simp [headS];omega
    · obtain ⟨x,hx,rfl⟩:=List.mem_map.1 ha
      exact line_len (h x (List.mem_of_mem_take hx)))
  simp only [List.length_cons,List.length_map,List.length_take] at this
  omega
theorem lines_snoc (L:List (List UInt8)) (b:List UInt8):linesS (L ++ [b]) = linesS L ++ (b ++ [10]):=by simp [linesS]
theorem text_succ {d:Int} {xs:List Itm} {k:Nat} {x:Itm} (h:xs[k]? = some x):linesS (headS d :: (xs.take (k + 1)).map lineS) = linesS (headS d :: (xs.take k).map lineS) ++ (ba (lineS x) ++ ByteArray.mk #[10]).data.toList:=by
  rw [List.take_add_one,h,Option.toList_some,List.map_append,List.map_cons,List.map_nil,<- List.cons_append,lines_snoc]
  congr 1
set_option maxRecDepth 100000 in
set_option maxHeartbeats 4000000 in
theorem print_any (d:Int) (a:Option Addr) (c:Nat) (ds:List ItD) (w:World) (h:Its w a ds) (hl:ds.length <= maxLen) (hL:LB w) :
    Calls Tryz.prog 66 #[.int .i64 d,.slice a ds.length c] w fun e w' => e = .returned (printV d (xsOf ds)) ∧ Below w.heap.size w w':=by
  unfold maxLen at hl
  have hxl:(xsOf ds).length = ds.length:=by simp [xsOf]
  by_cases c1:dimB d = true
  rotate_left
  · have c1':dimB d = false:=by simpa using c1
    rw [printV_no (by unfold okB;rw [c1'];rfl)]
    go_enter Tryz.func66,Tryz.ntmps66
    go_wp2_with (go_at_call 116;refine (isDim_any _ _).mono ?_;rintro e w' ⟨rfl,rfl⟩;rw [c1'])
    go_ret2
    exact ⟨rfl,Below.refl _ _⟩
  by_cases c2:ds.length <= 60
  rotate_left
  · have c2':(60:Int) < (ds.length:Int):=by omega
    rw [printV_no (by unfold okB;rw [c1,hxl];simp [c2])]
    go_enter Tryz.func66,Tryz.ntmps66
    go_wp2_with (go_at_call 116;refine (isDim_any _ _).mono ?_;rintro e w' ⟨rfl,rfl⟩;rw [c1])
    go_ret2
    exact ⟨rfl,Below.refl _ _⟩
  have c2':¬ ((60:Int) < (ds.length:Int)):=by omega
  obtain ⟨R,hR⟩:∃ R,Hid (printV d (xsOf ds) = R):=⟨_,rfl⟩
  rw [hR.out]
  have HXL:Hid ((xsOf ds).length = ds.length):=hxl
  clear hxl
  go_enter Tryz.func66,Tryz.ntmps66
  go_wp2_with (go_at_call 116;refine (isDim_any _ _).mono ?_;rintro e w' ⟨rfl,hw'⟩;obtain rfl:w = w':=hw'.symm;clear hw';rw [c1])
  go_loopw [22] (fun i wr => ∃ k:Nat,k <= ds.length ∧ i = .int .i64 k ∧ (∀ j,j < k -> okAt d (xsOf ds) j = true) ∧ Below w.heap.size w wr) (fun i _ => ds.length - (intOf i).toNat)
  case atStart => exact ⟨0,by omega,rfl,fun j hj => absurd hj (Nat.not_lt_zero _),Below.refl _ _⟩
  case round =>
    obtain ⟨k,hk,rfl,hok,hbel⟩:=hrel
    have HOK:Hid (∀ j,j < k -> okAt d (xsOf ds) j = true):=hok
    clear hok
    by_cases hlt:k < ds.length
    rotate_left
    · have hk':k = ds.length:=by omega
      subst hk'
      have hok:okB d (xsOf ds) = true:=by
        simp only [okB,Bool.and_eq_true,decide_eq_true_eq,List.all_eq_true,List.mem_range]
        exact ⟨⟨c1,by rw [HXL.out];exact c2⟩,fun i hi => HOK.out i (by rw [<- HXL.out];exact hi)⟩
      have hRv:=hR.out
      unfold printV at hRv
      rw [if_pos hok] at hRv
      have HRV:Hid (R = _):=hRv.symm
      have HR:Hid (∀ x ∈ xsOf ds,rightB x d = true):=okB_right hok
      have hd:=(okB_parts hok).1
      clear hRv hok HOK
      go_wp2_with fail
      have b0:Bd (wr.alloc (.cells #[.pointer none,.slice none 0 0] 182)) wr.heap.size []:=Lib.fresh_isBuilder 182 5 wr
      have gA:=below_alloc wr (.cells #[.pointer none,.slice none 0 0] 182)
      generalize wr.alloc (.cells #[.pointer none,.slice none 0 0] 182) = wA at *
      have hbelA:=hbel.trans (gA.mono hbel.size)
      refine (itoa_any d _ (by omega) (by omega) (hL.below hbelA)).mono ?_
      rintro e w3 ⟨rfl,g3⟩
      have b3:=b0.below g3
      have hbel3:=hbelA.trans (g3.mono hbelA.size)
      have hil:=itoa_len d (by omega) (by omega)
      go_wp2_with fail
      have ew:Hid ([] ++ (ByteArray.mk #[100,105,109,32] ++ ByteArray.mk (Lib.itoa d).toArray ++ ByteArray.mk #[10]).data.toList = linesS (headS d :: ((xsOf ds).take 0).map lineS)):=by
        unfold Hid;simp [linesS,headS]
      refine (write_any wr.heap.size [] _ w3 b3 (by simp [ByteArray.size];omega)).mono ?_
      rintro e w4 ⟨rfl,b4,g4⟩
      rw [ew.out] at b4
      have hbel4:=hbel3.trans (g4.mono hbel.size)
      have hB0:w.heap.size <= wr.heap.size:=hbel.size
      clear ew b3 b0 hbelA hbel3 g4 gA g3 hbel
      generalize wr.heap.size = B0 at *
      go_wp2_with fail
      go_loopw [55] (fun i wx => ∃ k:Nat,k <= ds.length ∧ i = .int .i64 k ∧ Bd wx B0 (linesS (headS d :: ((xsOf ds).take k).map lineS)) ∧ Below w.heap.size w wx) (fun i _ => ds.length - (intOf i).toNat)
      case atStart => exact ⟨0,by omega,rfl,b4,hbel4⟩
      case round =>
        obtain ⟨k,hk,rfl,bx,hbx⟩:=hrel
        clear b4 hbel4
        by_cases hlt:k < ds.length
        · have hlt':(k:Int) < (ds.length:Int):=by omega
          have hr:=h.below hbx
          obtain ⟨g,o,rfl,q1,q2,q3,q4⟩:=hr k ds[k] (List.getElem?_eq_getElem hlt)
          have hxk:Hid ((xsOf ds)[k]? = some ds[k].x):=by unfold Hid xsOf;rw [List.getElem?_map,List.getElem?_eq_getElem hlt];rfl
          generalize ds[k] = x at *
          obtain ⟨⟨nm,tg,zs⟩,xa,xc⟩:=x
          simp only [ItD.val] at q1 q2 q3 hxk
          have hrx:=HR.out _ (List.mem_of_getElem? hxk.out)
          go_wp2_with fail
          have gB:=below_alloc wr (.cells #[.string nm,.string tg,.slice xa zs.length xc] 45)
          have bB:=bx.below gB
          have hbB:=hbx.trans (gB.mono hbx.size)
          have q4B:=q4.below gB
          clear bx q1 q2 q3 q4 hr gB
          generalize wr.alloc (.cells #[.string nm,.string tg,.slice xa zs.length xc] 45) = wB at *
          refine (line_any ⟨⟨nm,tg,zs⟩,xa,xc⟩ d wB q4B hrx (hL.below hbB)).mono ?_
          rintro e w5 ⟨rfl,g5⟩
          have b5:=bB.below g5
          have hb5:=hbB.trans (g5.mono hbB.size)
          have hll:=line_len hrx
          have hbs:=ba_size (lineS ⟨nm,tg,zs⟩)
          clear bB g5 hbx
          go_wp2_with fail
          have hT:=text_len hd HR.out k (by omega)
          refine (write_any B0 _ _ w5 b5 (by have h10:(ByteArray.mk #[10]).size = 1:=rfl;rw [ByteArray.size_append,hbs,h10];omega)).mono ?_
          rintro e w6 ⟨rfl,b6,g6⟩
          rw [<- text_succ hxk.out] at b6
          have hb6:=hb5.trans (g6.mono hB0)
          clear b5 g6 hT hbs hll
          go_wp2_with fail
          exact ⟨⟨k + 1,by omega,by go_num,b6,hb6⟩,by simp [intOf];omega⟩
        · have hk':k = ds.length:=by omega
          subst hk'
          rw [<- HXL.out,List.take_length] at bx
          go_wp2_with fail
          refine (string_any B0 _ wr bx).mono ?_
          rintro e w7 ⟨rfl,g7⟩
          go_wp2_with fail
          rw [HRV.out]
          go_ret2
          exact ⟨rfl,hbx.trans (g7.mono hB0)⟩
    have hlt':(k:Int) < (ds.length:Int):=by omega
    have hr:=h.below hbel
    obtain ⟨g,o,rfl,q1,q2,q3,q4⟩:=hr k ds[k] (List.getElem?_eq_getElem hlt)
    have hxk:Hid ((xsOf ds)[k]? = some ds[k].x):=by unfold Hid xsOf;rw [List.getElem?_map,List.getElem?_eq_getElem hlt];rfl
    generalize ds[k] = x at *
    obtain ⟨⟨nm,tg,zs⟩,xa,xc⟩:=x
    simp only [ItD.val] at q1 q2 q3 hxk
    go_wp2_with fail
    have jA:Blk (wr.alloc (.cells #[.string nm,.string tg,.slice xa zs.length xc] 45)) wr.heap.size #[.string nm,.string tg,.slice xa zs.length xc] 45:=Blk.new _ _ _
    have gA:=below_alloc wr (.cells #[.string nm,.string tg,.slice xa zs.length xc] 45)
    generalize wr.alloc (.cells #[.string nm,.string tg,.slice xa zs.length xc] 45) = wA at *
    have kA0:wA.cell? ⟨wr.heap.size,0,none⟩ = some (.string nm):=jA.cell 0
    have kA1:wA.cell? ⟨wr.heap.size,1,none⟩ = some (.string tg):=jA.cell 1
    have kA2:wA.cell? ⟨wr.heap.size,2,none⟩ = some (.slice xa zs.length xc):=jA.cell 2
    have q4A:=q4.below gA
    have hbelA:=hbel.trans (gA.mono hbel.size)
    have hrA:=hr.below gA
    clear jA q1 q2 q3 q4 hr
    by_cases c3:rightB ⟨nm,tg,zs⟩ d = true
    rotate_left
    · have c3':rightB ⟨nm,tg,zs⟩ d = false:=by simpa using c3
      have hno:okB d (xsOf ds) = false:=okB_no (k:=k) (by rw [HXL.out];exact hlt) (by
        cases k with
        | zero => simp only [okAt,hxk.out,c3']
        | succ m =>
          have hy:(xsOf ds)[m]? = some ((xsOf ds)[m]'(by rw [HXL.out];omega)):=List.getElem?_eq_getElem _
          simp only [okAt,hy,hxk.out,c3',Bool.false_and])
      have hRv:=hR.out
      rw [printV_no hno] at hRv
      have HRV:Hid (R = _):=hRv.symm
      clear hRv hno
      refine regS_in 19 (fun w' => Below wA.heap.size wA w') mixed rfl ?_
      have hS:Below wA.heap.size wA wA.drew:=below_drawn wA 1
      refine regS_take 0 27 (.agg #[.string nm,.string tg,.slice xa zs.length xc]) rfl rfl (by kernel_rfl) (fun _ _ _ h => h) rfl (fun w' hS => by have c0:=cell_below hS kA0;have c1:=cell_below hS kA1;have c2:=cell_below hS kA2;go_simp) hS ?_
      refine regS_take 1 28 (.int .i64 d) rfl rfl (by kernel_rfl) (fun _ _ _ h => h) rfl (fun w' hS => by go_simp) hS ?_
      simp only [Act.put,List.setIfInBounds_toArray,List.set_cons_succ,List.set_cons_zero]
      refine regS_one 2 rfl (by kernel_rfl) rfl (fun K hK' => ?_)
      go_wp2_with fail
      refine (right_any ⟨⟨nm,tg,zs⟩,xa,xc⟩ d _ (q4A.below hS)).mono ?_
      rintro e' w2 ⟨rfl,hS2⟩
      have hS:=hS.trans (hS2.mono hS.size)
      refine hK' _ _ hS ?_
      clear hK' K
      rw [c3']
      refine regS_take 3 30 (.bool true) rfl rfl (by kernel_rfl) (fun _ _ _ h => h) rfl (fun w' hS => by go_simp) hS ?_
      refine regS_take 4 31 (.bool true) rfl rfl (by kernel_rfl) (fun _ _ _ h => h) rfl (fun w' hS => by go_simp) hS ?_
      refine regS_skip 5 32 rfl rfl (by kernel_rfl) (fun _ _ _ h => h) (by kernel_rfl) hS ?_
      refine regS_skip 6 33 rfl rfl (by kernel_rfl) (fun _ _ _ h => h) (by kernel_rfl) hS ?_
      refine regS_skip 7 34 rfl rfl (by kernel_rfl) (fun _ _ _ h => h) (by kernel_rfl) hS ?_
      refine regS_skip 8 35 rfl rfl (by kernel_rfl) (fun _ _ _ h => h) (by kernel_rfl) hS ?_
      refine regS_skip 9 36 rfl rfl (by kernel_rfl) (fun _ _ _ h => h) (by kernel_rfl) hS ?_
      refine regS_skip 10 37 rfl rfl (by kernel_rfl) (fun _ _ _ h => h) (by kernel_rfl) hS ?_
      refine regS_skip 11 38 rfl rfl (by kernel_rfl) (fun _ _ _ h => h) (by kernel_rfl) hS ?_
      refine regS_skip 12 39 rfl rfl (by kernel_rfl) (fun _ _ _ h => h) (by kernel_rfl) hS ?_
      refine regS_skip 13 40 rfl rfl (by kernel_rfl) (fun _ _ _ h => h) (by kernel_rfl) hS ?_
      refine regS_skip 14 41 rfl rfl (by kernel_rfl) (fun _ _ _ h => h) (by kernel_rfl) hS ?_
      refine regS_skip 15 42 rfl rfl (by kernel_rfl) (fun _ _ _ h => h) (by kernel_rfl) hS ?_
      refine regS_skip 16 43 rfl rfl (by kernel_rfl) (fun _ _ _ h => h) (by kernel_rfl) hS ?_
      refine regS_skip 17 44 rfl rfl (by kernel_rfl) (fun _ _ _ h => h) (by kernel_rfl) hS ?_
      refine regS_take 18 45 (.bool true) rfl rfl (by kernel_rfl) (fun _ _ _ h => h) rfl (fun w' hS => by go_simp) hS ?_
      simp only [Act.put,List.setIfInBounds_toArray,List.set_cons_succ,List.set_cons_zero]
      refine regS_end (by kernel_rfl) ?_
      go_wp2_with fail
      rw [HRV.out]
      go_ret2
      exact ⟨rfl,hbelA.trans (hS.mono hbelA.size)⟩
    cases k with
    | zero =>
      refine regS_in 19 (fun w' => Below wA.heap.size wA w') mixed rfl ?_
      have hS:Below wA.heap.size wA wA.drew:=below_drawn wA 1
      refine regS_take 0 27 (.agg #[.string nm,.string tg,.slice xa zs.length xc]) rfl rfl (by kernel_rfl) (fun _ _ _ h => h) rfl (fun w' hS => by have c0:=cell_below hS kA0;have c1:=cell_below hS kA1;have c2:=cell_below hS kA2;go_simp) hS ?_
      refine regS_take 1 28 (.int .i64 d) rfl rfl (by kernel_rfl) (fun _ _ _ h => h) rfl (fun w' hS => by go_simp) hS ?_
      simp only [Act.put,List.setIfInBounds_toArray,List.set_cons_succ,List.set_cons_zero]
      refine regS_one 2 rfl (by kernel_rfl) rfl (fun K hK' => ?_)
      go_wp2_with fail
      refine (right_any ⟨⟨nm,tg,zs⟩,xa,xc⟩ d _ (q4A.below hS)).mono ?_
      rintro e' w2 ⟨rfl,hS2⟩
      have hS:=hS.trans (hS2.mono hS.size)
      refine hK' _ _ hS ?_
      clear hK' K
      rw [c3]
      refine regS_take 3 30 (.bool false) rfl rfl (by kernel_rfl) (fun _ _ _ h => h) rfl (fun w' hS => by go_simp) hS ?_
      refine regS_take 4 31 (.bool false) rfl rfl (by kernel_rfl) (fun _ _ _ h => h) rfl (fun w' hS => by go_simp) hS ?_
      refine regS_take 5 32 (.int .i64 0) rfl rfl (by kernel_rfl) (fun _ _ _ h => h) (by kernel_rfl) (fun w' hS => by go_simp) hS ?_
      refine regS_take 6 33 (.bool false) rfl rfl (by kernel_rfl) (fun _ _ _ h => h) (by kernel_rfl) (fun w' hS => by go_simp) hS ?_
      refine regS_take 7 34 (.bool false) rfl rfl (by kernel_rfl) (fun _ _ _ h => h) (by kernel_rfl) (fun w' hS => by go_simp) hS ?_
      refine regS_skip 8 35 rfl rfl (by kernel_rfl) (fun _ _ _ h => h) (by kernel_rfl) hS ?_
      refine regS_skip 9 36 rfl rfl (by kernel_rfl) (fun _ _ _ h => h) (by kernel_rfl) hS ?_
      refine regS_skip 10 37 rfl rfl (by kernel_rfl) (fun _ _ _ h => h) (by kernel_rfl) hS ?_
      refine regS_skip 11 38 rfl rfl (by kernel_rfl) (fun _ _ _ h => h) (by kernel_rfl) hS ?_
      refine regS_skip 12 39 rfl rfl (by kernel_rfl) (fun _ _ _ h => h) (by kernel_rfl) hS ?_
      refine regS_skip 13 40 rfl rfl (by kernel_rfl) (fun _ _ _ h => h) (by kernel_rfl) hS ?_
      refine regS_skip 14 41 rfl rfl (by kernel_rfl) (fun _ _ _ h => h) (by kernel_rfl) hS ?_
      refine regS_skip 15 42 rfl rfl (by kernel_rfl) (fun _ _ _ h => h) (by kernel_rfl) hS ?_
      refine regS_skip 16 43 rfl rfl (by kernel_rfl) (fun _ _ _ h => h) (by kernel_rfl) hS ?_
      refine regS_take 17 44 (.bool false) rfl rfl (by kernel_rfl) (fun _ _ _ h => h) (by kernel_rfl) (fun w' hS => by go_simp) hS ?_
      refine regS_take 18 45 (.bool false) rfl rfl (by kernel_rfl) (fun _ _ _ h => h) rfl (fun w' hS => by go_simp) hS ?_
      simp only [Act.put,List.setIfInBounds_toArray,List.set_cons_succ,List.set_cons_zero]
      refine regS_end (by kernel_rfl) ?_
      go_wp2_with fail
      refine ⟨⟨1,by omega,rfl,fun j hj => ?_,hbelA.trans (hS.mono hbelA.size)⟩,by simp [intOf];omega⟩
      obtain rfl:j = 0:=by omega
      simp only [okAt,hxk.out,c3]
    | succ m =>
      obtain ⟨g',o',hgo,p1A,_⟩:=hrA m ds[m] (List.getElem?_eq_getElem (by omega))
      injection hgo with hgo
      injection hgo with e1 e2
      subst e1 e2
      have hxm:Hid ((xsOf ds)[m]? = some ds[m].x):=by unfold Hid xsOf;rw [List.getElem?_map,List.getElem?_eq_getElem (by omega)];rfl
      generalize ds[m] = y at *
      generalize hpn:y.x.name = pn at *
      have HPN:Hid (y.x.name = pn):=hpn
      clear hpn
      have hm0:(0:Int) <= (m:Int):=by omega
      have hm1:(m:Int) <= 60:=by omega
      have hm2:(m:Int) < (ds.length:Int):=by omega
      refine regS_in 19 (fun w' => Below wA.heap.size wA w') mixed rfl ?_
      have hS:Below wA.heap.size wA wA.drew:=below_drawn wA 1
      refine regS_take 0 27 (.agg #[.string nm,.string tg,.slice xa zs.length xc]) rfl rfl (by kernel_rfl) (fun _ _ _ h => h) rfl (fun w' hS => by have c0:=cell_below hS kA0;have c1:=cell_below hS kA1;have c2:=cell_below hS kA2;go_simp) hS ?_
      refine regS_take 1 28 (.int .i64 d) rfl rfl (by kernel_rfl) (fun _ _ _ h => h) rfl (fun w' hS => by go_simp) hS ?_
      simp only [Act.put,List.setIfInBounds_toArray,List.set_cons_succ,List.set_cons_zero]
      refine regS_one 2 rfl (by kernel_rfl) rfl (fun K hK' => ?_)
      go_wp2_with fail
      refine (right_any ⟨⟨nm,tg,zs⟩,xa,xc⟩ d _ (q4A.below hS)).mono ?_
      rintro e' w2 ⟨rfl,hS2⟩
      have hS:=hS.trans (hS2.mono hS.size)
      refine hK' _ _ hS ?_
      clear hK' K
      rw [c3]
      refine regS_take 3 30 (.bool false) rfl rfl (by kernel_rfl) (fun _ _ _ h => h) rfl (fun w' hS => by go_simp) hS ?_
      refine regS_take 4 31 (.bool false) rfl rfl (by kernel_rfl) (fun _ _ _ h => h) rfl (fun w' hS => by go_simp) hS ?_
      refine regS_take 5 32 (.int .i64 ((m + 1:Nat):Int)) rfl rfl (by kernel_rfl) (fun _ _ _ h => h) (by kernel_rfl) (fun w' hS => by go_simp) hS ?_
      refine regS_take 6 33 (.bool true) rfl rfl (by kernel_rfl) (fun _ _ _ h => h) (by kernel_rfl) (fun w' hS => by go_simp) hS ?_
      refine regS_take 7 34 (.bool true) rfl rfl (by kernel_rfl) (fun _ _ _ h => h) (by kernel_rfl) (fun w' hS => by go_simp) hS ?_
      refine regS_take 8 35 (.slice (some ⟨g,o,none⟩) ds.length c) rfl rfl (by kernel_rfl) (fun _ _ _ h => h) (by kernel_rfl) (fun w' hS => by go_simp) hS ?_
      refine regS_take 9 36 (.int .i64 ((m + 1:Nat):Int)) rfl rfl (by kernel_rfl) (fun _ _ _ h => h) (by kernel_rfl) (fun w' hS => by go_simp) hS ?_
      refine regS_take 10 37 (.int .i64 (m:Int)) rfl rfl (by kernel_rfl) (fun _ _ _ h => h) (by kernel_rfl) (fun w' hS => by go_simp;simp [IntKind.wrap,IntKind.bits,IntKind.signed];omega) hS ?_
      refine regS_take 11 38 (.pointer (some ⟨g,o + m * 3,none⟩)) rfl rfl (by kernel_rfl) (fun _ _ _ h => h) (by kernel_rfl) (fun w' hS => by go_simp) hS ?_
      refine regS_take 12 39 (.pointer (some ⟨g,o + m * 3,none⟩)) rfl rfl (by kernel_rfl) (fun _ _ _ h => h) (by kernel_rfl) (fun w' hS => by go_simp) hS ?_
      refine regS_take 13 40 (.string pn) rfl rfl (by kernel_rfl) (fun _ _ _ h => h) (by kernel_rfl) (fun w' hS => by have c0:=cell_below hS p1A;go_simp) hS ?_
      refine regS_take 14 41 (.pointer (some ⟨wr.heap.size,0,none⟩)) rfl rfl (by kernel_rfl) (fun _ _ _ h => h) (by kernel_rfl) (fun w' hS => by go_simp) hS ?_
      refine regS_take 15 42 (.string nm) rfl rfl (by kernel_rfl) (fun _ _ _ h => h) (by kernel_rfl) (fun w' hS => by have c0:=cell_below hS kA0;go_simp) hS ?_
      by_cases c4:riseB pn nm = true
      · have c4':Op.bytesLess pn.toList nm.toList = true:=c4
        refine regS_take 16 43 (.bool false) rfl rfl (by kernel_rfl) (fun _ _ _ h => h) (by kernel_rfl) (fun w' hS => by go_simp) hS ?_
        refine regS_take 17 44 (.bool false) rfl rfl (by kernel_rfl) (fun _ _ _ h => h) (by kernel_rfl) (fun w' hS => by go_simp) hS ?_
        refine regS_take 18 45 (.bool false) rfl rfl (by kernel_rfl) (fun _ _ _ h => h) rfl (fun w' hS => by go_simp) hS ?_
        simp only [Act.put,List.setIfInBounds_toArray,List.set_cons_succ,List.set_cons_zero]
        refine regS_end (by kernel_rfl) ?_
        go_wp2_with fail
        refine ⟨⟨m + 2,by omega,by go_num,fun j hj => ?_,hbelA.trans (hS.mono hbelA.size)⟩,by simp [intOf];omega⟩
        by_cases ej:j = m + 1
        · subst ej
          simp only [okAt,hxm.out,hxk.out,c3,HPN.out,c4,Bool.and_self]
        · exact HOK.out j (by omega)
      · have c4':Op.bytesLess pn.toList nm.toList = false:=by simpa [riseB] using c4
        have hno:okB d (xsOf ds) = false:=okB_no (k:=m + 1) (by rw [HXL.out];exact hlt) (by
          have c4'':riseB pn nm = false:=c4'
          simp only [okAt,hxm.out,hxk.out,c3,HPN.out,c4'',Bool.and_false])
        have hRv:=hR.out
        rw [printV_no hno] at hRv
        have HRV:Hid (R = _):=hRv.symm
        clear hRv hno
        refine regS_take 16 43 (.bool true) rfl rfl (by kernel_rfl) (fun _ _ _ h => h) (by kernel_rfl) (fun w' hS => by go_simp) hS ?_
        refine regS_take 17 44 (.bool true) rfl rfl (by kernel_rfl) (fun _ _ _ h => h) (by kernel_rfl) (fun w' hS => by go_simp) hS ?_
        refine regS_take 18 45 (.bool true) rfl rfl (by kernel_rfl) (fun _ _ _ h => h) rfl (fun w' hS => by go_simp) hS ?_
        simp only [Act.put,List.setIfInBounds_toArray,List.set_cons_succ,List.set_cons_zero]
        refine regS_end (by kernel_rfl) ?_
        go_wp2_with fail
        rw [HRV.out]
        go_ret2
        exact ⟨rfl,hbelA.trans (hS.mono hbelA.size)⟩
section
variable {P:Program} {ops:Array Oper} {Q:Exit -> Act -> World -> Prop} {a:Act} {w:World} {rest:List Oper} {o:Oper} {K:Act -> World -> Prop}
theorem loadV_run (w:World) (t:TypeId) (ha:∀ w,(isAgg t).run P w = .ok true w) (n:Nat) (hi0:(P.info? t).map (·.size) = some n) (b off:Nat) (arr:Array Value) (T:TypeId) (hb:Blk w b arr T) (hn:off + n <= arr.size):(loadVar t ⟨b,off,none⟩).run P w = .ok (.agg (arr.extract off (off + n))) w:=by
  obtain ⟨i,hi,hsize⟩:=Option.map_eq_some_iff.1 hi0
  have hl:=loadCellsFrom_run P w b off arr T hb n 0 #[] (by omega)
  simp only [loadVar,ha,sizeOf,typeInfo,loadCells,hi,hsize,Sem.run_bind,Sem.run_pure,run_program,Result.andThen_ok,if_true,hl]
  simp only [Nat.add_zero,Array.empty_append]
end
theorem ret_cellV2 {P:Program} {fn:Func} {R:Ending -> World -> Prop} {a:Act} {w:World} (p q:Tmp) (t:TypeId) (hf:fn.results = #[.cell p t,.tmp q]) (ha:∀ w,(isAgg t).run P w = .ok true w) (n:Nat) (hi0:(P.info? t).map (·.size) = some n)
    (b:Nat) (vs:Array Value) (T:TypeId) (hn:vs.size = n) (v:Value) (hx:a.tmps.getD p undef = .pointer (some ⟨b,0,none⟩)) (hq:a.tmps.getD q undef = v) (hb:Blk w b vs T) (hd:a.defers = []) (hR:R (.returned (.tuple #[.agg vs,v])) w):bodyPost P fn R .ret a w:=by
  refine bodyPost_ret ?_ hd hR
  have hl:=loadV_run w t ha n hi0 b 0 vs T hb (by omega)
  rw [Nat.zero_add,<- hn,Array.extract_size] at hl
  have hx':a.tmps[p]?.getD undef = .pointer (some ⟨b,0,none⟩):=by rw [<- hx];simp
  have hq':a.tmps[q]?.getD undef = v:=by rw [<- hq];simp
  simp only [results,hf]
  simp [hx',hq',asAddr,hl]
section
variable {P:Program} {l:List Oper} {Q:Exit -> Act -> World -> Prop} {S:World -> Prop} {fuel:Nat} {listed:Array Bool} {a:Act} {w:World}
end
theorem szIt:(Tryz.prog.info? 45).map (·.size) = some 3:=by kernel_rfl
end Go.Proofs.YtjmpjfikcgccdaaGreatDoor.It
