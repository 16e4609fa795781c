/-
  Part of the proof of BaseFindsCard (I8 and on).
-/
import Derived.Test.YtjmpjfikcgccdaaGreatDoorB05
import Derived.Test.YtjmpjfikcgccdaaGreatDoorB03
import Derived.RangeFuncGives
import Derived.RangeFuncOwn
import Derived.Test.YtjmpjfikcgccdaaGreatDoorB02
import Derived.Shelf.SlIter.Collect
namespace Go.Proofs.YtjmpjfikcgccdaaGreatDoor.It
open Go.RowKit
theorem infoIt:(Tryz.prog.info? 45).map (fun i => (i.zero,i.size,i.bytes)) = some (some (.agg #[.string ByteArray.empty,.string ByteArray.empty,.slice none 0 0]),3,56):=by kernel_rfl
def flat:List ItD -> List Value
  | [] => []
  | d :: ds => .string d.x.name :: .string d.x.tag :: d.val :: flat ds
theorem flat_get:∀ (ds:List ItD) (i:Nat) (d:ItD),ds[i]? = some d -> (flat ds)[i * 3]? = some (.string d.x.name) ∧ (flat ds)[i * 3 + 1]? = some (.string d.x.tag) ∧ (flat ds)[i * 3 + 2]? = some d.val
  | [],i,d,h => by simp at h
  | e :: ds,0,d,h => by simp at h;subst h;exact ⟨rfl,rfl,rfl⟩
  | e :: ds,i + 1,d,h => by
    have ih:=flat_get ds i d (by simpa using h)
    rw [show (i + 1) * 3 = i * 3 + 3 from by omega,show i * 3 + 3 + 1 = i * 3 + 1 + 3 from by omega,show i * 3 + 3 + 2 = i * 3 + 2 + 3 from by omega]
    exact ih
def Own (w:World) (B:Nat) (v:Value) (ds:List ItD):Prop:=w.ownsRow B 45 3 v ds.length (flat ds) ∧ ∀ d ∈ ds,d.Ok w ∧ ∀ g o,d.a = some ⟨g,o,none⟩ -> g < w.heap.size ∧ v.ownBlock ≠ some g
theorem Own.nil (w:World) (B:Nat):Own w B (.slice none 0 0) []:=⟨⟨rfl,Or.inl ⟨rfl,rfl⟩⟩,fun d h => by cases h⟩
theorem Own.below {w w':World} {B:Nat} {v:Value} {ds:List ItD} (h:Own w B v ds) (hb:Below w.heap.size w w'):Own w' B v ds:=
  ⟨ownsRow_below h.1 hb,fun d hd => ⟨(h.2 d hd).1.below hb,fun g o e => ⟨Nat.lt_of_lt_of_le ((h.2 d hd).2 g o e).1 hb.size,((h.2 d hd).2 g o e).2⟩⟩⟩
theorem printV_yes {d:Int} {xs:List Itm} (h:okB d xs = true):printV d xs = .tuple #[.string (ba (textS d xs)),.nilIface]:=by
  unfold printV;rw [h];rfl
def bigB (x:Itm):Bool:=decide (40 < x.name.size) || decide (40 < x.tag.size) || decide (12 < x.nums.length)
def heldB (xs:List Itm):Bool:=decide (xs.length <= 65) && !xs.any bigB
set_option maxHeartbeats 1000000 in
theorem big_any (x:ItD) (w:World) (h:x.Ok w):Calls Tryz.prog 151 #[.agg x.arr] w fun e w' => e = .returned (.bool (bigB x.x)) ∧ Below w.heap.size w w':=by
  obtain ⟨_,h2,h3,h4,_⟩:=h
  unfold ItD.arr ItD.val
  obtain ⟨⟨nm,tg,zs⟩,a,c⟩:=x
  simp only at h2 h3 h4 ⊢
  unfold maxLen at h2 h3 h4
  have hb:=below_alloc w (.cells #[.string nm,.string tg,.slice a zs.length c] 45)
  have HB:Hid (bigB ⟨nm,tg,zs⟩ = (decide (40 < nm.size) || decide (40 < tg.size) || decide (12 < zs.length))):=rfl
  rw [HB.out]
  by_cases c1:40 < nm.size
  · have c1':(40:Int) < (nm.size:Int):=by omega
    go_enter Tryz.func151,Tryz.ntmps151
    go_wp2
    go_ret
    exact ⟨by simp,hb⟩
  have c1':¬ (40:Int) < (nm.size:Int):=by omega
  by_cases c2:40 < tg.size
  · have c2':(40:Int) < (tg.size:Int):=by omega
    go_enter Tryz.func151,Tryz.ntmps151
    go_wp2
    go_ret
    exact ⟨by simp,hb⟩
  have c2':¬ (40:Int) < (tg.size:Int):=by omega
  by_cases c3:12 < zs.length
  · have c3':(12:Int) < (zs.length:Int):=by omega
    go_enter Tryz.func151,Tryz.ntmps151
    go_wp2
    go_ret
    exact ⟨by simp,hb⟩
  have c3':¬ (12:Int) < (zs.length:Int):=by omega
  go_enter Tryz.func151,Tryz.ntmps151
  go_wp2
  go_ret
  exact ⟨by simp,hb⟩
set_option maxHeartbeats 1000000 in
theorem indexBig_any (a:Option Addr) (c:Nat) (ds:List ItD) (w:World) (h:Its w a ds) (hl:ds.length <= 65) :
    Calls Tryz.prog 222 #[.slice a ds.length c,.func (.func 151) #[] #[]] w fun e w' => (∃ j:Int,e = .returned (.int .i64 j) ∧ (decide (0 <= j) = (xsOf ds).any bigB)) ∧ Below w.heap.size w w':=by
  go_enter Tryz.func222,Tryz.ntmps222
  go_wp2_with fail
  go_loopw [8] (fun i wr => ∃ k:Nat,k <= ds.length ∧ i = .int .i64 k ∧ ((xsOf ds).take k).any bigB = false ∧ Below w.heap.size w wr) (fun i _ => ds.length - (intOf i).toNat)
  case atStart => exact ⟨0,by omega,rfl,rfl,Below.refl _ _⟩
  case round =>
    obtain ⟨k,hk,rfl,hp,hbel⟩:=hrel
    have HP:Hid (((xsOf ds).take k).any bigB = false):=hp
    clear hp
    by_cases hlt:k < ds.length
    · have hlt':(k:Int) < (ds.length:Int):=by omega
      have hr:=h.below hbel
      obtain ⟨g,o,rfl,q1,q2,q3,q4⟩:=hr k ds[k] (List.getElem?_eq_getElem hlt)
      have hxk:Hid ((xsOf ds)[k]? = some ds[k].x):=by unfold Hid xsOf;rw [List.getElem?_map,List.getElem?_eq_getElem hlt];rfl
      generalize ds[k] = x at *
      obtain ⟨⟨nm,tg,zs⟩,xa,xc⟩:=x
      simp only [ItD.val] at q1 q2 q3 hxk
      clear hr
      go_wp2_with fail
      refine (big_any ⟨⟨nm,tg,zs⟩,xa,xc⟩ wr q4).mono ?_
      rintro e w1 ⟨rfl,g1⟩
      have hb1:=hbel.trans (g1.mono hbel.size)
      cases hx:bigB ⟨nm,tg,zs⟩ with
      | true =>
        have HX:Hid ((xsOf ds).any bigB = true):=List.any_eq_true.2 ⟨_,List.mem_of_getElem? hxk.out,hx⟩
        clear q1 q2 q3 q4 g1 hx
        go_wp2_with fail
        go_ret
        exact ⟨⟨k,rfl,by rw [HX.out];simp⟩,hb1⟩
      | false =>
        have HX:Hid (((xsOf ds).take (k + 1)).any bigB = false):=by
          unfold Hid;rw [List.take_add_one,hxk.out,List.any_append,HP.out];simp [hx]
        clear q1 q2 q3 q4 g1 hx
        go_wp2_with fail
        exact ⟨⟨k + 1,by omega,by go_num,HX.out,hb1⟩,by simp [intOf];omega⟩
    · have hk':k = ds.length:=by omega
      subst hk'
      have HX:Hid ((xsOf ds).any bigB = false):=by
        have:=HP.out
        rw [List.take_of_length_le (by simp [xsOf])] at this;exact this
      go_wp2_with fail
      go_ret
      exact ⟨⟨-1,rfl,by rw [HX.out];decide⟩,hbel⟩
theorem containsBig_any (a:Option Addr) (c:Nat) (ds:List ItD) (w:World) (h:Its w a ds) (hl:ds.length <= 65) :
    Calls Tryz.prog 150 #[.slice a ds.length c,.func (.func 151) #[] #[]] w fun e w' => e = .returned (.bool ((xsOf ds).any bigB)) ∧ Below w.heap.size w w':=by
  go_enter Tryz.func150,Tryz.ntmps150
  go_wp2_with (go_at_call 222;refine (indexBig_any _ _ _ _ h hl).mono ?_;rintro e w' ⟨⟨j,rfl,hj⟩,g1⟩)
  go_ret
  refine ⟨?_,g1⟩
  rw [<- hj];simp
theorem held_any (a:Option Addr) (c:Nat) (ds:List ItD) (w:World) (h:Its w a ds) (hl:ds.length <= maxLen) :
    Calls Tryz.prog 92 #[.slice a ds.length c] w fun e w' => e = .returned (.bool (heldB (xsOf ds))) ∧ Below w.heap.size w w':=by
  unfold maxLen at hl
  have hxl:(xsOf ds).length = ds.length:=by simp [xsOf]
  unfold heldB
  rw [hxl]
  clear hxl
  by_cases c1:ds.length <= 65
  · have c1':(ds.length:Int) <= 65:=by omega
    have c1'':decide (ds.length <= 65) = true:=by simpa using c1
    rw [c1'']
    cases hx:(xsOf ds).any bigB with
    | true =>
      go_enter Tryz.func92,Tryz.ntmps92
      go_wp2_with (go_at_call 150;refine (containsBig_any _ _ _ _ h c1).mono ?_;rintro e w' ⟨rfl,g1⟩;rw [hx])
      go_ret
      exact ⟨rfl,g1⟩
    | false =>
      go_enter Tryz.func92,Tryz.ntmps92
      go_wp2_with (go_at_call 150;refine (containsBig_any _ _ _ _ h c1).mono ?_;rintro e w' ⟨rfl,g1⟩;rw [hx])
      go_ret
      exact ⟨rfl,g1⟩
  · have c1':¬ (ds.length:Int) <= 65:=by omega
    go_enter Tryz.func92,Tryz.ntmps92
    go_wp2
    go_ret
    exact ⟨by simp,Below.refl _ _⟩
set_option maxHeartbeats 1000000 in
theorem same1_any (x y:ItD) (w:World) (hx:x.Ok w) (hy:y.Ok w) (he:x.x = y.x) (hl:x.x.nums.length <= 1000):Calls Tryz.prog 101 #[.agg x.arr,.agg y.arr] w fun e w' => e = .returned (.bool true) ∧ Below w.heap.size w w':=by
  have hI:=hx.1
  have hJ:=hy.1
  unfold ItD.arr ItD.val
  obtain ⟨⟨nm,tg,zs⟩,a,c⟩:=x
  obtain ⟨y',b,d⟩:=y
  simp only at he hI hJ hl ⊢
  subst he
  simp only at hJ ⊢
  have g1:=(below_alloc w (.cells #[.string nm,.string tg,.slice a zs.length c] 45)).trans ((below_alloc (w.alloc (.cells #[.string nm,.string tg,.slice a zs.length c] 45)) (.cells #[.string nm,.string tg,.slice b zs.length d] 45)).mono (by simp))
  have hI1:=hI.below g1
  have hJ1:=hJ.below g1
  go_enter Tryz.func101,Tryz.ntmps101
  go_wp2_with fail
  refine (equal_any a b c d zs _ hI1 hJ1 hl).mono ?_
  rintro e w1 ⟨rfl,g2⟩
  go_wp2_with fail
  go_ret
  exact ⟨rfl,g1.trans (g2.mono g1.size)⟩
set_option maxHeartbeats 2000000 in
theorem equalFunc_any (a b:Option Addr) (c d:Nat) (ds es:List ItD) (w:World) (ha:Its w a ds) (hb:Its w b es) (he:xsOf ds = xsOf es) (hl:ds.length <= 65) (hn:∀ x ∈ xsOf ds,x.nums.length <= 1000) :
    Calls Tryz.prog 100 #[.slice a ds.length c,.slice b es.length d,.func (.func 101) #[] #[]] w fun e w' => e = .returned (.bool true) ∧ Below w.heap.size w w':=by
  have hlen:ds.length = es.length:=by simpa [xsOf] using congrArg List.length he
  have HE:Hid (xsOf ds = xsOf es):=he
  have HN:Hid (∀ x ∈ xsOf ds,x.nums.length <= 1000):=hn
  have hl2:es.length <= 65:=by omega
  rw [<- hlen]
  have HL:Hid (ds.length = es.length):=hlen
  clear he hn hlen
  go_enter Tryz.func100,Tryz.ntmps100
  go_wp2_with fail
  go_loopw [17] (fun i wr => ∃ k:Nat,k <= ds.length ∧ i = .int .i64 k ∧ Below w.heap.size w wr) (fun i _ => ds.length - (intOf i).toNat)
  case atStart => exact ⟨0,by omega,rfl,Below.refl _ _⟩
  case round =>
    obtain ⟨k,hk,rfl,hbel⟩:=hrel
    by_cases hlt:k < ds.length
    · have hlt':(k:Int) < (ds.length:Int):=by omega
      have hlt2:k < es.length:=by have:=HL.out;omega
      obtain ⟨g,o,rfl,q1,q2,q3,q4⟩:=(ha.below hbel) k ds[k] (List.getElem?_eq_getElem hlt)
      obtain ⟨g',o',rfl,r1,r2,r3,r4⟩:=(hb.below hbel) k es[k] (List.getElem?_eq_getElem hlt2)
      have hxk:(xsOf ds)[k]? = some ds[k].x:=by unfold xsOf;rw [List.getElem?_map,List.getElem?_eq_getElem hlt];rfl
      have hyk:(xsOf es)[k]? = some es[k].x:=by unfold xsOf;rw [List.getElem?_map,List.getElem?_eq_getElem hlt2];rfl
      have hxy:Hid (ds[k].x = es[k].x):=by
        rw [HE.out,hyk] at hxk;injection hxk with h;exact h.symm
      have hnx:Hid (ds[k].x.nums.length <= 1000):=HN.out _ (List.mem_of_getElem? hxk)
      clear hxk hyk
      generalize ds[k] = x at *
      generalize es[k] = y at *
      obtain ⟨⟨nm,tg,zs⟩,xa,xc⟩:=x
      obtain ⟨⟨nm',tg',zs'⟩,ya,yc⟩:=y
      simp only [ItD.val] at q1 q2 q3 r1 r2 r3 hxy hnx
      have hg:g < wr.heap.size:=World.block_lt_of_cell? wr _ q1
      have hg':g' < wr.heap.size:=World.block_lt_of_cell? wr _ r1
      go_wp2_with fail
      obtain ⟨e1,e2,e3⟩:nm = nm' ∧ tg = tg' ∧ zs = zs':=by
        have:=hxy.out
        injection this with e1 e2 e3
        exact ⟨e1,e2,e3⟩
      have g1:=(below_alloc wr (.cells #[.string nm,.string tg,.slice xa zs.length xc] 45)).trans ((below_alloc (wr.alloc (.cells #[.string nm,.string tg,.slice xa zs.length xc] 45)) (.cells #[.string nm',.string tg',.slice ya zs'.length yc] 45)).mono (by simp))
      refine (same1_any ⟨⟨nm,tg,zs⟩,xa,xc⟩ ⟨⟨nm',tg',zs'⟩,ya,yc⟩ _ (q4.below g1) (r4.below g1) hxy.out hnx.out).mono ?_
      rintro e w1 ⟨rfl,g2⟩
      have hb1:=hbel.trans ((g1.trans (g2.mono g1.size)).mono hbel.size)
      clear q1 q2 q3 q4 r1 r2 r3 r4 g1 g2 e1 e2 e3
      go_wp2_with fail
      exact ⟨⟨k + 1,by omega,by go_num,hb1⟩,by simp [intOf];omega⟩
    · have hk':k = ds.length:=by omega
      subst hk'
      go_wp2_with fail
      go_ret
      exact ⟨rfl,hbel⟩
theorem alike_any (a b:Option Addr) (c d:Nat) (ds es:List ItD) (w:World) (ha:Its w a ds) (hb:Its w b es) (he:xsOf ds = xsOf es) (hl:ds.length <= 65) (hn:∀ x ∈ xsOf ds,x.nums.length <= 1000) :
    Calls Tryz.prog 43 #[.slice a ds.length c,.slice b es.length d] w fun e w' => e = .returned (.bool true) ∧ Below w.heap.size w w':=by
  go_enter Tryz.func43,Tryz.ntmps43
  go_wp2_with (go_at_call 100;refine (equalFunc_any _ _ _ _ _ _ _ ha hb he hl hn).mono ?_;rintro e w' ⟨rfl,g1⟩)
  go_ret
  exact ⟨rfl,g1⟩
end Go.Proofs.YtjmpjfikcgccdaaGreatDoor.It
namespace Go.Proofs.YtjmpjfikcgccdaaGreatDoor.Bs
open Go.RowKit Go.Maps
open Go.WideMaps (keyOf_string_mk string_of_keyOf)
open It
def av (d:ItD):Value:=.agg d.arr
def lk (L:List ItD) (s:ByteArray):Option Value:=(L.find? fun d => decide (d.x.name = s)).map av
def nm (L:List ItD):List ByteArray:=L.map fun d => d.x.name
def noI (L:List ItD) (s:ByteArray):List ItD:=L.filter fun d => !decide (d.x.name = s)
def putI (L:List ItD) (x:ItD):List ItD:=x :: noI L x.x.name
theorem lk_some {L:List ItD} {s:ByteArray} {u:Value} (h:lk L s = some u):∃ d ∈ L,d.x.name = s ∧ u = av d:=by
  unfold lk at h
  obtain ⟨d,hd,rfl⟩:=Option.map_eq_some_iff.1 h
  exact ⟨d,List.mem_of_find?_eq_some hd,by simpa using List.find?_some hd,rfl⟩
def isN (L:List ItD) (s:ByteArray):Bool:=L.any fun d => decide (d.x.name = s)
theorem isN_iff {L:List ItD} {s:ByteArray}:isN L s = true ↔ s ∈ nm L:=by
  unfold isN nm
  rw [List.any_eq_true,List.mem_map]
  simp
theorem isN_no {L:List ItD} {s:ByteArray} (h:s ∉ nm L):isN L s = false:=by
  rw [<- Bool.not_eq_true,isN_iff];exact h
theorem lk_isSome (L:List ItD) (s:ByteArray):(lk L s).isSome = isN L s:=by
  unfold lk isN
  rw [Option.isSome_map,Bool.eq_iff_iff,List.find?_isSome,List.any_eq_true]
theorem lk_mem {L:List ItD} (hn:(nm L).Nodup) {d:ItD} (hd:d ∈ L):lk L d.x.name = some (av d):=by
  obtain ⟨u,hu⟩:∃ u,lk L d.x.name = some u:=by
    apply Option.isSome_iff_exists.1
    rw [lk_isSome]
    exact isN_iff.2 (List.mem_map.2 ⟨d,hd,rfl⟩)
  obtain ⟨d',hd',e,rfl⟩:=lk_some hu
  have:d' = d:=by
    unfold nm List.Nodup at hn
    rw [List.pairwise_map] at hn
    exact pw_eq (fun d:ItD => d.x.name) hn hd' hd e
  rw [hu,this]
theorem lk_none {L:List ItD} {s:ByteArray} (h:s ∉ nm L):lk L s = none:=by
  have:=lk_isSome L s
  rw [isN_no h] at this
  simpa using this
theorem noI_mem {L:List ItD} {s:ByteArray} {d:ItD}:d ∈ noI L s ↔ d ∈ L ∧ d.x.name ≠ s:=by
  unfold noI;rw [List.mem_filter];simp
theorem noI_nodup {L:List ItD} (h:(nm L).Nodup) (s:ByteArray):(nm (noI L s)).Nodup:=h.sublist (List.Sublist.map _ List.filter_sublist)
theorem noI_name (L:List ItD) (s:ByteArray):s ∉ nm (noI L s):=by
  intro h
  obtain ⟨d,hd,e⟩:=List.mem_map.1 h
  exact (noI_mem.1 hd).2 e
theorem putI_nodup {L:List ItD} (h:(nm L).Nodup) (x:ItD):(nm (putI L x)).Nodup:=List.nodup_cons.2 ⟨noI_name L x.x.name,noI_nodup h _⟩
theorem lk_noI (L:List ItD) (s i:ByteArray):lk (noI L s) i = if i = s then none else lk L i:=by
  by_cases e:i = s
  · rw [if_pos e,e];exact lk_none (noI_name L s)
  · rw [if_neg e]
    unfold lk noI
    rw [List.find?_filter]
    congr 2
    funext d
    by_cases h:d.x.name = i
    · simp [h,e]
    · simp [h]
theorem lk_putI (L:List ItD) (x:ItD) (i:ByteArray):lk (putI L x) i = if i = x.x.name then some (av x) else lk L i:=by
  by_cases e:i = x.x.name
  · rw [if_pos e,e];unfold lk putI;simp
  · rw [if_neg e]
    have h1:lk (putI L x) i = lk (noI L x.x.name) i:=by
      unfold lk putI
      rw [List.find?_cons]
      rw [show decide (x.x.name = i) = false from decide_eq_false (fun h => e h.symm)]
    rw [h1,lk_noI,if_neg e]
theorem noI_len {L:List ItD} (h:(nm L).Nodup) (s:ByteArray):(noI L s).length + (if isN L s = true then 1 else 0) = L.length:=by
  induction L with
  | nil => simp [noI,isN]
  | cons d r ih =>
    have h':d.x.name ∉ nm r ∧ (nm r).Nodup:=List.nodup_cons.1 h
    have ih:=ih h'.2
    have e1:nm (d :: r) = d.x.name :: nm r:=rfl
    by_cases e:d.x.name = s
    · have e2:noI (d :: r) s = noI r s:=by unfold noI;rw [List.filter_cons];simp [e]
      have h3:s ∉ nm r:=by rw [<- e];exact h'.1
      rw [e2,if_pos (isN_iff.2 (by rw [e1,e];simp))]
      rw [if_neg (by rw [isN_iff];exact h3)] at ih
      simp;omega
    · have e2:noI (d :: r) s = d :: noI r s:=by unfold noI;rw [List.filter_cons];simp [e]
      rw [e2,List.length_cons,List.length_cons]
      have e3:isN (d :: r) s = true ↔ isN r s = true:=by
        rw [isN_iff,isN_iff,e1,List.mem_cons];exact ⟨fun h => h.resolve_left (fun h => e h.symm),Or.inr⟩
      by_cases h4:isN r s = true
      · rw [if_pos (e3.2 h4)];rw [if_pos h4] at ih;omega
      · rw [if_neg (fun h => h4 (e3.1 h))];rw [if_neg h4] at ih;omega
def IM (w:World) (b:Nat) (L:List ItD):Prop:=(nm L).Nodup ∧ ∃ D:DataW Value,w.ownsMap Tryz.prog 9 rV b L.length D ∧ Tells D (lk L) ∧ Maps.size D = L.length
theorem ownsMap_exact {w:World} {b n:Nat} {D:DataW Value} (h:w.ownsMap Tryz.prog 9 rV b n D):w.ownsMap Tryz.prog 9 rV b (Maps.size D) D:=by
  obtain ⟨es,clock,hb,F,hs,hD⟩:=h
  refine ⟨es,clock,hb,F,?_,hD⟩
  subst hD
  have e1:es.size = ((es.toList.map (Go.WideElems.rg Tryz.prog 9 rV)).foldr DataW.insert []).length:=by rw [DataW.length_sorted];simp
  exact Nat.le_of_eq e1
section
variable {w w':World} {b:Nat} {L:List ItD}
theorem IM.nodup (h:IM w b L):(nm L).Nodup:=h.1
theorem IM.mapS (h:IM w b L):MapS Tryz.prog w b L.length (lk L):=by
  obtain ⟨_,D,h1,h2,_⟩:=h
  exact ⟨D,h1,h2⟩
theorem IM.lt (h:IM w b L):b < w.heap.size:=h.mapS.lt
theorem IM.same (h:IM w b L) (hs:w'.heap[b]? = w.heap[b]?):IM w' b L:=by
  obtain ⟨h0,D,⟨es,clock,hb,F,hs',hD⟩,h2,h3⟩:=h
  exact ⟨h0,D,⟨es,clock,hs.trans hb,F,hs',hD⟩,h2,h3⟩
theorem IM.below {B:Nat} (h:IM w b L) (hb:Below B w w') (hB:b < B):IM w' b L:=h.same (hb.block b hB)
theorem IM.upd {c:Nat} (h:IM w b L) (hu:Upd w w' c) (hne:b ≠ c):IM w' b L:=h.same (hu.block b hne)
theorem IM.congr {L':List ItD} (h:IM w b L) (hp:L.Perm L'):IM w b L':=by
  obtain ⟨h0,D,h1,h2,h3⟩:=h
  have hn:(nm L').Nodup:=(hp.map _).nodup_iff.1 h0
  refine ⟨hn,D,by rw [<- hp.length_eq];exact h1,fun i hi => ?_,by rw [h3,hp.length_eq]⟩
  have e:lk L' i = lk L i:=by
    cases hq:lk L i with
    | none =>
      apply lk_none
      have:=lk_isSome L i
      rw [hq] at this
      intro hm
      have h9:isN L i = false:=by simpa using this.symm
      rw [isN_iff.2 ((hp.map _).mem_iff.2 hm)] at h9
      cases h9
    | some u =>
      obtain ⟨d,hd,rfl,rfl⟩:=lk_some hq
      exact lk_mem hn (hp.mem_iff.1 hd)
  rw [e];exact h2 i hi
theorem im_made (w:World):IM (w.alloc (.map #[] 0)) w.heap.size []:=
  ⟨List.nodup_nil,.map [],World.ownsMap_made w Tryz.prog 9 rV,fun i _ => ⟨rfl,fun v hv => by cases hv⟩,rfl⟩
theorem IM.len {t:TypeId} (h:IM w b L) (ht:Tryz.prog.underlying t = some (.map 9 45)) (ty:TypeId):(Builtin.len_ #[t] ty #[.map (some b)]).run Tryz.prog w = .ok (.int .i64 L.length) w:=by
  obtain ⟨_,D,h1,_,h3⟩:=h
  have:=h1.len ht ty
  rw [h3] at this
  exact this
theorem IM.store {t:TypeId} (h:IM w b L) (ht:Tryz.prog.underlying t = some (.map 9 45)) (hn:L.length < maxLen) (x:ItD) (hx:x.x.name.size <= maxLen) :
    ∃ w',(Instr.mapUpdate t (.map (some b)) (.string x.x.name) (av x)).run Tryz.prog w = .ok () w' ∧ IM w' b (putI L x) ∧ Upd w w' b:=by
  obtain ⟨h0,D,h1,h2,h3⟩:=h
  have K:=string_keyed (P:=Tryz.prog) Tryz.underlying9
  have key:=keyOf_string_mk (P:=Tryz.prog) Tryz.underlying9 hx
  have hm:=h1.isMap
  have htd:=h1.tidy K
  obtain ⟨w',hrun,h',ht'⟩:=h1.store K ht hn key (show rV (av x) = some (.held (av x),[]) from rfl)
  have hsz:Maps.size (D.put (kI x.x.name) (DataW.held (av x))) = (putI L x).length:=by
    rw [Maps.size_put htd,(h2 x.x.name hx).1,lk_isSome,h3]
    have:=noI_len h0 x.x.name
    unfold putI
    rw [List.length_cons]
    by_cases e:isN L x.x.name = true
    · rw [if_pos e] at this;simp [e];omega
    · rw [if_neg e] at this;simp [e];omega
  have h'':=ownsMap_exact h'
  have e9:Maps.size (D.put (Lit.string x.x.name.data.toList) (DataW.held (av x))) = (putI L x).length:=hsz
  rw [e9] at h''
  refine ⟨w',hrun,⟨putI_nodup h0 x,_,h'',fun i hi => ?_,e9⟩,upd_of_grown ht'.grown ?_⟩
  · rw [lk_putI]
    by_cases e:i = x.x.name
    · subst e
      rw [if_pos rfl]
      refine ⟨by rw [Maps.has_put_same hm (K.key key)];rfl,fun u hu zd => ?_⟩
      cases hu
      exact Maps.atKey_put_same hm (K.key key) _ _
    · rw [if_neg e]
      have hne:kI i ≠ kI x.x.name:=fun h => e (kI_inj h)
      refine ⟨by rw [Maps.has_put_other hne];exact (h2 i hi).1,fun u hu zd => ?_⟩
      rw [Maps.atKey_put_other hne]
      exact (h2 i hi).2 u hu zd
  · obtain ⟨_,_,_,_,_,rfl⟩:=ht'
    simp [ChangeMaps.setBlock]
theorem IM.drop {t:TypeId} (h:IM w b L) (ht:Tryz.prog.underlying t = some (.map 9 45)) (s:ByteArray) (hs:s.size <= maxLen) (ty:TypeId) :
    ∃ w',(Builtin.delete_ #[t,9] ty #[.map (some b),.string s]).run Tryz.prog w = .ok (.tuple #[]) w' ∧ IM w' b (noI L s) ∧ Upd w w' b:=by
  obtain ⟨h0,D,h1,h2,h3⟩:=h
  have K:=string_keyed (P:=Tryz.prog) Tryz.underlying9
  have key:=keyOf_string_mk (P:=Tryz.prog) Tryz.underlying9 hs
  have htd:=h1.tidy K
  obtain ⟨w',hrun,h',ht'⟩:=h1.drop K ht key ty
  have hsz:Maps.size (D.del (kI s)) = (noI L s).length:=by
    have e1:=Maps.size_del (k:=kI s) htd
    rw [(h2 s hs).1,lk_isSome,h3] at e1
    have:=noI_len h0 s
    by_cases e:isN L s = true
    · rw [if_pos e] at this;simp [e] at e1;omega
    · rw [if_neg e] at this;simp [e] at e1;omega
  have h'':=ownsMap_exact h'
  have e9:Maps.size (D.del (Lit.string s.data.toList)) = (noI L s).length:=hsz
  rw [e9] at h''
  refine ⟨w',hrun,⟨noI_nodup h0 s,_,h'',fun i hi => ?_,e9⟩,upd_of_grown ht'.grown ?_⟩
  · rw [lk_noI]
    by_cases e:i = s
    · subst e
      rw [if_pos rfl]
      exact ⟨Maps.has_del_same,fun u hu => by cases hu⟩
    · rw [if_neg e]
      have hne:kI i ≠ kI s:=fun h => e (kI_inj h)
      refine ⟨by rw [Maps.has_del_other hne];exact (h2 i hi).1,fun u hu zd => ?_⟩
      rw [Maps.atKey_del_other hne]
      exact (h2 i hi).2 u hu zd
  · obtain ⟨_,_,_,_,_,rfl⟩:=ht'
    simp [ChangeMaps.setBlock]
end
end Go.Proofs.YtjmpjfikcgccdaaGreatDoor.Bs
namespace Go.Proofs.YtjmpjfikcgccdaaGreatDoor.Bs
open Go.RowKit Go.Shelf Go.Maps
def Soft (B:Nat) (W W':World):Prop:=∃ row,W.grownBy W' row ∧ ∀ r,row = some r -> B <= r ∧ ∃ o:Obj,W.heap[r]? = some o ∧ o.isCells = false
theorem Soft.putObj {B l:Nat} (W:World) (o:Obj) {o0:Obj} (hl:W.heap[l]? = some o0) (h0:o0.isCells = false) (hB:B <= l):Soft B W (W.putObj l o):=
  ⟨some l,⟨rfl,rfl,rfl,by simp [World.putObj],fun k hk hne => World.putObj_heap_other (fun e => hne (by rw [e]))⟩,fun r e => by cases e;exact ⟨hB,o0,hl,h0⟩⟩
theorem Soft.row {B:Nat} {W W':World} (h:Soft B W W') {C:Nat} {e:TypeId} {z:Nat} {v:Value} {n:Nat} {xs:List Value} (hr:W.ownsRow C e z v n xs):W'.ownsRow C e z v n xs:=by
  obtain ⟨row,hg,hrow⟩:=h
  refine hr.kept hg ?_
  rcases hr.2 with ⟨rfl,_⟩ | ⟨g,cap,cur,rfl,_,hgb,_⟩
  · exact .inl rfl
  · refine .inr fun e' => ?_
    obtain ⟨_,o,ho,hw⟩:=hrow g (by simpa [Value.ownBlock] using e'.symm)
    rw [hgb] at ho;cases ho;cases hw
theorem Soft.blk {B:Nat} {W W':World} (h:Soft B W W') {b:Nat} {arr:Array Value} {T:TypeId} (hb:Blk W b arr T):Blk W' b arr T:=by
  obtain ⟨row,hg,hrow⟩:=h
  have hlt:=hb.lt
  have e:W'.heap[b]? = W.heap[b]?:=hg.block b hlt (fun e => by
    obtain ⟨_,o,ho,hw⟩:=hrow b e.symm
    rw [show W.heap[b]? = some (.cells arr T) from hb] at ho;cases ho;cases hw)
  exact e.trans hb
set_option maxHeartbeats 1000000 in
theorem range_seq {α:Type} {F:Fence} {n:Nat} {P:Program} {g:Operand} {p:Tmp} {assign body:Code} {Q:Exit -> Act -> World -> Prop} {a:Act} {w:World} (hro:F.round = none) (h1:1 <= n) (gf:Nat) (lb:Array Value)
    (hg:a.eval g = .func (.func gf) #[] lb) (hF:F.fn gf) (eg:∀ args w,(callFunc gf args).run P w = .ok (.enter gf args) w) (enc:α -> Value) (S:List α -> Prop) (N:Nat) (hit:SeqGives F (n - 1) P gf lb enc S N w)
    (I:List α -> World -> Prop) (hI:∀ pre W W',I pre W -> Soft w.heap.size W W' -> I pre W') (h0:∀ W,Soft w.heap.size w W -> I [] W)
    (A:List α -> α -> Act -> World -> Prop) (hA:∀ pre x a' W W',A pre x a' W -> Soft w.heap.size W W' -> A pre x a' W')
    (hassign:∀ (pre:List α) (x:α) (W:World) (K:Act -> World -> Prop),pre.length < N -> I pre W -> w.heap.size + 2 <= W.heap.size -> (∀ a' W',A pre x a' W' -> KeepsOthers W W' -> K a' W') ->
      assign.wpIn (F.inRound (w.heap.size + 1)) (n - 1 - 1) P (Exit.then K (fun _ _ _ => False)) { tmps:=a.tmps.setIfInBounds p (enc x),defers:=[] } W)
    (hbody:∀ (pre:List α) (x:α) (a':Act) (W:World),pre.length < N -> A pre x a' W -> w.heap.size + 2 <= W.heap.size -> body.wpIn (F.inRound (w.heap.size + 1)) (n - 1 - 1) P (fun e _ W' => match e with | .normal => KeepsOthers W W' ∧ I (pre ++ [x]) W' | _ => False) a' W)
    (hdone:∀ (D:Nat) (xs:List α) (W:World),w.heap.size <= D -> S xs -> I xs W -> W.heap[D]? = some (.deferred (some [])) -> Q .normal { a with defers:={ target:=.collected D,args:=#[] } :: a.defers } W) :
    (Code.rangeFunc g #[p] assign body).wpIn F n P Q a w:=by
  refine wpIn_rangeFunc fun fn hfn => ?_
  rw [hro]
  generalize hB:w.heap.size = B at *
  obtain ⟨lp,hlp⟩:∃ lp:LoopState -> Option Code -> Loop,lp = fun st pe => { state:=st,pending:=pe,fn,tmps:=a.tmps,params:=#[p],assign,body,defers:=B }:=⟨_,rfl⟩
  have hin:=run_enterLoop_outer (P:=P) (w:=w) fn a.tmps #[p] assign body
  rw [hB,show ({ state:=.ready,pending:=none,fn,tmps:=a.tmps,params:=#[p],assign,body,defers:=B }:Loop) = lp .ready none from by rw [hlp]] at hin
  obtain ⟨W1,hW1⟩:∃ W1,W1 = (w.alloc (.deferred (some []))).alloc (.loop (lp .ready none)):=⟨_,rfl⟩
  rw [<- hW1] at hin
  have hb1:Below B w W1:=by rw [hW1,<- hB];exact ((Below.refl _ w).alloc (Nat.le_refl _) _).alloc (by simp) _
  have hs1:W1.heap.size = B + 2:=by rw [hW1];simp [hB]
  have hf1:Soft B w W1:=⟨none,⟨hb1.os,hb1.tape,hb1.output,hb1.size,fun k hk _ => hb1.block k (by omega)⟩,fun r e => by cases e⟩
  have hl1:W1.heap[B + 1]? = some (.loop (lp .ready none)):=by
    rw [hW1];have:=World.alloc_heap_new (w.alloc (.deferred (some []))) (.loop (lp .ready none));rwa [World.size_alloc,hB] at this
  have hk1:W1.heap[B]? = some (.deferred (some [])):=by
    rw [hW1];refine (Below.heap_alloc _ _ _ (by simp [hB])).trans ?_;have:=World.alloc_heap_new w (.deferred (some []));rwa [hB] at this
  refine ⟨B + 1,_,W1,{ target:=.fn (.func gf) lb,args:=#[.func (.yield (B + 1)) #[] #[]] },W1,gf,#[.func (.yield (B + 1)) #[] #[]] ++ lb,W1,hin,?_,?_,?_,fun _ => h1,?_⟩
  · simp only [resolve,hg]
    simp [go_sem]
  · intro f' hf';simp [Target.leads] at hf';subst hf';exact hF
  · simp [invoke,go_sem,eg]
  refine (hit (B + 1) (fun pre W => I pre W ∧ W.heap[B + 1]? = some (.loop (lp .ready none)) ∧ W.heap[B]? = some (.deferred (some [])) ∧ B + 2 <= W.heap.size) W1 (by rw [hB];exact hb1) ?_ ?_ ⟨h0 _ hf1,hl1,hk1,by omega⟩).mono ?_
  · rintro pre W W' row ⟨hp,hl,hk,hz⟩ hgr hrow
    have hrow':∀ r,row = some r -> ∃ o:Obj,W.heap[r]? = some o ∧ o.isWalk = true:=fun r e => (hrow r e).2
    refine ⟨hI pre W W' hp ⟨row,hgr,fun r e => ?_⟩,(grownBy_keeps hgr hrow' hl rfl).trans hl,(grownBy_keeps hgr hrow' hk rfl).trans hk,Nat.le_trans hz hgr.size⟩
    obtain ⟨h2,o,h3,h4⟩:=hrow r e
    exact ⟨by omega,o,h3,Obj.not_cells_of_walk h4⟩
  · rintro pre x W ⟨hp,hl,hk,hz⟩ hlen
    have hy:=run_yield (P:=P) (args:=#[enc x]) hl (by rw [hlp];rfl)
    rw [hlp] at hy
    refine ⟨fn,_,assign,body,hy,roundIn_of_wpIn hfn ?_⟩
    have ez:((#[p]:Array Tmp).zip #[enc x]).foldl (fun t (p,v) => t.setIfInBounds p v) a.tmps = a.tmps.setIfInBounds p (enc x):=by simp
    have hass:=hassign pre x W
    rw [ez]
    refine hass _ hlen hp hz fun a' W' hAx hko => ?_
    have hl':=hko.same _ _ hl rfl
    have hk':=hko.same _ _ hk rfl
    have hlW:=(Array.getElem?_eq_some_iff.1 hl').1
    refine ⟨_,run_beginRound hl' (by rw [hlp]),?_⟩
    obtain ⟨busy,hbusy⟩:∃ busy,busy = ({ lp .ready none with state:=.busy }:Loop):=⟨_,rfl⟩
    rw [<- hbusy]
    have hl2:(W'.putObj (B + 1) (.loop busy)).heap[B + 1]? = some (.loop busy):=World.putObj_heap_same hlW
    have hk2:(W'.putObj (B + 1) (.loop busy)).heap[B]? = some (.deferred (some [])):=(World.putObj_heap_other (by omega)).trans hk'
    have hz2:B + 2 <= (W'.putObj (B + 1) (.loop busy)).heap.size:=by have:=hko.size;simp [World.putObj];omega
    have hkw:KeepsWalks W (W'.putObj (B + 1) (.loop busy)):=hko.walks.trans (KeepsWalks.putObj _ hl' rfl)
    refine wpIn_mono (hbody pre x a' _ hlen (hA pre x a' W' _ hAx (Soft.putObj W' (.loop busy) hl' rfl (by omega))) hz2) ?_
    rintro e a3 W3 hpost
    cases e with
    | normal =>
      have hl3:=hpost.1.same _ _ hl2 rfl
      have hk3:=hpost.1.same _ _ hk2 rfl
      have hr:=run_endRound (P:=P) none hl3
      rw [hbusy,hlp] at hr
      refine ⟨_,_,hr,rfl,⟨hI _ _ _ hpost.2 (Soft.putObj W3 _ hl3 rfl (by omega)),?_,(World.putObj_heap_other (by omega)).trans hk3,by have:=hpost.1.size;simp [World.putObj];omega⟩,(hkw.trans hpost.1.walks).trans (KeepsWalks.putObj _ hl3 rfl)⟩
      rw [hlp];exact World.putObj_heap_same (Array.getElem?_eq_some_iff.1 hl3).1
    | ret => exact hpost.elim
    | exit id => exact hpost.elim
    | goto t => exact hpost.elim
    | panic ch => exact hpost.elim
    | outgrown => exact hpost.elim
  · rintro e W2 ⟨⟨v,rfl⟩,xs,hS,hi,hl,hk,hz⟩
    have hr:=run_endLoop (P:=P) hl (by rw [hlp];simp)
    rw [show (lp .ready none).pending = none from by rw [hlp]] at hr
    exact ⟨none,_,hr,hdone B xs _ (Nat.le_refl _) hS (hI _ _ _ hi (Soft.putObj W2 _ hl rfl (by omega))) ((World.putObj_heap_other (by omega)).trans hk)⟩
end Go.Proofs.YtjmpjfikcgccdaaGreatDoor.Bs
namespace Go.Proofs.YtjmpjfikcgccdaaGreatDoor.Bs
open Go.RowKit Go.Shelf Go.Maps
open Go.WideMaps (keyOf_string_mk string_of_keyOf)
open It
theorem perm_of_same {α:Type}:∀ (M L:List α),M.Nodup -> L.Nodup -> (∀ x,x ∈ M ↔ x ∈ L) -> M.Perm L
  | [],L,_,_,h => by
    cases L with
    | nil => exact List.Perm.refl _
    | cons x r => exact absurd ((h x).2 (by simp)) (by simp)
  | x :: M,L,hM,hL,h => by
    obtain ⟨L1,L2,rfl⟩:=List.append_of_mem ((h x).1 (by simp))
    obtain ⟨m1,m2⟩:=List.nodup_cons.1 hM
    have hp:(L1 ++ x :: L2).Perm (x :: (L1 ++ L2)):=List.perm_middle
    have hn:=hp.nodup_iff.1 hL
    obtain ⟨n1,n2⟩:=List.nodup_cons.1 hn
    refine List.Perm.trans ((perm_of_same M (L1 ++ L2) m2 n2 fun y => ?_).cons x) hp.symm
    constructor
    · intro hy
      have:=hp.mem_iff.1 ((h y).1 (List.mem_cons_of_mem _ hy))
      rcases List.mem_cons.1 this with rfl | this
      · exact absurd hy m1
      · exact this
    · intro hy
      have:=(h y).2 (hp.mem_iff.2 (List.mem_cons_of_mem _ hy))
      rcases List.mem_cons.1 this with rfl | this
      · exact absurd hy n1
      · exact this
theorem nodup_of_nm {L:List ItD} (h:(nm L).Nodup):L.Nodup:=by
  unfold nm List.Nodup at h
  rw [List.pairwise_map] at h
  exact h.imp fun hne e => hne (by rw [e])
structure Come (L:List ItD) (left:Lit -> Bool) (M:List ItD):Prop where
  nd:(nm M).Nodup
  sub:∀ d ∈ M,d ∈ L
  gone:∀ d ∈ M,left (kI d.x.name) = false
  rest:∀ d ∈ L,left (kI d.x.name) = true ∨ d ∈ M
theorem Come.perm {L:List ItD} {left:Lit -> Bool} {M:List ItD} (h:Come L left M) (hn:(nm L).Nodup) (hl:∀ z,left z = false):M.Perm L:=
  perm_of_same M L (nodup_of_nm h.nd) (nodup_of_nm hn) fun d => ⟨h.sub d,fun hd => by
    rcases h.rest d hd with h1 | h1
    · rw [hl] at h1;cases h1
    · exact h1⟩
theorem Come.step {L:List ItD} {left:Lit -> Bool} {M:List ItD} (h:Come L left M) (hn:(nm L).Nodup) {d:ItD} (hd:d ∈ L) (hl:left (kI d.x.name) = true):Come L (fun z => left z && !z.sameKey (kI d.x.name)) (M ++ [d]):=by
  have hself:(kI d.x.name).sameKey (kI d.x.name) = true:=WideAt.sameKey_self (by trivial)
  have hnot:d.x.name ∉ nm M:=fun hm => by
    obtain ⟨e,he,e2⟩:=List.mem_map.1 hm
    have:=h.gone e he
    rw [show e.x.name = d.x.name from e2,hl] at this;cases this
  refine ⟨?_,fun e he => ?_,fun e he => ?_,fun e he => ?_⟩
  · unfold nm
    rw [List.map_append]
    refine List.nodup_append.2 ⟨h.nd,by simp,fun a ha b hb => ?_⟩
    rintro rfl
    simp at hb
    exact hnot (by rw [<- hb];exact ha)
  · rcases List.mem_append.1 he with he | he
    · exact h.sub e he
    · obtain rfl:=List.mem_singleton.1 he;exact hd
  · rcases List.mem_append.1 he with he | he
    · rw [h.gone e he];rfl
    · obtain rfl:=List.mem_singleton.1 he
      rw [hself];simp
  · rcases h.rest e he with h1 | h1
    · by_cases e2:e.x.name = d.x.name
      · right
        have:e = d:=by
          have hn':=hn
          unfold nm List.Nodup at hn'
          rw [List.pairwise_map] at hn'
          exact pw_eq (fun d:ItD => d.x.name) hn' he hd e2
        rw [this];simp
      · left
        rw [h1,Maps.sameKey_ne (fun e3 => e2 (kI_inj e3))];rfl
    · right;exact List.mem_append_left _ h1
theorem pt45:Tryz.prog.underlying 128 = some (.map 9 45):=Tryz.underlying128
set_option maxRecDepth 100000 in
set_option maxHeartbeats 4000000 in
theorem values_in (F:Fence) (n:Nat) (hf:F.fn 208) (hro:F.round = none) (hn:1 <= n) (l Bm b:Nat) (L:List ItD) (hnl:∀ d ∈ L,d.x.name.size <= maxLen) (J:List ItD -> World -> Prop)
    (hY:∀ pre x W,J pre W -> pre.length < L.length -> YieldAt F (n - 1) Tryz.prog l #[av x] W fun e W' => e = .returned (.bool true) ∧ J (pre ++ [x]) W' ∧ KeepsWalks W W')
    (W:World) (hJ:AbidesFrom W.heap.size J) (hm:W.cell? ⟨Bm,0,none⟩ = some (.map (some b))) (hown:IM W b L) (h0:J [] W) :
    CallsIn F n Tryz.prog 208 #[.func (.yield l) #[] #[],.pointer (some ⟨Bm,0,none⟩)] W fun e W' => (∃ v,e = .returned v) ∧ ∃ M:List ItD,M.Perm L ∧ J M W':=by
  obtain ⟨hnd,D,ho,hT,hsz⟩:=hown
  have K:=string_keyed (P:=Tryz.prog) Tryz.underlying9
  refine callsIn_of_wp Tryz.func208 rfl hf ?_ hro
  simp only [Tryz.ntmps208,List.size_toArray,List.length_cons,List.length_nil,Nat.reduceAdd,Nat.reduceSub,Array.replicate_succ,Array.replicate_zero,List.push_toArray,List.append_toArray,List.nil_append,List.cons_append]
  gi_wp2_with (first
    | (gi_at_range;refine wpListIn_range_own _ rfl _ 128 rfl 9 45 K pt45 _ b L.length _ rfl ho ?_;intro w0 hrg0 hg0 hs0)
    | gi_in)
  go_frame
  gi_loopw [4] (fun _ wr => ∃ (left:Lit -> Bool) (cnt:Nat) (M:List ItD),wr.ranges Tryz.prog 9 rV b W.heap.size L.length D left cnt ∧ M.length + cnt <= L.length ∧ Come L left M ∧ J M wr ∧ W.heap.size < wr.heap.size)
    (fun _ wr => wr.rangeLeft b W.heap.size)
  case atStart =>
    refine ⟨_,_,[],hrg0,by rw [hsz];simp,⟨List.nodup_nil,fun d hd => by simp at hd,fun d hd => by simp at hd,fun d hd => Or.inl ?_⟩,hJ [] W w0 none h0 hg0 (fun r e => by cases e),by omega⟩
    have:=(hT d.x.name (hnl d hd)).1
    rw [this,lk_mem hnd hd];rfl
  case round =>
    obtain ⟨left,cnt,M,hrg,hcs,hC,hJs,hz⟩:=hrel
    gi_wp2_with (first
      | (gi_at_next;refine wpListIn_next_ranges _ rfl _ rfl 9 K rV Value.string id (fun key kl hk => by obtain ⟨x,hx,_⟩:=string_of_keyOf Tryz.underlying9 hk;exact ⟨x,hx⟩) (fun v _ _ => ⟨v,rfl⟩) b W.heap.size L.length _ _ _ rfl hrg ?_ ?_)
      | gi_in)
    · intro hc0 hl0
      gi_wp2
      go_end0
      exact ⟨⟨_,rfl⟩,M,hC.perm hnd hl0,hJs⟩
    · intro x c kl yd yp w2 cnt2 hkey hlk hv hat hrg2 hlt hg2 hs2 hen
      obtain ⟨x',ex,rfl,hxs⟩:=string_of_keyOf Tryz.underlying9 hkey
      injection ex with ex
      subst ex
      have hs:=Maps.has_true_of_atKey hat
      rw [(hT x hxs).1] at hs
      obtain ⟨u,hu⟩:=Option.isSome_iff_exists.1 hs
      have e1:=(hT x hxs).2 u hu .nil
      rw [hat .nil] at e1
      simp only [rV,Option.some.injEq,Prod.mk.injEq] at hv
      rw [<- hv.1] at e1
      have e2:id c = u:=by simpa using e1
      obtain ⟨dd,hdL,rfl,rfl⟩:=lk_some hu
      have e3:c = av dd:=e2
      subst e3
      clear e2 e1 hv hs hu
      have hJ2:J M w2:=hJ M wr w2 (some W.heap.size) hJs hg2 (fun r e => by cases e;exact ⟨Nat.le_refl _,hrg.iter_walk⟩)
      have HC:Hid (Come L (fun z => left z && !z.sameKey (kI dd.x.name)) (M ++ [dd])):=hC.step hnd hdL hlk
      have hMl:M.length < L.length:=by omega
      obtain ⟨⟨nmx,tgx,zsx⟩,xax,xcx⟩:=dd
      have hen':(Instr.entry (.pointer (some ⟨W.heap.size,0,none⟩))).run Tryz.prog w2 = .ok (.tuple #[.string nmx,.agg #[.string nmx,.string tgx,.slice xax zsx.length xcx]]) w2:=hen
      have hg3:=World.grownBy_alloc w2 (.cells #[.string nmx,.string tgx,.slice xax zsx.length xcx] 45) none
      have hJ3:=hJ M w2 _ none hJ2 hg3 (fun r e => by cases e)
      have hrg3:=hrg2.alloc (.cells #[.string nmx,.string tgx,.slice xax zsx.length xcx] 45)
      have jb:Blk (w2.alloc (.cells #[.string nmx,.string tgx,.slice xax zsx.length xcx] 45)) w2.heap.size #[.string nmx,.string tgx,.slice xax zsx.length xcx] 45:=Blk.new w2 _ _
      have c0:=jb.cell 0
      have c1:=jb.cell 1
      have c2:=jb.cell 2
      have hz3:W.heap.size < (w2.alloc (.cells #[.string nmx,.string tgx,.slice xax zsx.length xcx] 45)).heap.size:=by have:=hg2.size;simp;omega
      obtain ⟨fn,tmps,assign,body,hy,hR⟩:=hY M ⟨⟨nmx,tgx,zsx⟩,xax,xcx⟩ _ hJ3 hMl
      have hy':(Instr.yield l #[.agg #[.string nmx,.string tgx,.slice xax zsx.length xcx]]).run Tryz.prog (w2.alloc (.cells #[.string nmx,.string tgx,.slice xax zsx.length xcx] 45)) = .ok (.round l fn tmps assign body) (w2.alloc (.cells #[.string nmx,.string tgx,.slice xax zsx.length xcx] 45)):=hy
      clear hs2 hen hy jb
      gi_wp2
      refine hR.mono ?_
      rintro e W3 ⟨rfl,hJ4,hk3⟩
      gi_wp2
      have hrg4:=hrg3.of_walks hk3
      go_roundw
      case rel => exact ⟨_,cnt2,M ++ [⟨⟨nmx,tgx,zsx⟩,xax,xcx⟩],hrg4,by simp;omega,HC.out,hJ4,Nat.lt_of_lt_of_le hz3 hk3.size⟩
      case measure => rw [hrg4.left_eq,hrg.left_eq];exact hlt
theorem values_gives (F:Fence) (n:Nat) (hf:F.fn 208) (hro:F.round = none) (hn:1 <= n) (Bm b:Nat) (L:List ItD) (hnl:∀ d ∈ L,d.x.name.size <= maxLen) (w:World) (hBm:Bm < w.heap.size) (hm:w.cell? ⟨Bm,0,none⟩ = some (.map (some b))) (hown:IM w b L) :
    SeqGives F n Tryz.prog 208 #[.pointer (some ⟨Bm,0,none⟩)] av (fun M => M.Perm L) L.length w:=fun l J W hW hJ hY h0 =>
  values_in F n hf hro hn l Bm b L hnl J hY W hJ ((hW.cell (p:=⟨Bm,0,none⟩) hBm).trans hm) (hown.below hW hown.lt) h0
theorem mapsValues_any (b:Nat) (w:World):Calls Tryz.prog 132 #[.map (some b)] w fun e w' => e = .returned (.func (.func 208) #[] #[.pointer (some ⟨w.heap.size,0,none⟩)]) ∧ w' = w.alloc (.cells #[.map (some b)] 128):=by
  go_enter Tryz.func132,Tryz.ntmps132
  go_wp2
  go_ret
  exact ⟨rfl,rfl⟩
end Go.Proofs.YtjmpjfikcgccdaaGreatDoor.Bs
namespace Go.Proofs.YtjmpjfikcgccdaaGreatDoor.It
end Go.Proofs.YtjmpjfikcgccdaaGreatDoor.It
