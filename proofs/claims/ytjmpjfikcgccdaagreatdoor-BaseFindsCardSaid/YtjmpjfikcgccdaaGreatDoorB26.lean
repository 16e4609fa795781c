/-
  Part of the proof of BaseFindsCard (V1 and on).
-/
import Derived.Test.YtjmpjfikcgccdaaGreatDoorB22
import Derived.Test.YtjmpjfikcgccdaaGreatDoorB24
import Derived.Test.YtjmpjfikcgccdaaGreatDoorB25
import Derived.Test.YtjmpjfikcgccdaaGreatDoorB03
import Derived.Test.YtjmpjfikcgccdaaGreatDoorB04
import Derived.Shelf.SlMaps.Clone
namespace Go.Proofs.YtjmpjfikcgccdaaGreatDoor.Vt
open Go.RowKit
def ent (x:Int × ByteArray):Value:=.agg #[.int .i64 x.1,.string x.2]
def ent0:Int × ByteArray:=(0,⟨#[]⟩)
def pv (p:Int -> Option (Int × ByteArray)) (i:Int):Option Value:=(p i).map ent
def rd (p:Int -> Option (Int × ByteArray)) (i:Int):Int × ByteArray:=(p i).getD ent0
theorem pv_get (p:Int -> Option (Int × ByteArray)) (i:Int):(pv p i).getD (ent ent0) = ent (rd p i):=by
  unfold pv rd;cases p i <;> rfl
def sv (g:Int -> Option ByteArray) (i:Int):Option Value:=(g i).map Value.string
theorem kOk_small {i:Int} (h0:0 <= i) (h1:i < 32):kOk i:=by
  have h1:IntKind.min .i64 = -9223372036854775808:=by decide
  have h2:IntKind.max .i64 = 9223372036854775807:=by decide
  show (decide (IntKind.min .i64 <= i) && decide (i <= IntKind.max .i64)) = true
  rw [h1,h2,decide_eq_true (by omega),decide_eq_true (by omega)];rfl
theorem und3:Tryz.prog.underlying 3 = some (.int .i64):=Tryz.underlying3
theorem undE:Tryz.prog.underlying 187 = some (.map 3 227):=Tryz.underlying187
theorem undS:Tryz.prog.underlying 148 = some (.map 3 9):=Tryz.underlying148
theorem zeroE:∀ w,(zeroValue 227).run Tryz.prog w = .ok (ent ent0) w:=Tryz.zeroValue227
theorem szE:(Tryz.prog.info? 227).map (·.size) = some 2:=by kernel_rfl
theorem szSt:(Tryz.prog.info? 189).map (·.size) = some 36:=by kernel_rfl
def stA (c e:Int) (f:Nat -> Bool) (r:ByteArray) (m:Value):Array Value:=Su.supA c e f r ++ #[m]
section
variable (c e:Int) (f:Nat -> Bool) (r:ByteArray) (m:Value)
theorem stA_size:(stA c e f r m).size = 36:=by simp [stA,Su.supA_size]
theorem stA_lo (j:Nat) (h:j < 35):(stA c e f r m)[j]? = (Su.supA c e f r)[j]?:=by
  unfold stA;rw [Array.getElem?_append_left (by rw [Su.supA_size];exact h)]
theorem stA_0:(stA c e f r m)[0]? = some (.int .i64 c):=by rw [stA_lo _ _ _ _ _ _ (by decide),Su.supA_0]
theorem stA_1:(stA c e f r m)[1]? = some (.int .i64 e):=by rw [stA_lo _ _ _ _ _ _ (by decide),Su.supA_1]
theorem stA_side (j:Nat) (h:j < 32):(stA c e f r m)[2 + j]? = some (.bool (f j)):=by rw [stA_lo _ _ _ _ _ _ (by omega),Su.supA_side _ _ _ _ _ h]
theorem stA_35:(stA c e f r m)[35]? = some m:=by
  unfold stA;rw [Array.getElem?_append_right (by rw [Su.supA_size];decide),Su.supA_size];rfl
theorem stA_sup (n:Nat) (h:0 + 35 = n):(stA c e f r m).extract 0 n = Su.supA c e f r:=by
  subst h
  apply Array.ext_getElem?;intro j
  by_cases hj:j < 35
  · rw [Array.getElem?_extract,if_pos (by rw [stA_size];omega),Nat.zero_add,stA_lo _ _ _ _ _ _ hj]
  · rw [Array.getElem?_eq_none (by rw [Array.size_extract,stA_size];omega),Array.getElem?_eq_none (by rw [Su.supA_size];omega)]
theorem stA_one (hm:m.oneCell' = true):∀ v ∈ (stA c e f r m).toList,v.oneCell' = true:=by
  intro v hv
  simp only [stA,Array.toList_append,List.mem_append] at hv
  rcases hv with hv | hv
  · exact Su.supA_one _ _ _ _ v hv
  · simp at hv;subst hv;exact hm
theorem stA_put (k:Nat) (hk:k < 32) (v:Bool):(stA c e f r m).setIfInBounds (2 + k) (.bool v) = stA c e (Su.putF f k v) r m:=by
  unfold stA;rw [Array.setIfInBounds_append_left (by rw [Su.supA_size];omega),Su.supA_put _ _ _ _ _ hk]
theorem stA_set0 (x:Int):(stA c e f r m).setIfInBounds 0 (.int .i64 x) = stA x e f r m:=by
  unfold stA Su.supA;rw [Array.setIfInBounds_append_left (by simp [Su.bl_size]),Array.setIfInBounds_append_left (by simp [Su.bl_size]),Array.setIfInBounds_append_left (by simp)];rfl
theorem stA_set1 (x:Int):(stA c e f r m).setIfInBounds 1 (.int .i64 x) = stA c x f r m:=by
  unfold stA Su.supA;rw [Array.setIfInBounds_append_left (by simp [Su.bl_size]),Array.setIfInBounds_append_left (by simp [Su.bl_size]),Array.setIfInBounds_append_left (by simp)];rfl
theorem stA_set34 (x:ByteArray):(stA c e f r m).setIfInBounds 34 (.string x) = stA c e f x m:=by
  unfold stA Su.supA;rw [Array.setIfInBounds_append_left (by simp [Su.bl_size]),Array.setIfInBounds_append_right (by simp [Su.bl_size])];simp [Su.bl_size]
end
def vaA (d c:Nat) (sec:ByteArray) (st:Array Value) (stuck:Bool):Array Value:=#[.pointer (some ⟨d,0,none⟩),.pointer (some ⟨c,0,none⟩),.string sec] ++ st ++ #[.bool stuck]
section
variable (d c:Nat) (sec:ByteArray) (st:Array Value) (stuck:Bool)
theorem vaA_size (hs:st.size = 36):(vaA d c sec st stuck).size = 40:=by simp [vaA,hs]
theorem vaA_0:(vaA d c sec st stuck)[0]? = some (.pointer (some ⟨d,0,none⟩)):=by
  unfold vaA;rw [Array.getElem?_append_left (by simp;omega),Array.getElem?_append_left (by simp)];rfl
theorem vaA_1:(vaA d c sec st stuck)[1]? = some (.pointer (some ⟨c,0,none⟩)):=by
  unfold vaA;rw [Array.getElem?_append_left (by simp;omega),Array.getElem?_append_left (by simp)];rfl
theorem vaA_2:(vaA d c sec st stuck)[2]? = some (.string sec):=by
  unfold vaA;rw [Array.getElem?_append_left (by simp;omega),Array.getElem?_append_left (by simp)];rfl
theorem vaA_st (hs:st.size = 36) (j:Nat) (h:j < 36):(vaA d c sec st stuck)[3 + j]? = st[j]?:=by
  unfold vaA
  rw [Array.getElem?_append_left (by simp [hs];omega),Array.getElem?_append_right (by simp)]
  simp
theorem vaA_39 (hs:st.size = 36):(vaA d c sec st stuck)[39]? = some (.bool stuck):=by
  unfold vaA;rw [Array.getElem?_append_right (by simp [hs])];simp [hs]
theorem vaA_now (hs:st.size = 36):(vaA d c sec st stuck).extract 3 (3 + 36) = st:=by
  apply Array.ext_getElem?;intro j
  by_cases hj:j < 36
  · rw [Array.getElem?_extract,if_pos (by rw [vaA_size _ _ _ _ _ hs];omega),vaA_st _ _ _ _ _ hs _ hj]
  · rw [Array.getElem?_eq_none (by rw [Array.size_extract,vaA_size _ _ _ _ _ hs];omega),Array.getElem?_eq_none (by omega)]
end
theorem isPage_any (id:Int) (w:World):Calls Tryz.prog 174 #[.int .i64 id] w fun e w' => e = .returned (.bool (decide (0 <= id ∧ id < 32))) ∧ w' = w:=by
  by_cases h:0 <= id
  · go_enter Tryz.func174,Tryz.ntmps174
    go_wp2
    go_ret
    refine ⟨?_,rfl⟩
    simp [h]
  · have d:decide ((0:Int) <= id) = false:=decide_eq_false h
    go_enter Tryz.func174,Tryz.ntmps174
    go_wp2
    go_ret
    refine ⟨?_,rfl⟩
    simp
theorem superPlace_any (n:Nat) (w:World) (hn:n < 9007199254740992):Calls Tryz.prog 215 #[.int .i64 (n:Int)] w fun e w' => e = .returned (.int .i64 ((n % 2:Nat):Int)) ∧ w' = w:=by
  have e1:(n:Int).tmod 2 = ((n % 2:Nat):Int):=by rw [Int.tmod_eq_emod_of_nonneg (by omega)];omega
  go_enter Tryz.func215,Tryz.ntmps215
  go_wp2
  go_ret
  exact ⟨rfl,rfl⟩
theorem parts1 {w:World} {b:Nat} {T:TypeId} {x:ByteArray} (h:Blk w b #[.string x] T):Sm.Parts w (some ⟨b,0,none⟩) 1 [x]:=by
  refine ⟨rfl,fun j hj => ?_⟩
  have hc:=h.cell j
  match j,hj with
  | 0,_ => exact ⟨b,0,x,rfl,h.lt,hc,rfl⟩
theorem mark1 {k:Int} (hk:k = 115) {b:Nat} {T:TypeId} {x:ByteArray} {w:World} (h:Blk w b #[.string x] T) (hx:x.size <= 300) (hK:Sm.KB w) :
    Calls Tryz.prog 273 #[.int .u8 k,.slice (some ⟨b,0,none⟩) 1 1] w fun e w' => e = .returned (.string (Pg.mk 115 [x])) ∧ Below w.heap.size w w':=by
  subst hk;exact Sm.mark_any 115 _ 1 1 _ w (parts1 h) (by decide) (fun p hp => by simp at hp;subst hp;exact hx) hK
theorem mark2k {k:Int} (hk:k = 107) {b:Nat} {T:TypeId} {x y:ByteArray} {w:World} (h:Blk w b #[.string x,.string y] T) (hx:x.size <= 300) (hy:y.size <= 300) (hK:Sm.KB w) :
    Calls Tryz.prog 273 #[.int .u8 k,.slice (some ⟨b,0,none⟩) 2 2] w fun e w' => e = .returned (.string (Pg.mk 107 [x,y])) ∧ Below w.heap.size w w':=by
  subst hk;exact Sm.mark_any 107 _ 2 2 _ w (Su.parts2 h) (by decide) (Su.all2 hx hy) hK
def supK (sec:ByteArray):ByteArray:=Sm.sumS (Pg.mk 115 [sec])
def epoK (sec:ByteArray) (n:Int):ByteArray:=Sm.sumS (Pg.mk 107 [sec,Pg.numS n])
theorem supK_size (sec:ByteArray):(supK sec).size = 32:=Pg.sumS_size _
theorem epoK_size (sec:ByteArray) (n:Int):(epoK sec n).size = 32:=Pg.sumS_size _
set_option maxRecDepth 100000 in
set_option maxHeartbeats 400000 in
theorem superKey_any (sec:ByteArray) (w:World) (hs:sec.size <= 300) (hK:Sm.KB w):Calls Tryz.prog 213 #[.string sec] w fun e w' => e = .returned (.string (supK sec)) ∧ Below w.heap.size w w':=by
  have zm:=Pg.mk_size 115 [sec]
  go_enter Tryz.func213,Tryz.ntmps213
  go_wp2_with fail
  have g:=Pg.below_alloc w (.cells #[.string sec] 9)
  refine (mark1 rfl (Blk.new w _ 9) hs (hK.below g)).mono ?_
  rintro e w2 ⟨rfl,g2⟩
  have b2:=g.trans (g2.mono g.size)
  go_wp2_with fail
  refine (Sm.sum_any _ _ (by omega) (hK.below b2)).mono ?_
  rintro e w3 ⟨rfl,g3⟩
  go_wp2
  go_ret
  exact ⟨rfl,b2.trans (g3.mono b2.size)⟩
set_option maxRecDepth 100000 in
set_option maxHeartbeats 400000 in
theorem epochKey_any (sec:ByteArray) (n:Int) (w:World) (hs:sec.size <= 300) (hK:Sm.KB w):Calls Tryz.prog 250 #[.string sec,.int .i64 n] w fun e w' => e = .returned (.string (epoK sec n)) ∧ Below w.heap.size w w':=by
  have zm:=Pg.mk_size 107 [sec,Pg.numS n]
  have zn:=Pg.numS_size n
  go_enter Tryz.func250,Tryz.ntmps250
  go_wp2_with fail
  refine (Pg.num_s n _).mono ?_
  rintro e w1 ⟨rfl,g1⟩
  go_wp2_with fail
  have g:=Pg.below_alloc w1 (.cells #[.string sec,.string (Pg.numS n)] 9)
  have b1:=g1.trans (g.mono g1.size)
  refine (mark2k rfl (Blk.new w1 _ 9) hs (by omega) (hK.below b1)).mono ?_
  rintro e w2 ⟨rfl,g2⟩
  have b2:=b1.trans (g2.mono b1.size)
  go_wp2_with fail
  refine (Sm.sum_any _ _ (by omega) (hK.below b2)).mono ?_
  rintro e w3 ⟨rfl,g3⟩
  go_wp2
  go_ret
  exact ⟨rfl,b2.trans (g3.mono b2.size)⟩
def plc (f:Nat -> Bool) (id:Nat):Nat:=2 + 2 * id + if f id then 1 else 0
theorem plc_lt (f:Nat -> Bool) (id:Nat) (h:id < 32):plc f id < 66:=by unfold plc;split <;> omega
theorem plc_ge (f:Nat -> Bool) (id:Nat):2 <= plc f id:=by unfold plc;omega
set_option maxRecDepth 100000 in
set_option maxHeartbeats 400000 in
theorem place_any (c e:Int) (f:Nat -> Bool) (r:ByteArray) (m:Value) (id:Nat) (w:World) (h:id < 32) :
    Calls Tryz.prog 252 #[.agg (stA c e f r m),.int .i64 (id:Int)] w fun e' w' => e' = .returned (.int .i64 (plc f id:Int)) ∧ Below w.heap.size w w':=by
  have hs:=stA_size c e f r m
  have hc:=stA_side c e f r m id h
  obtain ⟨V,hV⟩:∃ V,Hid (stA c e f r m = V):=⟨_,rfl⟩
  rw [hV.out] at hs hc
  rw [hV.out]
  have j0:=Blk.new w V 189
  have c0:(w.alloc (.cells V 189)).cell? ⟨w.heap.size,2 + id,none⟩ = some (.bool (f id)):=by rw [j0.cell,hc]
  have g0:=Pg.below_alloc w (.cells V 189)
  have h':(id:Int) < 32:=by omega
  cases hf:f id with
  | false =>
    have ep:((plc f id:Nat):Int) = 2 + 2 * (id:Int):=by unfold plc;rw [hf];simp
    rw [hf] at c0
    rw [ep]
    go_enter Tryz.func252,Tryz.ntmps252
    go_wp2
    go_ret
    exact ⟨rfl,g0⟩
  | true =>
    have ep:((plc f id:Nat):Int) = 2 + 2 * (id:Int) + 1:=by unfold plc;rw [hf];simp
    rw [hf] at c0
    rw [ep]
    go_enter Tryz.func252,Tryz.ntmps252
    go_wp2
    go_ret
    exact ⟨rfl,g0⟩
end Go.Proofs.YtjmpjfikcgccdaaGreatDoor.Vt
namespace Go.Proofs.YtjmpjfikcgccdaaGreatDoor.Vt
open Go.RowKit
def Far (g:Int -> Option ByteArray):Prop:=∃ i,kOk i ∧ (g i).isSome = true ∧ ¬ (0 <= i ∧ i < 32)
def Wide (g:Int -> Option ByteArray):Prop:=∃ i s,kOk i ∧ g i = some s ∧ 200 < s.size
open Classical in
noncomputable def chkC (g:Int -> Option ByteArray):Int:=if Far g then 2 else if Wide g then 4 else 0
def errV (n:Int):Value:=if n = 0 then .nilIface else .iface 34 (.int .i64 n)
theorem chk2 {g:Int -> Option ByteArray} (h:Far g):errV (chkC g) = .iface 34 (.int .i64 2):=by unfold chkC;rw [if_pos h];rfl
theorem chk4 {g:Int -> Option ByteArray} (h:¬ Far g) (h2:Wide g):errV (chkC g) = .iface 34 (.int .i64 4):=by unfold chkC;rw [if_neg h,if_pos h2];rfl
theorem chk0 {g:Int -> Option ByteArray} (h:¬ Far g) (h2:¬ Wide g):errV (chkC g) = .nilIface:=by unfold chkC;rw [if_neg h,if_neg h2];rfl
theorem sv_inv {g:Int -> Option ByteArray} {i:Int} {u:Value} (h:sv g i = some u):∃ s,g i = some s ∧ u = .string s:=by
  unfold sv at h
  cases hg:g i with
  | none => rw [hg] at h;cases h
  | some s => rw [hg] at h;injection h with h;exact ⟨s,rfl,h.symm⟩
set_option maxRecDepth 100000 in
set_option maxHeartbeats 1000000 in
theorem check_any (m:Value) (n:Nat) (g:Int -> Option ByteArray) (w:World) (hM:MapV Tryz.prog w m n (sv g)) (hs:∀ i s,g i = some s -> s.size <= 10000) :
    Calls Tryz.prog 136 #[m] w fun e w' => e = .returned (errV (chkC g)) ∧ Below w.heap.size w w':=by
  have HS:Hid (∀ i s,g i = some s -> s.size <= 10000):=hs
  clear hs
  obtain ⟨w1,cnt1,hrg,hR1,_,hb1,hz1⟩:=hM.range und3 undS
  have HI:Hid (∀ i,kOk i -> (g i).isSome = true -> (sv g i).isSome = false -> 0 <= i ∧ i < 32):=fun i _ h1 h2 => by
    unfold sv at h2;cases hg:g i <;> rw [hg] at h1 h2 <;> cases h1 <;> cases h2
  go_enter Tryz.func136,Tryz.ntmps136
  go_wp2_with fail
  obtain ⟨R,hR⟩:∃ R,Hid (R = w.heap.size):=⟨_,rfl⟩
  rw [<- hR.out] at hR1
  rw [<- hR.out]
  have hRw:Hid (w.heap.size <= R):=Nat.le_of_eq hR.out.symm
  clear hR hrg
  go_loopw [] (fun wr => ∃ left cnt,RngV Tryz.prog wr m R n (sv g) left cnt ∧ Hid (∀ i,kOk i -> (g i).isSome = true -> left i = false -> 0 <= i ∧ i < 32) ∧ Below w.heap.size w wr) (fun wr => rleft wr R)
  case atStart => exact ⟨_,_,hR1,HI,hb1⟩
  case round =>
    clear hR1 HI hb1 hz1
    obtain ⟨left,cnt,hRr,HL,hbr⟩:=hrel
    have hm0:=hRr.left_eq
    rcases hRr.next und3 0 with ⟨hd,hrun⟩ | ⟨i,u,w2,cnt2,hi,hl,hf,hrun,hR2,hlt,hu,hen⟩
    · have nF:Hid (¬ Far g):=fun ⟨i,h1,h2,h3⟩ => h3 (HL.out i h1 h2 (hd i h1))
      have hMr:=hRr.map
      obtain ⟨w3,cnt3,hrg3,hR3,_,hb3,hz3⟩:=hMr.range und3 undS
      have B3:=hbr.trans (hb3.mono hbr.size)
      have HI3:Hid (∀ i s,kOk i -> g i = some s -> (sv g i).isSome = false -> s.size <= 200):=fun i s _ h1 h2 => by
        unfold sv at h2;rw [h1] at h2;cases h2
      go_wp2_with fail
      obtain ⟨R',hR'⟩:∃ R',Hid (R' = wr.heap.size):=⟨_,rfl⟩
      rw [<- hR'.out] at hR3
      rw [<- hR'.out]
      have hRw':Hid (w.heap.size <= R'):=by unfold Hid;rw [hR'.out];exact hbr.size
      clear hR' hrg3 hrun hd hRr hMr hm0 HL
      go_loopw [] (fun wq => ∃ left cnt,RngV Tryz.prog wq m R' n (sv g) left cnt ∧ Hid (∀ i s,kOk i -> g i = some s -> left i = false -> s.size <= 200) ∧ Below w.heap.size w wq) (fun wq => rleft wq R')
      case atStart => exact ⟨_,_,hR3,HI3,B3⟩
      case round =>
        clear hR3 HI3 B3 hb3 hz3 hbr
        obtain ⟨left,cnt,hRr,HL,hbr⟩:=hrel
        have hm0:=hRr.left_eq
        rcases hRr.next und3 0 with ⟨hd,hrun⟩ | ⟨i,u,w2,cnt2,hi,hl,hf,hrun,hR2,hlt,hu,hen⟩
        · have nW:Hid (¬ Wide g):=fun ⟨i,s,h1,h2,h3⟩ => absurd (HL.out i s h1 h2 (hd i h1)) (by omega)
          go_wp2_with fail
          go_ret
          exact ⟨by rw [chk0 nF.out nW.out];rfl,hbr⟩
        · obtain ⟨s,hgi,rfl⟩:=sv_inv hf
          have hz:=HS.out i s hgi
          have hm2:=hR2.left_eq
          by_cases hw:s.size <= 200
          · have hw':(s.size:Int) <= 200:=by omega
            have HL2:Hid (∀ j t,kOk j -> g j = some t -> (left j && !decide (j = i)) = false -> t.size <= 200):=fun j t h1 h2 h3 => by
              by_cases e:j = i
              · subst e;rw [hgi] at h2;injection h2 with h2;rw [<- h2];exact hw
              · exact HL.out j t h1 h2 (by simpa [e] using h3)
            go_wp2_with fail
            refine ⟨⟨_,_,hR2,HL2,below_upd hbr hu hRw'.out⟩,?_⟩
            rw [hm2,hm0];exact hlt
          · have hw':¬ ((s.size:Int) <= 200):=by omega
            have hW:Hid (Wide g):=⟨i,s,hi,hgi,by omega⟩
            go_wp2_with fail
            go_ret
            exact ⟨by rw [chk4 nF.out hW.out];rfl,below_upd hbr hu hRw'.out⟩
    · obtain ⟨s,hgi,rfl⟩:=sv_inv hf
      have hm2:=hR2.left_eq
      by_cases hp:0 <= i ∧ i < 32
      · have hd:decide (0 <= i ∧ i < 32) = true:=decide_eq_true hp
        have HL2:Hid (∀ j,kOk j -> (g j).isSome = true -> (left j && !decide (j = i)) = false -> 0 <= j ∧ j < 32):=fun j h1 h2 h3 => by
          by_cases e:j = i
          · rw [e];exact hp
          · exact HL.out j h1 h2 (by simpa [e] using h3)
        clear hp
        go_wp2_with (go_at_call 174;refine (isPage_any _ _).mono ?_;rintro e w' ⟨rfl,rfl⟩;rw [hd])
        refine ⟨⟨_,_,hR2,HL2,below_upd hbr hu hRw.out⟩,?_⟩
        rw [hm2,hm0];exact hlt
      · have hd:decide (0 <= i ∧ i < 32) = false:=decide_eq_false hp
        have hF:Hid (Far g):=⟨i,hi,by rw [hgi];rfl,hp⟩
        clear hp
        go_wp2_with (go_at_call 174;refine (isPage_any _ _).mono ?_;rintro e w' ⟨rfl,rfl⟩;rw [hd])
        go_ret
        exact ⟨by rw [chk2 hF.out];rfl,below_upd hbr hu hRw.out⟩
structure Vlt (w:World) (vb d c:Nat) (sec:ByteArray) (cn en:Int) (f:Nat -> Bool) (r:ByteArray) (mb n:Nat) (p:Int -> Option (Int × ByteArray)) (stuck:Bool):Prop where
  blk:Blk w vb (vaA d c sec (stA cn en f r (.map (some mb))) stuck) 193
  map:MapF Tryz.prog w mb n (pv p)
section
variable {w:World} {vb d c:Nat} {sec:ByteArray} {cn en:Int} {f:Nat -> Bool} {r:ByteArray} {mb n:Nat} {p:Int -> Option (Int × ByteArray)} {stuck:Bool}
theorem Vlt.c0 (h:Vlt w vb d c sec cn en f r mb n p stuck):w.cell? ⟨vb,0,none⟩ = some (.pointer (some ⟨d,0,none⟩)):=by rw [h.blk.cell,vaA_0]
theorem Vlt.c1 (h:Vlt w vb d c sec cn en f r mb n p stuck):w.cell? ⟨vb,1,none⟩ = some (.pointer (some ⟨c,0,none⟩)):=by rw [h.blk.cell,vaA_1]
theorem Vlt.c2 (h:Vlt w vb d c sec cn en f r mb n p stuck):w.cell? ⟨vb,2,none⟩ = some (.string sec):=by rw [h.blk.cell,vaA_2]
theorem Vlt.c3 (h:Vlt w vb d c sec cn en f r mb n p stuck):w.cell? ⟨vb,3,none⟩ = some (.int .i64 cn):=by
  rw [h.blk.cell,show 3 = 3 + 0 from rfl,vaA_st _ _ _ _ _ (stA_size _ _ _ _ _) _ (by decide),stA_0]
theorem Vlt.c4 (h:Vlt w vb d c sec cn en f r mb n p stuck):w.cell? ⟨vb,4,none⟩ = some (.int .i64 en):=by
  rw [h.blk.cell,show 4 = 3 + 1 from rfl,vaA_st _ _ _ _ _ (stA_size _ _ _ _ _) _ (by decide),stA_1]
theorem Vlt.c38 (h:Vlt w vb d c sec cn en f r mb n p stuck):w.cell? ⟨vb,38,none⟩ = some (.map (some mb)):=by
  rw [h.blk.cell,show 38 = 3 + 35 from rfl,vaA_st _ _ _ _ _ (stA_size _ _ _ _ _) _ (by decide),stA_35]
theorem Vlt.c39 (h:Vlt w vb d c sec cn en f r mb n p stuck):w.cell? ⟨vb,39,none⟩ = some (.bool stuck):=by rw [h.blk.cell,vaA_39 _ _ _ _ _ (stA_size _ _ _ _ _)]
theorem Vlt.below {w':World} {B:Nat} (h:Vlt w vb d c sec cn en f r mb n p stuck) (hb:Below B w w') (h1:vb < B) (h2:mb < B):Vlt w' vb d c sec cn en f r mb n p stuck:=⟨h.blk.below hb h1,h.map.below hb h2⟩
theorem Vlt.same {w':World} (h:Vlt w vb d c sec cn en f r mb n p stuck) (h1:w'.heap[vb]? = w.heap[vb]?) (h2:w'.heap[mb]? = w.heap[mb]?):Vlt w' vb d c sec cn en f r mb n p stuck:=⟨h1.trans h.blk,h.map.same h2⟩
theorem Vlt.upd {w':World} {b:Nat} (h:Vlt w vb d c sec cn en f r mb n p stuck) (hu:Upd w w' b) (h1:vb ≠ b) (h2:mb ≠ b):Vlt w' vb d c sec cn en f r mb n p stuck:=⟨h.blk.upd hu h1,h.map.upd hu h2⟩
end
theorem ready_any (w:World) (vb d c:Nat) (sec:ByteArray) (cn en:Int) (f:Nat -> Bool) (r:ByteArray) (mb n:Nat) (p:Int -> Option (Int × ByteArray)) (stuck:Bool) (h:Vlt w vb d c sec cn en f r mb n p stuck) :
    Calls Tryz.prog 135 #[.pointer (some ⟨vb,0,none⟩)] w fun e w' => e = .returned (.bool (!stuck)) ∧ w' = w:=by
  have c0:=h.c0
  have c39:=h.c39
  go_enter Tryz.func135,Tryz.ntmps135
  go_wp2
  go_ret
  exact ⟨rfl,rfl⟩
theorem count_any (w:World) (vb d c:Nat) (sec:ByteArray) (cn en:Int) (f:Nat -> Bool) (r:ByteArray) (mb n:Nat) (p:Int -> Option (Int × ByteArray)) (stuck:Bool) (h:Vlt w vb d c sec cn en f r mb n p stuck) :
    Calls Tryz.prog 83 #[.pointer (some ⟨vb,0,none⟩)] w fun e w' => e = .returned (.int .i64 cn) ∧ w' = w:=by
  have c3:=h.c3
  go_enter Tryz.func83,Tryz.ntmps83
  go_wp2
  go_ret
  exact ⟨rfl,rfl⟩
theorem epoch_any (w:World) (vb d c:Nat) (sec:ByteArray) (cn en:Int) (f:Nat -> Bool) (r:ByteArray) (mb n:Nat) (p:Int -> Option (Int × ByteArray)) (stuck:Bool) (h:Vlt w vb d c sec cn en f r mb n p stuck) :
    Calls Tryz.prog 84 #[.pointer (some ⟨vb,0,none⟩)] w fun e w' => e = .returned (.int .i64 en) ∧ w' = w:=by
  have c4:=h.c4
  go_enter Tryz.func84,Tryz.ntmps84
  go_wp2
  go_ret
  exact ⟨rfl,rfl⟩
theorem fldE (a:Int) (b:ByteArray) (w:World):(Instr.field 227 (.agg #[.int .i64 a,.string b]) 1).run Tryz.prog w = .ok (.string b) w:=by kernel_rfl
def getT (p:Int -> Option (Int × ByteArray)) (id:Int):ByteArray:=if 0 <= id ∧ id < 32 then (rd p id).2 else ⟨#[]⟩
def getC (id:Int):Int:=if 0 <= id ∧ id < 32 then 0 else 2
set_option maxRecDepth 100000 in
set_option maxHeartbeats 400000 in
theorem get_any (w:World) (vb d c:Nat) (sec:ByteArray) (cn en:Int) (f:Nat -> Bool) (r:ByteArray) (mb n:Nat) (p:Int -> Option (Int × ByteArray)) (stuck:Bool) (id:Int) (h:Vlt w vb d c sec cn en f r mb n p stuck) :
    Calls Tryz.prog 113 #[.pointer (some ⟨vb,0,none⟩),.int .i64 id] w fun e w' => e = .returned (.tuple #[.string (getT p id),errV (getC id)]) ∧ w' = w:=by
  have c38:=h.c38
  by_cases hp:0 <= id ∧ id < 32
  · have hl:=run_lookV (t:=187) und3 undE _ zeroE (Or.inr ⟨mb,rfl,h.map⟩) (kOk_small hp.1 hp.2)
    rw [pv_get] at hl
    unfold ent at hl
    have e1:getT p id = (rd p id).2:=by unfold getT;rw [if_pos hp]
    have e2:errV (getC id) = .nilIface:=by unfold getC errV;rw [if_pos hp];rfl
    have hd:decide (0 <= id ∧ id < 32) = true:=decide_eq_true hp
    rw [e1,e2]
    clear hp
    generalize rd p id = x at *
    have hfe:=fldE
    go_enter Tryz.func113,Tryz.ntmps113
    go_wp2_with (go_at_call 174;refine (isPage_any _ _).mono ?_;rintro e w' ⟨rfl,rfl⟩;rw [hd])
    go_ret2
    exact ⟨rfl,rfl⟩
  · have e1:getT p id = ⟨#[]⟩:=by unfold getT;rw [if_neg hp]
    have e2:errV (getC id) = .iface 34 (.int .i64 2):=by unfold getC errV;rw [if_neg hp];rfl
    have hd:decide (0 <= id ∧ id < 32) = false:=decide_eq_false hp
    rw [e1,e2]
    clear hp
    go_enter Tryz.func113,Tryz.ntmps113
    go_wp2_with (go_at_call 174;refine (isPage_any _ _).mono ?_;rintro e w' ⟨rfl,rfl⟩;rw [hd])
    go_ret2
    exact ⟨rfl,rfl⟩
end Go.Proofs.YtjmpjfikcgccdaaGreatDoor.Vt
namespace Go.Proofs.YtjmpjfikcgccdaaGreatDoor.Vt
open Go.RowKit
def mkF (p:Int -> Option (Int × ByteArray)) (j:Nat):ByteArray:=Pg.mk 112 [Pg.numS (j:Int),Pg.numS (rd p j).1,(rd p j).2]
def rootP (p:Int -> Option (Int × ByteArray)):ByteArray:=Tr.R (mkF p) 5 0
theorem mkF_size (p:Int -> Option (Int × ByteArray)) (j:Nat):(mkF p j).size = 16:=Pg.mk_size _ _
theorem mkF_ok (p:Int -> Option (Int × ByteArray)):Tr.okB (mkF p) 32 = true:=by
  unfold Tr.okB;rw [Tr.marksB_spec.2 fun i _ => mkF_size p i];rfl
theorem rootP_eq (p:Int -> Option (Int × ByteArray)):Tr.rootT (mkF p) 32 = rootP p:=by unfold Tr.rootT;rw [mkF_ok];rfl
theorem rootP_C (p:Int -> Option (Int × ByteArray)):Tr.errV (Tr.rootC (mkF p) 32) = .nilIface:=by unfold Tr.rootC;rw [mkF_ok];rfl
theorem rootP_size (p:Int -> Option (Int × ByteArray)):(rootP p).size = 16:=Tr.R_size (mkF p) (fun i _ => mkF_size p i) 5 0 (by decide)
theorem mk32 (w:World):(Instr.makeSlice 108 (.int .i64 0) (.int .i64 32)).run Tryz.prog w = .ok (.slice (some ⟨w.heap.size,0,none⟩) 0 32) (w.alloc (.cells (Tr.zN 32) 9)):=by
  obtain ⟨i,hi,h1⟩:=Option.map_eq_some_iff.1 Tr.infoStr
  simp only [Prod.mk.injEq] at h1
  obtain ⟨h1,h2,h3⟩:=h1
  have:=run_makeSlice (P:=Tryz.prog) w 108 9 i _ Tryz.underlying108 hi h1 .i64 .i64 0 32 (by decide) (by omega) (by rw [h2];simp) (by rw [h3];omega) (by omega)
  rw [this,h2]
  rfl
theorem own32 (w:World):(w.alloc (.cells (Tr.zN 32) 9)).ownsRow w.heap.size 9 1 (.slice (some ⟨w.heap.size,0,none⟩) 0 32) 0 []:=by
  refine ⟨rfl,Or.inr ⟨w.heap.size,32,Tr.zN 32,rfl,Nat.le_refl _,?_,Nat.zero_le _,by unfold maxLen;omega,?_,by simp⟩⟩
  · exact heap_alloc_new w (.cells (Tr.zN 32) 9)
  · unfold Tr.zN madeCells;simp
theorem entC_one (x:Int × ByteArray):∀ v ∈ (#[.int .i64 x.1,.string x.2]:Array Value).toList,v.oneCell' = true:=by
  intro v hv;simp at hv;rcases hv with rfl | rfl <;> rfl
set_option maxRecDepth 100000 in
set_option maxHeartbeats 2000000 in
theorem root_any (c e:Int) (f:Nat -> Bool) (r:ByteArray) (m:Value) (n:Nat) (p:Int -> Option (Int × ByteArray)) (w:World) (hM:MapV Tryz.prog w m n (pv p)) (hs:∀ j:Nat,j < 32 -> (rd p j).2.size <= 300) (hK:Sm.KB w) :
    Calls Tryz.prog 253 #[.agg (stA c e f r m)] w fun e' w' => e' = .returned (.tuple #[.string (rootP p),.nilIface]) ∧ Below w.heap.size w w':=by
  have HS:Hid (∀ j:Nat,j < 32 -> (rd p j).2.size <= 300):=hs
  have hV36:=stA_size c e f r m
  have h35:=stA_35 c e f r m
  obtain ⟨V,hV⟩:∃ V,Hid (stA c e f r m = V):=⟨_,rfl⟩
  rw [hV.out] at hV36 h35
  rw [hV.out]
  clear hV hs
  have mk:=mk32
  obtain ⟨i0,hi0,hpp⟩:=Option.map_eq_some_iff.1 Tr.infoStr
  simp only [Prod.mk.injEq] at hpp
  obtain ⟨hp0,hp1,hp2⟩:=hpp
  go_enter Tryz.func253,Tryz.ntmps253
  go_wp2_with fail
  clear mk
  have j0:=Blk.new w V 189
  have g0:=Pg.below_alloc w (.cells V 189)
  have hM0:=hM.below g0
  have z0:(w.alloc (.cells V 189)).heap.size = w.heap.size + 1:=by simp
  obtain ⟨B,hB⟩:∃ B,Hid (B = w.heap.size):=⟨_,rfl⟩
  have hBw:Hid (w.heap.size <= B):=Nat.le_of_eq hB.out.symm
  rw [<- hB.out] at j0 z0
  rw [<- hB.out]
  clear hB
  generalize w.alloc (.cells V 189) = W0 at *
  have ow1:=own32 W0
  have g1:=Pg.below_alloc W0 (.cells (Tr.zN 32) 9)
  have j1:=j0.below g1 j0.lt
  have hM1:=hM0.below g1
  have b1:=g0.trans (g1.mono g0.size)
  obtain ⟨G,hG⟩:∃ G,Hid (G = B + 1):=⟨_,rfl⟩
  have hGw:Hid (w.heap.size <= G):=by unfold Hid;rw [hG.out,<- z0];exact g0.size
  have hBG:Hid (B ≠ G):=by unfold Hid;rw [hG.out];omega
  rw [z0,<- hG.out] at ow1
  rw [<- hG.out]
  have hMG:Hid (∀ b,m = .map (some b) -> b ≠ G):=fun b hb => by
    rw [hG.out,<- z0];subst hb;exact Nat.ne_of_lt hM0.lt
  generalize W0.alloc (.cells (Tr.zN 32) 9) = W1 at *
  clear hM0 g0 g1 hG j0 z0
  go_loopw [4,8] (fun v i wr => ∃ k:Nat,k <= 32 ∧ i = .int .i64 k ∧ v = .slice (some ⟨G,0,none⟩) k 32 ∧ wr.ownsRow G 9 1 (.slice (some ⟨G,0,none⟩) k 32) k (Tr.strs (mkF p) k) ∧ MapV Tryz.prog wr m n (pv p) ∧ Blk wr B V 189 ∧ Below w.heap.size w wr) (fun _ i _ => 32 - (intOf i).toNat)
  case atStart => exact ⟨0,by omega,rfl,rfl,ow1,hM1,j1,b1⟩
  case round =>
    clear ow1 hM1 j1 b1
    obtain ⟨k,hk,rfl,rfl,ow,hMr,jr,gr⟩:=hrel
    by_cases hlt:k < 32
    · have hl:=run_lookV (t:=187) und3 undE _ zeroE hMr (kOk_small (i:=(k:Int)) (by omega) (by omega))
      rw [pv_get] at hl
      unfold ent at hl
      have c35:wr.cell? ⟨B,35,none⟩ = some m:=by rw [jr.cell,h35]
      have hsz:=HS.out k hlt
      have hF:Hid (Pg.mk 112 [Pg.numS (k:Int),Pg.numS (rd p k).1,(rd p k).2] = mkF p k):=rfl
      have hF':Hid (Tr.strs (mkF p) (k + 1) = Tr.strs (mkF p) k ++ [.string (mkF p k)]):=Tr.strs_succ _ _
      have hlt':(k:Int) < 32:=by omega
      generalize rd p (k:Int) = x at *
      have e1:=entC_one x
      go_wp2_with (first
        | (refine Su.wpl_storeV rfl rfl 227 _ _ rfl 2 szE wr.heap.size _ 227 #[.int .i64 x.1,.string x.2] e1 rfl rfl (Blk.new wr _ _) rfl rfl ?_;intro w2 hu2 j2;have c0:=j2.cell 0;have c1:=j2.cell 1)
        | fail)
      have s2:Below wr.heap.size wr w2:=below_upd (Pg.below_alloc wr _) hu2 (Nat.le_refl _)
      have b2:=gr.trans (s2.mono gr.size)
      refine (Pg.pmark_any k x.1 x.2 w2 hsz (hK.below b2)).mono ?_
      rintro e' w3 ⟨rfl,g3⟩
      have s3:=s2.trans (g3.mono s2.size)
      clear s2 b2 g3 hu2 j2 c0 c1 hl c35
      rw [hF.out]
      generalize mkF p k = M at *
      have s4:=s3.trans ((Pg.below_alloc w3 (.cells #[.string M] 9)).mono s3.size)
      have ow4:=Tr.own_below ow s4 (Tr.own_lt ow)
      have j4:=jr.below s4 jr.lt
      have hM4:=hMr.below s4
      have b4:=gr.trans (s4.mono gr.size)
      go_wp2_with (refine wpList_append_fits _ rfl _ _ _ rfl G 9 i0 1 Tryz.underlying108 hi0 hp1 G k 32 (Tr.strs (mkF p) k) rfl ow4 ⟨w3.heap.size,0,none⟩ 1 1 [.string M] rfl rfl (cell_one_new w3 _ 9) (fun u hu => by simp at hu;subst hu;rfl) (by omega) ?_;intro w5 ow5 gr5)
      have b5:Below w.heap.size w w5:=b4.grown gr5 b4.size (fun j e => by injection e with e;rw [<- e];exact hGw.out)
      refine ⟨⟨k + 1,by omega,by go_num,rfl,by rw [hF'.out];exact ow5,?_,j4.grown gr5 (fun e => hBG.out (by injection e)),b5⟩,by simp [intOf];omega⟩
      refine hM4.same fun b hb => gr5.block b (by have:=hM4;rw [hb] at this;exact this.lt) (fun e => hMG.out b hb (by injection e))
    · have hk':k = 32:=by omega
      subst hk'
      go_wp2_with fail
      refine (Tr.root_any _ 32 32 (mkF p) _ (Tr.own_tx ow) (by decide) (fun i _ => by rw [mkF_size];decide) (hK.below gr)).mono ?_
      rintro e' w9 ⟨rfl,g9⟩
      rw [rootP_eq,rootP_C]
      go_wp2_with fail
      go_ret2
      exact ⟨rfl,gr.trans (g9.mono gr.size)⟩
set_option maxRecDepth 100000 in
set_option maxHeartbeats 2000000 in
theorem clone_any (b n:Nat) (g:Int -> Option Value) (w:World) (hM:MapF Tryz.prog w b n g) :
    Calls Tryz.prog 268 #[.map (some b)] w fun e w' => e = .returned (.map (some w.heap.size)) ∧ MapF Tryz.prog w' w.heap.size n g ∧ Below w.heap.size w w' ∧ w'.heap.size = w.heap.size + 1:=by
  obtain ⟨D,⟨es,clock,hb,F,hs,hD⟩,hT⟩:=hM
  have hq:=fun w => run_eql_map_nil_sl (P:=Tryz.prog) w 187 3 227 (some b) undE
  go_enter Tryz.func268,Tryz.ntmps268
  go_wp2
  rw [run_callFunc_extern Tryz.func128 (by kernel_rfl) (by kernel_rfl) (by kernel_rfl) (e:=Extern.MapsClone.clone) (by kernel_rfl),run_maps_clone_sl w 187 hb]
  simp only [Result.andThen]
  rw [Oper.upon_value]
  go_wp2
  rw [run_typeAssert_map_sl _ 187 20 _ _ _ undE]
  simp only [Result.andThen]
  rw [Oper.upon_value]
  go_wp2
  go_ret
  refine ⟨rfl,⟨D,⟨es,clock,(MapKept.heap_alloc w _).1,F,hs,hD⟩,hT⟩,Pg.below_alloc w _,by simp⟩
section
variable {P:Program} {ops:Array Oper} {Q:Exit -> Act -> World -> Prop} {a:Act} {w:World} {rest:List Oper} {o:Oper}
theorem wpl_put1 (hgd:o.guard = none) (hdn:o.dst = none) (t:TypeId) (x y:Operand) (ho:o.op = .store t x y) (hi0:(P.info? t).map (·.size) = some 1)
    (b j:Nat) (arr:Array Value) (T:TypeId) (z:Value) (hz:z.oneCell' = true) (hzc:z.cells = #[z]) (hx:a.eval x = .pointer (some ⟨b,j,none⟩)) (hy:a.eval y = z) (hb:Blk w b arr T) (hj:j < arr.size)
    (h:∀ w',Upd w w' b -> Blk w' b (arr.setIfInBounds j z) T -> wpList P ops Q rest a w'):wpList P ops Q (o :: rest) a w:=by
  refine wpList_plain hgd fun K hK => ?_
  obtain ⟨i,hi,hsize⟩:=Option.map_eq_some_iff.1 hi0
  unfold Oper.wp execOp
  have ha:(⟨b,j,none⟩:Addr).add 0 = ⟨b,j,none⟩:=by unfold Addr.add;simp
  have hl:(storeCells ⟨b,j,none⟩ [z] 0).run P w = .ok () (w.setCell ⟨b,j,none⟩ z):=by
    simp only [storeCells,Sem.run_bind,ha]
    rw [run_store _ _ _ _ _ hz,hb.cell,Array.getElem?_eq_getElem hj]
    simp only [hb.frozen,Bool.false_eq_true,if_false,Result.andThen_ok]
    rfl
  simp only [ho,hx,hy,Instr.storeAt,Instr.sureAddr,storeVar,sizeOf,typeInfo,hi,hsize,Sem.run_bind,Sem.run_pure,run_program,Result.andThen_ok,hzc,List.size_toArray,List.length_cons,List.length_nil,Nat.zero_add,ne_eq,not_true,if_false,hl]
  simp only [Oper.upon_skip,hdn,Act.put]
  exact hK _ _ (h _ (setCell_upd _ _ _ _) (hb.set j _))
variable {l:List Oper} {S:World -> Prop} {fuel:Nat} {listed:Array Bool}
theorem wpS_fork (Facts:Nat -> Nat -> World -> Prop) (vals:Nat -> Nat -> List (Nat × Value)) (hfin:∀ x y W,Facts x y W -> Q .normal ((vals x y).foldl (fun a z => a.put (some z.1) z.2) a) W)
    (h:(∀ x y W,Facts x y W -> Q .normal ((vals x y).foldl (fun a z => a.put (some z.1) z.2) a) W) -> wpS P l Q S fuel listed a w):wpS P l Q S fuel listed a w:=h hfin
end
def nxP (p t:Int -> Option (Int × ByteArray)) (i:Int):Option (Int × ByteArray):=(t i).or (p i)
def nxF (f:Nat -> Bool) (t:Int -> Option (Int × ByteArray)) (j:Nat):Bool:=if (t (j:Int)).isSome then !f j else f j
def cutP (t:Int -> Option (Int × ByteArray)) (left:Int -> Bool) (i:Int):Option (Int × ByteArray):=if left i then none else t i
theorem stA_congr (c e:Int) (f g:Nat -> Bool) (r:ByteArray) (m:Value) (h:∀ j,j < 32 -> f j = g j):stA c e f r m = stA c e g r m:=by
  unfold stA;rw [Su.supA_congr c e f g r h]
theorem buildSt (c e:Int) (f:Nat -> Bool) (r:ByteArray) (m:Option Nat) (w:World):(Instr.build 189 #[(0,.agg (Su.supA c e f r)),(1,.map m)]).run Tryz.prog w = .ok (.agg (stA c e f r (.map m))) w:=run_build w 189 _ _ (by kernel_rfl)
def st0:Array Value:=stA 0 0 (fun _ => false) ⟨#[]⟩ (.map none)
theorem zeroSt:∀ w,(zeroValue 189).run Tryz.prog w = .ok (.agg st0) w:=fun w => (Tryz.zeroValue189 w).trans (by kernel_rfl)
theorem buildSt0 (w:World):(Instr.build 189 #[]).run Tryz.prog w = .ok (.agg st0) w:=run_build w 189 _ _ (by kernel_rfl)
structure Bh (W:World) (w:World) (B NB CB tm:Nat) (V Z X:Array Value) (n nt:Nat) (g:Int -> Option Value) (t:Int -> Option (Int × ByteArray)):Prop where
  nb:Blk W NB X 189
  cb:MapF Tryz.prog W CB n g
  b0:Blk W B V 189
  b1:Blk W (B + 1) Z 189
  tt:MapF Tryz.prog W tm nt (pv t)
  lo:Below w.heap.size w W
  h1:w.heap.size = B
  h2:B + 2 <= NB
  h3:B + 2 <= CB
  h4:NB ≠ CB
  h5:tm < B
section
variable {W W' w:World} {B NB CB tm:Nat} {V Z X:Array Value} {n nt:Nat} {g:Int -> Option Value} {t:Int -> Option (Int × ByteArray)}
theorem Bh.upd {x:Nat} (h:Bh W w B NB CB tm V Z X n nt g t) (hu:Upd W W' x) (h1:NB ≠ x) (h2:CB ≠ x) (h3:B + 2 <= x):Bh W' w B NB CB tm V Z X n nt g t:=
  ⟨h.nb.upd hu h1,h.cb.upd hu h2,h.b0.upd hu (by omega),h.b1.upd hu (by omega),h.tt.upd hu (by have:=h.h5;omega),below_upd h.lo hu (by have:=h.h1;omega),h.h1,h.h2,h.h3,h.h4,h.h5⟩
theorem Bh.below (h:Bh W w B NB CB tm V Z X n nt g t) (hb:Below W.heap.size W W'):Bh W' w B NB CB tm V Z X n nt g t:=
  ⟨h.nb.below hb h.nb.lt,h.cb.below hb h.cb.lt,h.b0.below hb h.b0.lt,h.b1.below hb h.b1.lt,h.tt.below hb h.tt.lt,h.lo.trans (hb.mono h.lo.size),h.h1,h.h2,h.h3,h.h4,h.h5⟩
theorem Bh.setN {X':Array Value} (h:Bh W w B NB CB tm V Z X n nt g t) (hu:Upd W W' NB) (j:Blk W' NB X' 189):Bh W' w B NB CB tm V Z X' n nt g t:=
  ⟨j,h.cb.upd hu h.h4.symm,h.b0.upd hu (by have:=h.h2;omega),h.b1.upd hu (by have:=h.h2;omega),h.tt.upd hu (by have:=h.h5;have:=h.h2;omega),below_upd h.lo hu (by have:=h.h1;have:=h.h2;omega),h.h1,h.h2,h.h3,h.h4,h.h5⟩
theorem Bh.setC {n':Nat} {g':Int -> Option Value} (h:Bh W w B NB CB tm V Z X n nt g t) (hu:Upd W W' CB) (m:MapF Tryz.prog W' CB n' g'):Bh W' w B NB CB tm V Z X n' nt g' t:=
  ⟨h.nb.upd hu h.h4,m,h.b0.upd hu (by have:=h.h3;omega),h.b1.upd hu (by have:=h.h3;omega),h.tt.upd hu (by have:=h.h5;have:=h.h3;omega),below_upd h.lo hu (by have:=h.h1;have:=h.h3;omega),h.h1,h.h2,h.h3,h.h4,h.h5⟩
theorem Bh.to {X':Array Value} {g':Int -> Option Value} (h:Bh W w B NB CB tm V Z X n nt g t) (e:X = X') (hg:∀ i,kOk i -> g' i = g i):Bh W w B NB CB tm V Z X' n nt g' t:=
  ⟨e ▸ h.nb,h.cb.congr hg,h.b0,h.b1,h.tt,h.lo,h.h1,h.h2,h.h3,h.h4,h.h5⟩
end
end Go.Proofs.YtjmpjfikcgccdaaGreatDoor.Vt
