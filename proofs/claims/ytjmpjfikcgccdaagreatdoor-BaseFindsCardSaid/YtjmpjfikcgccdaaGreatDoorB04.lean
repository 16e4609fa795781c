/-
  Part of the proof of BaseFindsCard (I1 and on).
-/
import Derived.Lib.SplitLaws
import Derived.Lib.ItoaLen
import Derived.Lib.AtoiTie
import Derived.Lib.AtoiAll
import Derived.Lib.Join
import Derived.Below
import Derived.Shelf.Pu.Clone
import Derived.Test.YtjmpjfikcgccdaaGreatDoorProg
import Derived.Test.YtjmpjfikcgccdaaGreatDoorB01
import Derived.Test.YtjmpjfikcgccdaaGreatDoorB02
import Derived.OrdersHeld
import Derived.Deep.AppendLies
import Derived.Test.YtjmpjfikcgccdaaGreatDoorB03
import Derived.Lib.AppendIntMem
import Derived.Lib.SmallJoins
namespace Go.Proofs.YtjmpjfikcgccdaaGreatDoor.It
open Go.Lib
structure Itm where
  name:ByteArray
  tag:ByteArray
  nums:List Int
def isLet (c:UInt8):Bool:=decide (97 <= c.toNat) && decide (c.toNat <= 122)
def isDig (c:UInt8):Bool:=decide (48 <= c.toNat) && decide (c.toNat <= 57)
def nameB (s:ByteArray):Bool:=decide (1 <= s.size) && decide (s.size <= 10) && isLet (s.data.toList.getD 0 0) && s.data.toList.all fun c => isLet c || isDig c
def dimB (d:Int):Bool:=decide (1 <= d) && decide (d <= 8)
def numB (n:Int):Bool:=decide (-1000 <= n) && decide (n <= 1000)
def tagB (s:ByteArray):Bool:=decide (s.size = 0) || nameB s
def rightB (x:Itm) (d:Int):Bool:=dimB d && decide ((x.nums.length:Int) = d) && nameB x.name && tagB x.tag && x.nums.all numB
def lineS (x:Itm):List UInt8:=join (x.name.data.toList :: x.tag.data.toList :: x.nums.map itoa) [32]
def headS (d:Int):List UInt8:=[100,105,109,32] ++ itoa d
def linesS (L:List (List UInt8)):List UInt8:=(L.map (· ++ [10])).flatten
def textS (d:Int) (xs:List Itm):List UInt8:=linesS (headS d :: xs.map lineS)
theorem digits_len:∀ (k u:Nat),u < 10 ^ (k + 1) -> (decDigits u).length <= k + 1
  | 0,u,h => by rw [decDigits,dif_pos (by simpa using h)];simp
  | k + 1,u,h => by
    rw [decDigits]
    split
    · simp
    · have:=digits_len k (u / 10) (by rw [Nat.pow_succ] at h;omega)
      simp;omega
theorem itoa_len (n:Int) (h0:-1000 <= n) (h1:n <= 1000):(itoa n).length <= 5:=by
  unfold itoa
  split
  · have:=digits_len 3 n.natAbs (by omega)
    simp;omega
  · have:=digits_len 3 n.toNat (by omega)
    omega
theorem join_two (x y:List UInt8) (r:List (List UInt8)) (c:UInt8):join (x :: y :: r) [c] = x ++ c :: join (y :: r) [c]:=by
  rw [join_cons,join_cons];simp [joinTail]
theorem nameB_size {s:ByteArray} (h:nameB s = true):s.size <= 10:=by
  simp only [nameB,Bool.and_eq_true,decide_eq_true_eq] at h
  exact h.1.1.2
theorem tagB_size {s:ByteArray} (h:tagB s = true):s.size <= 10:=by
  unfold tagB at h
  rcases Bool.or_eq_true_iff.1 h with h | h
  · have:s.size = 0:=by simpa using h
    omega
  · exact nameB_size h
theorem right_parts {x:Itm} {d:Int} (h:rightB x d = true):(1 <= d ∧ d <= 8) ∧ (x.nums.length:Int) = d ∧ nameB x.name = true ∧ tagB x.tag = true ∧ x.nums.all numB = true:=by
  simp only [rightB,dimB,Bool.and_eq_true,decide_eq_true_eq] at h
  exact ⟨h.1.1.1.1,h.1.1.1.2,h.1.1.2,h.1.2,h.2⟩
theorem lines_cons (a:List UInt8) (L:List (List UInt8)):linesS (a :: L) = a ++ 10 :: linesS L:=by simp [linesS]
end Go.Proofs.YtjmpjfikcgccdaaGreatDoor.It
namespace Go.Proofs.YtjmpjfikcgccdaaGreatDoor.Su
open Go.Shelf Go.RowKit
def lr:Go.Shelf.Ren:=⟨fun | 25 => 294 | n => n,fun | 37 => 180 | 47 => 266 | n => n,fun | n => n⟩
theorem lays25:Go.Proofs.LaysPu.n25 Tryz.prog lr:={
  mixed:=by kernel_rfl
  f25:=Tryz.func294.trans (congrArg some (by kernel_rfl))
  t0:=Tryz.underlying0
  a0:=Tryz.isAgg0
  z0:=Tryz.sizeOf0
  v0:=Tryz.zeroValue0
  i0:=by kernel_rfl
  t3:=Tryz.underlying3
  a3:=Tryz.isAgg3
  z3:=Tryz.sizeOf3
  v3:=Tryz.zeroValue3
  i3:=by kernel_rfl
  t4:=Tryz.underlying4
  a4:=Tryz.isAgg4
  z4:=Tryz.sizeOf4
  v4:=Tryz.zeroValue4
  i4:=by kernel_rfl
  t5:=Tryz.underlying5
  a5:=Tryz.isAgg5
  z5:=Tryz.sizeOf5
  v5:=Tryz.zeroValue5
  i5:=by kernel_rfl
  t9:=Tryz.underlying9
  a9:=Tryz.isAgg9
  z9:=Tryz.sizeOf9
  v9:=Tryz.zeroValue9
  i9:=by kernel_rfl
  t37:=Tryz.underlying180
  a37:=Tryz.isAgg180
  z37:=Tryz.sizeOf180
  v37:=Tryz.zeroValue180
  i37:=by kernel_rfl
  t47:=Tryz.underlying266
  a47:=Tryz.isAgg266
  z47:=Tryz.sizeOf266
  v47:=Tryz.zeroValue266
  i47:=by kernel_rfl }
theorem slClone_any (s:ByteArray) (w:World) (h:s.size <= 10000):Calls Tryz.prog 294 #[.string s] w fun e w' => e = .returned (.string s) ∧ Below w.heap.size w w':=AnyPu.stringslite_Clone lays25 s w (by omega)
theorem clone_any (s:ByteArray) (w:World) (h:s.size <= 10000):Calls Tryz.prog 258 #[.string s] w fun e w' => e = .returned (.string s) ∧ Below w.heap.size w w':=by
  go_enter Tryz.func258,Tryz.ntmps258
  go_wp2_with (go_at_call 294;refine (slClone_any s _ h).mono ?_;rintro e w1 ⟨rfl,g1⟩)
  go_ret
  exact ⟨rfl,g1⟩
end Go.Proofs.YtjmpjfikcgccdaaGreatDoor.Su
namespace Go.Proofs.YtjmpjfikcgccdaaGreatDoor
open Go.RowKit
section
variable {P:Program} {ops:Array Oper} {Q:Exit -> Act -> World -> Prop} {S:World -> Prop} {keep:Nat -> Bool}
def wpAnyS (P:Program) (ops:Array Oper) (Q:Exit -> Act -> World -> Prop) (keep:Nat -> Bool) (S:World -> Prop):Nat -> Array Bool -> Act -> World -> Prop
  | 0,listed,a,w => Region.ready .any ops listed = [] ∧ Q .normal a w
  | fuel + 1,listed,a,w =>
    (Region.ready .any ops listed = [] -> Q .normal a w) ∧
    ∀ i ∈ Region.ready .any ops listed,wpOp P ops Q i (fun a' w' => (keep i = true -> S w -> S w') ∧ wpAnyS P ops Q keep S fuel (listed.setIfInBounds i true) a' w') a w
theorem wpAny_of_S:∀ (fuel:Nat) (listed:Array Bool) (a:Act) (w:World),wpAnyS P ops Q keep S fuel listed a w -> wpAny P .any ops Q fuel listed a w
  | 0,_,_,_,h => h
  | fuel + 1,_,_,_,h => ⟨h.1,fun i hi => wpOp_mono (fun a' w' h' => wpAny_of_S fuel _ a' w' h'.2) (h.2 i hi)⟩
def Clo (ops:Array Oper) (listed:Array Bool):Prop:=∀ j oj,ops[j]? = some oj -> listed.getD j false = true -> ∀ e ∈ oj.after,Region.binds .any e = true -> listed.getD e.on false = true
theorem getD_tf {l:Array Bool} {i:Nat} (h:l.getD i true = false):l.getD i false = false:=by
  rcases Nat.lt_or_ge i l.size with h' | h'
  · simp [h'] at h ⊢;exact h
  · simp [Array.getElem?_eq_none h'] at h
theorem Clo.set {listed:Array Bool} {i:Nat} (h:Clo ops listed) (hr:i ∈ Region.ready .any ops listed):Clo ops (listed.setIfInBounds i true):=by
  intro j oj hj hl e he hb
  obtain ⟨hun,oi,hoi,hall⟩:=mem_ready.1 hr
  have up:∀ k,listed.getD k false = true -> (listed.setIfInBounds i true).getD k false = true:=by
    intro k hk
    by_cases e:i = k
    · subst e;rw [getD_tf hun] at hk;cases hk
    · rw [getD_set_ne false e];exact hk
  by_cases e':i = j
  · subst e'
    obtain rfl:oi = oj:=Option.some.inj (hoi.symm.trans hj)
    exact up _ (hall e he hb)
  · rw [getD_set_ne false e'] at hl
    exact up _ (h j oj hj hl e he hb)
theorem any_mem {α:Type} {p:α -> Bool} {l:Array α} (h:l.any p = true):∃ x ∈ l,p x = true:=by
  rw [<- Array.any_toList,List.any_eq_true] at h
  obtain ⟨x,hx,h⟩:=h
  exact ⟨x,by simpa using hx,h⟩
def reach (ops:Array Oper):Nat -> Nat -> Nat -> Bool
  | 0,_,_ => false
  | f + 1,j,i => match ops[j]? with
    | none => false
    | some o => o.after.any fun e => Region.binds .any e && (e.on == i || reach ops f e.on i)
theorem reach_clo {listed:Array Bool} (hc:Clo ops listed):∀ (f j i:Nat),reach ops f j i = true -> listed.getD j false = true -> listed.getD i false = true
  | 0,_,_,h,_ => by simp [reach] at h
  | f + 1,j,i,h,hl => by
    unfold reach at h
    cases ho:ops[j]? with
    | none => simp [ho] at h
    | some o =>
      simp only [ho] at h
      obtain ⟨e,he,h2⟩:=any_mem h
      simp only [Bool.and_eq_true,Bool.or_eq_true,beq_iff_eq] at h2
      have hk:=hc j o ho hl e he h2.1
      rcases h2.2 with h3 | h3
      · rw [h3] at hk;exact hk
      · exact reach_clo hc f e.on i h3 hk
theorem reach_ready {listed:Array Bool} (hc:Clo ops listed) {f j i:Nat} (h:reach ops f j i = true) (hr:j ∈ Region.ready .any ops listed):listed.getD i false = true:=by
  cases f with
  | zero => simp [reach] at h
  | succ f =>
    obtain ⟨_,oj,hoj,hall⟩:=mem_ready.1 hr
    unfold reach at h
    simp only [hoj] at h
    obtain ⟨e,he,h2⟩:=any_mem h
    simp only [Bool.and_eq_true,Bool.or_eq_true,beq_iff_eq] at h2
    have hk:=hall e he h2.1
    rcases h2.2 with h3 | h3
    · rw [h3] at hk;exact hk
    · exact reach_clo hc f e.on i h3 hk
theorem wpAnyS_first {i:Nat} {oi:Oper} {v:Value} {S':World -> Prop} (hi:ops[i]? = some oi) (hsel:∀ (j:Nat) (o:Oper) cs b,ops[j]? = some o -> o.op ≠ .select cs b)
    (hQ:∀ c a w,Q (.panic c) (a.put oi.dst v) w -> Q (.panic c) a w) (hS':∀ (j:Nat) (listed:Array Bool) (w w':World),Clo ops listed -> listed.getD i true = false -> j ∈ Region.ready .any ops listed -> S' w -> (keep j = true -> S w -> S w') -> S' w') :
    ∀ (fuel:Nat) (listed:Array Bool) (a:Act) (w:World),Clo ops listed ->
      (∀ j oj,ops[j]? = some oj -> j ≠ i -> listed.getD j true = false -> (∀ e ∈ oj.after,Region.binds .any e = true -> e.on ≠ i) -> oi.apart ops oj = true) ->
      i ∈ Region.ready .any ops listed -> YieldsIf P ops S' oi v a -> S' w ->
      wpAnyS P ops Q keep S fuel (listed.setIfInBounds i true) (a.put oi.dst v) w -> wpAnyS P ops Q keep S (fuel + 1) listed a w:=by
  intro fuel
  induction fuel with
  | zero =>
    intro listed a w _ _ hr hy hS H
    refine ⟨fun h => (by rw [h] at hr;cases hr),fun j hj => ?_⟩
    by_cases hji:j = i
    · subst hji;exact hy.wpOp hi hS ⟨fun _ h => h,H⟩
    · have:=ready_mono hj hji
      rw [H.1] at this
      cases this
  | succ fuel ih =>
    intro listed a w hc hfree hr hy hS H
    refine ⟨fun h => (by rw [h] at hr;cases hr),fun j hj => ?_⟩
    by_cases hji:j = i
    · subst hji;exact hy.wpOp hi hS ⟨fun _ h => h,H⟩
    · have h1:=H.2 j (ready_mono hj hji)
      have hun:=(mem_ready.1 hr).1
      obtain ⟨hjun,oj,hoj,hall⟩:=mem_ready.1 hj
      have hnot:∀ e ∈ oj.after,Region.binds .any e = true -> e.on ≠ i:=fun e he hb heq => by
        have h1:=hall e he hb
        rw [heq,getD_tf hun] at h1
        cases h1
      have h2:=wpOp_putIf hoj (hfree j oj hoj hji hjun hnot) (fun cs b => hsel i oi cs b hi) (fun cs b => hsel j oj cs b hoj) hQ hy h1
      have hfree':∀ k ok,ops[k]? = some ok -> k ≠ i -> (listed.setIfInBounds j true).getD k true = false ->
          (∀ e ∈ ok.after,Region.binds .any e = true -> e.on ≠ i) -> oi.apart ops ok = true:=fun k ok hk hki hun hno => by
        refine hfree k ok hk hki ?_ hno
        by_cases hjk:j = k
        · subst hjk;exact hjun
        · rw [getD_set_ne true hjk] at hun;exact hun
      refine wpOp_mono (fun a' w' h3 => ⟨h3.2.1,ih (listed.setIfInBounds j true) a' w' (hc.set hj) hfree' (ready_mono hr (Ne.symm hji)) h3.1 (hS' j listed w w' hc hun hj hS h3.2.1) ?_⟩) h2
      rw [Array.setIfInBounds_comm _ _ hji]
      exact h3.2.2
def wpLead (P:Program) (ops:Array Oper) (S:World -> Prop) (L:Act -> Prop):List (Nat × Bool) -> Act -> Prop
  | [],a => L a
  | (i,pure) :: l,a => ∃ o d v,ops[i]? = some o ∧ o.dst = some d ∧ o.guard = none ∧ (∀ w,(pure = false -> S w) -> (execOp a.eval o).run P w = .ok (.value v) w) ∧ wpLead P ops S L l (a.put (some d) v)
theorem lead_nil {L:Act -> Prop} {a:Act} (h:L a):wpLead P ops S L [] a:=h
theorem lead_nil_eq {L:Act -> Prop} {a:Act}:wpLead P ops S L [] a = L a:=rfl
theorem lead_pure {L:Act -> Prop} {a:Act} {i:Nat} {l:List (Nat × Bool)} (o:Oper) (ho:ops[i]? = some o) (d:Tmp) (hd:o.dst = some d) (hg:o.guard = none) (v:Value) (hr:∀ w,(execOp a.eval o).run P w = .ok (.value v) w) (h:wpLead P ops S L l (a.put (some d) v)):wpLead P ops S L ((i,true) :: l) a:=
  ⟨o,d,v,ho,hd,hg,fun w _ => hr w,h⟩
theorem lead_read {L:Act -> Prop} {a:Act} {i:Nat} {l:List (Nat × Bool)} (o:Oper) (ho:ops[i]? = some o) (d:Tmp) (hd:o.dst = some d) (hg:o.guard = none) (v:Value) (hr:∀ w,S w -> (execOp a.eval o).run P w = .ok (.value v) w) (h:wpLead P ops S L l (a.put (some d) v)):wpLead P ops S L ((i,false) :: l) a:=
  ⟨o,d,v,ho,hd,hg,fun w hS => hr w (hS rfl),h⟩
def wpMid (P:Program) (ops:Array Oper) (Q:Exit -> Act -> World -> Prop) (S:World -> Prop) (L:Act -> World -> Prop):List Nat -> Act -> World -> Prop
  | [],a,w => L a w
  | j :: js,a,w => wpOp P ops Q j (fun a' w' => S w' ∧ wpMid P ops Q S L js a' w') a w
theorem mid_nil {L:Act -> World -> Prop} {a:Act} {w:World} (h:L a w):wpMid P ops Q S L [] a w:=h
theorem mid_nil_eq {L:Act -> World -> Prop} {a:Act} {w:World}:wpMid P ops Q S L [] a w = L a w:=rfl
theorem mid_cons {L:Act -> World -> Prop} {a:Act} {w:World} {j:Nat} {js:List Nat} (o:Oper) (ho:ops[j]? = some o) (hg:o.guard = none) (h:∀ K:Act -> World -> Prop,(∀ a' w',S w' -> wpMid P ops Q S L js a' w' -> K a' w') -> o.wp P a w K Q):wpMid P ops Q S L (j :: js) a w:=by
  unfold wpMid wpOp
  simp only [ho,Region.wanted,hg,if_true]
  exact Or.inl (h _ fun a' w' h1 h2 => ⟨h1,h2⟩)
def leadB (ops:Array Oper) (js:List Nat):List (Nat × Bool) -> Array Bool -> Bool
  | [],_ => true
  | (i,pure) :: l,listed => (Region.ready .any ops listed).contains i && Region.free .any ops listed i && (pure || js.all fun j => reach ops ops.size j i) && leadB ops js l (listed.setIfInBounds i true)
def leadL:List (Nat × Bool) -> Array Bool -> Array Bool
  | [],listed => listed
  | (i,_) :: l,listed => leadL l (listed.setIfInBounds i true)
def seqI (ops:Array Oper):List Nat -> Array Bool -> Bool
  | [],listed => (Region.ready .any ops listed).isEmpty
  | j :: js,listed => (Region.ready .any ops listed == [j]) && seqI ops js (listed.setIfInBounds j true)
def outB (ops:Array Oper) (ms js:List Nat) (is:List (Nat × Bool)):Bool:=
  (List.range ops.size).all fun k => ms.contains k || js.contains k || is.any fun p => p.1 == k
def checkS (ops:Array Oper) (is:List (Nat × Bool)) (ms js:List Nat):Bool:=
  let z:=Array.replicate ops.size false
  Region.noSelect ops && outB ops ms js is && leadB ops js is z && seqI ops (ms ++ js) (leadL is z) && (is.length + (ms.length + js.length) == ops.size)
theorem seqI_any (keep:Nat -> Bool) (S:World -> Prop):∀ (js:List Nat) (listed:Array Bool) (a:Act) (w:World),(∀ j ∈ js,keep j = false) -> seqI ops js listed = true -> wpList P ops Q (js.filterMap (ops[·]?)) a w -> (∀ j ∈ js,(ops[j]?).isSome = true) -> wpAnyS P ops Q keep S js.length listed a w
  | [],listed,a,w,_,hB,h,_ => ⟨by simpa [seqI] using hB,h⟩
  | j :: js,listed,a,w,hk,hB,h,hs => by
    simp only [seqI,Bool.and_eq_true,beq_iff_eq] at hB
    refine ⟨fun h1 => (by rw [hB.1] at h1;cases h1),fun i hi => ?_⟩
    rw [hB.1] at hi
    have hij:i = j:=by simpa using hi
    subst hij
    obtain ⟨o,ho⟩:=Option.isSome_iff_exists.1 (hs i (by simp))
    have hw:wpOp P ops Q i (wpList P ops Q (js.filterMap (ops[·]?))) a w:=by
      unfold wpOp;simp only [List.filterMap_cons,ho] at h ⊢;exact h
    exact wpOp_mono (fun a' w' h' => ⟨fun hh _ => (by rw [hk i (by simp)] at hh;cases hh),seqI_any keep S js _ a' w' (fun k hk' => hk k (by simp [hk'])) hB.2 h' (fun k hk' => hs k (by simp [hk']))⟩) hw
theorem seqM_any (keep:Nat -> Bool) (js:List Nat) (hkj:∀ j ∈ js,keep j = false) (hsj:∀ j ∈ js,(ops[j]?).isSome = true):∀ (ms:List Nat) (listed:Array Bool) (a:Act) (w:World),seqI ops (ms ++ js) listed = true ->
    wpMid P ops Q S (fun a' w' => wpList P ops Q (js.filterMap (ops[·]?)) a' w') ms a w -> wpAnyS P ops Q keep S (ms.length + js.length) listed a w
  | [],listed,a,w,hB,h => by rw [List.length_nil,Nat.zero_add];exact seqI_any keep S js listed a w hkj hB h hsj
  | m :: ms,listed,a,w,hB,h => by
    simp only [List.cons_append,seqI,Bool.and_eq_true,beq_iff_eq] at hB
    rw [List.length_cons,Nat.add_right_comm]
    refine ⟨fun h1 => (by rw [hB.1] at h1;cases h1),fun i hi => ?_⟩
    rw [hB.1] at hi
    have hij:i = m:=by simpa using hi
    subst hij
    unfold wpMid at h
    exact wpOp_mono (fun a' w' h' => ⟨fun _ _ => h'.1,seqM_any keep js hkj hsj ms _ a' w' hB.2 h'.2⟩) h
theorem lead_any (keep:Nat -> Bool) {L:Act -> Prop} {g:Nat} {w:World} (js:List Nat) (hsel:Region.noSelect ops = true) (hQ:∀ c a d v w,Q (.panic c) (a.put (some d) v) w -> Q (.panic c) a w) (hS:S w) (hkeep:∀ j,j < ops.size -> keep j = false -> j ∈ js):∀ (is:List (Nat × Bool)) (listed:Array Bool) (a:Act),Clo ops listed -> leadB ops js is listed = true -> wpLead P ops S L is a ->
    (∀ a',L a' -> wpAnyS P ops Q keep S g (leadL is listed) a' w) -> wpAnyS P ops Q keep S (is.length + g) listed a w
  | [],listed,a,_,_,h,hL => by rw [List.length_nil,Nat.zero_add];exact hL a h
  | (i,pure) :: is,listed,a,hc,hB,h,hL => by
    simp only [leadB,Bool.and_eq_true] at hB
    obtain ⟨o,d,v,ho,hd,hg,hv,h2⟩:=h
    have hr:i ∈ Region.ready .any ops listed:=by simpa using hB.1.1.1
    rw [List.length_cons,Nat.add_right_comm]
    refine wpAnyS_first (v:=v) (S':=fun w' => pure = false -> S w') ho (Region.noSelect_spec hsel) (fun c a w h => by rw [hd] at h;exact hQ _ _ _ _ _ h) ?_ _ listed a w hc (Region.free_spec ho hB.1.1.2) hr (Or.inl ⟨by simp [Region.wanted,hg],hv⟩) (fun _ => hS) ?_
    · intro j listed' w0 w' hc' hun hj h0 hk hp
      refine hk ?_ (h0 hp)
      cases hkj:keep j with
      | true => rfl
      | false =>
        exfalso
        have hjs:j < ops.size:=by
          obtain ⟨_,oj,hoj,_⟩:=mem_ready.1 hj
          exact (Array.getElem?_eq_some_iff.1 hoj).1
        have hb:=hB.1.2
        simp only [hp,Bool.false_or] at hb
        have h3:=reach_ready hc' (List.all_eq_true.1 hb j (hkeep j hjs hkj)) hj
        rw [getD_tf hun] at h3;cases h3
    · rw [hd]
      exact lead_any keep js hsel hQ hS hkeep is _ _ (hc.set hr) hB.2 h2 hL
theorem region_s {id:Nat} {a:Act} {w:World} {l:List Oper} (is:List (Nat × Bool)) (ms js:List Nat) (S:World -> Prop) (hm:P.follows .mixedOrders = true) (hB:checkS l.toArray is ms js = true) (hQ:∀ c a d v w,Q (.panic c) (a.put (some d) v) w -> Q (.panic c) a w) (hS:S w.drew)
    (h:wpLead P l.toArray S (fun a' => wpMid P l.toArray Q S (fun a' w' => wpList P l.toArray Q (js.filterMap (l.toArray[·]?)) a' w') ms a' w.drew) is a):(Code.region id l.toArray true).wp P Q a w:=by
  simp only [checkS,Bool.and_eq_true,beq_iff_eq] at hB
  obtain ⟨⟨⟨⟨hsel,hout⟩,hlead⟩,hseq⟩,hlen⟩:=hB
  have hsj:∀ j ∈ ms ++ js,(l.toArray[j]?).isSome = true:=by
    have:∀ (ks:List Nat) (listed:Array Bool),seqI l.toArray ks listed = true -> ∀ j ∈ ks,(l.toArray[j]?).isSome = true:=by
      intro ks
      induction ks with
      | nil => intro _ _ j hj;cases hj
      | cons k ks ih =>
        intro listed hB j hj
        simp only [seqI,Bool.and_eq_true,beq_iff_eq] at hB
        rcases List.mem_cons.1 hj with rfl | hj
        · have:j ∈ Region.ready .any l.toArray listed:=by rw [hB.1];simp
          obtain ⟨_,oj,hoj,_⟩:=mem_ready.1 this
          rw [hoj];rfl
        · exact ih _ hB.2 j hj
    exact this _ _ hseq
  refine wp_region_any hm ?_
  rw [show wpAny P .any l.toArray Q l.toArray.size = wpAny P .any l.toArray Q (is.length + (ms.length + js.length)) from by rw [hlen]]
  refine wpAny_of_S (keep:=fun j => !js.contains j) (S:=S) _ _ _ _ ?_
  refine lead_any _ js hsel hQ hS (fun j _ hk => by simpa using hk) is _ a (fun j oj _ hl => by rw [getD_replicate_false] at hl;cases hl) hlead h ?_
  intro a' h'
  exact seqM_any _ js (fun j hj => by simpa using hj) (fun j hj => hsj j (by simp [hj])) ms _ a' w.drew hseq h'
end
end Go.Proofs.YtjmpjfikcgccdaaGreatDoor
namespace Go.Proofs.YtjmpjfikcgccdaaGreatDoor
open Go.RowKit
section
variable {P:Program} {l:List Oper} {Q:Exit -> Act -> World -> Prop} {S:World -> Prop} {fuel:Nat} {listed:Array Bool} {a:Act} {w:World}
def wpS (P:Program) (l:List Oper) (Q:Exit -> Act -> World -> Prop) (S:World -> Prop):Nat -> Array Bool -> Act -> World -> Prop:=wpAnyS P l.toArray Q (fun _ => true) S
theorem regS_in {id:Nat} (n:Nat) (S:World -> Prop) (hm:P.follows .mixedOrders = true) (hn:l.length = n) (h:wpS P l Q S n (Array.replicate n false) a w.drew):(Code.region id l.toArray true).wp P Q a w:=by
  refine wp_region_any hm ?_
  rw [List.size_toArray,hn]
  exact wpAny_of_S _ _ _ _ h
theorem clo_of {ops:Array Oper} {listed:Array Bool} (h1:closedB ops listed = true):Clo ops listed:=by
  intro j oj hj hl e he hb
  have:=List.all_eq_true.1 h1 j (List.mem_range.2 (Array.getElem?_eq_some_iff.1 hj).1)
  simp only [hl,hj,Bool.not_true,Bool.false_or] at this
  have:=Array.all_eq_true_iff_forall_mem.1 this e he
  simpa [hb] using this
theorem regS_first (i:Nat) (d:Tmp) (v:Value) {o:Oper} (hi:l[i]? = some o) (hd:o.dst = some d) (hB:(Region.noSelect l.toArray && Region.free .any l.toArray listed i && (Region.ready .any l.toArray listed).contains i && closedB l.toArray listed) = true)
    (hQ:∀ c a w,Q (.panic c) (a.put (some d) v) w -> Q (.panic c) a w) (hy:YieldsIf P l.toArray S o v a) (hS:S w)
    (h:wpS P l Q S fuel (listed.setIfInBounds i true) (a.put (some d) v) w):wpS P l Q S (fuel + 1) listed a w:=by
  simp only [Bool.and_eq_true] at hB
  have hi':l.toArray[i]? = some o:=by rw [List.getElem?_toArray];exact hi
  have hr:i ∈ Region.ready .any l.toArray listed:=by simpa using hB.1.2
  refine wpAnyS_first (v:=v) (S':=S) hi' (Region.noSelect_spec hB.1.1.1) (by rw [hd];exact hQ) (fun _ _ _ _ _ _ _ h0 hk => hk rfl h0) fuel listed a w (clo_of hB.2) (Region.free_spec hi' hB.1.1.2) hr hy hS ?_
  rw [hd];exact h
theorem regS_take (i:Nat) (d:Tmp) (v:Value) {o:Oper} (hi:l[i]? = some o) (hd:o.dst = some d) (hB:(Region.noSelect l.toArray && Region.free .any l.toArray listed i && (Region.ready .any l.toArray listed).contains i && closedB l.toArray listed) = true)
    (hQ:∀ c a w,Q (.panic c) (a.put (some d) v) w -> Q (.panic c) a w) (hw:Region.wanted o (yielded l.toArray a.tmps) = true) (hv:∀ w,S w -> (execOp a.eval o).run P w = .ok (.value v) w) (hS:S w)
    (h:wpS P l Q S fuel (listed.setIfInBounds i true) (a.put (some d) v) w):wpS P l Q S (fuel + 1) listed a w:=
  regS_first i d v hi hd hB hQ (Or.inl ⟨hw,hv⟩) hS h
theorem regS_skip (i:Nat) (d:Tmp) {o:Oper} (hi:l[i]? = some o) (hd:o.dst = some d) (hB:(Region.noSelect l.toArray && Region.free .any l.toArray listed i && (Region.ready .any l.toArray listed).contains i && closedB l.toArray listed) = true)
    (hQ:∀ c a w,Q (.panic c) (a.put (some d) undef) w -> Q (.panic c) a w) (hw:Region.wanted o (yielded l.toArray a.tmps) = false) (hS:S w)
    (h:wpS P l Q S fuel (listed.setIfInBounds i true) (a.put (some d) undef) w):wpS P l Q S (fuel + 1) listed a w:=
  regS_first i d undef hi hd hB hQ (Or.inr ⟨hw,rfl⟩) hS h
theorem regS_op (i:Nat) {o:Oper} (hi:l[i]? = some o) (hw:Region.wanted o (yielded l.toArray a.tmps) = true) {K0:Act -> World -> Prop} (h:∀ K:Act -> World -> Prop,(∀ a' w',S w' -> K0 a' w' -> K a' w') -> o.wp P a w K Q):wpOp P l.toArray Q i (fun a' w' => (true = true -> S w -> S w') ∧ K0 a' w') a w:=by
  have hi':l.toArray[i]? = some o:=by rw [List.getElem?_toArray];exact hi
  unfold wpOp
  simp only [hi',hw,if_true]
  exact Or.inl (h _ fun _ _ hS hk => ⟨fun _ _ => hS,hk⟩)
theorem regS_one (i:Nat) {o:Oper} (hi:l[i]? = some o) (hr:(Region.ready .any l.toArray listed == [i]) = true) (hw:Region.wanted o (yielded l.toArray a.tmps) = true)
    (h:∀ K:Act -> World -> Prop,(∀ a' w',S w' -> wpS P l Q S fuel (listed.setIfInBounds i true) a' w' -> K a' w') -> o.wp P a w K Q):wpS P l Q S (fuel + 1) listed a w:=by
  rw [beq_iff_eq] at hr
  refine ⟨fun h0 => (by rw [hr] at h0;cases h0),fun j hj => ?_⟩
  rw [hr] at hj
  obtain rfl:=List.mem_singleton.1 hj
  exact regS_op _ hi hw h
theorem regS_two (i j:Nat) {o o':Oper} (hi:l[i]? = some o) (hj:l[j]? = some o') (hr:(Region.ready .any l.toArray listed == [i,j]) = true) (hw:Region.wanted o (yielded l.toArray a.tmps) = true) (hw':Region.wanted o' (yielded l.toArray a.tmps) = true)
    (h:∀ K:Act -> World -> Prop,(∀ a' w',S w' -> wpS P l Q S fuel (listed.setIfInBounds i true) a' w' -> K a' w') -> o.wp P a w K Q)
    (h':∀ K:Act -> World -> Prop,(∀ a' w',S w' -> wpS P l Q S fuel (listed.setIfInBounds j true) a' w' -> K a' w') -> o'.wp P a w K Q):wpS P l Q S (fuel + 1) listed a w:=by
  rw [beq_iff_eq] at hr
  refine ⟨fun h0 => (by rw [hr] at h0;cases h0),fun k hk => ?_⟩
  rw [hr] at hk
  rcases List.mem_cons.1 hk with rfl | hk
  · exact regS_op _ hi hw h
  · obtain rfl:=List.mem_singleton.1 hk
    exact regS_op _ hj hw' h'
theorem regS_end (hr:(Region.ready .any l.toArray listed == []) = true) (h:Q .normal a w):wpS P l Q S fuel listed a w:=by
  rw [beq_iff_eq] at hr
  cases fuel with
  | zero => exact ⟨hr,h⟩
  | succ n => exact ⟨fun _ => h,fun i hi => by rw [hr] at hi;cases hi⟩
theorem regS_last (i:Nat) {o:Oper} (hi:l[i]? = some o) (hB:((Region.ready .any l.toArray listed == [i]) && (Region.ready .any l.toArray (listed.setIfInBounds i true) == [])) = true) (hw:Region.wanted o (yielded l.toArray a.tmps) = true)
    (h:∀ K:Act -> World -> Prop,(∀ a' w',S w' -> Q .normal a' w' -> K a' w') -> o.wp P a w K Q):wpS P l Q S (fuel + 1) listed a w:=by
  rw [Bool.and_eq_true] at hB
  exact regS_one i hi hB.1 hw fun K hK => h K fun a' w' hS hQ => hK a' w' hS (regS_end hB.2 hQ)
end
end Go.Proofs.YtjmpjfikcgccdaaGreatDoor
namespace Go.Proofs.YtjmpjfikcgccdaaGreatDoor
open Go.RowKit
def Row (w:World) (B:Nat) (e:TypeId) (v:Value) (xs:List Value):Prop:=w.ownsRow B e 1 v xs.length xs
theorem Row.nil (w:World) (B:Nat) (e:TypeId):Row w B e (.slice none 0 0) []:=⟨rfl,Or.inl ⟨rfl,rfl⟩⟩
theorem Row.below {w w':World} {B:Nat} {e:TypeId} {v:Value} {xs:List Value} (h:Row w B e v xs) (hb:Below w.heap.size w w'):Row w' B e v xs:=by
  obtain ⟨h1,h2⟩:=h
  refine ⟨h1,?_⟩
  rcases h2 with h2 | ⟨g,cap,cur,hv,hg,hh,r⟩
  · exact Or.inl h2
  · refine Or.inr ⟨g,cap,cur,hv,hg,?_,r⟩
    have lt:g < w.heap.size:=by
      rcases Nat.lt_or_ge g w.heap.size with h' | h'
      · exact h'
      · simp [Array.getElem?_eq_none h'] at hh
    rw [hb.block _ lt];exact hh
theorem Row.grown {w w':World} {B g:Nat} {e:TypeId} {n cap:Nat} {xs:List Value} {row:Option Nat} (h:Row w B e (.slice (some ⟨g,0,none⟩) n cap) xs) (hg:w.grownBy w' row) (hne:some g ≠ row):Row w' B e (.slice (some ⟨g,0,none⟩) n cap) xs:=by
  obtain ⟨h1,h2⟩:=h
  refine ⟨h1,?_⟩
  rcases h2 with h2 | ⟨g',cap',cur,hv,hgB,hh,r⟩
  · exact Or.inl h2
  · refine Or.inr ⟨g',cap',cur,hv,hgB,?_,r⟩
    have lt:g' < w.heap.size:=by
      rcases Nat.lt_or_ge g' w.heap.size with h' | h'
      · exact h'
      · simp [Array.getElem?_eq_none h'] at hh
    have e:g = g':=by injection hv with a1;injection a1 with a2;injection a2
    rw [hg.block _ lt (e ▸ hne)];exact hh
theorem Row.cell {w:World} {B g n cap:Nat} {e:TypeId} {xs:List Value} (h:Row w B e (.slice (some ⟨g,0,none⟩) n cap) xs) (j:Nat) (u:Value) (hj:xs[j]? = some u):w.cell? ⟨g,j,none⟩ = some u:=by
  obtain ⟨h1,h2⟩:=h
  rcases h2 with ⟨h2,_⟩ | ⟨g',cap',cur,hv,hgB,hh,_,_,_,ht⟩
  · injection h2 with a1;cases a1
  · have e:g = g':=by injection hv with a1;injection a1 with a2;injection a2
    subst e
    simp only [World.cell?,hh]
    rw [<- ht,List.getElem?_take] at hj
    split at hj
    · simpa using hj
    · cases hj
theorem Row.form {w:World} {B:Nat} {e:TypeId} {v:Value} {xs:List Value} (h:Row w B e v xs):(v = .slice none 0 0 ∧ xs = []) ∨ ∃ g cap,v = .slice (some ⟨g,0,none⟩) xs.length cap ∧ B <= g ∧ g < w.heap.size:=by
  obtain ⟨h1,h2⟩:=h
  rcases h2 with ⟨h2,h3⟩ | ⟨g',cap',cur,hv,hgB,hh,_⟩
  · exact Or.inl ⟨h2,List.eq_nil_of_length_eq_zero h3⟩
  · refine Or.inr ⟨g',cap',hv,hgB,?_⟩
    rcases Nat.lt_or_ge g' w.heap.size with h' | h'
    · exact h'
    · simp [Array.getElem?_eq_none h'] at hh
section
variable {P:Program} {ops:Array Oper} {Q:Exit -> Act -> World -> Prop} {a:Act} {w:World} {rest:List Oper} {o:Oper}
theorem wpl_push (hgd:o.guard = none) (s x:Operand) (t:TypeId) (ho:o.op = .call { callee:=.builtin .append,args:=#[s,x],argTypes:=#[t,t] })
    (B:Nat) (e:TypeId) (z:Value) (bytes:Nat) (ht:P.underlying t = some (.slice e)) (hinfo:(P.info? e).map (fun i => (i.zero,i.size,i.bytes)) = some (some z,1,bytes)) (hz1:z.cells.size = 1)
    (v:Value) (xs:List Value) (hs:a.eval s = v) (hown:Row w B e v xs) (sb c:Nat) (u:Value) (hx:a.eval x = .slice (some ⟨sb,0,none⟩) 1 c) (hu:w.cell? ⟨sb,0,none⟩ = some u) (hu1:u.oneCell' = true)
    (hlen:xs.length < 100000) (hby:bytes <= 8) (hbase:B <= w.heap.size)
    (h:∀ g cap w',Row w' B e (.slice (some ⟨g,0,none⟩) (xs.length + 1) cap) (xs ++ [u]) -> w.grownBy w' v.ownBlock -> (v.ownBlock = some g ∨ g = w.heap.size) -> g < w'.heap.size -> wpList P ops Q rest (a.put o.dst (.slice (some ⟨g,0,none⟩) (xs.length + 1) cap)) w') :
    wpList P ops Q (o :: rest) a w:=by
  obtain ⟨i,hi,hp⟩:=Option.map_eq_some_iff.1 hinfo
  simp only [Prod.mk.injEq] at hp
  obtain ⟨p1,p2,p3⟩:=hp
  refine wpList_append_lies w hgd s x t ho B e i z 1 bytes ht hi p1 p2 p3 hz1 (by decide) v xs.length xs hs hown ⟨sb,0,none⟩ 1 c [u] hx rfl ?_ ?_ (by decide) (by unfold maxLen;omega) ?_ hbase w.heap.size rfl ?_
  · intro j u' hj
    match j with
    | 0 => simp only [List.getElem?_cons_zero,Option.some.injEq] at hj;subst hj;exact hu
    | j + 1 => simp at hj
  · intro u' hu';simp at hu';subst hu';exact hu1
  · have:=Nat.mul_le_mul (Nat.succ_le_of_lt hlen) hby;simp only [Nat.succ_eq_add_one] at this;omega
  · intro g cap w' h1 h2 h3 h4
    exact h g cap w' (by unfold Row;simpa using h1) h2 h3 h4
end
end Go.Proofs.YtjmpjfikcgccdaaGreatDoor
namespace Go.Proofs.YtjmpjfikcgccdaaGreatDoor.It
open Go.RowKit
def LB (w : World) : Prop := (∃ m, w.cell? ⟨1, 0, none⟩ = some (.int .i64 m)) ∧ (∃ te pe, w.cell? ⟨2, 0, none⟩ = some (.iface te pe)) ∧ (∃ te pe, w.cell? ⟨3, 0, none⟩ = some (.iface te pe)) ∧ Lib.TabBelow Tryz.prog w.heap.size w "internal/strconv.uint64pow10" .u64 Lib.pow10Tab
theorem cell_below {w w':World} (hb:Below w.heap.size w w') {b o:Nat} {v:Value} (h:w.cell? ⟨b,o,none⟩ = some v):w'.cell? ⟨b,o,none⟩ = some v:=by
  rw [hb.cell (World.block_lt_of_cell? w _ h)];exact h
theorem LB.below {w w':World} (h:LB w) (hb:Below w.heap.size w w'):LB w':=by
  obtain ⟨⟨m,h1⟩,⟨t1,p1,h2⟩,⟨t2,p2,h3⟩,h4⟩:=h
  refine ⟨⟨m,cell_below hb h1⟩,⟨t1,p1,cell_below hb h2⟩,⟨t2,p2,cell_below hb h3⟩,fun w2 hb2 => ?_⟩
  exact h4.on hb w2 (hb2.mono hb.size)
theorem below_alloc (w:World) (o:Obj):Below w.heap.size w (w.alloc o):=(Below.refl _ _).alloc (Nat.le_refl _) o
theorem below_drawn (w:World) (n:Nat):Below w.heap.size w (w.drewN n):=below_drewN (Below.refl _ _) n
theorem itoa_any (n:Int) (w:World) (h0:-9223372036854775808 <= n) (h1:n <= 9223372036854775807) (hL:LB w):Calls Tryz.prog 129 #[.int .i64 n] w fun e w' => e = .returned (.string ⟨(Lib.itoa n).toArray⟩) ∧ Below w.heap.size w w':=by
  refine (Any.strconv_Itoa laysM171 n h0 h1 w hL.2.2.2.here).mono ?_
  rintro e w' ⟨rfl,k,os,rfl⟩
  exact ⟨rfl,Lib.below_grow _ _ (Nat.le_refl _) k os⟩
theorem join_any (b o c:Nat) (xs:List ByteArray) (w:World) (hc:∀ (j:Nat) x,xs[j]? = some x -> w.cell? ⟨b,o + j,none⟩ = some (.string x)) (hb:b < w.heap.size) (hN:xs.length <= 1000) (hcap:xs.length <= c) (hlen:(Lib.join (xs.map (·.data.toList)) [32]).length <= 140737488355328) :
    Calls Tryz.prog 50 #[.slice (some ⟨b,o,none⟩) xs.length c,.string ⟨#[32]⟩] w fun e w' => e = .returned (.string ⟨(Lib.join (xs.map (·.data.toList)) [32]).toArray⟩) ∧ Below w.heap.size w w':=
  Any.strings_Join lays156 Builder_Extra_156 b o c xs ⟨#[32]⟩ w hc hb (by omega) hcap hlen
def Ints (w:World) (a:Option Addr) (zs:List Int):Prop:=∀ (i:Nat) z,zs[i]? = some z -> ∃ g o,a = some ⟨g,o,none⟩ ∧ w.cell? ⟨g,o + i,none⟩ = some (.int .i64 z)
theorem Ints.below {w w':World} {a:Option Addr} {zs:List Int} (h:Ints w a zs) (hb:Below w.heap.size w w'):Ints w' a zs:=by
  intro i z hz
  obtain ⟨g,o,h1,h2⟩:=h i z hz
  exact ⟨g,o,h1,cell_below hb h2⟩
theorem equal_any (a b:Option Addr) (c d:Nat) (zs:List Int) (w:World) (ha:Ints w a zs) (hb:Ints w b zs) (hl:zs.length <= 1000) :
    Calls Tryz.prog 94 #[.slice a zs.length c,.slice b zs.length d] w fun e w' => e = .returned (.bool true) ∧ Below w.heap.size w w':=by
  cases zs with
  | nil =>
    refine (Any.slices_Equal_int_empty lays111 a b c 0 d w (by decide)).mono ?_
    rintro e w' ⟨rfl,rfl⟩
    exact ⟨rfl,Below.refl _ _⟩
  | cons z zs =>
    obtain ⟨g,o,rfl,_⟩:=ha 0 z rfl
    obtain ⟨g',o',rfl,_⟩:=hb 0 z rfl
    have cell:∀ (g o:Nat),Ints w (some ⟨g,o,none⟩) (z :: zs) -> ∀ j,j < (z :: zs).length -> w.cell? ⟨g,o + j,none⟩ = some (.int .i64 ((z :: zs).getD j 0)):=by
      intro g o h j hj
      obtain ⟨g1,o1,e,h1⟩:=h j _ (List.getElem?_eq_getElem hj)
      injection e with e;injection e with e1 e2;subst e1;subst e2
      rw [h1,List.getD_eq_getElem?_getD,List.getElem?_eq_getElem hj];rfl
    refine (Any.slices_Equal_int lays111 g o _ c g' o' _ d (z :: zs) (z :: zs) w (Nat.le_refl _) (Nat.le_refl _) (by omega) (by omega) (cell g o ha) (cell g' o' hb)).mono ?_
    rintro e w' ⟨rfl,q,rfl⟩
    exact ⟨by simp,below_drawn _ _⟩
theorem clone_any (s:ByteArray) (w:World) (h:s.size <= 1000000):Calls Tryz.prog 258 #[.string s] w fun e w' => e = .returned (.string s) ∧ Below w.heap.size w w':=by
  go_enter Tryz.func258,Tryz.ntmps258
  go_wp2_with (go_at_call 294;refine (AnyPu.stringslite_Clone Su.lays25 s _ (by omega)).mono ?_;rintro e w1 ⟨rfl,g1⟩)
  go_ret
  exact ⟨rfl,g1⟩
theorem ownsRow_below {w w':World} {B:Nat} {e:TypeId} {z:Nat} {v:Value} {n:Nat} {xs:List Value} (h:w.ownsRow B e z v n xs) (hb:Below w.heap.size w w'):w'.ownsRow B e z v n xs:=by
  obtain ⟨h1,h2 | ⟨g,cap,cur,hv,hg,hh,r⟩⟩:=h
  · exact ⟨h1,Or.inl h2⟩
  · refine ⟨h1,Or.inr ⟨g,cap,cur,hv,hg,?_,r⟩⟩
    have lt:g < w.heap.size:=by
      rcases Nat.lt_or_ge g w.heap.size with h' | h'
      · exact h'
      · simp [Array.getElem?_eq_none h'] at hh
    rw [hb.block _ lt];exact hh
theorem builder_below {T e:TypeId} {B b:Nat} {bs:List Value} {w w':World} (h:Lib.IsBuilder T e B b bs w) (hb:Below w.heap.size w w'):Lib.IsBuilder T e B b bs w':=by
  have one:∀ p,Lib.BuilderAt T e B b p bs w -> Lib.BuilderAt T e B b p bs w':=by
    intro p hp
    have lt:=hp.lt
    obtain ⟨h1,v,h2,h3,h4⟩:=hp
    exact ⟨h1,v,by rw [hb.block _ lt];exact h2,ownsRow_below h3 hb,h4⟩
  rcases h with h | h
  · exact Or.inl (one _ h)
  · exact Or.inr (one _ h)
def Bd (w:World) (b:Nat) (l:List UInt8):Prop:=Lib.IsBuilder 182 5 b b (Lib.byteCells l) w
theorem Bd.below {w w':World} {b:Nat} {l:List UInt8} (h:Bd w b l) (hb:Below w.heap.size w w'):Bd w' b l:=builder_below h hb
theorem Bd.lt {w:World} {b:Nat} {l:List UInt8} (h:Bd w b l):b < w.heap.size:=by
  rcases h with h | h <;> exact h.lt
theorem write_any (b:Nat) (l:List UInt8) (s:ByteArray) (w:World) (h:Bd w b l) (hl:l.length + s.size <= 1000000):Calls Tryz.prog 107 #[.pointer (some ⟨b,0,none⟩),.string s] w fun e w' => e = .returned (.tuple #[.int .i64 s.size,.nilIface]) ∧ Bd w' b (l ++ s.data.toList) ∧ Below b w w':=by
  refine (Any.Builder_WriteString { lays156 with } Builder_Extra_156 b b (Lib.byteCells l) s w h (by simp [Lib.byteCells];omega) (by have:=h.lt;omega)).mono ?_
  rintro e w' ⟨rfl,h1,h2⟩
  refine ⟨rfl,?_,h2⟩
  have:Lib.byteCells (l ++ s.data.toList) = Lib.byteCells l ++ Lib.strCells s:=by simp [Lib.byteCells,Lib.strCells]
  unfold Bd
  rw [this]
  exact Or.inr h1
theorem string_any (b:Nat) (l:List UInt8) (w:World) (h:Bd w b l):Calls Tryz.prog 108 #[.pointer (some ⟨b,0,none⟩)] w fun e w' => e = .returned (.string ⟨l.toArray⟩) ∧ Below b w w':=by
  refine (Any.Builder_String_any { lays156 with } Builder_Extra_156 b b l w h (by have:=h.lt;omega)).mono ?_
  rintro e w' ⟨rfl,h2⟩
  exact ⟨rfl,by first | exact h2 | exact h2.2 | exact h2.2.1⟩
theorem isDim_any (d:Int) (w:World):Calls Tryz.prog 116 #[.int .i64 d] w fun e w' => e = .returned (.bool (dimB d)) ∧ w' = w:=by
  go_enter Tryz.func116,Tryz.ntmps116
  by_cases h1:1 <= d <;> by_cases h2:d <= 8 <;>
  · go_wp2
    go_ret
    exact ⟨by simp [dimB,h1,h2],rfl⟩
theorem isLetter_any (c:UInt8) (w:World):Calls Tryz.prog 183 #[.int .u8 (c.toNat:Int)] w fun e w' => e = .returned (.bool (isLet c)) ∧ w' = w:=by
  go_enter Tryz.func183,Tryz.ntmps183
  by_cases h1:97 <= c.toNat <;> by_cases h2:c.toNat <= 122 <;>
  · have h1':decide ((97:Int) <= (c.toNat:Int)) = decide (97 <= c.toNat):=by congr 1;apply propext;omega
    have h2':decide ((c.toNat:Int) <= 122) = decide (c.toNat <= 122):=by congr 1;apply propext;omega
    go_wp2
    go_ret
    exact ⟨by simp [isLet,h1,h2],rfl⟩
theorem isDigit_any (c:UInt8) (w:World):Calls Tryz.prog 184 #[.int .u8 (c.toNat:Int)] w fun e w' => e = .returned (.bool (isDig c)) ∧ w' = w:=by
  go_enter Tryz.func184,Tryz.ntmps184
  by_cases h1:48 <= c.toNat <;> by_cases h2:c.toNat <= 57 <;>
  · have h1':decide ((48:Int) <= (c.toNat:Int)) = decide (48 <= c.toNat):=by congr 1;apply propext;omega
    have h2':decide ((c.toNat:Int) <= 57) = decide (c.toNat <= 57):=by congr 1;apply propext;omega
    go_wp2
    go_ret
    exact ⟨by simp [isDig,h1,h2],rfl⟩
theorem numOut_any (n:Int) (w:World):Calls Tryz.prog 119 #[.int .i64 n] w fun e w' => e = .returned (.bool (!numB n)) ∧ w' = w:=by
  go_enter Tryz.func119,Tryz.ntmps119
  by_cases h1:-1000 <= n <;> by_cases h2:n <= 1000 <;>
  · go_wp2
    go_ret
    exact ⟨by simp [numB,h1,h2],rfl⟩
set_option maxHeartbeats 400000 in
theorem name_any (s:ByteArray) (w:World) (hs:s.size <= maxLen):Calls Tryz.prog 117 #[.string s] w fun e w' => e = .returned (.bool (nameB s)) ∧ w' = w:=by
  unfold maxLen at hs
  by_cases h1:1 <= s.size
  rotate_left
  · have h1':(s.size:Int) < 1:=by omega
    go_enter Tryz.func117,Tryz.ntmps117
    go_wp2
    go_ret
    exact ⟨by simp [nameB,h1],rfl⟩
  by_cases h2:s.size <= 10
  rotate_left
  · have h1':¬ ((s.size:Int) < 1):=by omega
    have h2':(10:Int) < (s.size:Int):=by omega
    go_enter Tryz.func117,Tryz.ntmps117
    go_wp2
    go_ret
    exact ⟨by simp [nameB,h2],rfl⟩
  have h1':¬ ((s.size:Int) < 1):=by omega
  have h2':¬ ((10:Int) < (s.size:Int)):=by omega
  have e0:s.data.toList.getD 0 0 = s[0]:=by
    rw [List.getD_eq_getElem?_getD,List.getElem?_eq_getElem (by rw [<- Lib.size_eq];omega)];rfl
  by_cases h3:isLet s[0] = true
  rotate_left
  · have h3':isLet s[0] = false:=by simpa using h3
    go_enter Tryz.func117,Tryz.ntmps117
    go_wp2_with (go_at_call 183;refine (isLetter_any _ _).mono ?_;rintro e w1 ⟨rfl,rfl⟩;rw [h3'])
    go_ret
    exact ⟨by unfold nameB;rw [e0,h3'];simp,rfl⟩
  have hN:Hid (nameB s = s.data.toList.all fun c => isLet c || isDig c):=by unfold Hid nameB;rw [e0,h3];simp [h1,h2]
  clear e0
  go_enter Tryz.func117,Tryz.ntmps117
  go_wp2_with (go_at_call 183;refine (isLetter_any _ _).mono ?_;rintro e w1 ⟨rfl,rfl⟩;rw [h3])
  go_loop [20] (fun i => ∃ k:Nat,k <= s.size ∧ i = .int .i64 k ∧ ((s.data.toList.take k).all fun c => isLet c || isDig c) = true) (fun i => s.size - (intOf i).toNat)
  case atStart => exact ⟨0,by omega,rfl,by simp⟩
  case round =>
    obtain ⟨k,hk,rfl,hp⟩:=hrel
    by_cases hlt:k < s.size
    · have HP:Hid (((s.data.toList.take k).all fun c => isLet c || isDig c) = true):=hp
      have hgl:s.data.toList[k]? = some s[k]:=by rw [List.getElem?_eq_getElem (by rw [<- Lib.size_eq];omega)];rfl
      have HG:Hid (s.data.toList[k]? = some s[k]):=hgl
      clear hp hgl
      have hlt':(k:Int) < (s.size:Int):=by omega
      by_cases c1:isLet s[k] = true
      · go_wp2_with (go_at_call 183;refine (isLetter_any _ _).mono ?_;rintro e w1 ⟨rfl,rfl⟩;rw [c1])
        go_round
        case rel => exact ⟨k + 1,by omega,by go_num,by rw [List.take_add_one,HG.out,List.all_append,HP.out];simp [c1]⟩
        case measure => simp [intOf];omega
      · have c1':isLet s[k] = false:=by simpa using c1
        by_cases c2:isDig s[k] = true
        · go_wp2_with (first
            | (go_at_call 183;refine (isLetter_any _ _).mono ?_;rintro e w1 ⟨rfl,rfl⟩;rw [c1'])
            | (go_at_call 184;refine (isDigit_any _ _).mono ?_;rintro e w1 ⟨rfl,rfl⟩;rw [c2]))
          go_round
          case rel => exact ⟨k + 1,by omega,by go_num,by rw [List.take_add_one,HG.out,List.all_append,HP.out];simp [c2]⟩
          case measure => simp [intOf];omega
        · have c2':isDig s[k] = false:=by simpa using c2
          go_wp2_with (first
            | (go_at_call 183;refine (isLetter_any _ _).mono ?_;rintro e w1 ⟨rfl,rfl⟩;rw [c1'])
            | (go_at_call 184;refine (isDigit_any _ _).mono ?_;rintro e w1 ⟨rfl,rfl⟩;rw [c2']))
          go_ret
          refine ⟨?_,rfl⟩
          have:(s.data.toList.all fun c => isLet c || isDig c) = false:=by
            rw [List.all_eq_false]
            exact ⟨s[k],List.mem_of_getElem? HG.out,by simp [c1',c2']⟩
          rw [hN.out,this];rfl
    · have hk':k = s.size:=by omega
      subst hk'
      have HP:Hid (((s.data.toList.take s.size).all fun c => isLet c || isDig c) = true):=hp
      clear hp
      go_wp2_with fail
      go_ret
      refine ⟨?_,rfl⟩
      have:=HP.out
      rw [List.take_of_length_le (by rw [Lib.size_eq];exact Nat.le_refl _)] at this
      rw [hN.out,this];rfl
end Go.Proofs.YtjmpjfikcgccdaaGreatDoor.It
