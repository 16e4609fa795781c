/-
  Part of the proof of BaseFindsCard (MF and on).
-/
import Derived.Test.YtjmpjfikcgccdaaGreatDoorB01
import Derived.Maps.RangeWalk
import Derived.StringKeys
import Derived.Shelf.Strings.OnBuilder
import Derived.Shelf.Strings.BuilderK
import Derived.Shelf.Strconv.Itoa3
import Derived.Shelf.Strings.SplitShaped
import Derived.Shelf.Strings.Shaped
import Derived.Shelf.Strings.Cut
import Derived.Shelf.Strings.Count
import Derived.Shelf.Strings.Prefix
import Derived.Shelf.Slices.Empties2
import Derived.Test.YtjmpjfikcgccdaaGreatDoorProg
import Derived.Shelf.Strconv.AtoiAll
namespace Go.Proofs.YtjmpjfikcgccdaaGreatDoor
open Go.RowKit Go.Maps
open Go.WideElems (Fit rd rg rd_key rd_val rg_of)
theorem pw_eq {α β:Type} (g:α -> β):∀ {l:List α},l.Pairwise (fun p q => g p ≠ g q) -> ∀ {x y:α},x ∈ l -> y ∈ l -> g x = g y -> x = y
  | [],_,_,_,hx,_,_ => by simp at hx
  | a :: r,hp,x,y,hx,hy,h => by
    obtain ⟨h1,h2⟩:=List.pairwise_cons.1 hp
    rcases List.mem_cons.1 hx with ex | hx'
    · rcases List.mem_cons.1 hy with ey | hy'
      · rw [ex,ey]
      · exact absurd (ex ▸ h) (h1 y hy')
    · rcases List.mem_cons.1 hy with ey | hy'
      · exact absurd (ey ▸ h).symm (h1 x hx')
      · exact pw_eq g h2 hx' hy' h
def rV (v:Value):Option (DataW Value × List MemPlace):=some (.held v,[])
abbrev kI (i:Int):Lit:=.int .i64 i
abbrev kOk (i:Int):Prop:=(kI i).wf = true
def Tells (D:DataW Value) (f:Int -> Option Value):Prop:=
  ∀ i,kOk i -> Maps.has D (kI i) = (f i).isSome ∧ ∀ v,f i = some v -> ∀ zd,D.atKey (kI i) zd = .held v
def MapF (P:Program) (w:World) (b n:Nat) (f:Int -> Option Value):Prop:=∃ D:DataW Value,w.ownsMap P 3 rV b n D ∧ Tells D f
section
variable {P:Program} {w:World} {b n:Nat} {f:Int -> Option Value}
theorem MapF.lt (h:MapF P w b n f):b < w.heap.size:=by obtain ⟨D,h,_⟩:=h;exact h.lt
theorem MapF.mono (h:MapF P w b n f) {m:Nat} (hm:n <= m):MapF P w b m f:=by obtain ⟨D,h,h2⟩:=h;exact ⟨D,h.mono hm,h2⟩
theorem MapF.kept {w':World} {row:Option Nat} (h:MapF P w b n f) (hg:w.grownBy w' row) (hne:some b ≠ row):MapF P w' b n f:=by obtain ⟨D,h,h2⟩:=h;exact ⟨D,h.kept hg hne,h2⟩
theorem MapF.same {w':World} (h:MapF P w b n f) (hs:w'.heap[b]? = w.heap[b]?):MapF P w' b n f:=by
  obtain ⟨D,⟨es,clock,hb,F,hs',hD⟩,h2⟩:=h
  exact ⟨D,⟨es,clock,hs.trans hb,F,hs',hD⟩,h2⟩
theorem MapF.below {w':World} {B:Nat} (h:MapF P w b n f) (hb:Below B w w') (hB:b < B):MapF P w' b n f:=h.same (hb.block b hB)
theorem MapF.alloc (h:MapF P w b n f) (o:Obj):MapF P (w.alloc o) b n f:=by obtain ⟨D,h,h2⟩:=h;exact ⟨D,h.alloc o,h2⟩
theorem MapF.drew (h:MapF P w b n f):MapF P w.drew b n f:=h
theorem MapF.drewN (h:MapF P w b n f) (k:Nat):MapF P (w.drewN k) b n f:=h
theorem MapF.congr (h:MapF P w b n f) {g:Int -> Option Value} (hg:∀ i,kOk i -> g i = f i):MapF P w b n g:=by
  obtain ⟨D,h,h2⟩:=h
  exact ⟨D,h,fun i hi => by rw [hg i hi];exact h2 i hi⟩
theorem MapF.upd {w':World} {c:Nat} (h:MapF P w b n f) (hu:Upd w w' c) (hne:b ≠ c):MapF P w' b n f:=h.same (hu.block b hne)
theorem mapF_made (P:Program) (w:World):MapF P (w.alloc (.map #[] 0)) w.heap.size 0 (fun _ => none):=
  ⟨.map [],World.ownsMap_made w P 3 rV,fun i _ => ⟨rfl,fun v hv => by cases hv⟩⟩
theorem MapF.look {t e:TypeId} (h:MapF P w b n f) (hk:P.underlying 3 = some (.int .i64)) (ht:P.underlying t = some (.map 3 e)) {z:Value} (hz:(zeroValue e).run P w = .ok z w) {i:Int} (hi:kOk i) :
    (Instr.lookup t (.map (some b)) (.int .i64 i) false).run P w = .ok ((f i).getD z) w:=by
  obtain ⟨D,⟨es,clock,hb,F,hs,rfl⟩,hD⟩:=h
  have K:=int_keyed (P:=P) hk
  rcases Maps.fit_look false K ht hz hb F (keyOf_int_mk hk hi) with ⟨hrun,_,hat⟩ | ⟨e0,y,_,_,hrun,hRv,hat,_⟩
  · have h0:=Maps.has_false_of_atKey hat
    rw [(hD i hi).1] at h0
    rw [Option.isSome_eq_false_iff,Option.isNone_iff_eq_none] at h0
    rw [h0];exact hrun
  · have h0:=Maps.has_true_of_atKey hat
    rw [(hD i hi).1] at h0
    obtain ⟨v,hv⟩:=Option.isSome_iff_exists.1 h0
    have e1:=(hD i hi).2 v hv .nil
    rw [hat .nil] at e1
    simp only [rV,Option.some.injEq] at hRv
    rw [<- hRv] at e1
    have e2:e0.val = v:=by simpa using e1
    rw [hv,<- e2];exact hrun
theorem MapF.look_ok {t e:TypeId} (h:MapF P w b n f) (hk:P.underlying 3 = some (.int .i64)) (ht:P.underlying t = some (.map 3 e)) {z:Value} (hz:(zeroValue e).run P w = .ok z w) {i:Int} (hi:kOk i) :
    (Instr.lookup t (.map (some b)) (.int .i64 i) true).run P w = .ok (.tuple #[(f i).getD z,.bool (f i).isSome]) w:=by
  obtain ⟨D,⟨es,clock,hb,F,hs,rfl⟩,hD⟩:=h
  have K:=int_keyed (P:=P) hk
  rcases Maps.fit_look true K ht hz hb F (keyOf_int_mk hk hi) with ⟨hrun,_,hat⟩ | ⟨e0,y,_,_,hrun,hRv,hat,_⟩
  · have h0:=Maps.has_false_of_atKey hat
    rw [(hD i hi).1] at h0
    rw [h0]
    rw [Option.isSome_eq_false_iff,Option.isNone_iff_eq_none] at h0
    rw [h0];exact hrun
  · have h0:=Maps.has_true_of_atKey hat
    rw [(hD i hi).1] at h0
    obtain ⟨v,hv⟩:=Option.isSome_iff_exists.1 h0
    have e1:=(hD i hi).2 v hv .nil
    rw [hat .nil] at e1
    simp only [rV,Option.some.injEq] at hRv
    rw [<- hRv] at e1
    have e2:e0.val = v:=by simpa using e1
    rw [hv,<- e2];exact hrun
theorem MapF.update {t e:TypeId} (h:MapF P w b n f) (hk:P.underlying 3 = some (.int .i64)) (ht:P.underlying t = some (.map 3 e)) (hn:n < maxLen) {i:Int} (hi:kOk i) (v:Value) :
    ∃ w',(Instr.mapUpdate t (.map (some b)) (.int .i64 i) v).run P w = .ok () w' ∧ MapF P w' b (n + 1) (fun j => if j = i then some v else f j) ∧ w.grownBy w' (some b) ∧ w'.heap.size = w.heap.size:=by
  obtain ⟨D,h,hD⟩:=h
  have K:=int_keyed (P:=P) hk
  have hm:=h.isMap
  obtain ⟨w',hrun,h',ht'⟩:=h.store K ht hn (keyOf_int_mk hk hi) (show rV v = some (.held v,[]) from rfl)
  refine ⟨w',hrun,⟨_,h',fun j hj => ?_⟩,ht'.grown,?_⟩
  · show Maps.has _ (kI j) = (if j = i then some v else f j).isSome ∧ ∀ u,(if j = i then some v else f j) = some u -> ∀ zd,_
    by_cases e:j = i
    · subst e
      rw [if_pos rfl]
      refine ⟨by rw [Maps.has_put_same hm (K.key (keyOf_int_mk hk hj))];rfl,fun u hu zd => ?_⟩
      cases hu
      exact Maps.atKey_put_same hm (K.key (keyOf_int_mk hk hj)) _ _
    · rw [if_neg e]
      have hne:kI j ≠ kI i:=fun h => e (by injection h)
      refine ⟨by rw [Maps.has_put_other hne];exact (hD j hj).1,fun u hu zd => ?_⟩
      rw [Maps.atKey_put_other hne]
      exact (hD j hj).2 u hu zd
  · obtain ⟨_,_,_,_,_,rfl⟩:=ht'
    simp [ChangeMaps.setBlock]
theorem MapF.len {t e:TypeId} (h:MapF P w b n f) (ht:P.underlying t = some (.map 3 e)) (ty:TypeId):∃ k:Nat,k <= n ∧ (Builtin.len_ #[t] ty #[.map (some b)]).run P w = .ok (.int .i64 (k:Int)) w:=by
  obtain ⟨D,h,hD⟩:=h
  exact ⟨_,h.size_le,h.len ht ty⟩
end
def RngF (P:Program) (w:World) (b r n:Nat) (f:Int -> Option Value) (left:Int -> Bool) (cnt:Nat):Prop:=
  ∃ (D:DataW Value) (L:Lit -> Bool),w.ranges P 3 rV b r n D L cnt ∧ Tells D f ∧ ∀ i,kOk i -> L (kI i) = left i
section
variable {P:Program} {w:World} {b r n:Nat} {f:Int -> Option Value} {left:Int -> Bool} {cnt:Nat}
theorem RngF.map (h:RngF P w b r n f left cnt):MapF P w b n f:=by obtain ⟨D,L,h,h2,_⟩:=h;exact ⟨D,h.owns,h2⟩
theorem RngF.left_eq (h:RngF P w b r n f left cnt):w.rangeLeft b r = cnt:=by obtain ⟨D,L,h,_⟩:=h;exact h.left_eq
theorem RngF.ne (h:RngF P w b r n f left cnt):r ≠ b:=by obtain ⟨D,L,h,_⟩:=h;exact h.ne
theorem RngF.lt (h:RngF P w b r n f left cnt):r < w.heap.size:=by obtain ⟨D,L,h,_⟩:=h;exact h.lt
theorem RngF.kept {w':World} {row:Option Nat} (h:RngF P w b r n f left cnt) (hg:w.grownBy w' row) (hb':some b ≠ row) (hr':some r ≠ row):RngF P w' b r n f left cnt:=by
  obtain ⟨D,L,h,h2,h3⟩:=h;exact ⟨D,L,h.kept hg hb' hr',h2,h3⟩
theorem RngF.below {w':World} {B:Nat} (h:RngF P w b r n f left cnt) (hb:Below B w w') (hB:w.heap.size <= B):RngF P w' b r n f left cnt:=
  h.kept (row:=none) ⟨hb.os,hb.tape,hb.output,hb.size,fun i hi _ => hb.block i (by omega)⟩ (by simp) (by simp)
theorem RngF.drewN (h:RngF P w b r n f left cnt) (k:Nat):RngF P (w.drewN k) b r n f left cnt:=h
theorem MapF.range {t e:TypeId} (h:MapF P w b n f) (hk:P.underlying 3 = some (.int .i64)) (ht:P.underlying t = some (.map 3 e)) :
    ∃ w' cnt,(Instr.range t (.map (some b))).run P w = .ok (.pointer (some ⟨w.heap.size,0,none⟩)) w' ∧ RngF P w' b w.heap.size n f (fun i => (f i).isSome) cnt ∧ cnt <= n ∧ w.grownBy w' none ∧ w'.heap.size = w.heap.size + 1:=by
  obtain ⟨D,h,hD⟩:=h
  obtain ⟨w',hrun,r1,r2,r3⟩:=h.range (int_keyed (P:=P) hk) ht
  exact ⟨w',_,hrun,⟨D,_,r1,hD,fun i hi => (hD i hi).1⟩,h.size_le,r2,r3⟩
theorem RngF.next (h:RngF P w b r n f left cnt) (hk:P.underlying 3 = some (.int .i64)) (ty:TypeId) :
    (cnt = 0 ∧ (∀ i,kOk i -> left i = false) ∧ (Instr.next (.pointer (some ⟨r,0,none⟩)) false ty).run P w = .ok (.tuple #[.bool false]) w) ∨
    ∃ i v w' cnt',kOk i ∧ left i = true ∧ f i = some v ∧ (Instr.next (.pointer (some ⟨r,0,none⟩)) false ty).run P w = .ok (.tuple #[.bool true,.int .i64 i,v]) w' ∧
      RngF P w' b r n f (fun j => left j && !decide (j = i)) cnt' ∧ cnt' < cnt ∧ w.grownBy w' (some r) ∧ w'.heap.size = w.heap.size ∧ (Instr.entry (.pointer (some ⟨r,0,none⟩))).run P w' = .ok (.tuple #[.int .i64 i,v]) w':=by
  obtain ⟨D,L,h,hD,hL⟩:=h
  have K:=int_keyed (P:=P) hk
  rcases h.next K ty with ⟨h0,hl,hrun⟩ | ⟨key,v,kl,y,w',cnt',hkey,hlk,hv,hat,hrun,hrg,hlt,hgr,hsz,hen⟩
  · exact Or.inl ⟨h0,fun i hi => by rw [<- hL i hi];exact hl _,hrun⟩
  · obtain ⟨i,rfl,rfl,hi⟩:=Maps.keyOf_int_inv hk hkey
    have hs:=Maps.has_true_of_atKey hat
    rw [(hD i hi).1] at hs
    obtain ⟨u,hu⟩:=Option.isSome_iff_exists.1 hs
    have e1:=(hD i hi).2 u hu .nil
    rw [hat .nil] at e1
    simp only [rV,Option.some.injEq] at hv
    rw [<- hv] at e1
    have e2:v = u:=by simpa using e1
    refine Or.inr ⟨i,v,w',cnt',hi,by rw [<- hL i hi];exact hlk,by rw [hu,e2],hrun,⟨D,_,hrg,hD,fun j hj => ?_⟩,hlt,hgr,hsz,hen⟩
    by_cases e:j = i
    · subst e
      simp [WideAt.sameKey_self (K.key (keyOf_int_mk hk hj))]
    · have:=Maps.sameKey_ne (a:=kI j) (b:=kI i) (fun h => e (by injection h))
      simp [this,hL j hj,e]
end
end Go.Proofs.YtjmpjfikcgccdaaGreatDoor
namespace Go.Proofs.YtjmpjfikcgccdaaGreatDoor.Bs
open Go.RowKit Go.Maps
open Go.WideElems (Fit rd rg rd_key rd_val rg_of)
open Go.WideMaps (keyOf_string_mk string_of_keyOf)
theorem bytes_inj {a b:ByteArray} (h:a.data.toList = b.data.toList):a = b:=by
  cases a;cases b;simp only [ByteArray.mk.injEq];exact Array.toList_inj.1 h
abbrev kI (i:ByteArray):Lit:=.string i.data.toList
abbrev kOk (i:ByteArray):Prop:=i.size <= maxLen
theorem kI_inj {i j:ByteArray} (h:kI i = kI j):i = j:=bytes_inj (by injection h)
def Tells (D:DataW Value) (f:ByteArray -> Option Value):Prop:=
  ∀ i,kOk i -> Maps.has D (kI i) = (f i).isSome ∧ ∀ v,f i = some v -> ∀ zd,D.atKey (kI i) zd = .held v
def MapS (P:Program) (w:World) (b n:Nat) (f:ByteArray -> Option Value):Prop:=∃ D:DataW Value,w.ownsMap P 9 rV b n D ∧ Tells D f
section
variable {P:Program} {w:World} {b n:Nat} {f:ByteArray -> Option Value}
theorem MapS.lt (h:MapS P w b n f):b < w.heap.size:=by obtain ⟨D,h,_⟩:=h;exact h.lt
theorem MapS.mono (h:MapS P w b n f) {m:Nat} (hm:n <= m):MapS P w b m f:=by obtain ⟨D,h,h2⟩:=h;exact ⟨D,h.mono hm,h2⟩
theorem MapS.kept {w':World} {row:Option Nat} (h:MapS P w b n f) (hg:w.grownBy w' row) (hne:some b ≠ row):MapS P w' b n f:=by obtain ⟨D,h,h2⟩:=h;exact ⟨D,h.kept hg hne,h2⟩
theorem MapS.same {w':World} (h:MapS P w b n f) (hs:w'.heap[b]? = w.heap[b]?):MapS P w' b n f:=by
  obtain ⟨D,⟨es,clock,hb,F,hs',hD⟩,h2⟩:=h
  exact ⟨D,⟨es,clock,hs.trans hb,F,hs',hD⟩,h2⟩
theorem MapS.below {w':World} {B:Nat} (h:MapS P w b n f) (hb:Below B w w') (hB:b < B):MapS P w' b n f:=h.same (hb.block b hB)
theorem MapS.alloc (h:MapS P w b n f) (o:Obj):MapS P (w.alloc o) b n f:=by obtain ⟨D,h,h2⟩:=h;exact ⟨D,h.alloc o,h2⟩
theorem MapS.drew (h:MapS P w b n f):MapS P w.drew b n f:=h
theorem MapS.drewN (h:MapS P w b n f) (k:Nat):MapS P (w.drewN k) b n f:=h
theorem MapS.congr (h:MapS P w b n f) {g:ByteArray -> Option Value} (hg:∀ i,kOk i -> g i = f i):MapS P w b n g:=by
  obtain ⟨D,h,h2⟩:=h
  exact ⟨D,h,fun i hi => by rw [hg i hi];exact h2 i hi⟩
theorem MapS.upd {w':World} {c:Nat} (h:MapS P w b n f) (hu:Upd w w' c) (hne:b ≠ c):MapS P w' b n f:=h.same (hu.block b hne)
theorem MapS.look {t e:TypeId} (h:MapS P w b n f) (hk:P.underlying 9 = some .string) (ht:P.underlying t = some (.map 9 e)) {z:Value} (hz:(zeroValue e).run P w = .ok z w) {i:ByteArray} (hi:kOk i) :
    (Instr.lookup t (.map (some b)) (.string i) false).run P w = .ok ((f i).getD z) w:=by
  obtain ⟨D,⟨es,clock,hb,F,hs,rfl⟩,hD⟩:=h
  have K:=string_keyed (P:=P) hk
  rcases Maps.fit_look false K ht hz hb F (keyOf_string_mk hk hi) with ⟨hrun,_,hat⟩ | ⟨e0,y,_,_,hrun,hRv,hat,_⟩
  · have h0:=Maps.has_false_of_atKey hat
    rw [(hD i hi).1] at h0
    rw [Option.isSome_eq_false_iff,Option.isNone_iff_eq_none] at h0
    rw [h0];exact hrun
  · have h0:=Maps.has_true_of_atKey hat
    rw [(hD i hi).1] at h0
    obtain ⟨v,hv⟩:=Option.isSome_iff_exists.1 h0
    have e1:=(hD i hi).2 v hv .nil
    rw [hat .nil] at e1
    simp only [rV,Option.some.injEq] at hRv
    rw [<- hRv] at e1
    have e2:e0.val = v:=by simpa using e1
    rw [hv,<- e2];exact hrun
theorem MapS.look_ok {t e:TypeId} (h:MapS P w b n f) (hk:P.underlying 9 = some .string) (ht:P.underlying t = some (.map 9 e)) {z:Value} (hz:(zeroValue e).run P w = .ok z w) {i:ByteArray} (hi:kOk i) :
    (Instr.lookup t (.map (some b)) (.string i) true).run P w = .ok (.tuple #[(f i).getD z,.bool (f i).isSome]) w:=by
  obtain ⟨D,⟨es,clock,hb,F,hs,rfl⟩,hD⟩:=h
  have K:=string_keyed (P:=P) hk
  rcases Maps.fit_look true K ht hz hb F (keyOf_string_mk hk hi) with ⟨hrun,_,hat⟩ | ⟨e0,y,_,_,hrun,hRv,hat,_⟩
  · have h0:=Maps.has_false_of_atKey hat
    rw [(hD i hi).1] at h0
    rw [h0]
    rw [Option.isSome_eq_false_iff,Option.isNone_iff_eq_none] at h0
    rw [h0];exact hrun
  · have h0:=Maps.has_true_of_atKey hat
    rw [(hD i hi).1] at h0
    obtain ⟨v,hv⟩:=Option.isSome_iff_exists.1 h0
    have e1:=(hD i hi).2 v hv .nil
    rw [hat .nil] at e1
    simp only [rV,Option.some.injEq] at hRv
    rw [<- hRv] at e1
    have e2:e0.val = v:=by simpa using e1
    rw [hv,<- e2];exact hrun
theorem MapS.update {t e:TypeId} (h:MapS P w b n f) (hk:P.underlying 9 = some .string) (ht:P.underlying t = some (.map 9 e)) (hn:n < maxLen) {i:ByteArray} (hi:kOk i) (v:Value) :
    ∃ w',(Instr.mapUpdate t (.map (some b)) (.string i) v).run P w = .ok () w' ∧ MapS P w' b (n + 1) (fun j => if j = i then some v else f j) ∧ w.grownBy w' (some b) ∧ w'.heap.size = w.heap.size:=by
  obtain ⟨D,h,hD⟩:=h
  have K:=string_keyed (P:=P) hk
  have hm:=h.isMap
  obtain ⟨w',hrun,h',ht'⟩:=h.store K ht hn (keyOf_string_mk hk hi) (show rV v = some (.held v,[]) from rfl)
  refine ⟨w',hrun,⟨_,h',fun j hj => ?_⟩,ht'.grown,?_⟩
  · show Maps.has _ (kI j) = (if j = i then some v else f j).isSome ∧ ∀ u,(if j = i then some v else f j) = some u -> ∀ zd,_
    by_cases e:j = i
    · subst e
      rw [if_pos rfl]
      refine ⟨by rw [Maps.has_put_same hm (K.key (keyOf_string_mk hk hj))];rfl,fun u hu zd => ?_⟩
      cases hu
      exact Maps.atKey_put_same hm (K.key (keyOf_string_mk hk hj)) _ _
    · rw [if_neg e]
      have hne:kI j ≠ kI i:=fun h => e (kI_inj h)
      refine ⟨by rw [Maps.has_put_other hne];exact (hD j hj).1,fun u hu zd => ?_⟩
      rw [Maps.atKey_put_other hne]
      exact (hD j hj).2 u hu zd
  · obtain ⟨_,_,_,_,_,rfl⟩:=ht'
    simp [ChangeMaps.setBlock]
theorem MapS.len {t e:TypeId} (h:MapS P w b n f) (ht:P.underlying t = some (.map 9 e)) (ty:TypeId):∃ k:Nat,k <= n ∧ (Builtin.len_ #[t] ty #[.map (some b)]).run P w = .ok (.int .i64 (k:Int)) w:=by
  obtain ⟨D,h,hD⟩:=h
  exact ⟨_,h.size_le,h.len ht ty⟩
end
def RngS (P:Program) (w:World) (b r n:Nat) (f:ByteArray -> Option Value) (left:ByteArray -> Bool) (cnt:Nat):Prop:=
  ∃ (D:DataW Value) (L:Lit -> Bool),w.ranges P 9 rV b r n D L cnt ∧ Tells D f ∧ ∀ i,kOk i -> L (kI i) = left i
section
variable {P:Program} {w:World} {b r n:Nat} {f:ByteArray -> Option Value} {left:ByteArray -> Bool} {cnt:Nat}
theorem RngS.map (h:RngS P w b r n f left cnt):MapS P w b n f:=by obtain ⟨D,L,h,h2,_⟩:=h;exact ⟨D,h.owns,h2⟩
theorem RngS.left_eq (h:RngS P w b r n f left cnt):w.rangeLeft b r = cnt:=by obtain ⟨D,L,h,_⟩:=h;exact h.left_eq
theorem RngS.ne (h:RngS P w b r n f left cnt):r ≠ b:=by obtain ⟨D,L,h,_⟩:=h;exact h.ne
theorem RngS.lt (h:RngS P w b r n f left cnt):r < w.heap.size:=by obtain ⟨D,L,h,_⟩:=h;exact h.lt
theorem RngS.kept {w':World} {row:Option Nat} (h:RngS P w b r n f left cnt) (hg:w.grownBy w' row) (hb':some b ≠ row) (hr':some r ≠ row):RngS P w' b r n f left cnt:=by
  obtain ⟨D,L,h,h2,h3⟩:=h;exact ⟨D,L,h.kept hg hb' hr',h2,h3⟩
theorem RngS.below {w':World} {B:Nat} (h:RngS P w b r n f left cnt) (hb:Below B w w') (hB:w.heap.size <= B):RngS P w' b r n f left cnt:=
  h.kept (row:=none) ⟨hb.os,hb.tape,hb.output,hb.size,fun i hi _ => hb.block i (by omega)⟩ (by simp) (by simp)
theorem RngS.drewN (h:RngS P w b r n f left cnt) (k:Nat):RngS P (w.drewN k) b r n f left cnt:=h
theorem MapS.range {t e:TypeId} (h:MapS P w b n f) (hk:P.underlying 9 = some .string) (ht:P.underlying t = some (.map 9 e)) :
    ∃ w' cnt,(Instr.range t (.map (some b))).run P w = .ok (.pointer (some ⟨w.heap.size,0,none⟩)) w' ∧ RngS P w' b w.heap.size n f (fun i => (f i).isSome) cnt ∧ cnt <= n ∧ w.grownBy w' none ∧ w'.heap.size = w.heap.size + 1:=by
  obtain ⟨D,h,hD⟩:=h
  obtain ⟨w',hrun,r1,r2,r3⟩:=h.range (string_keyed (P:=P) hk) ht
  exact ⟨w',_,hrun,⟨D,_,r1,hD,fun i hi => (hD i hi).1⟩,h.size_le,r2,r3⟩
theorem RngS.next (h:RngS P w b r n f left cnt) (hk:P.underlying 9 = some .string) (ty:TypeId) :
    (cnt = 0 ∧ (∀ i,kOk i -> left i = false) ∧ (Instr.next (.pointer (some ⟨r,0,none⟩)) false ty).run P w = .ok (.tuple #[.bool false]) w) ∨
    ∃ i v w' cnt',kOk i ∧ left i = true ∧ f i = some v ∧ (Instr.next (.pointer (some ⟨r,0,none⟩)) false ty).run P w = .ok (.tuple #[.bool true,.string i,v]) w' ∧
      RngS P w' b r n f (fun j => left j && !decide (j = i)) cnt' ∧ cnt' < cnt ∧ w.grownBy w' (some r) ∧ w'.heap.size = w.heap.size ∧ (Instr.entry (.pointer (some ⟨r,0,none⟩))).run P w' = .ok (.tuple #[.string i,v]) w':=by
  obtain ⟨D,L,h,hD,hL⟩:=h
  have K:=string_keyed (P:=P) hk
  rcases h.next K ty with ⟨h0,hl,hrun⟩ | ⟨key,v,kl,y,w',cnt',hkey,hlk,hv,hat,hrun,hrg,hlt,hgr,hsz,hen⟩
  · exact Or.inl ⟨h0,fun i hi => by rw [<- hL i hi];exact hl _,hrun⟩
  · obtain ⟨i,rfl,rfl,hi⟩:=string_of_keyOf hk hkey
    have hs:=Maps.has_true_of_atKey hat
    rw [(hD i hi).1] at hs
    obtain ⟨u,hu⟩:=Option.isSome_iff_exists.1 hs
    have e1:=(hD i hi).2 u hu .nil
    rw [hat .nil] at e1
    simp only [rV,Option.some.injEq] at hv
    rw [<- hv] at e1
    have e2:v = u:=by simpa using e1
    refine Or.inr ⟨i,v,w',cnt',hi,by rw [<- hL i hi];exact hlk,by rw [hu,e2],hrun,⟨D,_,hrg,hD,fun j hj => ?_⟩,hlt,hgr,hsz,hen⟩
    by_cases e:j = i
    · subst e
      simp [WideAt.sameKey_self (K.key (keyOf_string_mk hk hj))]
    · have:=Maps.sameKey_ne (a:=kI j) (b:=kI i) (fun h => e (kI_inj h))
      simp [this,hL j hj,e]
end
end Go.Proofs.YtjmpjfikcgccdaaGreatDoor.Bs
namespace Go.Proofs.YtjmpjfikcgccdaaGreatDoor
open Go.RowKit Go.Maps
def MapV (P:Program) (w:World) (v:Value) (n:Nat) (f:Int -> Option Value):Prop:=(v = .map none ∧ ∀ i,f i = none) ∨ ∃ b,v = .map (some b) ∧ MapF P w b n f
def RngV (P:Program) (w:World) (v:Value) (r n:Nat) (f:Int -> Option Value) (left:Int -> Bool) (cnt:Nat):Prop:=
  (v = .map none ∧ (∀ i,f i = none) ∧ (∃ a s c,w.heap[r]? = some (.mapIter none a s c)) ∧ (∀ i,left i = false) ∧ cnt = 0) ∨ ∃ b,v = .map (some b) ∧ RngF P w b r n f left cnt
def rleft (w:World) (r:Nat):Nat:=match w.heap[r]? with
  | some (.mapIter (some b) _ _ _) => w.rangeLeft b r
  | _ => 0
section
variable {P:Program} {w w':World} {v:Value} {r n cnt:Nat} {f:Int -> Option Value} {left:Int -> Bool}
theorem MapV.of {b:Nat} (h:MapF P w b n f):MapV P w (.map (some b)) n f:=Or.inr ⟨b,rfl,h⟩
theorem MapV.same (h:MapV P w v n f) (hs:∀ b,v = .map (some b) -> w'.heap[b]? = w.heap[b]?):MapV P w' v n f:=by
  rcases h with h | ⟨b,rfl,h⟩
  · exact Or.inl h
  · exact Or.inr ⟨b,rfl,h.same (hs b rfl)⟩
theorem MapV.lt {b:Nat} (h:MapV P w (.map (some b)) n f):b < w.heap.size:=by
  rcases h with ⟨h,_⟩ | ⟨b',e,h⟩
  · cases h
  · cases e;exact h.lt
theorem MapV.below (h:MapV P w v n f) (hb:Below w.heap.size w w'):MapV P w' v n f:=by
  rcases h with h | ⟨b,rfl,h⟩
  · exact Or.inl h
  · exact Or.inr ⟨b,rfl,h.below hb h.lt⟩
theorem RngF.same {b:Nat} (h:RngF P w b r n f left cnt) (h1:w'.heap[b]? = w.heap[b]?) (h2:w'.heap[r]? = w.heap[r]?):RngF P w' b r n f left cnt:=by
  obtain ⟨D,L,⟨es,clock,since,seen,c0,hb,F,hs,hD,hr,rest⟩,h3⟩:=h
  exact ⟨D,L,⟨es,clock,since,seen,c0,h1.trans hb,F,hs,hD,h2.trans hr,rest⟩,h3⟩
theorem RngV.same (h:RngV P w v r n f left cnt) (hs:∀ b,v = .map (some b) -> w'.heap[b]? = w.heap[b]?) (hr:w'.heap[r]? = w.heap[r]?):RngV P w' v r n f left cnt:=by
  rcases h with ⟨h1,h2,⟨a,s,c,h3⟩,h4⟩ | ⟨b,rfl,h⟩
  · exact Or.inl ⟨h1,h2,⟨a,s,c,hr.trans h3⟩,h4⟩
  · exact Or.inr ⟨b,rfl,h.same (hs b rfl) hr⟩
theorem RngV.lt (h:RngV P w v r n f left cnt):r < w.heap.size:=by
  rcases h with ⟨h1,h2,⟨a,s,c,h3⟩,h4⟩ | ⟨b,rfl,h⟩
  · exact (Array.getElem?_eq_some_iff.1 h3).1
  · exact h.lt
theorem RngV.map (h:RngV P w v r n f left cnt):MapV P w v n f:=by
  rcases h with ⟨h1,h2,_⟩ | ⟨b,rfl,h⟩
  · exact Or.inl ⟨h1,h2⟩
  · exact Or.inr ⟨b,rfl,h.map⟩
theorem RngV.ne {b:Nat} (h:RngV P w v r n f left cnt) (hv:v = .map (some b)):r ≠ b:=by
  rcases h with ⟨h1,_⟩ | ⟨b',e,h⟩
  · rw [h1] at hv;cases hv
  · rw [e] at hv;cases hv;exact h.ne
theorem RngV.below (h:RngV P w v r n f left cnt) (hb:Below w.heap.size w w'):RngV P w' v r n f left cnt:=by
  have h1:=h.lt
  refine h.same (fun b hv => hb.block b ?_) (hb.block r h1)
  have:=h.map
  rw [hv] at this
  exact this.lt
theorem RngV.left_eq (h:RngV P w v r n f left cnt):rleft w r = cnt:=by
  rcases h with ⟨_,_,⟨a,s,c,h3⟩,_,rfl⟩ | ⟨b,rfl,h⟩
  · simp [rleft,h3]
  · have e:=h.left_eq
    obtain ⟨D,L,⟨es,clock,since,seen,c0,hb,F,hs,hD,hr,rest⟩,h3⟩:=h
    simp only [rleft,hr];exact e
theorem upd_of_grown {b:Nat} (hg:w.grownBy w' (some b)) (hz:w'.heap.size = w.heap.size):Upd w w' b:=by
  refine ⟨hg.os,hg.tape,hg.output,hz,fun k hk => ?_⟩
  by_cases h:k < w.heap.size
  · exact hg.block k h (by simpa using hk)
  · rw [Array.getElem?_eq_none (by omega),Array.getElem?_eq_none (by omega)]
theorem below_of_grown (hg:w.grownBy w' none):Below w.heap.size w w':=⟨hg.os,hg.tape,hg.output,hg.size,fun k hk => hg.block k hk (by simp)⟩
variable {ops:Array Oper} {Q:Exit -> Act -> World -> Prop} {a:Act} {rest:List Oper} {o:Oper}
theorem wpl_rangeV (hgd:o.guard = none) (t:TypeId) (m:Operand) (ho:o.op = .range t m) (hk:P.underlying 3 = some (.int .i64)) (e:TypeId) (ht:P.underlying t = some (.map 3 e)) (v:Value) (n:Nat) (f:Int -> Option Value) (hm:a.eval m = v) (hM:MapV P w v n f)
    (h:∀ w' cnt,RngV P w' v w.heap.size n f (fun i => (f i).isSome) cnt -> cnt <= n -> Below w.heap.size w w' -> w'.heap.size = w.heap.size + 1 -> wpList P ops Q rest (a.put o.dst (.pointer (some ⟨w.heap.size,0,none⟩))) w'):wpList P ops Q (o :: rest) a w:=by
  refine wpList_plain hgd fun K hK => ?_
  rcases hM with ⟨rfl,hf⟩ | ⟨b,rfl,hM⟩
  · unfold Oper.wp
    simp [execOp,ho,hm,run_range_nilMap w t 3 e ht,Result.andThen]
    refine hK _ _ (h _ 0 (Or.inl ⟨rfl,hf,⟨_,_,_,heap_alloc_new w _⟩,fun i => by simp [hf i],rfl⟩) (Nat.zero_le _) ((Below.refl _ _).alloc (Nat.le_refl _) _) (by simp))
  · obtain ⟨w',cnt,hrun,r1,r2,r3,r4⟩:=hM.range hk ht
    unfold Oper.wp
    simp [execOp,ho,hm,hrun,Result.andThen]
    exact hK _ _ (h w' cnt (Or.inr ⟨b,rfl,r1⟩) r2 (below_of_grown r3) r4)
theorem MapV.range {t e:TypeId} (hM:MapV P w v n f) (hk:P.underlying 3 = some (.int .i64)) (ht:P.underlying t = some (.map 3 e)) :
    ∃ w' cnt,(Instr.range t v).run P w = .ok (.pointer (some ⟨w.heap.size,0,none⟩)) w' ∧ RngV P w' v w.heap.size n f (fun i => (f i).isSome) cnt ∧ cnt <= n ∧ Below w.heap.size w w' ∧ w'.heap.size = w.heap.size + 1:=by
  rcases hM with ⟨rfl,hf⟩ | ⟨b,rfl,hM⟩
  · exact ⟨_,0,run_range_nilMap w t 3 e ht,Or.inl ⟨rfl,hf,⟨_,_,_,heap_alloc_new w _⟩,fun i => by simp [hf i],rfl⟩,Nat.zero_le _,(Below.refl _ _).alloc (Nat.le_refl _) _,by simp⟩
  · obtain ⟨w',cnt,hrun,r1,r2,r3,r4⟩:=hM.range hk ht
    exact ⟨w',cnt,hrun,Or.inr ⟨b,rfl,r1⟩,r2,below_of_grown r3,r4⟩
theorem RngV.next (hR:RngV P w v r n f left cnt) (hk:P.underlying 3 = some (.int .i64)) (ty:TypeId) :
    ((∀ i,kOk i -> left i = false) ∧ (Instr.next (.pointer (some ⟨r,0,none⟩)) false ty).run P w = .ok (.tuple #[.bool false]) w) ∨
    ∃ i u w' cnt',kOk i ∧ left i = true ∧ f i = some u ∧ (Instr.next (.pointer (some ⟨r,0,none⟩)) false ty).run P w = .ok (.tuple #[.bool true,.int .i64 i,u]) w' ∧
      RngV P w' v r n f (fun j => left j && !decide (j = i)) cnt' ∧ cnt' < cnt ∧ Upd w w' r ∧ (Instr.entry (.pointer (some ⟨r,0,none⟩))).run P w' = .ok (.tuple #[.int .i64 i,u]) w':=by
  rcases hR with ⟨h1,h2,⟨x,s,c,h3⟩,h4,_⟩ | ⟨b,rfl,hR⟩
  · refine Or.inl ⟨fun i _ => h4 i,?_⟩
    simp only [Instr.next,getObj,Sem.run_bind,Sem.run,h3,Result.andThen]
    rfl
  · rcases hR.next hk ty with ⟨_,hl,hrun⟩ | ⟨i,u,w',cnt',hi,hl,hf,hrun,hR',hlt,hg,hz,hen⟩
    · exact Or.inl ⟨hl,hrun⟩
    · exact Or.inr ⟨i,u,w',cnt',hi,hl,hf,hrun,Or.inr ⟨b,rfl,hR'⟩,hlt,upd_of_grown hg hz,hen⟩
theorem run_lookV (hk:P.underlying 3 = some (.int .i64)) {t e:TypeId} (ht:P.underlying t = some (.map 3 e)) (z:Value) (hz:∀ w,(zeroValue e).run P w = .ok z w) (hM:MapV P w v n f) {i:Int} (hi:kOk i):(Instr.lookup t v (.int .i64 i) false).run P w = .ok ((f i).getD z) w:=by
  rcases hM with ⟨rfl,hf⟩ | ⟨b,rfl,hM⟩
  · rw [hf i]
    exact Maps.look_nil false (int_keyed (P:=P) hk) ht (hz w) (keyOf_int_mk hk hi)
  · exact hM.look hk ht (hz w) hi
theorem run_lookVok (hk:P.underlying 3 = some (.int .i64)) {t e:TypeId} (ht:P.underlying t = some (.map 3 e)) (z:Value) (hz:∀ w,(zeroValue e).run P w = .ok z w) (hM:MapV P w v n f) {i:Int} (hi:kOk i):(Instr.lookup t v (.int .i64 i) true).run P w = .ok (.tuple #[(f i).getD z,.bool (f i).isSome]) w:=by
  rcases hM with ⟨rfl,hf⟩ | ⟨b,rfl,hM⟩
  · rw [hf i]
    exact Maps.look_nil true (int_keyed (P:=P) hk) ht (hz w) (keyOf_int_mk hk hi)
  · exact hM.look_ok hk ht (hz w) hi
theorem wpl_lenV (hgd:o.guard = none) (m:Operand) (t:TypeId) (ho:o.op = .call { callee:=.builtin .len,args:=#[m],argTypes:=#[t] }) (e:TypeId) (ht:P.underlying t = some (.map 3 e)) (v:Value) (n:Nat) (f:Int -> Option Value) (hm:a.eval m = v) (hM:MapV P w v n f)
    (h:∀ k:Nat,k <= n -> wpList P ops Q rest (a.put o.dst (.int .i64 (k:Int))) w):wpList P ops Q (o :: rest) a w:=by
  refine wpList_plain hgd fun K hK => ?_
  unfold Oper.wp
  rcases hM with ⟨rfl,hf⟩ | ⟨b,rfl,hM⟩
  · simp [execOp,ho,resolve,invoke,builtin,hm,Maps.len_nil ht o.type,Result.andThen]
    exact hK _ _ (h 0 (Nat.zero_le _))
  · obtain ⟨k,hkn,hrun⟩:=hM.len ht o.type
    simp [execOp,ho,resolve,invoke,builtin,hm,hrun,Result.andThen]
    exact hK _ _ (h k hkn)
theorem wpl_putF (hgd:o.guard = none) (hdn:o.dst = none) (t:TypeId) (m x y:Operand) (ho:o.op = .mapUpdate t m x y) (hk:P.underlying 3 = some (.int .i64)) (e:TypeId) (ht:P.underlying t = some (.map 3 e)) (b n:Nat) (f:Int -> Option Value) (i:Int) (u:Value) (hm:a.eval m = .map (some b)) (hx:a.eval x = .int .i64 i) (hy:a.eval y = u) (hM:MapF P w b n f) (hn:n < 1000000) (hi:kOk i)
    (h:∀ w',MapF P w' b (n + 1) (fun j => if j = i then some u else f j) -> Upd w w' b -> wpList P ops Q rest a w'):wpList P ops Q (o :: rest) a w:=by
  refine wpList_plain hgd fun K hK => ?_
  obtain ⟨w',hrun,h1,h2,h3⟩:=hM.update hk ht (by unfold maxLen;omega) hi u
  unfold Oper.wp
  simp [execOp,ho,hm,hx,hy,hrun,Result.andThen]
  exact hK _ _ (by rw [hdn];exact h w' h1 (upd_of_grown h2 h3))
end
end Go.Proofs.YtjmpjfikcgccdaaGreatDoor
namespace Go.Proofs.YtjmpjfikcgccdaaGreatDoor.Bs
open Go.RowKit Go.Maps
open Go.WideMaps (keyOf_string_mk string_of_keyOf)
def MapT (P:Program) (w:World) (v:Value) (n:Nat) (f:ByteArray -> Option Value):Prop:=(v = .map none ∧ ∀ i,f i = none) ∨ ∃ b,v = .map (some b) ∧ MapS P w b n f
def RngT (P:Program) (w:World) (v:Value) (r n:Nat) (f:ByteArray -> Option Value) (left:ByteArray -> Bool) (cnt:Nat):Prop:=
  (v = .map none ∧ (∀ i,f i = none) ∧ (∃ a s c,w.heap[r]? = some (.mapIter none a s c)) ∧ (∀ i,left i = false) ∧ cnt = 0) ∨ ∃ b,v = .map (some b) ∧ RngS P w b r n f left cnt
section
variable {P:Program} {w w':World} {v:Value} {r n cnt:Nat} {f:ByteArray -> Option Value} {left:ByteArray -> Bool}
theorem MapT.of {b:Nat} (h:MapS P w b n f):MapT P w (.map (some b)) n f:=Or.inr ⟨b,rfl,h⟩
theorem MapT.same (h:MapT P w v n f) (hs:∀ b,v = .map (some b) -> w'.heap[b]? = w.heap[b]?):MapT P w' v n f:=by
  rcases h with h | ⟨b,rfl,h⟩
  · exact Or.inl h
  · exact Or.inr ⟨b,rfl,h.same (hs b rfl)⟩
theorem MapT.lt {b:Nat} (h:MapT P w (.map (some b)) n f):b < w.heap.size:=by
  rcases h with ⟨h,_⟩ | ⟨b',e,h⟩
  · cases h
  · cases e;exact h.lt
theorem MapT.below (h:MapT P w v n f) (hb:Below w.heap.size w w'):MapT P w' v n f:=by
  rcases h with h | ⟨b,rfl,h⟩
  · exact Or.inl h
  · exact Or.inr ⟨b,rfl,h.below hb h.lt⟩
theorem RngS.same {b:Nat} (h:RngS P w b r n f left cnt) (h1:w'.heap[b]? = w.heap[b]?) (h2:w'.heap[r]? = w.heap[r]?):RngS P w' b r n f left cnt:=by
  obtain ⟨D,L,⟨es,clock,since,seen,c0,hb,F,hs,hD,hr,rest⟩,h3⟩:=h
  exact ⟨D,L,⟨es,clock,since,seen,c0,h1.trans hb,F,hs,hD,h2.trans hr,rest⟩,h3⟩
theorem RngT.same (h:RngT P w v r n f left cnt) (hs:∀ b,v = .map (some b) -> w'.heap[b]? = w.heap[b]?) (hr:w'.heap[r]? = w.heap[r]?):RngT P w' v r n f left cnt:=by
  rcases h with ⟨h1,h2,⟨a,s,c,h3⟩,h4⟩ | ⟨b,rfl,h⟩
  · exact Or.inl ⟨h1,h2,⟨a,s,c,hr.trans h3⟩,h4⟩
  · exact Or.inr ⟨b,rfl,h.same (hs b rfl) hr⟩
theorem RngT.lt (h:RngT P w v r n f left cnt):r < w.heap.size:=by
  rcases h with ⟨h1,h2,⟨a,s,c,h3⟩,h4⟩ | ⟨b,rfl,h⟩
  · exact (Array.getElem?_eq_some_iff.1 h3).1
  · exact h.lt
theorem RngT.map (h:RngT P w v r n f left cnt):MapT P w v n f:=by
  rcases h with ⟨h1,h2,_⟩ | ⟨b,rfl,h⟩
  · exact Or.inl ⟨h1,h2⟩
  · exact Or.inr ⟨b,rfl,h.map⟩
theorem RngT.ne {b:Nat} (h:RngT P w v r n f left cnt) (hv:v = .map (some b)):r ≠ b:=by
  rcases h with ⟨h1,_⟩ | ⟨b',e,h⟩
  · rw [h1] at hv;cases hv
  · rw [e] at hv;cases hv;exact h.ne
theorem RngT.below (h:RngT P w v r n f left cnt) (hb:Below w.heap.size w w'):RngT P w' v r n f left cnt:=by
  have h1:=h.lt
  refine h.same (fun b hv => hb.block b ?_) (hb.block r h1)
  have:=h.map
  rw [hv] at this
  exact this.lt
theorem RngT.left_eq (h:RngT P w v r n f left cnt):rleft w r = cnt:=by
  rcases h with ⟨_,_,⟨a,s,c,h3⟩,_,rfl⟩ | ⟨b,rfl,h⟩
  · simp [rleft,h3]
  · have e:=h.left_eq
    obtain ⟨D,L,⟨es,clock,since,seen,c0,hb,F,hs,hD,hr,rest⟩,h3⟩:=h
    simp only [rleft,hr];exact e
variable {ops:Array Oper} {Q:Exit -> Act -> World -> Prop} {a:Act} {rest:List Oper} {o:Oper}
theorem MapT.range {t e:TypeId} (hM:MapT P w v n f) (hk:P.underlying 9 = some .string) (ht:P.underlying t = some (.map 9 e)) :
    ∃ w' cnt,(Instr.range t v).run P w = .ok (.pointer (some ⟨w.heap.size,0,none⟩)) w' ∧ RngT P w' v w.heap.size n f (fun i => (f i).isSome) cnt ∧ cnt <= n ∧ Below w.heap.size w w' ∧ w'.heap.size = w.heap.size + 1:=by
  rcases hM with ⟨rfl,hf⟩ | ⟨b,rfl,hM⟩
  · exact ⟨_,0,run_range_nilMap w t 9 e ht,Or.inl ⟨rfl,hf,⟨_,_,_,heap_alloc_new w _⟩,fun i => by simp [hf i],rfl⟩,Nat.zero_le _,(Below.refl _ _).alloc (Nat.le_refl _) _,by simp⟩
  · obtain ⟨w',cnt,hrun,r1,r2,r3,r4⟩:=hM.range hk ht
    exact ⟨w',cnt,hrun,Or.inr ⟨b,rfl,r1⟩,r2,below_of_grown r3,r4⟩
theorem RngT.next (hR:RngT P w v r n f left cnt) (hk:P.underlying 9 = some .string) (ty:TypeId) :
    ((∀ i,kOk i -> left i = false) ∧ (Instr.next (.pointer (some ⟨r,0,none⟩)) false ty).run P w = .ok (.tuple #[.bool false]) w) ∨
    ∃ i u w' cnt',kOk i ∧ left i = true ∧ f i = some u ∧ (Instr.next (.pointer (some ⟨r,0,none⟩)) false ty).run P w = .ok (.tuple #[.bool true,.string i,u]) w' ∧
      RngT P w' v r n f (fun j => left j && !decide (j = i)) cnt' ∧ cnt' < cnt ∧ Upd w w' r ∧ (Instr.entry (.pointer (some ⟨r,0,none⟩))).run P w' = .ok (.tuple #[.string i,u]) w':=by
  rcases hR with ⟨h1,h2,⟨x,s,c,h3⟩,h4,_⟩ | ⟨b,rfl,hR⟩
  · refine Or.inl ⟨fun i _ => h4 i,?_⟩
    simp only [Instr.next,getObj,Sem.run_bind,Sem.run,h3,Result.andThen]
    rfl
  · rcases hR.next hk ty with ⟨_,hl,hrun⟩ | ⟨i,u,w',cnt',hi,hl,hf,hrun,hR',hlt,hg,hz,hen⟩
    · exact Or.inl ⟨hl,hrun⟩
    · exact Or.inr ⟨i,u,w',cnt',hi,hl,hf,hrun,Or.inr ⟨b,rfl,hR'⟩,hlt,upd_of_grown hg hz,hen⟩
theorem run_lookTok (hk:P.underlying 9 = some .string) {t e:TypeId} (ht:P.underlying t = some (.map 9 e)) (z:Value) (hz:∀ w,(zeroValue e).run P w = .ok z w) (hM:MapT P w v n f) {i:ByteArray} (hi:kOk i):(Instr.lookup t v (.string i) true).run P w = .ok (.tuple #[(f i).getD z,.bool (f i).isSome]) w:=by
  rcases hM with ⟨rfl,hf⟩ | ⟨b,rfl,hM⟩
  · rw [hf i]
    exact Maps.look_nil true (string_keyed (P:=P) hk) ht (hz w) (keyOf_string_mk hk hi)
  · exact hM.look_ok hk ht (hz w) hi
end
end Go.Proofs.YtjmpjfikcgccdaaGreatDoor.Bs
namespace Go.Proofs.YtjmpjfikcgccdaaGreatDoor.It
open Go.Shelf Go.RowKit
def lays156_ren:Go.Shelf.Ren:=⟨fun | 156 => 50 | 165 => 106 | 166 => 107 | 169 => 108 | 240 => 165 | 241 => 166 | 276 => 239 | 277 => 240 | n => n,fun | 31 => 108 | 9 => 9 | 3 => 3 | 4 => 4 | 0 => 0 | 20 => 20 | 72 => 182 | 76 => 183 | 70 => 179 | 37 => 180 | 75 => 40 | 127 => 266 | 164 => 207 | 5 => 5 | 80 => 159 | n => n,fun | n => n⟩
theorem lays156:Go.Proofs.Lays.n156 Tryz.prog lays156_ren:={
  mixed:=by kernel_rfl
  f156:=Tryz.func50.trans (congrArg some (by kernel_rfl))
  f165:=Tryz.func106.trans (congrArg some (by kernel_rfl))
  f166:=Tryz.func107.trans (congrArg some (by kernel_rfl))
  f169:=Tryz.func108.trans (congrArg some (by kernel_rfl))
  f240:=Tryz.func165.trans (congrArg some (by kernel_rfl))
  f241:=Tryz.func166.trans (congrArg some (by kernel_rfl))
  f276:=Tryz.func239.trans (congrArg some (by kernel_rfl))
  f277:=Tryz.func240.trans (congrArg some (by kernel_rfl))
  t0:=Tryz.underlying0
  a0:=Tryz.isAgg0
  z0:=Tryz.sizeOf0
  v0:=Tryz.zeroValue0
  t3:=Tryz.underlying3
  a3:=Tryz.isAgg3
  z3:=Tryz.sizeOf3
  v3:=Tryz.zeroValue3
  t4:=Tryz.underlying4
  a4:=Tryz.isAgg4
  z4:=Tryz.sizeOf4
  v4:=Tryz.zeroValue4
  t9:=Tryz.underlying9
  a9:=Tryz.isAgg9
  z9:=Tryz.sizeOf9
  v9:=Tryz.zeroValue9
  t20:=Tryz.underlying20
  a20:=Tryz.isAgg20
  z20:=Tryz.sizeOf20
  v20:=Tryz.zeroValue20
  t31:=Tryz.underlying108
  a31:=Tryz.isAgg108
  z31:=Tryz.sizeOf108
  v31:=Tryz.zeroValue108
  t37:=Tryz.underlying180
  a37:=Tryz.isAgg180
  z37:=Tryz.sizeOf180
  v37:=Tryz.zeroValue180
  t70:=Tryz.underlying179
  a70:=Tryz.isAgg179
  z70:=Tryz.sizeOf179
  v70:=Tryz.zeroValue179
  t72:=Tryz.underlying182
  a72:=Tryz.isAgg182
  z72:=Tryz.sizeOf182
  v72:=Tryz.zeroValue182
  t75:=Tryz.underlying40
  a75:=Tryz.isAgg40
  z75:=Tryz.sizeOf40
  v75:=Tryz.zeroValue40
  t76:=Tryz.underlying183
  a76:=Tryz.isAgg183
  z76:=Tryz.sizeOf183
  v76:=Tryz.zeroValue183
  t127:=Tryz.underlying266
  a127:=Tryz.isAgg266
  z127:=Tryz.sizeOf266
  v127:=Tryz.zeroValue266
  t164:=Tryz.underlying207
  a164:=Tryz.isAgg207
  z164:=Tryz.sizeOf207
  v164:=Tryz.zeroValue207 }
theorem Builder_Extra_156:Builder.Extra Tryz.prog lays156_ren:={
  sizeBuilder:=by kernel_rfl
  liesBuilder:=by kernel_rfl
  t5:=Tryz.underlying5
  a5:=Tryz.isAgg5
  z5:=Tryz.sizeOf5
  v5:=Tryz.zeroValue5
  infoByte:=by kernel_rfl
  cellsByte:=by kernel_rfl
  sizeByte:=by kernel_rfl
  neB5:=by decide }
def laysM171_ren:Go.Shelf.Ren:=⟨fun | 171 => 129 | 243 => 205 | 246 => 264 | 283 => 304 | 284 => 305 | 285 => 306 | 286 => 307 | 129 => 196 | 317 => 346 | 318 => 347 | 319 => 348 | 320 => 349 | 337 => 367 | 338 => 368 | n => n,fun | 3 => 3 | 9 => 9 | 2 => 2 | 4 => 4 | 171 => 389 | 0 => 0 | 53 => 107 | 37 => 180 | 5 => 5 | 173 => 391 | 212 => 418 | 51 => 100 | 20 => 20 | 213 => 419 | 46 => 175 | 232 => 401 | 233 => 424 | n => n,fun | 17 => 4 | 18 => 8 | 19 => 9 | n => n⟩
theorem laysM171:Go.Proofs.LaysM.n171 Tryz.prog laysM171_ren:={
  mixed:=by kernel_rfl
  f129:=Tryz.func196.trans (congrArg some (by kernel_rfl))
  f171:=Tryz.func129.trans (congrArg some (by kernel_rfl))
  f243:=Tryz.func205.trans (congrArg some (by kernel_rfl))
  f246:=Tryz.func264.trans (congrArg some (by kernel_rfl))
  f283:=Tryz.func304.trans (congrArg some (by kernel_rfl))
  f284:=Tryz.func305.trans (congrArg some (by kernel_rfl))
  f285:=Tryz.func306.trans (congrArg some (by kernel_rfl))
  f286:=Tryz.func307.trans (congrArg some (by kernel_rfl))
  f317:=Tryz.func346.trans (congrArg some (by kernel_rfl))
  f318:=Tryz.func347.trans (congrArg some (by kernel_rfl))
  f319:=Tryz.func348.trans (congrArg some (by kernel_rfl))
  f320:=Tryz.func349.trans (congrArg some (by kernel_rfl))
  f337:=Tryz.func367.trans (congrArg some (by kernel_rfl))
  f338:=Tryz.func368.trans (congrArg some (by kernel_rfl))
  t0:=Tryz.underlying0
  a0:=Tryz.isAgg0
  z0:=Tryz.sizeOf0
  v0:=Tryz.zeroValue0
  t2:=Tryz.underlying2
  a2:=Tryz.isAgg2
  z2:=Tryz.sizeOf2
  v2:=Tryz.zeroValue2
  t3:=Tryz.underlying3
  a3:=Tryz.isAgg3
  z3:=Tryz.sizeOf3
  v3:=Tryz.zeroValue3
  t4:=Tryz.underlying4
  a4:=Tryz.isAgg4
  z4:=Tryz.sizeOf4
  v4:=Tryz.zeroValue4
  t5:=Tryz.underlying5
  a5:=Tryz.isAgg5
  z5:=Tryz.sizeOf5
  v5:=Tryz.zeroValue5
  t9:=Tryz.underlying9
  a9:=Tryz.isAgg9
  z9:=Tryz.sizeOf9
  v9:=Tryz.zeroValue9
  t20:=Tryz.underlying20
  a20:=Tryz.isAgg20
  z20:=Tryz.sizeOf20
  v20:=Tryz.zeroValue20
  t37:=Tryz.underlying180
  a37:=Tryz.isAgg180
  z37:=Tryz.sizeOf180
  v37:=Tryz.zeroValue180
  t46:=Tryz.underlying175
  a46:=Tryz.isAgg175
  z46:=Tryz.sizeOf175
  v46:=Tryz.zeroValue175
  t51:=Tryz.underlying100
  a51:=Tryz.isAgg100
  z51:=Tryz.sizeOf100
  v51:=Tryz.zeroValue100
  t53:=Tryz.underlying107
  a53:=Tryz.isAgg107
  z53:=Tryz.sizeOf107
  v53:=Tryz.zeroValue107
  t171:=Tryz.underlying389
  a171:=Tryz.isAgg389
  z171:=Tryz.sizeOf389
  v171:=Tryz.zeroValue389
  t173:=Tryz.underlying391
  a173:=Tryz.isAgg391
  z173:=Tryz.sizeOf391
  v173:=Tryz.zeroValue391
  t212:=Tryz.underlying418
  a212:=Tryz.isAgg418
  z212:=Tryz.sizeOf418
  v212:=Tryz.zeroValue418
  t213:=Tryz.underlying419
  a213:=Tryz.isAgg419
  z213:=Tryz.sizeOf419
  t232:=Tryz.underlying401
  a232:=Tryz.isAgg401
  z232:=Tryz.sizeOf401
  v232:=Tryz.zeroValue401
  t233:=Tryz.underlying424
  a233:=Tryz.isAgg424
  z233:=Tryz.sizeOf424
  v233:=Tryz.zeroValue424
  g17:=by kernel_rfl
  g18:=by kernel_rfl
  g19:=by kernel_rfl
  i0:=by kernel_rfl
  i2:=by kernel_rfl
  i3:=by kernel_rfl
  i4:=by kernel_rfl
  i5:=by kernel_rfl
  i9:=by kernel_rfl
  i20:=by kernel_rfl
  i37:=by kernel_rfl
  i46:=by kernel_rfl
  i51:=by kernel_rfl
  i53:=by kernel_rfl
  i171:=by kernel_rfl
  i173:=by kernel_rfl
  i212:=by kernel_rfl
  i232:=by kernel_rfl
  i233:=by kernel_rfl
  m17:=by kernel_rfl
  m18:=by kernel_rfl
  m19:=by kernel_rfl }
def lays145_ren:Go.Shelf.Ren:=⟨fun | 145 => 180 | 220 => 256 | 219 => 292 | 217 => 332 | 225 => 333 | 224 => 334 | 267 => 335 | 266 => 358 | 314 => 359 | n => n,fun | 9 => 9 | 4 => 4 | 59 => 274 | 3 => 3 | 5 => 5 | 46 => 175 | 146 => 329 | 51 => 100 | n => n,fun | 1 => 1 | n => n⟩
def laysM145_ren:Go.Shelf.Ren:=⟨fun | 145 => 180 | 220 => 256 | 219 => 292 | 217 => 332 | 225 => 333 | 224 => 334 | 267 => 335 | 266 => 358 | 314 => 359 | n => n,fun | 9 => 9 | 4 => 4 | 59 => 274 | 3 => 3 | 5 => 5 | 46 => 175 | 146 => 329 | 51 => 100 | n => n,fun | 1 => 1 | n => n⟩
theorem laysM145:Go.Proofs.LaysM.n145 Tryz.prog laysM145_ren:={
  mixed:=by kernel_rfl
  f145:=Tryz.func180.trans (congrArg some (by kernel_rfl))
  f217:=Tryz.func332.trans (congrArg some (by kernel_rfl))
  f219:=Tryz.func292.trans (congrArg some (by kernel_rfl))
  f220:=Tryz.func256.trans (congrArg some (by kernel_rfl))
  f224:=Tryz.func334.trans (congrArg some (by kernel_rfl))
  f225:=Tryz.func333.trans (congrArg some (by kernel_rfl))
  f266:=Tryz.func358.trans (congrArg some (by kernel_rfl))
  f267:=Tryz.func335.trans (congrArg some (by kernel_rfl))
  f314:=Tryz.func359.trans (congrArg some (by kernel_rfl))
  t3:=Tryz.underlying3
  a3:=Tryz.isAgg3
  z3:=Tryz.sizeOf3
  v3:=Tryz.zeroValue3
  t4:=Tryz.underlying4
  a4:=Tryz.isAgg4
  z4:=Tryz.sizeOf4
  v4:=Tryz.zeroValue4
  t5:=Tryz.underlying5
  a5:=Tryz.isAgg5
  z5:=Tryz.sizeOf5
  v5:=Tryz.zeroValue5
  t9:=Tryz.underlying9
  a9:=Tryz.isAgg9
  z9:=Tryz.sizeOf9
  v9:=Tryz.zeroValue9
  t46:=Tryz.underlying175
  a46:=Tryz.isAgg175
  z46:=Tryz.sizeOf175
  v46:=Tryz.zeroValue175
  t51:=Tryz.underlying100
  a51:=Tryz.isAgg100
  z51:=Tryz.sizeOf100
  v51:=Tryz.zeroValue100
  t59:=Tryz.underlying274
  a59:=Tryz.isAgg274
  z59:=Tryz.sizeOf274
  v59:=Tryz.zeroValue274
  t146:=Tryz.underlying329
  a146:=Tryz.isAgg329
  z146:=Tryz.sizeOf329
  v146:=Tryz.zeroValue329
  g1:=by kernel_rfl
  i3:=by kernel_rfl
  i4:=by kernel_rfl
  i5:=by kernel_rfl
  i9:=by kernel_rfl
  i46:=by kernel_rfl
  i51:=by kernel_rfl
  i59:=by kernel_rfl
  i146:=by kernel_rfl
  m1:=by kernel_rfl
  s1_3:=fun w h => Go.Proofs.cell_of_shapedOpen_int (zero:=#[.int .i64 0]) (t:=3) h (of_decide_eq_true (by kernel_rfl)) (by kernel_rfl) rfl (by kernel_rfl) (by kernel_rfl) Tryz.underlying3 }
def lays111_ren:Go.Shelf.Ren:=⟨fun | 111 => 94 | n => n,fun | 28 => 23 | 3 => 3 | 4 => 4 | 0 => 0 | n => n,fun | n => n⟩
theorem lays111:Go.Proofs.Lays.n111 Tryz.prog lays111_ren:={
  mixed:=by kernel_rfl
  f111:=Tryz.func94.trans (congrArg some (by kernel_rfl))
  t0:=Tryz.underlying0
  a0:=Tryz.isAgg0
  z0:=Tryz.sizeOf0
  v0:=Tryz.zeroValue0
  t3:=Tryz.underlying3
  a3:=Tryz.isAgg3
  z3:=Tryz.sizeOf3
  v3:=Tryz.zeroValue3
  t4:=Tryz.underlying4
  a4:=Tryz.isAgg4
  z4:=Tryz.sizeOf4
  v4:=Tryz.zeroValue4
  t28:=Tryz.underlying23
  a28:=Tryz.isAgg23
  z28:=Tryz.sizeOf23
  v28:=Tryz.zeroValue23 }
end Go.Proofs.YtjmpjfikcgccdaaGreatDoor.It
