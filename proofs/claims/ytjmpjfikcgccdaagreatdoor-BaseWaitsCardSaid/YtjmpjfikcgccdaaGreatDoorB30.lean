/-
  Part of the proof of BaseWaitsCard (V7 and on).
-/
import Derived.Test.YtjmpjfikcgccdaaGreatDoorB29
namespace Go.Proofs.YtjmpjfikcgccdaaGreatDoor.Vt
open Go.RowKit
theorem chg_then {w w' w'':World} {O O':Nat -> Prop} (h:Dv.Chg w w' O) (u:Dv.Chg w' w'' O') (ho:∀ k,k < w.heap.size -> O' k -> O k):Dv.Chg w w'' O:=
  ⟨u.os.trans h.os,u.tape.trans h.tape,u.output.trans h.output,Nat.le_trans h.size u.size,fun k hk hne => (u.block k (Nat.lt_of_lt_of_le hk h.size) (fun e => hne (ho k hk e))).trans (h.block k hk hne)⟩
theorem burnt_none:Dv.burnt (-1) = -1:=by decide
set_option maxRecDepth 100000 in
set_option maxHeartbeats 400000 in
theorem w21_any (Bv Bb vb d:Nat) (O:Nat -> Prop) (S:Nat -> Nat -> UInt8) (W:List (Nat × (Nat -> UInt8))) (v:Value) (lf:Int) (k:Nat) (s:ByteArray) (w:World) (jv:Blk w Bv #[.pointer (some ⟨vb,0,none⟩)] 123) (jb:Blk w Bb #[.int .i64 (k:Int),.string s] 303)
    (hc:w.cell? ⟨vb,0,none⟩ = some (.pointer (some ⟨d,0,none⟩))) (hD:Dv.Dev w O d S W (-1) v lf) (hk:k < 66) (hs:s.size <= 256) (hW:W.length < 1000) :
    Calls Tryz.prog 277 #[.pointer (some ⟨Bv,0,none⟩),.pointer (some ⟨Bb,0,none⟩)] w fun e w' => e = .returned .nilIface ∧ (∃ v' l',Dv.Dev w' (Dv.gro O w w') d S (W ++ [(k,Dv.bAt s)]) (-1) v' l') ∧ Dv.Chg w w' O:=by
  have a0:=jv.cell 0
  have b0:=jb.cell 0
  have b1:=jb.cell 1
  go_enter Tryz.func277,Tryz.ntmps277
  go_wp2_with fail
  refine region_s [(0,false),(1,true),(2,true),(3,false),(4,true),(5,false),(6,true),(7,false)] [] [8,9] (fun w' => w' = w.drew) Tr.mixed (by kernel_rfl) (fun _ _ _ _ _ h => h) rfl ?_
  have a0':w.drew.cell? ⟨Bv,0,none⟩ = some (.pointer (some ⟨vb,0,none⟩)):=a0
  have hc':w.drew.cell? ⟨vb,0,none⟩ = some (.pointer (some ⟨d,0,none⟩)):=hc
  have b0':w.drew.cell? ⟨Bb,0,none⟩ = some (.int .i64 (k:Int)):=b0
  have b1':w.drew.cell? ⟨Bb,1,none⟩ = some (.string s):=b1
  refine lead_read _ rfl _ rfl rfl (.pointer (some ⟨vb,0,none⟩)) (fun w' hS => by subst hS;go_simp) ?_
  refine lead_pure _ rfl _ rfl rfl (.pointer (some ⟨vb,0,none⟩)) (fun w' => by go_simp) ?_
  refine lead_pure _ rfl _ rfl rfl (.pointer (some ⟨vb,0,none⟩)) (fun w' => by go_simp) ?_
  refine lead_read _ rfl _ rfl rfl (.pointer (some ⟨d,0,none⟩)) (fun w' hS => by subst hS;go_simp) ?_
  refine lead_pure _ rfl _ rfl rfl (.pointer (some ⟨Bb,0,none⟩)) (fun w' => by go_simp) ?_
  refine lead_read _ rfl _ rfl rfl (.int .i64 (k:Int)) (fun w' hS => by subst hS;go_simp) ?_
  refine lead_pure _ rfl _ rfl rfl (.pointer (some ⟨Bb,1,none⟩)) (fun w' => by go_simp) ?_
  refine lead_read _ rfl _ rfl rfl (.string s) (fun w' hS => by subst hS;go_simp) ?_
  simp only [lead_nil_eq]
  simp only [Act.put,List.setIfInBounds_toArray,List.set_cons_succ,List.set_cons_zero]
  simp only [mid_nil_eq]
  simp only [List.filterMap_cons,List.getElem?_toArray,List.getElem?_cons_succ,List.getElem?_cons_zero,List.filterMap_nil]
  go_wp2_with fail
  refine (Dv.write_ok d O S W (-1) v lf k s _ (hD.drewN 1) (by decide) hk hs hW).mono ?_
  rintro e w4 ⟨rfl,⟨v4,l4,hD4⟩,C4⟩
  rw [burnt_none] at hD4
  go_wp2_with fail
  go_ret
  exact ⟨rfl,⟨v4,l4,hD4⟩,⟨C4.os,C4.tape,C4.output,C4.size,C4.block⟩⟩
set_option maxRecDepth 100000 in
set_option maxHeartbeats 400000 in
theorem w3_any (Bv Bn vb c:Nat) (n m:Int) (w:World) (jv:Blk w Bv #[.pointer (some ⟨vb,0,none⟩)] 123) (jn:Blk w Bn #[.int .i64 m] 3)
    (hc:w.cell? ⟨vb,1,none⟩ = some (.pointer (some ⟨c,0,none⟩))) (hC:Dv.Cnt w c n) (hm:n < m) :
    Calls Tryz.prog 280 #[.pointer (some ⟨Bv,0,none⟩),.pointer (some ⟨Bn,0,none⟩)] w fun e w' => e = .returned .nilIface ∧ Dv.Cnt w' c m ∧ Upd w w' c:=by
  have a0:=jv.cell 0
  have b0:=jn.cell 0
  go_enter Tryz.func280,Tryz.ntmps280
  go_wp2_with fail
  refine region_s [(0,false),(1,true),(2,true),(3,false),(4,false)] [] [5,6] (fun w' => w' = w.drew) Tr.mixed (by kernel_rfl) (fun _ _ _ _ _ h => h) rfl ?_
  have a0':w.drew.cell? ⟨Bv,0,none⟩ = some (.pointer (some ⟨vb,0,none⟩)):=a0
  have hc':w.drew.cell? ⟨vb,1,none⟩ = some (.pointer (some ⟨c,0,none⟩)):=hc
  have b0':w.drew.cell? ⟨Bn,0,none⟩ = some (.int .i64 m):=b0
  refine lead_read _ rfl _ rfl rfl (.pointer (some ⟨vb,0,none⟩)) (fun w' hS => by subst hS;go_simp) ?_
  refine lead_pure _ rfl _ rfl rfl (.pointer (some ⟨vb,0,none⟩)) (fun w' => by go_simp) ?_
  refine lead_pure _ rfl _ rfl rfl (.pointer (some ⟨vb,1,none⟩)) (fun w' => by go_simp) ?_
  refine lead_read _ rfl _ rfl rfl (.pointer (some ⟨c,0,none⟩)) (fun w' hS => by subst hS;go_simp) ?_
  refine lead_read _ rfl _ rfl rfl (.int .i64 m) (fun w' hS => by subst hS;go_simp) ?_
  simp only [lead_nil_eq]
  simp only [Act.put,List.setIfInBounds_toArray,List.set_cons_succ,List.set_cons_zero]
  simp only [mid_nil_eq]
  simp only [List.filterMap_cons,List.getElem?_toArray,List.getElem?_cons_succ,List.getElem?_cons_zero,List.filterMap_nil]
  go_wp2_with fail
  refine (Dv.raise_yes c n m _ (hC.drewN 1) hm).mono ?_
  rintro e w4 ⟨rfl,C4,hu4⟩
  go_wp2_with fail
  go_ret
  exact ⟨rfl,C4,⟨hu4.os,hu4.tape,hu4.output,hu4.size,hu4.block⟩⟩
theorem dev_put {w w1 w2:World} {O:Nat -> Prop} {d Bf:Nat} {S:Nat -> Nat -> UInt8} {W:List (Nat × (Nat -> UInt8))} {F:Int} {v:Value} {lf:Int} (h:Dv.Dev w1 (Dv.gro O w w1) d S W F v lf) (hu:Upd w1 w2 Bf) (nf:¬ O Bf) (hl:Bf < w.heap.size):Dv.Dev w2 (Dv.gro O w w2) d S W F v lf:=by
  have C:Dv.Chg w1 w2 (fun k => k = Bf):=(Dv.Chg.refl w1 _).upd hu (Or.inl rfl)
  refine (h.chg C (fun k hk e => ?_)).mono (fun k hk => ?_)
  · subst e
    rcases hk with hk | hk
    · exact nf hk
    · omega
  · rcases hk with hk | ⟨h1,h2⟩
    · exact Or.inl hk
    · exact Or.inr ⟨h1,by rw [hu.size];exact h2⟩
theorem dev_put' {w1 w2:World} {O:Nat -> Prop} {d Bf:Nat} {S:Nat -> Nat -> UInt8} {W:List (Nat × (Nat -> UInt8))} {F:Int} {v:Value} {lf:Int} (h:Dv.Dev w1 O d S W F v lf) (hu:Upd w1 w2 Bf) (nf:¬ O Bf):Dv.Dev w2 O d S W F v lf:=
  h.chg ((Dv.Chg.refl w1 (fun k => k = Bf)).upd hu (Or.inl rfl)) (fun k hk e => by subst e;exact nf hk)
set_option maxRecDepth 100000 in
set_option maxHeartbeats 400000 in
theorem do_write (Bf Bv Bb vb d:Nat) (O:Nat -> Prop) (S:Nat -> Nat -> UInt8) (W:List (Nat × (Nat -> UInt8))) (v:Value) (lf:Int) (k:Nat) (s:ByteArray) (w:World) (jf:Blk w Bf #[.nilIface] 40) (jv:Blk w Bv #[.pointer (some ⟨vb,0,none⟩)] 123) (jb:Blk w Bb #[.int .i64 (k:Int),.string s] 303)
    (hc:w.cell? ⟨vb,0,none⟩ = some (.pointer (some ⟨d,0,none⟩))) (hD:Dv.Dev w O d S W (-1) v lf) (hk:k < 66) (hs:s.size <= 256) (hW:W.length < 1000) (nf:¬ O Bf) :
    Calls Tryz.prog 275 #[.func (.func 277) #[] #[.pointer (some ⟨Bv,0,none⟩),.pointer (some ⟨Bb,0,none⟩)],.pointer (some ⟨Bf,0,none⟩)] w fun e w' => e = .returned (.tuple #[]) ∧ Blk w' Bf #[.nilIface] 40 ∧ (∃ v' l',Dv.Dev w' (Dv.gro O w w') d S (W ++ [(k,Dv.bAt s)]) (-1) v' l') ∧ Dv.Chg w w' (fun k => O k ∨ k = Bf):=by
  have f0:=jf.cell 0
  go_enter Tryz.func275,Tryz.ntmps275
  go_wp2_with fail
  refine (w21_any Bv Bb vb d O S W v lf k s w jv jb hc hD hk hs hW).mono ?_
  rintro e w4 ⟨rfl,⟨v4,l4,hD4⟩,C4⟩
  have jf4:=jf.chg C4 nf
  have f4:=jf4.cell 0
  have z4:=jf4.frozen 0
  go_wp2_with fail
  go_end0
  exact ⟨rfl,jf4.set 0 .nilIface,⟨v4,l4,dev_put hD4 (setCell_upd _ _ _ _) nf jf.lt⟩,(C4.mono fun k _ h => Or.inl h).upd (setCell_upd _ _ _ _) (Or.inl (Or.inr rfl))⟩
set_option maxRecDepth 100000 in
set_option maxHeartbeats 400000 in
theorem do_sync (Bf d:Nat) (O:Nat -> Prop) (S:Nat -> Nat -> UInt8) (W:List (Nat × (Nat -> UInt8))) (v:Value) (lf:Int) (w:World) (jf:Blk w Bf #[.nilIface] 40) (hD:Dv.Dev w O d S W (-1) v lf) (nf:¬ O Bf) :
    Calls Tryz.prog 275 #[.func (.func 279) #[.pointer (some ⟨d,0,none⟩)] #[],.pointer (some ⟨Bf,0,none⟩)] w fun e w' => e = .returned (.tuple #[]) ∧ Blk w' Bf #[.nilIface] 40 ∧ (∃ l',Dv.Dev w' O d (Dv.loseS S W (fun _ => true) W.length) [] (-1) (.slice none 0 0) l') ∧ Dv.Chg w w' (fun k => O k ∨ k = Bf):=by
  have f0:=jf.cell 0
  go_enter Tryz.func275,Tryz.ntmps275
  go_wp2_with fail
  refine (Dv.sync_ok d O S W (-1) v lf w hD (by decide)).mono ?_
  rintro e w4 ⟨rfl,⟨l4,hD4⟩,C4⟩
  rw [burnt_none] at hD4
  have jf4:=jf.chg C4 nf
  have f4:=jf4.cell 0
  have z4:=jf4.frozen 0
  go_wp2_with fail
  go_end0
  exact ⟨rfl,jf4.set 0 .nilIface,⟨l4,dev_put' hD4 (setCell_upd _ _ _ _) nf⟩,(C4.mono fun k _ h => Or.inl h).upd (setCell_upd _ _ _ _) (Or.inl (Or.inr rfl))⟩
set_option maxRecDepth 100000 in
set_option maxHeartbeats 400000 in
theorem do_raise (Bf Bv Bn vb c:Nat) (n m:Int) (w:World) (jf:Blk w Bf #[.nilIface] 40) (jv:Blk w Bv #[.pointer (some ⟨vb,0,none⟩)] 123) (jn:Blk w Bn #[.int .i64 m] 3)
    (hc:w.cell? ⟨vb,1,none⟩ = some (.pointer (some ⟨c,0,none⟩))) (hC:Dv.Cnt w c n) (hm:n < m) (nf:c ≠ Bf) :
    Calls Tryz.prog 275 #[.func (.func 280) #[] #[.pointer (some ⟨Bv,0,none⟩),.pointer (some ⟨Bn,0,none⟩)],.pointer (some ⟨Bf,0,none⟩)] w fun e w' => e = .returned (.tuple #[]) ∧ Blk w' Bf #[.nilIface] 40 ∧ Dv.Cnt w' c m ∧ Dv.Chg w w' (fun k => k = c ∨ k = Bf):=by
  have f0:=jf.cell 0
  go_enter Tryz.func275,Tryz.ntmps275
  go_wp2_with fail
  refine (w3_any Bv Bn vb c n m w jv jn hc hC hm).mono ?_
  rintro e w4 ⟨rfl,C4,hu4⟩
  have jf4:=jf.upd hu4 (Ne.symm nf)
  have f4:=jf4.cell 0
  have z4:=jf4.frozen 0
  go_wp2_with fail
  go_end0
  exact ⟨rfl,jf4.set 0 .nilIface,C4.upd (setCell_upd _ _ _ _) nf,((Dv.Chg.refl w _).upd hu4 (Or.inl (Or.inl rfl))).upd (setCell_upd _ _ _ _) (Or.inl (Or.inr rfl))⟩
abbrev doV (Bf:Nat):Value:=.func (.func 275) #[] #[.pointer (some ⟨Bf,0,none⟩)]
set_option maxRecDepth 100000 in
set_option maxHeartbeats 400000 in
theorem put_any (Bd Bf Bv vb d:Nat) (VA:Array Value) (O:Nat -> Prop) (S:Nat -> Nat -> UInt8) (W:List (Nat × (Nat -> UInt8))) (v:Value) (lf:Int) (k:Nat) (s:ByteArray) (w:World) (jd:Blk w Bd #[doV Bf] 361) (jf:Blk w Bf #[.nilIface] 40) (jv:Blk w Bv #[.pointer (some ⟨vb,0,none⟩)] 123)
    (jV:Blk w vb VA 193) (hc:VA[0]? = some (.pointer (some ⟨d,0,none⟩))) (hD:Dv.Dev w O d S W (-1) v lf) (hk:k < 66) (hs:s.size <= 256) (hW:W.length < 1000) (nf:¬ O Bf) :
    Calls Tryz.prog 276 #[.agg #[.int .i64 (k:Int),.string s],.pointer (some ⟨Bd,0,none⟩),.pointer (some ⟨Bv,0,none⟩)] w fun e w' => e = .returned (.tuple #[]) ∧ Blk w' Bf #[.nilIface] 40 ∧ (∃ v' l',Dv.Dev w' (Dv.gro O w w') d S (W ++ [(k,Dv.bAt s)]) (-1) v' l') ∧ Dv.Chg w w' (fun k => O k ∨ k = Bf):=by
  have g0:=Pg.below_alloc w (.cells #[.int .i64 (k:Int),.string s] 303)
  have c0:=(jd.below g0 jd.lt).cell 0
  go_enter Tryz.func276,Tryz.ntmps276
  go_wp2_with fail
  refine (do_write Bf Bv w.heap.size vb d O S W v lf k s _ (jf.below g0 jf.lt) (jv.below g0 jv.lt) (Blk.new w _ _) (by rw [(jV.below g0 jV.lt).cell,hc]) (hD.below g0) hk hs hW nf).mono ?_
  rintro e w4 ⟨rfl,j4,⟨v4,l4,hD4⟩,C4⟩
  go_wp2_with fail
  go_end0
  refine ⟨rfl,j4,⟨v4,l4,hD4.mono fun q hq => ?_⟩,chg_then ((Dv.Chg.refl w _).below g0) C4 fun q _ h => h⟩
  rcases hq with hq | ⟨h1,h2⟩
  · exact Or.inl hq
  · exact Or.inr ⟨by simp at h1;omega,h2⟩
structure Wr (W:World) (w:World) (O:Nat -> Prop) (B vb d c:Nat) (VA:Array Value) (at':Int) (top:ByteArray) (n m:Int):Prop where
  jv:Blk W B #[.pointer (some ⟨vb,0,none⟩)] 123
  jt:Blk W (B + 1) #[.int .i64 at',.string top] 303
  jn:Blk W (B + 2) #[.int .i64 m] 3
  jf:Blk W (B + 3) #[.nilIface] 40
  jd:Blk W (B + 4) #[doV (B + 3)] 361
  jV:Blk W vb VA 193
  jc:Dv.Cnt W c n
  lo:Dv.Chg w W O
  h1:w.heap.size = B
  h2:vb < B
  h3:c < B
  o2:¬ O vb
  o3:¬ O c
  o4:vb ≠ c
theorem Wr.step {W W' w:World} {O P:Nat -> Prop} {B vb d c:Nat} {VA:Array Value} {at':Int} {top:ByteArray} {n m:Int} (h:Wr W w O B vb d c VA at' top n m) (C:Dv.Chg W W' (fun k => P k ∨ k = B + 3)) (hP:∀ k,P k -> O k ∨ (B + 5 <= k)) (jf:Blk W' (B + 3) #[.nilIface] 40) (hO:∀ k,O k -> k < B):Wr W' w O B vb d c VA at' top n m:=by
  have no:∀ k,k < B + 5 -> ¬ O k -> k ≠ B + 3 -> ¬ (P k ∨ k = B + 3):=fun k h1 h2 h3 h4 => by
    rcases h4 with h4 | h4
    · rcases hP k h4 with h5 | h5
      · exact h2 h5
      · omega
    · exact h3 h4
  have nB:∀ k,B <= k -> ¬ O k:=fun k h1 h2 => absurd (hO k h2) (by omega)
  exact ⟨h.jv.chg C (no _ (by omega) (nB _ (by omega)) (by omega)),h.jt.chg C (no _ (by omega) (nB _ (by omega)) (by omega)),h.jn.chg C (no _ (by omega) (nB _ (by omega)) (by omega)),jf,h.jd.chg C (no _ (by omega) (nB _ (by omega)) (by omega)),
    h.jV.chg C (no _ (by have:=h.h2;omega) h.o2 (by have:=h.h2;omega)),h.jc.chg C (no _ (by have:=h.h3;omega) h.o3 (by have:=h.h3;omega)),chg_then h.lo C (fun k hk e => by
      have hB:=h.h1
      rcases e with e | e
      · rcases hP k e with e | e
        · exact e
        · omega
      · omega),h.h1,h.h2,h.h3,h.o2,h.o3,h.o4⟩
theorem pg_form {w:World} {base:Nat} {T:TypeId} {pgs:Value} {l:List (Nat × ByteArray)} (h:w.ownsRow base T 2 pgs l.length (slC l)) :
    ∃ a cap,pgs = .slice a l.length cap ∧ ∀ (i:Nat) (x:Nat × ByteArray),l[i]? = some x -> ∃ g,a = some ⟨g,0,none⟩ ∧ g < w.heap.size ∧ w.cell? ⟨g,i * 2,none⟩ = some (.int .i64 (x.1:Int)) ∧ w.cell? ⟨g,i * 2 + 1,none⟩ = some (.string x.2):=by
  obtain ⟨h1,⟨h2,h3⟩ | ⟨g,cap,cur,h3,h4,h5,h6,h7,h8,h9⟩⟩:=h
  · have:l = []:=List.eq_nil_of_length_eq_zero h3
    subst this
    exact ⟨none,0,h2,fun i x hx => by simp at hx⟩
  · refine ⟨some ⟨g,0,none⟩,cap,h3,fun i x hx => ⟨g,rfl,(Array.getElem?_eq_some_iff.1 h5).1,?_⟩⟩
    obtain ⟨a1,a2⟩:=slC_at l i x hx
    have hi:i < l.length:=(List.getElem?_eq_some_iff.1 hx).1
    have hb:Blk w g cur T:=h5
    rw [<- h9,List.getElem?_take,if_pos (by omega)] at a1 a2
    rw [hb.cell,hb.cell,<- Array.getElem?_toList,<- Array.getElem?_toList]
    exact ⟨a1,a2⟩
def wl (l:List (Nat × ByteArray)):List (Nat × (Nat -> UInt8)):=l.map fun x => (x.1,Dv.bAt x.2)
theorem wl_take {l:List (Nat × ByteArray)} {k:Nat} {x:Nat × ByteArray} (h:l[k]? = some x) (W:List (Nat × (Nat -> UInt8))):W ++ wl (l.take k) ++ [(x.1,Dv.bAt x.2)] = W ++ wl (l.take (k + 1)):=by
  rw [List.take_add_one,h,List.append_assoc];unfold wl;simp
def sureS (S:Nat -> Nat -> UInt8) (W:List (Nat × (Nat -> UInt8))):Nat -> Nat -> UInt8:=Dv.loseS S W (fun _ => true) W.length
theorem szF:(Tryz.prog.info? 361).map (·.size) = some 1:=by kernel_rfl
theorem szVB:(Tryz.prog.info? 303).map (·.size) = some 2:=by kernel_rfl
set_option maxRecDepth 100000 in
set_option maxHeartbeats 1000000 in
theorem vwrite_any (vb d c:Nat) (VA:Array Value) (O:Nat -> Prop) (S:Nat -> Nat -> UInt8) (W:List (Nat × (Nat -> UInt8))) (v:Value) (lf:Int) (pgs:Value) (base:Nat) (l:List (Nat × ByteArray)) (at':Nat) (top:ByteArray) (n m:Int) (w:World)
    (jV:Blk w vb VA 193) (hv0:VA[0]? = some (.pointer (some ⟨d,0,none⟩))) (hv1:VA[1]? = some (.pointer (some ⟨c,0,none⟩))) (hD:Dv.Dev w O d S W (-1) v lf) (hC:Dv.Cnt w c n) (hm:n < m)
    (hp:w.ownsRow base 303 2 pgs l.length (slC l)) (hpo:∀ g,pgs.ownBlock = some g -> ¬ O g) (hl:∀ x ∈ l,x.1 < 66 ∧ x.2.size <= 256) (hll:l.length <= 32) (hW:W.length <= 100)
    (hat:at' < 66) (htop:top.size <= 256) (hO:∀ k,O k -> k < w.heap.size) (o2:¬ O vb) (o3:¬ O c) (o4:vb ≠ c) :
    Calls Tryz.prog 214 #[.pointer (some ⟨vb,0,none⟩),pgs,.agg #[.int .i64 (at':Int),.string top],.int .i64 m] w fun e w' => e = .returned .nilIface ∧
      (∃ O' v' l',Dv.Dev w' O' d (sureS (sureS S (W ++ wl l)) [(at',Dv.bAt top)]) [] (-1) v' l' ∧ ∀ k,O' k -> Dv.gro O w w' k) ∧ Dv.Cnt w' c m ∧ Dv.Chg w w' (fun k => O k ∨ k = c):=by
  have HL:Hid (∀ x ∈ l,x.1 < 66 ∧ x.2.size <= 256):=hl
  clear hl
  obtain ⟨a,cap,rfl,hrd⟩:=pg_form hp
  have HR:Hid (∀ (i:Nat) (x:Nat × ByteArray),l[i]? = some x -> ∃ g,a = some ⟨g,0,none⟩ ∧ g < w.heap.size ∧ ¬ O g ∧ w.cell? ⟨g,i * 2,none⟩ = some (.int .i64 (x.1:Int)) ∧ w.cell? ⟨g,i * 2 + 1,none⟩ = some (.string x.2)):=fun i x hx => by
    obtain ⟨g,h1,h2,h3,h4⟩:=hrd i x hx
    exact ⟨g,h1,h2,hpo g (by rw [h1];rfl),h3,h4⟩
  clear hrd hp hpo
  go_enter Tryz.func214,Tryz.ntmps214
  go_wp2_with (first
    | (refine wpl_put1 rfl rfl 361 _ _ rfl szF (w.heap.size + 1 + 1 + 1 + 1) 0 #[.nilFunc] 361 (doV (w.heap.size + 3)) rfl rfl rfl rfl (Blk.new' _ _ _ (by simp)) (by decide) ?_;intro w1 hu1 j1)
    | fail)
  have k0:=((((Blk.new w #[.pointer (some ⟨vb,0,none⟩)] 123).alloc (.cells #[.int .i64 (at':Int),.string top] 303)).alloc (.cells #[.int .i64 m] 3)).alloc (.cells #[.nilIface] 40)).alloc (.cells #[.nilFunc] 361)
  have k1:=(((Blk.new' (w.alloc (.cells #[.pointer (some ⟨vb,0,none⟩)] 123)) #[.int .i64 (at':Int),.string top] 303 (b:=w.heap.size + 1) (by simp)).alloc (.cells #[.int .i64 m] 3)).alloc (.cells #[.nilIface] 40)).alloc (.cells #[.nilFunc] 361)
  have k2:=((Blk.new' ((w.alloc (.cells #[.pointer (some ⟨vb,0,none⟩)] 123)).alloc (.cells #[.int .i64 (at':Int),.string top] 303)) #[.int .i64 m] 3 (b:=w.heap.size + 2) (by simp)).alloc (.cells #[.nilIface] 40)).alloc (.cells #[.nilFunc] 361)
  have k3:=(Blk.new' (((w.alloc (.cells #[.pointer (some ⟨vb,0,none⟩)] 123)).alloc (.cells #[.int .i64 (at':Int),.string top] 303)).alloc (.cells #[.int .i64 m] 3)) #[.nilIface] 40 (b:=w.heap.size + 3) (by simp)).alloc (.cells #[.nilFunc] 361)
  have gg:Below w.heap.size w (((((w.alloc (.cells #[.pointer (some ⟨vb,0,none⟩)] 123)).alloc (.cells #[.int .i64 (at':Int),.string top] 303)).alloc (.cells #[.int .i64 m] 3)).alloc (.cells #[.nilIface] 40)).alloc (.cells #[.nilFunc] 361)):=(((((Below.refl _ _).alloc (Nat.le_refl _) _).alloc (by simp) _).alloc (by simp;omega) _).alloc (by simp;omega) _).alloc (by simp;omega) _
  have g1:=below_upd gg hu1 (show w.heap.size <= w.heap.size + 1 + 1 + 1 + 1 by omega)
  have z1:w1.heap.size = w.heap.size + 5:=by rw [hu1.size];simp
  have k0':=k0.upd hu1 (by omega)
  have k1':=k1.upd hu1 (by omega)
  have k2':=k2.upd hu1 (by omega)
  have k3':=k3.upd hu1 (by omega)
  have hD1:=hD.below g1
  have hW1:Wr w1 w O w.heap.size vb d c VA at' top n m:=⟨k0',k1',k2',k3',j1,jV.below g1 jV.lt,hC.below g1 hC.lt,(Dv.Chg.refl w O).below g1,rfl,jV.lt,hC.lt,o2,o3,o4⟩
  obtain ⟨B,hB⟩:∃ B,w.heap.size = B:=⟨_,rfl⟩
  rw [hB] at hW1 z1 hO
  rw [hB]
  simp only [Nat.add_assoc,Nat.reduceAdd]
  have HO:Hid (∀ k,O k -> k < B):=hO
  clear k0 k1 k2 k3 k0' k1' k2' k3' gg hu1 j1 hO jV hC hD g1
  go_loopw [18] (fun i wr => ∃ (k:Nat) (O':Nat -> Prop) (v':Value) (l':Int),k <= l.length ∧ i = .int .i64 k ∧ Wr wr w O B vb d c VA at' top n m ∧ Dv.Dev wr O' d S (W ++ wl (l.take k)) (-1) v' l' ∧ Hid (∀ k,O' k -> O k ∨ (B + 5 <= k ∧ k < wr.heap.size)) ∧ B + 5 <= wr.heap.size) (fun i _ => l.length - (intOf i).toNat)
  case atStart => exact ⟨0,O,v,lf,by omega,rfl,hW1,by simpa [wl] using hD1,fun k h => Or.inl h,by omega⟩
  case round =>
    clear hW1 hD1 z1
    obtain ⟨k,O',v',l',hk,rfl,hWr,hDr,hOr,hzr⟩:=hrel
    by_cases hlt:k < l.length
    · obtain ⟨x,hx⟩:∃ x,l[k]? = some x:=⟨_,List.getElem?_eq_getElem hlt⟩
      obtain ⟨g,rfl,hg,ng,ca,cb⟩:=HR.out k x hx
      have hxo:=HL.out x (List.mem_of_getElem? hx)
      have ca':wr.cell? ⟨g,k * 2,none⟩ = some (.int .i64 (x.1:Int)):=(World.cell?_of_block (hWr.lo.block g hg ng)).trans ca
      have cb':wr.cell? ⟨g,k * 2 + 1,none⟩ = some (.string x.2):=(World.cell?_of_block (hWr.lo.block g hg ng)).trans cb
      have hlt':(k:Int) < (l.length:Int):=by omega
      have hX:Hid (l[k]? = some x):=hx
      clear ca cb hx
      have e1:∀ u ∈ (#[Value.int .i64 (x.1:Int),.string x.2]:Array Value).toList,u.oneCell' = true:=by intro u hu;simp at hu;rcases hu with rfl | rfl <;> rfl
      go_wp2_with (first
        | (refine Su.wpl_storeV rfl rfl 303 _ _ rfl 2 szVB wr.heap.size _ 303 #[.int .i64 (x.1:Int),.string x.2] e1 rfl rfl (Blk.new wr _ _) rfl rfl ?_;intro w2 hu2 j2;have d0:=j2.cell 0;have d1:=j2.cell 1)
        | fail)
      have s2:Below wr.heap.size wr w2:=below_upd (Pg.below_alloc wr _) hu2 (Nat.le_refl _)
      have hD2:=hDr.below s2
      have hW2:Wr w2 w O B vb d c VA at' top n m:=⟨hWr.jv.below s2 hWr.jv.lt,hWr.jt.below s2 hWr.jt.lt,hWr.jn.below s2 hWr.jn.lt,hWr.jf.below s2 hWr.jf.lt,hWr.jd.below s2 hWr.jd.lt,hWr.jV.below s2 hWr.jV.lt,hWr.jc.below s2 hWr.jc.lt,hWr.lo.below s2,hWr.h1,hWr.h2,hWr.h3,hWr.o2,hWr.o3,hWr.o4⟩
      have z2:w2.heap.size = wr.heap.size + 1:=by rw [hu2.size];simp
      have hlen:(W ++ wl (l.take k)).length < 1000:=by unfold wl;simp;omega
      have nf:¬ O' (B + 3):=fun h => by
        rcases hOr.out _ h with h | h
        · have:=HO.out _ h;omega
        · omega
      refine (put_any (B + 4) (B + 3) B vb d VA O' S _ v' l' x.1 x.2 w2 hW2.jd hW2.jf hW2.jv hW2.jV hv0 hD2 hxo.1 hxo.2 hlen nf).mono ?_
      rintro e w3 ⟨rfl,j3,⟨v3,l3,hD3⟩,C3⟩
      rw [wl_take hX.out W] at hD3
      have hz3:=C3.size
      have hW3:=hW2.step C3 (fun q hq => (hOr.out q hq).imp id fun h => h.1) j3 HO.out
      clear d0 d1 hu2 j2 s2 hD2 hW2 hWr hDr ca' cb' C3 j3
      go_wp2_with fail
      refine ⟨⟨k + 1,_,v3,l3,by omega,by go_num,hW3,hD3,fun q hq => ?_,by omega⟩,by simp [intOf];omega⟩
      rcases hq with hq | hq
      · exact (hOr.out q hq).imp id fun h => ⟨h.1,by omega⟩
      · exact Or.inr ⟨by omega,hq.2⟩
    · have hkl:k = l.length:=by omega
      have hDr':Dv.Dev wr O' d S (W ++ wl l) (-1) v' l':=by rw [hkl,List.take_length] at hDr;exact hDr
      have hlt':¬ ((k:Int) < (l.length:Int)):=by omega
      have nf:¬ O' (B + 3):=fun h => by
        rcases hOr.out _ h with h | h
        · have:=HO.out _ h;omega
        · omega
      clear hDr hkl
      have hWwr:=hWr
      clear hWr
      go_wp2_with fail
      have a0:wr.drew.cell? ⟨B,0,none⟩ = some (.pointer (some ⟨vb,0,none⟩)):=hWwr.jv.cell 0
      have a1:wr.drew.cell? ⟨vb,0,none⟩ = some (.pointer (some ⟨d,0,none⟩)):=by rw [show wr.drew.cell? ⟨vb,0,none⟩ = wr.cell? ⟨vb,0,none⟩ from rfl,hWwr.jV.cell,hv0]
      have a2:wr.drew.cell? ⟨B + 4,0,none⟩ = some (doV (B + 3)):=hWwr.jd.cell 0
      refine region_s [(0,false),(1,false),(2,true),(3,true),(4,false),(5,true)] [] [6] (fun w' => w' = wr.drew) Tr.mixed (by kernel_rfl) (fun _ _ _ _ _ h => h) rfl ?_
      refine lead_read _ rfl _ rfl rfl (doV (B + 3)) (fun w' hS => by subst hS;go_simp) ?_
      refine lead_read _ rfl _ rfl rfl (.pointer (some ⟨vb,0,none⟩)) (fun w' hS => by subst hS;go_simp) ?_
      refine lead_pure _ rfl _ rfl rfl (.pointer (some ⟨vb,0,none⟩)) (fun w' => by go_simp) ?_
      refine lead_pure _ rfl _ rfl rfl (.pointer (some ⟨vb,0,none⟩)) (fun w' => by go_simp) ?_
      refine lead_read _ rfl _ rfl rfl (.pointer (some ⟨d,0,none⟩)) (fun w' hS => by subst hS;go_simp) ?_
      refine lead_pure _ rfl _ rfl rfl (.func (.func 279) #[.pointer (some ⟨d,0,none⟩)] #[]) (fun w' => by go_simp) ?_
      simp only [lead_nil_eq]
      simp only [Act.put,List.setIfInBounds_toArray,List.set_cons_succ,List.set_cons_zero]
      simp only [mid_nil_eq]
      simp only [List.filterMap_cons,List.getElem?_toArray,List.getElem?_cons_succ,List.getElem?_cons_zero,List.filterMap_nil]
      clear a0 a1 a2
      go_wp2_with fail
      refine (do_sync (B + 3) d O' S (W ++ wl l) v' l' _ (hWwr.jf.drewN 1) (hDr'.drewN 1) nf).mono ?_
      rintro e w2 ⟨rfl,j2,⟨l2,hD2⟩,C2'⟩
      have C2:Dv.Chg wr w2 (fun k => O' k ∨ k = B + 3):=⟨C2'.os,C2'.tape,C2'.output,C2'.size,C2'.block⟩
      have hz2:=C2.size
      have hW2:=hWwr.step C2 (fun q hq => (hOr.out q hq).imp id fun h => h.1) j2 HO.out
      have t0:=hW2.jt.cell 0
      have t1:=hW2.jt.cell 1
      clear hWwr hDr' C2' C2 j2
      go_wp2_with fail
      refine (put_any (B + 4) (B + 3) B vb d VA O' _ [] _ l2 at' top w2 hW2.jd hW2.jf hW2.jv hW2.jV hv0 hD2 hat htop (by decide) nf).mono ?_
      rintro e w3 ⟨rfl,j3,⟨v3,l3,hD3⟩,C3⟩
      have hz3:=C3.size
      have hWw3:=hW2.step C3 (fun q hq => (hOr.out q hq).imp id fun h => h.1) j3 HO.out
      have nf3:¬ Dv.gro O' w2 w3 (B + 3):=fun h => by
        rcases h with h | h
        · exact nf h
        · omega
      clear hW2 hD2 C3 j3 t0 t1
      go_wp2_with fail
      have a0:w3.drew.cell? ⟨B,0,none⟩ = some (.pointer (some ⟨vb,0,none⟩)):=hWw3.jv.cell 0
      have a1:w3.drew.cell? ⟨vb,0,none⟩ = some (.pointer (some ⟨d,0,none⟩)):=by rw [show w3.drew.cell? ⟨vb,0,none⟩ = w3.cell? ⟨vb,0,none⟩ from rfl,hWw3.jV.cell,hv0]
      have a2:w3.drew.cell? ⟨B + 4,0,none⟩ = some (doV (B + 3)):=hWw3.jd.cell 0
      refine region_s [(0,false),(1,false),(2,true),(3,true),(4,false),(5,true)] [] [6] (fun w' => w' = w3.drew) Tr.mixed (by kernel_rfl) (fun _ _ _ _ _ h => h) rfl ?_
      refine lead_read _ rfl _ rfl rfl (doV (B + 3)) (fun w' hS => by subst hS;go_simp) ?_
      refine lead_read _ rfl _ rfl rfl (.pointer (some ⟨vb,0,none⟩)) (fun w' hS => by subst hS;go_simp) ?_
      refine lead_pure _ rfl _ rfl rfl (.pointer (some ⟨vb,0,none⟩)) (fun w' => by go_simp) ?_
      refine lead_pure _ rfl _ rfl rfl (.pointer (some ⟨vb,0,none⟩)) (fun w' => by go_simp) ?_
      refine lead_read _ rfl _ rfl rfl (.pointer (some ⟨d,0,none⟩)) (fun w' hS => by subst hS;go_simp) ?_
      refine lead_pure _ rfl _ rfl rfl (.func (.func 279) #[.pointer (some ⟨d,0,none⟩)] #[]) (fun w' => by go_simp) ?_
      simp only [lead_nil_eq]
      simp only [Act.put,List.setIfInBounds_toArray,List.set_cons_succ,List.set_cons_zero]
      simp only [mid_nil_eq]
      simp only [List.filterMap_cons,List.getElem?_toArray,List.getElem?_cons_succ,List.getElem?_cons_zero,List.filterMap_nil]
      clear a0 a1 a2
      go_wp2_with fail
      refine (do_sync (B + 3) d _ _ _ v3 l3 _ (hWw3.jf.drewN 1) (hD3.drewN 1) nf3).mono ?_
      rintro e w4 ⟨rfl,j4,⟨l4,hD4⟩,C4'⟩
      have C4:Dv.Chg w3 w4 (fun k => Dv.gro O' w2 w3 k ∨ k = B + 3):=⟨C4'.os,C4'.tape,C4'.output,C4'.size,C4'.block⟩
      have hz4:=C4.size
      have hG:∀ q,Dv.gro O' w2 w3 q -> O q ∨ (B + 5 <= q ∧ q < w3.heap.size):=fun q hq => by
        rcases hq with hq | hq
        · exact (hOr.out q hq).imp id fun h => ⟨h.1,by omega⟩
        · exact Or.inr ⟨by omega,hq.2⟩
      have HG:Hid (∀ q,Dv.gro O' w2 w3 q -> O q ∨ (B + 5 <= q ∧ q < w3.heap.size)):=hG
      have hW4:=hWw3.step C4 (fun q hq => (hG q hq).imp id fun h => h.1) j4 HO.out
      have q0:=hW4.jd.cell 0
      clear hWw3 hD3 C4' C4 j4 hG nf3
      go_wp2_with fail
      refine (do_raise (B + 3) B (B + 2) vb c n m w4 hW4.jf hW4.jv hW4.jn (by rw [hW4.jV.cell,hv1]) hW4.jc hm (by have:=hW4.h3;omega)).mono ?_
      rintro e w5 ⟨rfl,j5,c5,C5⟩
      have r0:=j5.cell 0
      have hz5:=C5.size
      clear q0
      go_wp2_with fail
      go_ret
      refine ⟨rfl,⟨_,_,l4,hD4.chg C5 (fun q hq e => ?_),fun q hq => ?_⟩,c5,chg_then (hW4.lo.mono fun q _ h => Or.inl h) C5 (fun q hq e => ?_)⟩
      · rcases e with e | e
        · subst e
          rcases HG.out _ hq with h | h
          · exact hW4.o3 h
          · have:=hW4.h3;omega
        · subst e
          rcases HG.out _ hq with h | h
          · have:=HO.out _ h;omega
          · omega
      · rcases HG.out q hq with h | h
        · exact Or.inl h
        · exact Or.inr ⟨by have:=hW4.h1;omega,by omega⟩
      · rcases e with e | e
        · exact Or.inr e
        · have:=hW4.h1;omega
end Go.Proofs.YtjmpjfikcgccdaaGreatDoor.Vt
