/-
  Part of the proof of BaseFindsCard (V11 and on).
-/
import Derived.Test.YtjmpjfikcgccdaaGreatDoorB28
import Derived.Test.YtjmpjfikcgccdaaGreatDoorB08
import Derived.Test.YtjmpjfikcgccdaaGreatDoorB18
import Derived.Test.YtjmpjfikcgccdaaGreatDoorB24
namespace Go.Proofs.YtjmpjfikcgccdaaGreatDoor.Vt
open Go.RowKit
def zS:ByteArray:=sb 256 (fun _ => 0)
theorem zS_size:zS.size = 256:=sb_size _ _
theorem zS_C:Su.fC zS = 0:=by kernel_rfl
theorem zS_ok (key:ByteArray):Su.okP key zS = false:=by
  unfold Su.okP Su.okW;rw [zS_C];simp [Su.okN]
theorem par_zS {key:ByteArray} (hk:key.size = 32):Su.parC key zS = 15 ∧ Su.parV key zS = Su.sup0:=by
  unfold Su.parC Su.parV;rw [if_pos hk,if_pos hk,zS_size,zS_ok];exact ⟨rfl,rfl⟩
theorem parV_bad {key s:ByteArray} (h:Su.parC key s = 15):Su.parV key s = Su.sup0:=by
  unfold Su.parC at h;unfold Su.parV
  split
  · rename_i h1;rw [if_pos h1] at h
    split
    · rfl
    · rename_i h2;rw [if_neg h2] at h
      split
      · rename_i h3;rw [if_pos h3] at h;exact absurd h (by decide)
      · rfl
  · rfl
set_option maxRecDepth 100000 in
set_option maxHeartbeats 400000 in
theorem readSuper_bad (d:Nat) (O:Nat -> Prop) (S:Nat -> Nat -> UInt8) (W:List (Nat × (Nat -> UInt8))) (F:Int) (v:Value) (lf:Int) (sec:ByteArray) (n:Nat) (w:World) (hD:Dv.Dev w O d S W F v lf) (hW:W.length <= 1000) (hsec:sec.size <= 300) (hn:n < 9007199254740992) (hK:Sm.KB w)
    (hz:Su.parC (supK sec) (sb 256 (Dv.readF S W (n % 2))) = 15) :
    Calls Tryz.prog 249 #[.pointer (some ⟨d,0,none⟩),.string sec,.int .i64 (n:Int)] w fun e w' => e = .returned (.tuple #[.agg Su.sup0,.bool false]) ∧ Below w.heap.size w w':=by
  have z0:=Su.sup0_size
  have o0:=Su.sup0_one
  have zz:=Su.zero93
  have bb:=Su.build0
  have e15:Su.errV 15 = .iface 34 (.int .i64 15):=rfl
  obtain ⟨Z,hZ⟩:∃ Z,Hid (Su.sup0 = Z):=⟨_,rfl⟩
  rw [hZ.out] at z0 o0 zz bb
  rw [hZ.out]
  have hsz:(sb 256 (Dv.readF S W (n % 2))).size = 256:=sb_size _ _
  obtain ⟨T,hT⟩:∃ T,Hid (sb 256 (Dv.readF S W (n % 2)) = T):=⟨_,rfl⟩
  rw [hT.out] at hz hsz
  have hpv:=Su.supA_one
  go_enter Tryz.func249,Tryz.ntmps249
  go_wp2_with fail
  have g1:=Pg.below_alloc w (.cells Z 66)
  refine (superPlace_any n _ hn).mono ?_
  rintro e w1 ⟨rfl,rfl⟩
  go_wp2_with fail
  refine (Dv.read_ok d O S W F v lf (n % 2) _ (hD.below g1) (by omega) hW).mono ?_
  rintro e w2 ⟨rfl,g2⟩
  rw [hT.out]
  have b2:=g1.trans (g2.mono g1.size)
  have j2:=(Blk.new w Z 66).below g2 (by simp)
  go_wp2_with fail
  refine (superKey_any sec w2 hsec (hK.below b2)).mono ?_
  rintro e w3 ⟨rfl,g3⟩
  have b3:=b2.trans (g3.mono b2.size)
  have j3:=j2.below g3 j2.lt
  go_wp2_with fail
  refine (Su.parse_any (supK sec) T w3 (by omega) (hK.below b3)).mono ?_
  rintro e w4 ⟨rfl,g4⟩
  rw [hz,e15]
  have b4:=b3.trans (g4.mono b3.size)
  have j4:=j3.below g4 j3.lt
  rw [parV_bad hz,hZ.out]
  have j5:=j4.alloc (.cells Z 66)
  have b5:=b4.trans ((Pg.below_alloc w4 (.cells Z 66)).mono b4.size)
  have hlt4:w.heap.size < w4.heap.size:=j4.lt
  go_wp2_with (first
    | (refine Su.wpl_storeV rfl rfl 66 _ _ rfl 35 Su.sz93 w4.heap.size Z 66 Z o0 rfl rfl (Blk.new w4 _ _) z0 z0 ?_;intro w6 hu6 j6;have k6:=j5.upd hu6 (by omega))
    | (refine Su.wpl_storeV rfl rfl 66 _ _ rfl 35 Su.sz93 w.heap.size Z 66 Z o0 rfl rfl k6 z0 z0 ?_;intro w7 hu7 j7)
    | fail)
  exact Su.ret_cellV2 6 7 66 rfl Tryz.isAgg66 35 Su.sz93 w.heap.size Z 66 z0 _ rfl rfl j7 rfl ⟨rfl,below_upd (below_upd b5 hu6 (Nat.le_of_lt hlt4)) hu7 (Nat.le_refl _)⟩
set_option maxRecDepth 100000 in
set_option maxHeartbeats 400000 in
theorem whole_bad (d:Nat) (O:Nat -> Prop) (S:Nat -> Nat -> UInt8) (W:List (Nat × (Nat -> UInt8))) (F:Int) (v:Value) (lf:Int) (sec:ByteArray) (n:Nat) (w:World) (hD:Dv.Dev w O d S W F v lf) (hW:W.length <= 1000) (hsec:sec.size <= 300) (hn:n < 9007199254740992) (hK:Sm.KB w)
    (hz:Su.parC (supK sec) (sb 256 (Dv.readF S W (n % 2))) = 15) :
    Calls Tryz.prog 172 #[.pointer (some ⟨d,0,none⟩),.string sec,.int .i64 (n:Int)] w fun e w' => e = .returned (.tuple #[.agg st0,.bool false]) ∧ Below w.heap.size w w':=by
  have z0:=Su.sup0_size
  have o0:=Su.sup0_one
  have zz:=Su.zero93
  have z1:=st0_size
  have o1:=st0_one
  have zt:=zeroSt
  have bt:=buildSt0
  have hRS:=fun w' (hb:Below w.heap.size w w') => readSuper_bad d O S W F v lf sec n w' (hD.below hb) hW hsec hn (hK.below hb) hz
  obtain ⟨Z,hZ⟩:∃ Z,Hid (Su.sup0 = Z):=⟨_,rfl⟩
  rw [hZ.out] at z0 o0 zz hRS
  obtain ⟨Y,hY⟩:∃ Z,Hid (st0 = Z):=⟨_,rfl⟩
  rw [hY.out] at z1 o1 zt bt
  rw [hY.out]
  have g1:=Pg.below_alloc w (.cells Y 189)
  go_enter Tryz.func172,Tryz.ntmps172
  go_wp2_with fail
  refine (hRS _ g1).mono ?_
  rintro e w2 ⟨rfl,g2⟩
  have b2:=g1.trans (g2.mono g1.size)
  have j2:=(Blk.new w Y 189).below g2 (by simp)
  have j3:=j2.alloc (.cells Z 66)
  have b3:=b2.trans ((Pg.below_alloc w2 (.cells Z 66)).mono b2.size)
  have hlt2:w.heap.size < w2.heap.size:=j2.lt
  clear hRS
  go_wp2_with (first
    | (refine Su.wpl_storeV rfl rfl 66 _ _ rfl 35 Su.sz93 w2.heap.size Z 66 Z o0 rfl rfl (Blk.new w2 _ _) z0 z0 ?_;intro w6 hu6 j6;have k6:=j3.upd hu6 (by omega))
    | (refine Su.wpl_storeV rfl rfl 189 _ _ rfl 36 szSt w.heap.size Y 189 Y o1 rfl rfl k6 z1 z1 ?_;intro w7 hu7 j7)
    | fail)
  exact Su.ret_cellV2 6 7 189 rfl Tryz.isAgg189 36 szSt w.heap.size Y 189 z1 _ rfl rfl j7 rfl ⟨rfl,below_upd (below_upd b3 hu6 (Nat.le_of_lt hlt2)) hu7 (Nat.le_refl _)⟩
theorem wpl_bld {P:Program} {ops:Array Oper} {Q:Exit -> Act -> World -> Prop} {a:Act} {w:World} {rest:List Oper} {o:Oper} (hgd:o.guard = none) (t:TypeId) (parts:Array (Nat × Operand)) (ho:o.op = .build t parts) (vs:Array (Nat × Value)) (hp:(parts.map fun p => (p.1,a.eval p.2)) = vs) (v:Value) (hb:(Instr.build t vs).run P w = .ok v w)
    (h:wpList P ops Q rest (a.put o.dst v) w):wpList P ops Q (o :: rest) a w:=by
  refine wpList_plain hgd fun K hK => ?_
  unfold Oper.wp
  rw [Su.exec_build t parts ho v vs hp hb]
  exact hK _ _ h
theorem build1 (w:World):(Instr.build 66 #[(1,.int .i64 1)]).run Tryz.prog w = .ok (.agg (Su.supA 0 1 (fun _ => false) ⟨#[]⟩)) w:=run_build w 66 _ _ (by kernel_rfl)
set_option maxRecDepth 100000 in
set_option maxHeartbeats 400000 in
theorem last_0 (d c:Nat) (O:Nat -> Prop) (S:Nat -> Nat -> UInt8) (W:List (Nat × (Nat -> UInt8))) (F:Int) (v:Value) (lf:Int) (sec:ByteArray) (w:World) (hD:Dv.Dev w O d S W F v lf) (hC:Dv.Cnt w c 0) (hW:W.length <= 1000) (hsec:sec.size <= 300) (hK:Sm.KB w)
    (hz:Su.parC (supK sec) (sb 256 (Dv.readF S W 1)) = 15) :
    Calls Tryz.prog 112 #[.pointer (some ⟨d,0,none⟩),.pointer (some ⟨c,0,none⟩),.string sec] w fun e w' => (∃ CB,e = .returned (.tuple #[.agg (stA 0 1 (fun _ => false) ⟨#[]⟩ (.map (some CB))),.nilIface]) ∧ MapF Tryz.prog w' CB 0 (fun _ => none) ∧ w.heap.size <= CB) ∧ Below w.heap.size w w':=by
  have z1:=st0_size
  have o1:=st0_one
  have zt:=zeroSt
  have hRS:∀ w',Below w.heap.size w w' -> Calls Tryz.prog 172 #[.pointer (some ⟨d,0,none⟩),.string sec,.int .i64 1] w' fun e w'' => e = .returned (.tuple #[.agg st0,.bool false]) ∧ Below w'.heap.size w' w'':=fun w' hb => by
    have h:=whole_bad d O S W F v lf sec 1 w' (hD.below hb) hW hsec (by decide) (hK.below hb) hz
    rw [show ((1:Nat):Int) = 1 from rfl] at h
    exact h
  obtain ⟨Y,hY⟩:∃ Z,Hid (st0 = Z):=⟨_,rfl⟩
  rw [hY.out] at z1 o1 zt hRS
  have g1:=Pg.below_alloc w (.cells Y 189)
  have b1s:=build1
  obtain ⟨U,hU⟩:∃ Z,Hid (Su.supA 0 1 (fun _ => false) ⟨#[]⟩ = Z):=⟨_,rfl⟩
  rw [hU.out] at b1s
  have B1:Hid (∀ w:World,(Instr.build 66 #[(1,.int .i64 1)]).run Tryz.prog w = .ok (.agg U) w):=b1s
  clear b1s
  have hbs:∀ (m:Option Nat) (w:World),(Instr.build 189 #[(0,.agg U),(1,.map m)]).run Tryz.prog w = .ok (.agg (stA 0 1 (fun _ => false) ⟨#[]⟩ (.map m))) w:=fun m w => by rw [<- hU.out];exact buildSt 0 1 _ _ m w
  have z2:∀ m:Option Nat,(stA 0 1 (fun _ => false) ⟨#[]⟩ (.map m)).size = 36:=fun m => stA_size _ _ _ _ _
  have o2:∀ m:Option Nat,∀ v ∈ (stA 0 1 (fun _ => false) ⟨#[]⟩ (.map m)).toList,v.oneCell' = true:=fun m => stA_one _ _ _ _ _ rfl
  obtain ⟨G,hG⟩:∃ G:Option Nat -> Array Value,Hid (∀ m,stA 0 1 (fun _ => false) ⟨#[]⟩ (.map m) = G m):=⟨_,fun _ => rfl⟩
  simp only [hG.out] at hbs z2 o2
  simp only [hG.out]
  have HG:Hid ((∀ (m:Option Nat) (w:World),(Instr.build 189 #[(0,.agg U),(1,.map m)]).run Tryz.prog w = .ok (.agg (G m)) w) ∧ (∀ m:Option Nat,(G m).size = 36) ∧ ∀ m:Option Nat,∀ v ∈ (G m).toList,v.oneCell' = true):=⟨hbs,z2,o2⟩
  clear hU hG hY hbs z2 o2
  go_enter Tryz.func112,Tryz.ntmps112
  go_wp2_with fail
  refine (Dv.get_any c 0 _ (hC.below g1 hC.lt)).mono ?_
  rintro e w1 ⟨rfl,hw1⟩
  obtain rfl:=hw1
  go_wp2_with fail
  refine (hRS _ g1).mono ?_
  rintro e w2 ⟨rfl,g2⟩
  have b2:=g1.trans (g2.mono g1.size)
  have j2:=(Blk.new w Y 189).below g2 (by simp)
  have j3:=j2.alloc (.cells Y 189)
  have b3:=b2.trans ((Pg.below_alloc w2 (.cells Y 189)).mono b2.size)
  have hlt2:w.heap.size < w2.heap.size:=j2.lt
  clear hRS
  have hmk:=mkMap
  go_wp2_with (first
    | (refine Su.wpl_storeV rfl rfl 189 _ _ rfl 36 szSt w2.heap.size Y 189 Y o1 rfl rfl (Blk.new w2 _ _) z1 z1 ?_;intro w6 hu6 j6;have k6:=j3.upd hu6 (by omega);have b6:=below_upd b3 hu6 (Nat.le_of_lt hlt2))
    | (refine Su.wpl_storeV rfl rfl 189 _ _ rfl 36 szSt w.heap.size Y 189 (G (some w6.heap.size)) (HG.out.2.2 _) rfl rfl (k6.alloc (.map #[] 0)) z1 (HG.out.2.1 _) ?_;intro w7 hu7 j7)
    | (refine wpl_bld rfl 66 _ rfl #[(1,.int .i64 1)] (by kernel_rfl) (.agg U) (B1.out _) ?_)
    | (refine wpl_bld rfl 189 _ rfl #[(0,.agg U),(1,.map (some w6.heap.size))] (by kernel_rfl) (.agg (G (some w6.heap.size))) (HG.out.1 (some w6.heap.size) _) ?_)
    | fail)
  have m6:=(mapF_made Tryz.prog w6).upd hu7 (by have:=b6.size;have:=k6.lt;omega)
  have b7:=b6.trans ((Pg.below_alloc w6 (.map #[] 0)).mono b6.size)
  exact Su.ret_cellV2 6 7 189 rfl Tryz.isAgg189 36 szSt w.heap.size _ 189 (HG.out.2.1 _) _ rfl rfl j7 rfl ⟨⟨w6.heap.size,rfl,m6,b6.size⟩,below_upd b7 hu7 (Nat.le_refl _)⟩
theorem buildVa (d c:Nat) (sec:ByteArray) (CB:Nat) (w:World):(Instr.build 193 #[(0,.pointer (some ⟨d,0,none⟩)),(1,.pointer (some ⟨c,0,none⟩)),(2,.string sec),(3,.agg (stA 0 1 (fun _ => false) ⟨#[]⟩ (.map (some CB))))]).run Tryz.prog w = .ok (.agg (vaA d c sec (stA 0 1 (fun _ => false) ⟨#[]⟩ (.map (some CB))) false)) w:=run_build w 193 _ _ (by kernel_rfl)
set_option maxRecDepth 100000 in
set_option maxHeartbeats 400000 in
theorem open_0 (d c:Nat) (O:Nat -> Prop) (S:Nat -> Nat -> UInt8) (W:List (Nat × (Nat -> UInt8))) (F:Int) (v:Value) (lf:Int) (sec:ByteArray) (w:World) (hD:Dv.Dev w O d S W F v lf) (hC:Dv.Cnt w c 0) (hW:W.length <= 1000) (hsec:sec.size = 16) (hK:Sm.KB w)
    (hz:Su.parC (supK sec) (sb 256 (Dv.readF S W 1)) = 15) :
    Calls Tryz.prog 52 #[.pointer (some ⟨d,0,none⟩),.pointer (some ⟨c,0,none⟩),.string sec] w fun e w' => (∃ VB CB,e = .returned (.tuple #[.pointer (some ⟨VB,0,none⟩),.nilIface]) ∧ Vlt w' VB d c sec 0 1 (fun _ => false) ⟨#[]⟩ CB 0 (fun _ => none) false ∧ w.heap.size <= VB ∧ w.heap.size <= CB) ∧ Below w.heap.size w w':=by
  have hs':(sec.size:Int) = 16:=by omega
  have z1:=st0_size
  have zt:=zeroSt
  obtain ⟨Y,hY⟩:∃ Z,Hid (st0 = Z):=⟨_,rfl⟩
  rw [hY.out] at z1 zt
  clear hY
  go_enter Tryz.func52,Tryz.ntmps52
  go_wp2_with fail
  refine (last_0 d c O S W F v lf sec w hD hC hW (by omega) hK hz).mono ?_
  rintro e w1 ⟨⟨CB,rfl,hM1,hCB⟩,g1⟩
  have u0:=stA_size 0 1 (fun _ => false) ⟨#[]⟩ (.map (some CB))
  have u1:=stA_one 0 1 (fun _ => false) ⟨#[]⟩ (.map (some CB)) rfl
  have B1:Hid (∀ w:World,_):=buildVa d c sec CB
  obtain ⟨X,hX⟩:∃ X,Hid (stA 0 1 (fun _ => false) ⟨#[]⟩ (.map (some CB)) = X):=⟨_,rfl⟩
  rw [hX.out] at u0 u1 B1
  rw [hX.out]
  obtain ⟨VA,hVA⟩:∃ V,Hid (vaA d c sec X false = V):=⟨_,rfl⟩
  rw [hVA.out] at B1
  go_wp2_with (first
    | (refine Su.wpl_storeV rfl rfl 189 _ _ rfl 36 szSt w1.heap.size Y 189 X u1 rfl rfl (Blk.new w1 _ _) z1 u0 ?_;intro w2 hu2 j2)
    | (refine Su.wpl_loadV rfl 189 _ rfl Tryz.isAgg189 36 szSt w1.heap.size 0 X 189 rfl j2 (by omega) ?_;rw [Su.ext_all u0])
    | (refine wpl_bld rfl 193 _ rfl #[(0,.pointer (some ⟨d,0,none⟩)),(1,.pointer (some ⟨c,0,none⟩)),(2,.string sec),(3,.agg X)] (by kernel_rfl) (.agg VA) (B1.out _) ?_)
    | fail)
  go_ret2
  have s2:Below w1.heap.size w1 w2:=below_upd (Pg.below_alloc w1 _) hu2 (Nat.le_refl _)
  have b2:=g1.trans (s2.mono g1.size)
  refine ⟨⟨w2.heap.size,CB,rfl,⟨?_,((hM1.below s2 hM1.lt).alloc _)⟩,b2.size,hCB⟩,b2.trans ((Pg.below_alloc w2 _).mono b2.size)⟩
  rw [hX.out,hVA.out]
  exact Blk.new w2 VA 193
end Go.Proofs.YtjmpjfikcgccdaaGreatDoor.Vt
namespace Go.Proofs.YtjmpjfikcgccdaaGreatDoor.Bs
open Go.RowKit Go.Shelf Go.Maps
open It Nr Ce
theorem own_same {w w':World} {B:Nat} {e:TypeId} {z:Nat} {v:Value} {n:Nat} {xs:List Value} (h:w.ownsRow B e z v n xs) (hs:∀ g,v.ownBlock = some g -> w'.heap[g]? = w.heap[g]?):w'.ownsRow B e z v n xs:=by
  obtain ⟨h1,h2 | ⟨g,cap,cur,hv,hgB,hh,r⟩⟩:=h
  · exact ⟨h1,Or.inl h2⟩
  · exact ⟨h1,Or.inr ⟨g,cap,cur,hv,hgB,(hs g (by rw [hv];rfl)).trans hh,r⟩⟩
structure Cel (w:World) (Z:Nat -> Prop) (p:Nat) (dim:Int) (L:List ItD) (C:Nat) (v:Value) (os:List CeD):Prop where
  blk:Blk w p #[.int .i64 dim,v] 238
  row:w.ownsRow C 242 2 v os.length (flatC os)
  cs:CS w C os
  perm:(os.flatMap CeD.it).Perm L
  len:os.length <= L.length
  zp:Z p
  zr:∀ g,v.ownBlock = some g -> Z g
  zc:∀ x ∈ os,(∀ g,x.e0.ownBlock = some g -> Z g) ∧ ∀ g,x.e1.ownBlock = some g -> Z g
section
variable {w w':World} {Z Z':Nat -> Prop} {p C:Nat} {dim:Int} {L L':List ItD} {v:Value} {os:List CeD}
theorem Cel.same (h:Cel w Z p dim L C v os) (hs:∀ k,Z k -> w'.heap[k]? = w.heap[k]?):Cel w' Z p dim L C v os:=
  ⟨(hs p h.zp).trans h.blk,own_same h.row fun g hg => hs g (h.zr g hg),
    ⟨fun x hx => own_same (h.cs.co x hx) fun g hg => hs g ((h.zc x hx).1 g hg),fun x hx => own_same (h.cs.it x hx) fun g hg => hs g ((h.zc x hx).2 g hg),h.cs.dis,h.cs.cor⟩,h.perm,h.len,h.zp,h.zr,h.zc⟩
theorem Cel.perm' (h:Cel w Z p dim L C v os) (hp:L.Perm L'):Cel w Z p dim L' C v os:=
  ⟨h.blk,h.row,h.cs,h.perm.trans hp,by rw [<- hp.length_eq];exact h.len,h.zp,h.zr,h.zc⟩
theorem Cel.mono (h:Cel w Z p dim L C v os) (hz:∀ k,Z k -> Z' k):Cel w Z' p dim L C v os:=
  ⟨h.blk,h.row,h.cs,h.perm,h.len,hz _ h.zp,fun g hg => hz _ (h.zr g hg),fun x hx => ⟨fun g hg => hz _ ((h.zc x hx).1 g hg),fun g hg => hz _ ((h.zc x hx).2 g hg)⟩⟩
end
def more (Z:Nat -> Prop) (w w':World) (k:Nat):Prop:=Z k ∨ (w.heap.size <= k ∧ k < w'.heap.size)
theorem newCel (dim:Int) (a:Option Addr) (c:Nat) (L:List ItD) (w:World) (h:Its w a L) (hl:L.length <= 100) (hnum:∀ x ∈ L,x.x.nums.all numB = true ∧ x.x.nums.length <= 100) :
    Calls Tryz.prog 114 #[.int .i64 dim,.slice a L.length c] w fun e w' => (∃ p v os,e = .returned (.pointer (some ⟨p,0,none⟩)) ∧ Cel w' (fun k => w.heap.size <= k ∧ k < w'.heap.size) p dim L w.heap.size v os) ∧ Below w.heap.size w w':=by
  refine (new_at dim a c L w h hl hnum).mono ?_
  rintro e w' ⟨⟨p,v,os,rfl,h2,h3,h4,h5,h6,h7⟩,hb⟩
  exact ⟨⟨p,v,os,rfl,h2,h3,h4,h5,h6,⟨h7,h2.lt⟩,fun g hg => row_ownLt h3 g hg,fun x hx => ⟨fun g hg => row_ownLt (h4.co x hx) g hg,fun g hg => row_ownLt (h4.it x hx) g hg⟩⟩,hb⟩
theorem ints_same {w w':World} {a:Option Addr} {zs:List Int} (h:Ints w a zs) (hs:∀ b o,a = some ⟨b,o,none⟩ -> w'.heap[b]? = w.heap[b]?):Ints w' a zs:=by
  intro i z hz
  obtain ⟨g,o,h1,h2⟩:=h i z hz
  exact ⟨g,o,h1,(World.cell?_of_block (hs g o h1)).trans h2⟩
def InZ (Z:Nat -> Prop) (d:ItD):Prop:=∀ b o,d.a = some ⟨b,o,none⟩ -> Z b
theorem ok_same {w w':World} {Z:Nat -> Prop} {d:ItD} (h:d.Ok w) (hz:InZ Z d) (hs:∀ k,Z k -> w'.heap[k]? = w.heap[k]?):d.Ok w':=⟨ints_same h.1 fun b o e => hs b (hz b o e),h.2⟩
def Okl (w:World) (Z:Nat -> Prop) (dim:Int) (L:List ItD):Prop:=(∀ d ∈ L,d.Ok w ∧ rightB d.x dim = true ∧ InZ Z d) ∧ L.length <= 60
section
variable {w w':World} {Z Z':Nat -> Prop} {dim:Int} {L L':List ItD}
theorem Okl.same (h:Okl w Z dim L) (hs:∀ k,Z k -> w'.heap[k]? = w.heap[k]?):Okl w' Z dim L:=⟨fun d hd => ⟨ok_same (h.1 d hd).1 (h.1 d hd).2.2 hs,(h.1 d hd).2⟩,h.2⟩
theorem Okl.mono (h:Okl w Z dim L) (hz:∀ k,Z k -> Z' k):Okl w Z' dim L:=⟨fun d hd => ⟨(h.1 d hd).1,(h.1 d hd).2.1,fun b o e => hz _ ((h.1 d hd).2.2 b o e)⟩,h.2⟩
theorem Okl.perm (h:Okl w Z dim L) (hp:L'.Perm L):Okl w Z dim L':=⟨fun d hd => h.1 d (hp.mem_iff.1 hd),by rw [hp.length_eq];exact h.2⟩
theorem Okl.nums (h:Okl w Z dim L):∀ x ∈ L,x.x.nums.all numB = true ∧ x.x.nums.length <= 100:=fun x hx => by
  obtain ⟨h1,h2,_,_,h5⟩:=right_parts (h.1 x hx).2.1
  exact ⟨h5,by omega⟩
end
structure Bse (w:World) (Z:Nat -> Prop) (bb vb:Nat) (dim:Int) (L N:List ItD) (mt mn pc:Nat):Prop where
  blk:Blk w bb #[.pointer (some ⟨vb,0,none⟩),.int .i64 dim,.map (some mt),.map (some mn),.pointer (some ⟨pc,0,none⟩)] 131
  there:IM w mt L
  next:IM w mn N
  cel:∃ C v os,Cel w Z pc dim L C v os
  zb:¬ Z bb
  zn:¬ Z mn
  zt:Z mt
  okL:Okl w Z dim L
  okN:Okl w Z dim N
section
variable {w w':World} {Z Z':Nat -> Prop} {bb vb mt mn pc:Nat} {dim:Int} {L N:List ItD}
theorem Bse.same (h:Bse w Z bb vb dim L N mt mn pc) (hs:∀ k,Z k ∨ k = bb ∨ k = mn -> w'.heap[k]? = w.heap[k]?):Bse w' Z bb vb dim L N mt mn pc:=by
  obtain ⟨C,v,os,hc⟩:=h.cel
  have hz:∀ k,Z k -> w'.heap[k]? = w.heap[k]?:=fun k hk => hs k (Or.inl hk)
  exact ⟨(hs bb (Or.inr (Or.inl rfl))).trans h.blk,h.there.same (hz mt h.zt),h.next.same (hs mn (Or.inr (Or.inr rfl))),⟨C,v,os,hc.same hz⟩,h.zb,h.zn,h.zt,h.okL.same hz,h.okN.same hz⟩
theorem im_ne {b:Nat} {arr:Array Value} {T:TypeId} {m:Nat} (h:IM w m L) (hb:Blk w b arr T):m ≠ b:=by
  obtain ⟨_,D,⟨es,clock,h1,_⟩,_⟩:=h
  intro e;subst e
  unfold Blk at hb
  rw [h1] at hb;cases hb
theorem Bse.mono (h:Bse w Z bb vb dim L N mt mn pc) (hz:∀ k,Z k -> Z' k) (h1:¬ Z' bb) (h2:¬ Z' mn):Bse w Z' bb vb dim L N mt mn pc:=by
  obtain ⟨C,v,os,hc⟩:=h.cel
  exact ⟨h.blk,h.there,h.next,⟨C,v,os,hc.mono hz⟩,h1,h2,hz _ h.zt,h.okL.mono hz,h.okN.mono hz⟩
end
end Go.Proofs.YtjmpjfikcgccdaaGreatDoor.Bs
namespace Go.Proofs.YtjmpjfikcgccdaaGreatDoor.Su
open Go.RowKit Pg
theorem bt_ext (s:ByteArray) (a b j:Nat) (h:a + j < b) (_hb:b <= s.size):bt (s.extract a b) j = bt s (a + j):=by
  unfold bt
  rw [ByteArray.data_extract,Array.toList_extract,List.extract_eq_take_drop]
  rw [List.getD_eq_getElem?_getD,List.getD_eq_getElem?_getD,List.getElem?_take,if_pos (by omega),List.getElem?_drop]
end Go.Proofs.YtjmpjfikcgccdaaGreatDoor.Su
namespace Go.Proofs.YtjmpjfikcgccdaaGreatDoor.Vt
open Go.RowKit
theorem l_ext (s:ByteArray) (a b:Nat):(s.extract a b).data.toList = (s.data.toList.drop a).take (b - a):=by
  rw [ByteArray.data_extract,Array.toList_extract,List.extract_eq_take_drop]
theorem l_app (s t:ByteArray):(s ++ t).data.toList = s.data.toList ++ t.data.toList:=by rw [ByteArray.data_append,Array.toList_append]
theorem l_sb (n:Nat) (f:Nat -> UInt8):(sb n f).data.toList = (List.range n).map f:=rfl
theorem l_size (s:ByteArray):s.data.toList.length = s.size:=rfl
theorem ba_eq {s t:ByteArray} (h:s.data.toList = t.data.toList):s = t:=by
  cases s;cases t;simp only [ByteArray.mk.injEq];exact Array.toList_inj.1 h
theorem l_mid {x y z:List UInt8} {a b:Nat} (hx:x.length = a) (hy:y.length = b):((x ++ (y ++ z)).drop a).take b = y:=by
  subst hx;subst hy;simp
def pad (s:ByteArray):ByteArray:=sb 256 (Dv.bAt s)
theorem pad_size (s:ByteArray):(pad s).size = 256:=sb_size _ _
theorem pad_ext (s:ByteArray) (a b:Nat) (hb:b <= s.size) (hs:s.size <= 256):(pad s).extract a b = s.extract a b:=by
  refine ba_eq (List.ext_getElem? fun i => ?_)
  rw [l_ext,l_ext,List.getElem?_take,List.getElem?_take]
  split
  · rename_i hi
    rw [List.getElem?_drop,List.getElem?_drop]
    show ((List.range 256).map (Dv.bAt s))[a + i]? = _
    rw [List.getElem?_map,List.getElem?_range (by omega),Option.map_some]
    unfold Dv.bAt
    rw [List.getD_eq_getElem?_getD,List.getElem?_eq_getElem (by rw [l_size];omega)];rfl
  · rfl
theorem pad_bt (s:ByteArray) (j:Nat) (h:j < 256):Pg.bt (pad s) j = Pg.bt s j:=by
  unfold Pg.bt pad
  rw [l_sb,List.getD_eq_getElem?_getD,List.getElem?_map,List.getElem?_range h];rfl
theorem num_bt (n:Int) (j:Nat) (h:j < 8):Pg.bt (Pg.numS n) j = Sm.numN n / 256 ^ (7 - j) % 256:=by
  unfold Pg.bt Pg.numS
  rw [l_sb,List.getD_eq_getElem?_getD,List.getElem?_map,List.getElem?_range h]
  show (UInt8.ofNat (Sm.numN n / 256 ^ (7 - j))).toNat = _
  rw [UInt8.toNat_ofNat']
theorem num_verF (s:ByteArray) (n:Int) (h:∀ j,j < 8 -> Pg.bt s j = Pg.bt (Pg.numS n) j):∀ k,k <= 8 -> Pg.verF s k = Sm.numN n / 256 ^ (8 - k)
  | 0,_ => by have:=Sm.numN_lt n;rw [Nat.div_eq_of_lt (by simpa using this)];rfl
  | k + 1,hk => by
    unfold Pg.verF
    rw [num_verF s n h k (by omega),h k (by omega),num_bt n k (by omega),show 8 - k = (7 - k) + 1 from by omega,Nat.pow_succ,<- Nat.div_div_eq_div_mul,show 8 - (k + 1) = 7 - k from by omega]
    omega
theorem num_ver {s:ByteArray} {n:Int} (h:∀ j,j < 8 -> Pg.bt s j = Pg.bt (Pg.numS n) j) (h0:0 <= n) (h1:n <= 1099511627776):Pg.verN s = n:=by
  unfold Pg.verN
  rw [num_verF s n h 8 (Nat.le_refl _)]
  have e:Sm.numN n = n.toNat:=by unfold Sm.numN;omega
  rw [e]
  simp only [Nat.sub_self,Nat.pow_zero,Nat.div_one,wrap64]
  omega
theorem num_self (n:Int) (h0:0 <= n) (h1:n <= 1099511627776):Pg.verN (Pg.numS n) = n:=num_ver (fun _ _ => rfl) h0 h1
theorem ahd_l (c e:Int) (f:Nat -> Bool) (r:ByteArray):(Su.ahd c e f r).data.toList = [99,102] ++ ((Pg.numS c).data.toList ++ ((Pg.numS e).data.toList ++ ((Su.dg f).data.toList ++ r.data.toList))):=by
  unfold Su.ahd;rw [l_app,l_app,l_app,l_app];simp
theorem all_l (key:ByteArray) (c e:Int) (f:Nat -> Bool) (r:ByteArray):(Su.allT key c e f r).data.toList = [99,102] ++ ((Pg.numS c).data.toList ++ ((Pg.numS e).data.toList ++ ((Su.dg f).data.toList ++ (r.data.toList ++ (Pg.mk 122 [key,Su.ahd c e f r]).data.toList)))):=by
  unfold Su.allT;rw [l_app,ahd_l];simp
section
variable (key:ByteArray) (c e:Int) (f:Nat -> Bool) (r:ByteArray)
theorem all_c (hr:r.size = 16):(pad (Su.allT key c e f r)).extract 2 10 = Pg.numS c:=by
  have hz:=Su.allT_size key c e f r
  rw [pad_ext _ _ _ (by omega) (by omega)]
  refine ba_eq ?_
  rw [l_ext,all_l]
  have h1:(Pg.numS c).data.toList.length = 8:=Pg.numS_size c
  exact l_mid rfl h1
theorem all_e (hr:r.size = 16):(pad (Su.allT key c e f r)).extract 10 18 = Pg.numS e:=by
  have hz:=Su.allT_size key c e f r
  rw [pad_ext _ _ _ (by omega) (by omega)]
  refine ba_eq ?_
  rw [l_ext,all_l]
  have h1:(Pg.numS c).data.toList.length = 8:=Pg.numS_size c
  have h2:(Pg.numS e).data.toList.length = 8:=Pg.numS_size e
  rw [<- List.append_assoc]
  exact l_mid (by simp [h1]) h2
theorem all_f (hr:r.size = 16):(pad (Su.allT key c e f r)).extract 18 50 = Su.dg f:=by
  have hz:=Su.allT_size key c e f r
  rw [pad_ext _ _ _ (by omega) (by omega)]
  refine ba_eq ?_
  rw [l_ext,all_l]
  have h1:(Pg.numS c).data.toList.length = 8:=Pg.numS_size c
  have h2:(Pg.numS e).data.toList.length = 8:=Pg.numS_size e
  have h3:(Su.dg f).data.toList.length = 32:=Su.dg_size f
  rw [<- List.append_assoc,<- List.append_assoc]
  exact l_mid (by simp [h1,h2]) h3
theorem all_r (hr:r.size = 16):(pad (Su.allT key c e f r)).extract 50 66 = r:=by
  have hz:=Su.allT_size key c e f r
  rw [pad_ext _ _ _ (by omega) (by omega)]
  refine ba_eq ?_
  rw [l_ext,all_l]
  have h1:(Pg.numS c).data.toList.length = 8:=Pg.numS_size c
  have h2:(Pg.numS e).data.toList.length = 8:=Pg.numS_size e
  have h3:(Su.dg f).data.toList.length = 32:=Su.dg_size f
  have h4:r.data.toList.length = 16:=hr
  rw [<- List.append_assoc,<- List.append_assoc,<- List.append_assoc]
  exact l_mid (by simp [h1,h2,h3]) h4
theorem all_fC (hr:r.size = 16) (h0:0 <= c) (h1:c <= 1099511627776):Su.fC (pad (Su.allT key c e f r)) = c:=by
  unfold Su.fC;rw [all_c _ _ _ _ _ hr];exact num_self c h0 h1
theorem all_fE (hr:r.size = 16) (h0:0 <= e) (h1:e <= 1099511627776):Su.fE (pad (Su.allT key c e f r)) = e:=by
  unfold Su.fE;rw [all_e _ _ _ _ _ hr];exact num_self e h0 h1
theorem all_fF (hr:r.size = 16) (j:Nat) (hj:j < 32):Su.fF (pad (Su.allT key c e f r)) j = f j:=by
  unfold Su.fF Su.sideF
  rw [all_f _ _ _ _ _ hr]
  unfold Pg.bt Su.dg
  rw [l_sb,List.getD_eq_getElem?_getD,List.getElem?_map,List.getElem?_range (by omega),Nat.zero_add]
  simp only [Option.map_some,Option.getD_some]
  unfold Su.dig
  cases f j <;> decide
theorem all_fR (hr:r.size = 16):Su.fR (pad (Su.allT key c e f r)) = r:=by
  unfold Su.fR;exact all_r _ _ _ _ _ hr
theorem all_blank (hr:r.size = 16):Su.blank ((pad (Su.allT key c e f r)).extract 82 256) = true:=by
  have hz:=Su.allT_size key c e f r
  unfold Su.blank
  rw [decide_eq_true_eq]
  intro j hj
  rw [ByteArray.size_extract,pad_size] at hj
  rw [Su.bt_ext _ _ _ _ (by omega) (by rw [pad_size];decide),pad_bt _ _ (by omega)]
  unfold Pg.bt
  rw [List.getD_eq_getElem?_getD,List.getElem?_eq_none (by rw [l_size];omega)];rfl
theorem all_okP (hk:key.size = 32) (hc:Su.okN c = true) (he:Su.okN e = true) (hr:r.size = 16):Su.okP key (pad (Su.allT key c e f r)) = true:=by
  have hz:=Su.allT_size key c e f r
  have hc':1 <= c ∧ c <= 1099511627776:=by simpa [Su.okN] using hc
  have he':1 <= e ∧ e <= 1099511627776:=by simpa [Su.okN] using he
  unfold Su.okP
  rw [all_fC _ _ _ _ _ hr (by omega) hc'.2,all_fE _ _ _ _ _ hr (by omega) he'.2,all_fR _ _ _ _ _ hr,pad_size,all_blank _ _ _ _ _ hr]
  have e1:Su.okW key c e r = true:=by unfold Su.okW;rw [hc,he,decide_eq_true hk,decide_eq_true hr];rfl
  have e2:Su.allT key c e (Su.fF (pad (Su.allT key c e f r))) r = Su.allT key c e f r:=by
    have e3:Su.dg (Su.fF (pad (Su.allT key c e f r))) = Su.dg f:=sb_congr _ _ _ fun j hj => by rw [all_fF _ _ _ _ _ hr j hj]
    generalize Su.fF (pad (Su.allT key c e f r)) = F at *
    unfold Su.allT Su.ahd;rw [e3]
  rw [e1,e2,pad_ext _ _ _ (by omega) (by omega)]
  have e4:(Su.allT key c e f r).extract 0 82 = Su.allT key c e f r:=by
    refine ba_eq ?_
    rw [l_ext,List.drop_zero,List.take_of_length_le (by rw [l_size];omega)]
  rw [e4];simp
theorem all_par (hk:key.size = 32) (hc:Su.okN c = true) (he:Su.okN e = true) (hr:r.size = 16):Su.parC key (pad (Su.allT key c e f r)) = 0 ∧ Su.parV key (pad (Su.allT key c e f r)) = Su.supA c e f r:=by
  have hc':1 <= c ∧ c <= 1099511627776:=by simpa [Su.okN] using hc
  have he':1 <= e ∧ e <= 1099511627776:=by simpa [Su.okN] using he
  unfold Su.parC Su.parV
  rw [if_pos hk,if_pos hk,pad_size,all_okP _ _ _ _ _ hk hc he hr,all_fC _ _ _ _ _ hr (by omega) hc'.2,all_fE _ _ _ _ _ hr (by omega) he'.2,all_fR _ _ _ _ _ hr]
  exact ⟨rfl,Su.supA_congr c e _ f r fun j hj => all_fF _ _ _ _ _ hr j hj⟩
end
section
variable (key:ByteArray) (id v:Int) (s:ByteArray)
theorem seal_l:(Pg.sealT key id v s).data.toList = (Pg.numS v).data.toList ++ ((Pg.nonceT key id v s).data.toList ++ ((sb 201 (xorF key (Pg.nonceT key id v s) (Pg.padT s))).data.toList ++ (Pg.mk 103 [key,Pg.numS id,Pg.aheadT key id v s]).data.toList)):=by
  unfold Pg.sealT;rw [l_app]
  conv => lhs;unfold Pg.aheadT
  rw [l_app,l_app];simp [Pg.aheadT]
theorem seal_nonce:(pad (Pg.sealT key id v s)).extract 8 20 = Pg.nonceT key id v s:=by
  have hz:=Pg.sealT_size key id v s
  rw [pad_ext _ _ _ (by omega) (by omega)]
  refine ba_eq ?_
  rw [l_ext,seal_l]
  have h1:(Pg.numS v).data.toList.length = 8:=Pg.numS_size v
  have h2:(Pg.nonceT key id v s).data.toList.length = 12:=Pg.nonceT_size key id v s
  exact l_mid h1 h2
theorem seal_body:(pad (Pg.sealT key id v s)).extract 20 221 = sb 201 (xorF key (Pg.nonceT key id v s) (Pg.padT s)):=by
  have hz:=Pg.sealT_size key id v s
  rw [pad_ext _ _ _ (by omega) (by omega)]
  refine ba_eq ?_
  rw [l_ext,seal_l]
  have h1:(Pg.numS v).data.toList.length = 8:=Pg.numS_size v
  have h2:(Pg.nonceT key id v s).data.toList.length = 12:=Pg.nonceT_size key id v s
  have h3:(sb 201 (xorF key (Pg.nonceT key id v s) (Pg.padT s))).data.toList.length = 201:=by rw [l_size];exact sb_size _ _
  rw [<- List.append_assoc]
  exact l_mid (by simp [h1,h2]) h3
theorem seal_ahead:(pad (Pg.sealT key id v s)).extract 0 221 = Pg.aheadT key id v s:=by
  have hz:=Pg.sealT_size key id v s
  rw [pad_ext _ _ _ (by omega) (by omega)]
  refine ba_eq ?_
  have h1:(Pg.aheadT key id v s).data.toList.length = 221:=Pg.aheadT_size key id v s
  rw [l_ext];unfold Pg.sealT;rw [l_app]
  simp [h1]
theorem seal_mark:(pad (Pg.sealT key id v s)).extract 221 237 = Pg.mk 103 [key,Pg.numS id,Pg.aheadT key id v s]:=by
  have hz:=Pg.sealT_size key id v s
  rw [pad_ext _ _ _ (by omega) (by omega)]
  refine ba_eq ?_
  have h1:(Pg.aheadT key id v s).data.toList.length = 221:=Pg.aheadT_size key id v s
  have h2:(Pg.mk 103 [key,Pg.numS id,Pg.aheadT key id v s]).data.toList.length = 16:=by rw [l_size];exact Pg.mk_size _ _
  rw [l_ext];unfold Pg.sealT;rw [l_app]
  simp [h1]
  rw [List.take_of_length_le (by omega)]
theorem seal_sealed:Pg.sealed key id (pad (Pg.sealT key id v s)):=by
  unfold Pg.sealed
  rw [pad_size,seal_ahead,seal_mark]
  exact ⟨by decide,rfl⟩
theorem seal_bt (j:Nat) (hj:j < 8):Pg.bt (pad (Pg.sealT key id v s)) j = Pg.bt (Pg.numS v) j:=by
  rw [pad_bt _ _ (by omega)]
  unfold Pg.bt
  rw [seal_l,List.getD_eq_getElem?_getD,List.getD_eq_getElem?_getD,List.getElem?_append_left (by have:(Pg.numS v).data.toList.length = 8:=Pg.numS_size v;omega)]
theorem seal_ver (h0:0 <= v) (h1:v <= 1099511627776):Pg.verN (pad (Pg.sealT key id v s)) = v:=num_ver (fun j hj => seal_bt key id v s j hj) h0 h1
theorem xor_back (nonce t:ByteArray) (h:t.size = 201):sb 201 (xorF key nonce (sb 201 (xorF key nonce t))) = t:=by
  refine ba_eq (List.ext_getElem? fun i => ?_)
  rw [l_sb,List.getElem?_map]
  by_cases hi:i < 201
  · rw [List.getElem?_range hi,Option.map_some,List.getElem?_eq_getElem (by rw [l_size];omega)]
    congr 1
    unfold xorF
    rw [l_sb,List.getD_eq_getElem?_getD,List.getElem?_map,List.getElem?_range hi]
    simp only [Option.map_some,Option.getD_some]
    rw [List.getD_eq_getElem?_getD,List.getElem?_eq_getElem (by rw [l_size];omega),Option.getD_some,UInt8.xor_assoc,UInt8.xor_self,UInt8.xor_zero]
  · rw [List.getElem?_eq_none (by simp;omega),List.getElem?_eq_none (by rw [l_size];omega)];rfl
theorem cut_pad (h:s.size <= 200):Pg.cutT (Pg.padT s) = s:=by
  have hb:Pg.bt (Pg.padT s) 0 = s.size:=by
    unfold Pg.bt Pg.padT
    rw [l_app,l_app]
    show (UInt8.ofNat s.size).toNat = _
    rw [UInt8.toNat_ofNat',Nat.mod_eq_of_lt (by omega)]
  have hn:Pg.cutN (Pg.padT s) = s.size:=by unfold Pg.cutN;rw [hb];split <;> omega
  unfold Pg.cutT
  rw [hn]
  refine ba_eq ?_
  rw [l_ext]
  unfold Pg.padT
  rw [l_app,l_app]
  show (List.drop 1 ([UInt8.ofNat s.size] ++ s.data.toList ++ (Pg.zs (200 - s.size)).data.toList)).take (1 + s.size - 1) = _
  have hl:s.data.toList.length = s.size:=rfl
  simp [hl]
theorem seal_text (h:s.size <= 200):Pg.cutT (Pg.shownT key (pad (Pg.sealT key id v s))) = s:=by
  unfold Pg.shownT
  rw [seal_nonce,seal_body,xor_back key _ _ (Pg.padT_size s h),cut_pad s h]
end
end Go.Proofs.YtjmpjfikcgccdaaGreatDoor.Vt
namespace Go.Proofs.YtjmpjfikcgccdaaGreatDoor.Vt
open Go.RowKit
set_option maxRecDepth 100000 in
theorem pre_any (s p:ByteArray) (b:Bool) (w:World) (h:p.size <= s.size) (_hs:s.size <= 10000) (hb:((s.extract 0 p.size).toList == p.toList) = b):Calls Tryz.prog 237 #[.string s,.string p] w fun e w' => e = .returned (.bool b) ∧ w' = w:=by
  have h':(p.size:Int) <= (s.size:Int):=by omega
  go_enter Tryz.func237,Tryz.ntmps237
  go_wp2
  go_ret
  exact ⟨by rw [<- hb];rfl,rfl⟩
theorem prefix_any (s p:ByteArray) (b:Bool) (w:World) (h:p.size <= s.size) (hs:s.size <= 10000) (hb:((s.extract 0 p.size).toList == p.toList) = b):Calls Tryz.prog 160 #[.string s,.string p] w fun e w' => e = .returned (.bool b) ∧ w' = w:=by
  go_enter Tryz.func160,Tryz.ntmps160
  go_wp2_with (go_at_call 237;refine (pre_any s p b _ h hs hb).mono ?_;rintro e w' ⟨rfl,rfl⟩)
  go_ret
  exact ⟨rfl,rfl⟩
theorem buildE0 (w:World):(Instr.build 227 #[]).run Tryz.prog w = .ok (.agg #[.int .i64 0,.string ⟨#[]⟩]) w:=run_build w 227 _ _ (by kernel_rfl)
theorem buildE (a:Int) (x:ByteArray) (w:World):(Instr.build 227 #[(0,.int .i64 a),(1,.string x)]).run Tryz.prog w = .ok (.agg #[.int .i64 a,.string x]) w:=run_build w 227 _ _ (by kernel_rfl)
def begins (T:ByteArray):Bool:=(T.extract 0 8).toList == (Pg.numS 0).toList
theorem begins_no (key:ByteArray) (id n:Int) (s:ByteArray) (h0:1 <= n) (h1:n <= 1099511627776):begins (pad (Pg.sealT key id n s)) = false:=by
  unfold begins
  rw [beq_eq_false_iff_ne]
  intro he
  have h2:(pad (Pg.sealT key id n s)).extract 0 8 = Pg.numS 0:=ba_eq (by rw [<- ByteArray.toList_eq,<- ByteArray.toList_eq];exact he)
  have h3:=seal_ver key id n s (by omega) h1
  have h4:Pg.verN (pad (Pg.sealT key id n s)) = 0:=num_ver (n:=0) (fun j hj => by
    have:=Su.bt_ext (pad (Pg.sealT key id n s)) 0 8 j (by omega) (by rw [pad_size];decide)
    rw [h2,Nat.zero_add] at this
    exact this.symm) (by decide) (by decide)
  rw [h3] at h4
  omega
set_option maxRecDepth 100000 in
set_option maxHeartbeats 400000 in
theorem readPage_blank (d:Nat) (O:Nat -> Prop) (S:Nat -> Nat -> UInt8) (W:List (Nat × (Nat -> UInt8))) (F:Int) (v:Value) (lf:Int) (key:ByteArray) (id:Int) (k:Nat) (w:World) (hD:Dv.Dev w O d S W F v lf) (hk:k < 66) (hW:W.length <= 1000)
    (hb:begins (sb 256 (Dv.readF S W k)) = true) :
    Calls Tryz.prog 251 #[.pointer (some ⟨d,0,none⟩),.string key,.int .i64 id,.int .i64 (k:Int)] w fun e w' => e = .returned (.tuple #[.agg #[.int .i64 0,.string ⟨#[]⟩],.bool true]) ∧ Below w.heap.size w w':=by
  have hsz:(sb 256 (Dv.readF S W k)).size = 256:=sb_size _ _
  have e1:=entC_one ent0
  simp only [ent0] at e1
  obtain ⟨T,hT⟩:∃ T,Hid (sb 256 (Dv.readF S W k) = T):=⟨_,rfl⟩
  rw [hT.out] at hb hsz
  have bb:=buildE0
  go_enter Tryz.func251,Tryz.ntmps251
  go_wp2_with fail
  have g1:=Pg.below_alloc w (.cells #[.int .i64 0,.string ⟨#[]⟩] 227)
  refine (Dv.read_ok d O S W F v lf k _ (hD.below g1) hk hW).mono ?_
  rintro e w2 ⟨rfl,g2⟩
  rw [hT.out]
  have b2:=g1.trans (g2.mono g1.size)
  have j2:=(Blk.new w #[.int .i64 0,.string ⟨#[]⟩] 227).below g2 (by simp)
  go_wp2_with fail
  refine (Pg.num_s 0 _).mono ?_
  rintro e w3 ⟨rfl,g3⟩
  have b3:=b2.trans (g3.mono b2.size)
  have j3:=j2.below g3 j2.lt
  go_wp2_with fail
  refine (prefix_any T (Pg.numS 0) true w3 (by rw [Pg.numS_size];omega) (by omega) (by rw [Pg.numS_size];exact hb)).mono ?_
  rintro e w4 ⟨rfl,hw4⟩
  obtain rfl:w3 = w4:=hw4.symm
  go_wp2_with (first
    | (refine Su.wpl_storeV rfl rfl 227 _ _ rfl 2 szE w.heap.size _ 227 #[.int .i64 0,.string ⟨#[]⟩] e1 rfl rfl j3 rfl rfl ?_;intro w7 hu7 j7)
    | fail)
  exact Su.ret_cellV2 8 9 227 rfl Tryz.isAgg227 2 szE w.heap.size _ 227 rfl _ rfl rfl j7 rfl ⟨rfl,below_upd b3 hu7 (Nat.le_refl _)⟩
set_option maxRecDepth 100000 in
set_option maxHeartbeats 400000 in
theorem readPage_good (d:Nat) (O:Nat -> Prop) (S:Nat -> Nat -> UInt8) (W:List (Nat × (Nat -> UInt8))) (F:Int) (v:Value) (lf:Int) (key:ByteArray) (id:Int) (k:Nat) (n:Int) (s:ByteArray) (w:World) (hD:Dv.Dev w O d S W F v lf) (hk:k < 66) (hW:W.length <= 1000) (hkey:key.size = 32) (hn0:1 <= n) (hn1:n <= 1099511627776) (hs:s.size <= 200) (hK:Sm.KB w)
    (hb:sb 256 (Dv.readF S W k) = pad (Pg.sealT key id n s)) :
    Calls Tryz.prog 251 #[.pointer (some ⟨d,0,none⟩),.string key,.int .i64 id,.int .i64 (k:Int)] w fun e w' => e = .returned (.tuple #[.agg #[.int .i64 n,.string s],.bool true]) ∧ Below w.heap.size w w':=by
  have hsz:=pad_size (Pg.sealT key id n s)
  have e1:=entC_one (n,s)
  have hbe:begins (pad (Pg.sealT key id n s)) = false:=begins_no key id n s hn0 hn1
  have ho:=fun w hK => Pg.open_any key id (pad (Pg.sealT key id n s)) w (by omega) (by omega) hK
  have o1:Pg.openC key id (pad (Pg.sealT key id n s)) = 0:=by unfold Pg.openC;rw [if_pos hkey,if_pos (seal_sealed key id n s)]
  have o2:Pg.openN key id (pad (Pg.sealT key id n s)) = n:=by unfold Pg.openN;rw [if_pos ⟨hkey,seal_sealed key id n s⟩];exact seal_ver key id n s (by omega) hn1
  have o3:Pg.openT key id (pad (Pg.sealT key id n s)) = s:=by unfold Pg.openT;rw [if_pos ⟨hkey,seal_sealed key id n s⟩];exact seal_text key id n s hs
  rw [o1,o2,o3] at ho
  have HO:Hid _:=ho
  obtain ⟨T,hT⟩:∃ T,Hid (pad (Pg.sealT key id n s) = T):=⟨_,rfl⟩
  rw [hT.out] at hb hsz hbe HO
  clear o1 o2 o3 ho hT hn0 hn1
  have bb:=buildE n s
  go_enter Tryz.func251,Tryz.ntmps251
  go_wp2_with fail
  have g1:=Pg.below_alloc w (.cells #[.int .i64 0,.string ⟨#[]⟩] 227)
  refine (Dv.read_ok d O S W F v lf k _ (hD.below g1) hk hW).mono ?_
  rintro e w2 ⟨rfl,g2⟩
  rw [hb]
  have b2:=g1.trans (g2.mono g1.size)
  have j2:=(Blk.new w #[.int .i64 0,.string ⟨#[]⟩] 227).below g2 (by simp)
  clear hb
  go_wp2_with fail
  refine (Pg.num_s 0 _).mono ?_
  rintro e w3 ⟨rfl,g3⟩
  have b3:=b2.trans (g3.mono b2.size)
  have j3:=j2.below g3 j2.lt
  go_wp2_with fail
  refine (prefix_any T (Pg.numS 0) false w3 (by rw [Pg.numS_size];omega) (by omega) (by rw [Pg.numS_size];exact hbe)).mono ?_
  rintro e w4 ⟨rfl,hw4⟩
  obtain rfl:w3 = w4:=hw4.symm
  clear hw4
  go_wp2_with fail
  refine (HO.out w3 (hK.below b3)).mono ?_
  rintro e w5 ⟨rfl,g5⟩
  have b5:=b3.trans (g5.mono b3.size)
  have j5:=j3.below g5 j3.lt
  rw [show Pg.errV 0 = .nilIface from rfl]
  go_wp2_with (first
    | (refine Su.wpl_storeV rfl rfl 227 _ _ rfl 2 szE w.heap.size _ 227 #[.int .i64 n,.string s] e1 rfl rfl j5 rfl rfl ?_;intro w7 hu7 j7)
    | fail)
  exact Su.ret_cellV2 8 9 227 rfl Tryz.isAgg227 2 szE w.heap.size _ 227 rfl _ rfl rfl j7 rfl ⟨rfl,below_upd b5 hu7 (Nat.le_refl _)⟩
end Go.Proofs.YtjmpjfikcgccdaaGreatDoor.Vt
