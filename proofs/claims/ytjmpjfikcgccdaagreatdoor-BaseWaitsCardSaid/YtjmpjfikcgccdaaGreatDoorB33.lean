/-
  Part of the proof of BaseWaitsCard (V18 and on).
-/
import Derived.Test.YtjmpjfikcgccdaaGreatDoorB32
import Derived.Test.YtjmpjfikcgccdaaGreatDoorB31
namespace Go.Proofs.YtjmpjfikcgccdaaGreatDoor.Vt
open Go.RowKit
def SupAt (S:Nat -> Nat -> UInt8) (W:List (Nat × (Nat -> UInt8))) (sec:ByteArray) (b:Nat) (c:Option Int):Prop:=match c with
  | none => Su.parC (supK sec) (sb 256 (Dv.readF S W b)) = 15
  | some c => Su.parC (supK sec) (sb 256 (Dv.readF S W b)) = 0 ∧ ∃ e f r,Su.parV (supK sec) (sb 256 (Dv.readF S W b)) = Su.supA c e f r
theorem readSuper_no (d:Nat) (O:Nat -> Prop) (S:Nat -> Nat -> UInt8) (W:List (Nat × (Nat -> UInt8))) (F:Int) (v:Value) (lf:Int) (sec:ByteArray) (n:Nat) (c:Option Int) (w:World) (hD:Dv.Dev w O d S W F v lf) (hW:W.length <= 1000) (hsec:sec.size <= 300) (hn:n < 9007199254740992) (hK:Sm.KB w)
    (hs:SupAt S W sec (n % 2) c) (hc:c ≠ some (n:Int)) :
    Calls Tryz.prog 249 #[.pointer (some ⟨d,0,none⟩),.string sec,.int .i64 (n:Int)] w fun e w' => e = .returned (.tuple #[.agg Su.sup0,.bool false]) ∧ Below w.heap.size w w':=by
  cases c with
  | none => exact readSuper_bad d O S W F v lf sec n w hD hW hsec hn hK hs
  | some c =>
    obtain ⟨h1,e,f,r,h2⟩:=hs
    exact readSuper_some d O S W F v lf sec n w hD hW hsec hn hK c e f r h1 h2 Su.sup0 false (fun h => absurd (by rw [h]) hc) (fun _ => ⟨rfl,rfl⟩)
set_option maxRecDepth 100000 in
set_option maxHeartbeats 400000 in
theorem whole_no (d:Nat) (O:Nat -> Prop) (S:Nat -> Nat -> UInt8) (W:List (Nat × (Nat -> UInt8))) (F:Int) (v:Value) (lf:Int) (sec:ByteArray) (n:Nat) (c:Option Int) (w:World) (hD:Dv.Dev w O d S W F v lf) (hW:W.length <= 1000) (hsec:sec.size <= 300) (hn:n < 9007199254740992) (hK:Sm.KB w)
    (hs:SupAt S W sec (n % 2) c) (hc:c ≠ some (n:Int)) :
    Calls Tryz.prog 172 #[.pointer (some ⟨d,0,none⟩),.string sec,.int .i64 (n:Int)] w fun e w' => e = .returned (.tuple #[.agg st0,.bool false]) ∧ Below w.heap.size w w':=by
  have z0:=Su.sup0_size
  have o0:=Su.sup0_one
  have zz:=Su.zero93
  have z1:=st0_size
  have o1:=st0_one
  have zt:=zeroSt
  have bt:=buildSt0
  have hRS:=fun w' (hb:Below w.heap.size w w') => readSuper_no d O S W F v lf sec n c w' (hD.below hb) hW hsec hn (hK.below hb) hs hc
  clear hs hc
  obtain ⟨Z,hZ⟩:∃ Z,Hid (Su.sup0 = Z):=⟨_,rfl⟩
  rw [hZ.out] at z0 o0 zz hRS
  obtain ⟨Y,hY⟩:∃ Z,Hid (st0 = Z):=⟨_,rfl⟩
  rw [hY.out] at z1 o1 zt bt
  rw [hY.out]
  have g1:=Pg.below_alloc w (.cells Y 189)
  go_enter Tryz.func172,Tryz.ntmps172
  go_wp2_with fail
  refine (hRS _ g1).mono ?_
  rintro e w2 ⟨rfl,g2⟩
  have b2:=g1.trans (g2.mono g1.size)
  have j2:=(Blk.new w Y 189).below g2 (by simp)
  have j3:=j2.alloc (.cells Z 66)
  have b3:=b2.trans ((Pg.below_alloc w2 (.cells Z 66)).mono b2.size)
  have hlt2:w.heap.size < w2.heap.size:=j2.lt
  clear hRS
  go_wp2_with (first
    | (refine Su.wpl_storeV rfl rfl 66 _ _ rfl 35 Su.sz93 w2.heap.size Z 66 Z o0 rfl rfl (Blk.new w2 _ _) z0 z0 ?_;intro w6 hu6 j6;have k6:=j3.upd hu6 (by omega))
    | (refine Su.wpl_storeV rfl rfl 189 _ _ rfl 36 szSt w.heap.size Y 189 Y o1 rfl rfl k6 z1 z1 ?_;intro w7 hu7 j7)
    | fail)
  exact Su.ret_cellV2 6 7 189 rfl Tryz.isAgg189 36 szSt w.heap.size Y 189 z1 _ rfl rfl j7 rfl ⟨rfl,below_upd (below_upd b3 hu6 (Nat.le_of_lt hlt2)) hu7 (Nat.le_refl _)⟩
set_option maxRecDepth 100000 in
set_option maxHeartbeats 400000 in
theorem last_spoilt (d c:Nat) (O:Nat -> Prop) (S:Nat -> Nat -> UInt8) (W:List (Nat × (Nat -> UInt8))) (F:Int) (v:Value) (lf:Int) (sec:ByteArray) (n:Nat) (x y:Option Int) (w:World) (hD:Dv.Dev w O d S W F v lf) (hC:Dv.Cnt w c (n:Int)) (hW:W.length <= 1000) (hsec:sec.size <= 300) (hK:Sm.KB w) (hn0:1 <= n) (hn1:n <= 1099511627776)
    (hx:SupAt S W sec ((n + 1) % 2) x) (hx':x ≠ some ((n + 1:Nat):Int)) (hy:SupAt S W sec (n % 2) y) (hy':y ≠ some (n:Int)) :
    Calls Tryz.prog 112 #[.pointer (some ⟨d,0,none⟩),.pointer (some ⟨c,0,none⟩),.string sec] w fun e w' => e = .returned (.tuple #[.agg st0,.iface 34 (.int .i64 15)]) ∧ Below w.heap.size w w':=by
  have z1:=st0_size
  have o1:=st0_one
  have zt:=zeroSt
  have bt:=buildSt0
  have hR1:∀ w',Below w.heap.size w w' -> Calls Tryz.prog 172 #[.pointer (some ⟨d,0,none⟩),.string sec,.int .i64 ((n:Int) + 1)] w' fun e w'' => e = .returned (.tuple #[.agg st0,.bool false]) ∧ Below w'.heap.size w' w'':=fun w' hb =>
    whole_no d O S W F v lf sec (n + 1) x w' (hD.below hb) hW hsec (by omega) (hK.below hb) hx hx'
  have hR2:=fun w' (hb:Below w.heap.size w w') => whole_no d O S W F v lf sec n y w' (hD.below hb) hW hsec (by omega) (hK.below hb) hy hy'
  obtain ⟨Y,hY⟩:∃ Z,Hid (st0 = Z):=⟨_,rfl⟩
  rw [hY.out] at z1 o1 zt hR1 hR2 bt
  rw [hY.out]
  have H1:Hid _:=hR1
  have H2:Hid _:=hR2
  clear hR1 hR2 hx hx' hy hy' hY
  have g1:=Pg.below_alloc w (.cells Y 189)
  have hn':¬ (n:Int) = 0:=by omega
  go_enter Tryz.func112,Tryz.ntmps112
  go_wp2_with fail
  refine (Dv.get_any c (n:Int) _ (hC.below g1 hC.lt)).mono ?_
  rintro e w1 ⟨rfl,hw1⟩
  obtain rfl:=hw1
  go_wp2_with fail
  refine (H1.out _ g1).mono ?_
  rintro e w2 ⟨rfl,g2⟩
  have b2:=g1.trans (g2.mono g1.size)
  have j2:=(Blk.new w Y 189).below g2 (by simp)
  have j3:=j2.alloc (.cells Y 189)
  have b3:=b2.trans ((Pg.below_alloc w2 (.cells Y 189)).mono b2.size)
  have hlt2:w.heap.size < w2.heap.size:=j2.lt
  go_wp2_with (first
    | (refine Su.wpl_storeV rfl rfl 189 _ _ rfl 36 szSt w2.heap.size Y 189 Y o1 rfl rfl (Blk.new w2 _ _) z1 z1 ?_;intro w6 hu6 j6;have k6:=j3.upd hu6 (by omega);have b6:=below_upd b3 hu6 (Nat.le_of_lt hlt2))
    | fail)
  refine (H2.out _ b6).mono ?_
  rintro e w7 ⟨rfl,g7⟩
  have b7:=b6.trans (g7.mono b6.size)
  have k7:=k6.below g7 k6.lt
  have k8:=k7.alloc (.cells Y 189)
  have b8:=b7.trans ((Pg.below_alloc w7 (.cells Y 189)).mono b7.size)
  have hlt7:w.heap.size < w7.heap.size:=k7.lt
  clear H1 H2
  go_wp2_with (first
    | (refine Su.wpl_storeV rfl rfl 189 _ _ rfl 36 szSt w7.heap.size Y 189 Y o1 rfl rfl (Blk.new w7 _ _) z1 z1 ?_;intro w9 hu9 j9;have k9:=k8.upd hu9 (by omega);have b9:=below_upd b8 hu9 (Nat.le_of_lt hlt7))
    | (refine Su.wpl_storeV rfl rfl 189 _ _ rfl 36 szSt w.heap.size Y 189 Y o1 rfl rfl k9 z1 z1 ?_;intro wa hua ja)
    | fail)
  exact Su.ret_cellV2 6 7 189 rfl Tryz.isAgg189 36 szSt w.heap.size Y 189 z1 _ rfl rfl ja rfl ⟨rfl,below_upd b9 hua (Nat.le_refl _)⟩
set_option maxRecDepth 100000 in
set_option maxHeartbeats 400000 in
theorem last_some (d c:Nat) (O:Nat -> Prop) (S:Nat -> Nat -> UInt8) (W:List (Nat × (Nat -> UInt8))) (F:Int) (v:Value) (lf:Int) (sec:ByteArray) (n:Nat) (x:Option Int) (en:Int) (f:Nat -> Bool) (p:Int -> Option (Int × ByteArray)) (w:World) (hD:Dv.Dev w O d S W F v lf) (hC:Dv.Cnt w c (n:Int)) (hW:W.length <= 1000) (hsec:sec.size <= 300) (hK:Sm.KB w)
    (hx:SupAt S W sec ((n + 1) % 2) x) (hx':x ≠ some ((n + 1:Nat):Int)) (hOn:On S W sec n en f p) :
    Calls Tryz.prog 112 #[.pointer (some ⟨d,0,none⟩),.pointer (some ⟨c,0,none⟩),.string sec] w fun e w' => (∃ CB,e = .returned (.tuple #[.agg (stA (n:Int) en f (rootP p) (.map (some CB))),.nilIface]) ∧ MapF Tryz.prog w' CB 32 (pv p) ∧ w.heap.size <= CB) ∧ Below w.heap.size w w':=by
  have hn0:=hOn.n0
  have hn1:=hOn.n1
  have z1:=st0_size
  have o1:=st0_one
  have zt:=zeroSt
  have hR1:∀ w',Below w.heap.size w w' -> Calls Tryz.prog 172 #[.pointer (some ⟨d,0,none⟩),.string sec,.int .i64 ((n:Int) + 1)] w' fun e w'' => e = .returned (.tuple #[.agg st0,.bool false]) ∧ Below w'.heap.size w' w'':=fun w' hb =>
    whole_no d O S W F v lf sec (n + 1) x w' (hD.below hb) hW hsec (by omega) (hK.below hb) hx hx'
  have hR2:=fun w' (hb:Below w.heap.size w w') => whole_good d O S W F v lf sec n en f p w' (hD.below hb) hW hsec (hK.below hb) hOn
  obtain ⟨Y,hY⟩:∃ Z,Hid (st0 = Z):=⟨_,rfl⟩
  rw [hY.out] at z1 o1 zt hR1
  have H1:Hid _:=hR1
  have H2:Hid _:=hR2
  clear hR1 hR2 hx hx' hY hOn
  have g1:=Pg.below_alloc w (.cells Y 189)
  have hn':¬ (n:Int) = 0:=by omega
  go_enter Tryz.func112,Tryz.ntmps112
  go_wp2_with fail
  refine (Dv.get_any c (n:Int) _ (hC.below g1 hC.lt)).mono ?_
  rintro e w1 ⟨rfl,hw1⟩
  obtain rfl:=hw1
  go_wp2_with fail
  refine (H1.out _ g1).mono ?_
  rintro e w2 ⟨rfl,g2⟩
  have b2:=g1.trans (g2.mono g1.size)
  have j2:=(Blk.new w Y 189).below g2 (by simp)
  have j3:=j2.alloc (.cells Y 189)
  have b3:=b2.trans ((Pg.below_alloc w2 (.cells Y 189)).mono b2.size)
  have hlt2:w.heap.size < w2.heap.size:=j2.lt
  go_wp2_with (first
    | (refine Su.wpl_storeV rfl rfl 189 _ _ rfl 36 szSt w2.heap.size Y 189 Y o1 rfl rfl (Blk.new w2 _ _) z1 z1 ?_;intro w6 hu6 j6;have k6:=j3.upd hu6 (by omega);have b6:=below_upd b3 hu6 (Nat.le_of_lt hlt2))
    | fail)
  refine (H2.out _ b6).mono ?_
  rintro e w7 ⟨⟨CB,rfl,hM7,hCB⟩,g7⟩
  have b7:=b6.trans (g7.mono b6.size)
  have k7:=k6.below g7 k6.lt
  have k8:=k7.alloc (.cells Y 189)
  have b8:=b7.trans ((Pg.below_alloc w7 (.cells Y 189)).mono b7.size)
  have hlt7:w.heap.size < w7.heap.size:=k7.lt
  have hC6:w.heap.size < w6.heap.size:=k6.lt
  have hM8:=hM7.alloc (.cells Y 189)
  have hMl:=hM7.lt
  have x0:=stA_size (n:Int) en f (rootP p) (.map (some CB))
  have x1:=stA_one (n:Int) en f (rootP p) (.map (some CB)) rfl
  obtain ⟨X,hX⟩:∃ X,Hid (stA (n:Int) en f (rootP p) (.map (some CB)) = X):=⟨_,rfl⟩
  rw [hX.out] at x0 x1
  rw [hX.out]
  clear H1 H2
  go_wp2_with (first
    | (refine Su.wpl_storeV rfl rfl 189 _ _ rfl 36 szSt w7.heap.size Y 189 X x1 rfl rfl (Blk.new w7 _ _) z1 x0 ?_;intro w9 hu9 j9;have k9:=k8.upd hu9 (by omega);have b9:=below_upd b8 hu9 (Nat.le_of_lt hlt7))
    | (refine Su.wpl_loadV rfl 189 _ rfl Tryz.isAgg189 36 szSt w7.heap.size 0 X 189 rfl j9 (by omega) ?_;rw [Su.ext_all x0])
    | (refine Su.wpl_storeV rfl rfl 189 _ _ rfl 36 szSt w.heap.size Y 189 X x1 rfl rfl k9 z1 x0 ?_;intro wa hua ja)
    | fail)
  exact Su.ret_cellV2 6 7 189 rfl Tryz.isAgg189 36 szSt w.heap.size X 189 x0 _ rfl rfl ja rfl ⟨⟨CB,by rw [hX.out];rfl,(hM8.upd hu9 (by omega)).upd hua (by omega),by omega⟩,below_upd b9 hua (Nat.le_refl _)⟩
theorem buildVa' (d c:Nat) (sec:ByteArray) (cn en:Int) (f:Nat -> Bool) (r:ByteArray) (CB:Nat) (w:World):(Instr.build 193 #[(0,.pointer (some ⟨d,0,none⟩)),(1,.pointer (some ⟨c,0,none⟩)),(2,.string sec),(3,.agg (stA cn en f r (.map (some CB))))]).run Tryz.prog w = .ok (.agg (vaA d c sec (stA cn en f r (.map (some CB))) false)) w:=run_build w 193 _ _ (by kernel_rfl)
set_option maxRecDepth 100000 in
set_option maxHeartbeats 400000 in
theorem open_some (d c:Nat) (O:Nat -> Prop) (S:Nat -> Nat -> UInt8) (W:List (Nat × (Nat -> UInt8))) (F:Int) (v:Value) (lf:Int) (sec:ByteArray) (n:Nat) (x:Option Int) (en:Int) (f:Nat -> Bool) (p:Int -> Option (Int × ByteArray)) (w:World) (hD:Dv.Dev w O d S W F v lf) (hC:Dv.Cnt w c (n:Int)) (hW:W.length <= 1000) (hsec:sec.size = 16) (hK:Sm.KB w)
    (hx:SupAt S W sec ((n + 1) % 2) x) (hx':x ≠ some ((n + 1:Nat):Int)) (hOn:On S W sec n en f p) :
    Calls Tryz.prog 52 #[.pointer (some ⟨d,0,none⟩),.pointer (some ⟨c,0,none⟩),.string sec] w fun e w' => (∃ VB CB,e = .returned (.tuple #[.pointer (some ⟨VB,0,none⟩),.nilIface]) ∧ Vlt w' VB d c sec (n:Int) en f (rootP p) CB 32 p false ∧ w.heap.size <= VB ∧ w.heap.size <= CB) ∧ Below w.heap.size w w':=by
  have hs':(sec.size:Int) = 16:=by omega
  have z1:=st0_size
  have zt:=zeroSt
  obtain ⟨Y,hY⟩:∃ Z,Hid (st0 = Z):=⟨_,rfl⟩
  rw [hY.out] at z1 zt
  clear hY
  have HL:=last_some d c O S W F v lf sec n x en f p w hD hC hW (by omega) hK hx hx' hOn
  clear hx hx' hOn
  go_enter Tryz.func52,Tryz.ntmps52
  go_wp2_with fail
  refine HL.mono ?_
  rintro e w1 ⟨⟨CB,rfl,hM1,hCB⟩,g1⟩
  have u0:=stA_size (n:Int) en f (rootP p) (.map (some CB))
  have u1:=stA_one (n:Int) en f (rootP p) (.map (some CB)) rfl
  have B1:Hid (∀ w:World,_):=buildVa' d c sec (n:Int) en f (rootP p) CB
  obtain ⟨X,hX⟩:∃ X,Hid (stA (n:Int) en f (rootP p) (.map (some CB)) = X):=⟨_,rfl⟩
  rw [hX.out] at u0 u1 B1
  rw [hX.out]
  obtain ⟨VA,hVA⟩:∃ V,Hid (vaA d c sec X false = V):=⟨_,rfl⟩
  rw [hVA.out] at B1
  go_wp2_with (first
    | (refine Su.wpl_storeV rfl rfl 189 _ _ rfl 36 szSt w1.heap.size Y 189 X u1 rfl rfl (Blk.new w1 _ _) z1 u0 ?_;intro w2 hu2 j2)
    | (refine Su.wpl_loadV rfl 189 _ rfl Tryz.isAgg189 36 szSt w1.heap.size 0 X 189 rfl j2 (by omega) ?_;rw [Su.ext_all u0])
    | (refine wpl_bld rfl 193 _ rfl #[(0,.pointer (some ⟨d,0,none⟩)),(1,.pointer (some ⟨c,0,none⟩)),(2,.string sec),(3,.agg X)] (by kernel_rfl) (.agg VA) (B1.out _) ?_)
    | fail)
  go_ret2
  have s2:Below w1.heap.size w1 w2:=below_upd (Pg.below_alloc w1 _) hu2 (Nat.le_refl _)
  have b2:=g1.trans (s2.mono g1.size)
  refine ⟨⟨w2.heap.size,CB,rfl,⟨?_,((hM1.below s2 hM1.lt).alloc _)⟩,b2.size,hCB⟩,b2.trans ((Pg.below_alloc w2 _).mono b2.size)⟩
  rw [hX.out,hVA.out]
  exact Blk.new w2 VA 193
theorem lose_read (S:Nat -> Nat -> UInt8) (W:List (Nat × (Nat -> UInt8))):∀ i,i <= W.length -> ∀ k,Dv.loseS S W (fun _ => true) i k = Dv.readF S (W.take i) k
  | 0,_,k => rfl
  | i + 1,hi,k => by
    have hw:W[i]? = some W[i]:=List.getElem?_eq_getElem (by omega)
    rw [Dv.loseS_yes hw rfl,List.take_add_one,hw]
    show Dv.putS _ _ _ k = Dv.readF S (W.take i ++ [W[i]]) k
    rw [Dv.readF_snoc]
    unfold Dv.putS
    by_cases e:k = W[i].1
    · rw [if_pos e,if_pos e.symm]
    · rw [if_neg e,if_neg (Ne.symm e)];exact lose_read S W i (by omega) k
theorem sure_read (S:Nat -> Nat -> UInt8) (W:List (Nat × (Nat -> UInt8))) (k:Nat):sureS S W k = Dv.readF S W k:=by
  unfold sureS;rw [lose_read S W W.length (Nat.le_refl _) k,List.take_length]
theorem read_nil (S:Nat -> Nat -> UInt8) (k:Nat):Dv.readF S [] k = S k:=rfl
theorem plc_inj {f:Nat -> Bool} {a b:Nat} (h:plc f a = plc f b):a = b:=by
  unfold plc at h;revert h;split <;> split <;> omega
theorem read_wl (S:Nat -> Nat -> UInt8) (l:List (Nat × ByteArray)) (x:Nat × ByteArray) (b:Nat):Dv.readF S (wl (l ++ [x])) b = if x.1 = b then Dv.bAt x.2 else Dv.readF S (wl l) b:=by
  have:wl (l ++ [x]) = wl l ++ [(x.1,Dv.bAt x.2)]:=by unfold wl;simp
  rw [this,Dv.readF_snoc]
theorem sl_miss (S:Nat -> Nat -> UInt8) (key:ByteArray) (f:Nat -> Bool) (t:Int -> Option (Int × ByteArray)) (b:Nat):∀ k:Nat,(∀ id:Nat,id < k -> (t (id:Int)).isSome = true -> plc f id ≠ b) -> Dv.readF S (wl (sl key f t k)) b = S b
  | 0,_ => rfl
  | k + 1,h => by
    have ih:=sl_miss S key f t b k fun id hid => h id (by omega)
    cases hx:t (k:Int) with
    | none => rw [sl_none hx];exact ih
    | some x => rw [sl_some hx,read_wl,if_neg (h k (by omega) (by rw [hx];rfl))];exact ih
theorem sl_hit (S:Nat -> Nat -> UInt8) (key:ByteArray) (f:Nat -> Bool) (t:Int -> Option (Int × ByteArray)) (id:Nat) (x:Int × ByteArray) (hx:t (id:Int) = some x):∀ k:Nat,id < k -> Dv.readF S (wl (sl key f t k)) (plc f id) = Dv.bAt (Pg.sealT key (id:Int) x.1 x.2)
  | 0,h => by omega
  | k + 1,h => by
    by_cases e:id = k
    · subst e;rw [sl_some hx,read_wl,if_pos rfl]
    · have ih:=sl_hit S key f t id x hx k (by omega)
      cases hy:t (k:Int) with
      | none => rw [sl_none hy];exact ih
      | some y => rw [sl_some hy,read_wl,if_neg (fun h => e (plc_inj h).symm)];exact ih
structure Pgs (S:Nat -> Nat -> UInt8) (sec:ByteArray) (en:Int) (f:Nat -> Bool) (p:Int -> Option (Int × ByteArray)):Prop where
  some':∀ id:Nat,id < 32 -> ∀ x,p (id:Int) = some x -> sb 256 (S (plc f id)) = pad (Pg.sealT (epoK sec en) (id:Int) x.1 x.2) ∧ 1 <= x.1 ∧ x.1 <= 1099511627776 ∧ x.2.size <= 200
  none':∀ id:Nat,id < 32 -> p (id:Int) = none -> begins (sb 256 (S (plc f id))) = true
  keys:∀ i,kOk i -> (p i).isSome = true -> 0 <= i ∧ i < 32
def nxS (S:Nat -> Nat -> UInt8) (sec:ByteArray) (m:Nat) (en:Int) (f:Nat -> Bool) (p t:Int -> Option (Int × ByteArray)):Nat -> Nat -> UInt8:=
  sureS (sureS S (wl (sl (epoK sec en) (nxF f t) t 32))) [(m % 2,Dv.bAt (Su.allT (supK sec) (m:Int) en (nxF f t) (rootP (nxP p t))))]
section
variable {S:Nat -> Nat -> UInt8} {sec:ByteArray} {m:Nat} {en:Int} {f:Nat -> Bool} {p t:Int -> Option (Int × ByteArray)}
theorem nxS_top:nxS S sec m en f p t (m % 2) = Dv.bAt (Su.allT (supK sec) (m:Int) en (nxF f t) (rootP (nxP p t))):=by
  unfold nxS;rw [sure_read]
  show (if m % 2 = m % 2 then _ else _) = _
  rw [if_pos rfl]
theorem nxS_other {b:Nat} (h:b ≠ m % 2):nxS S sec m en f p t b = Dv.readF S (wl (sl (epoK sec en) (nxF f t) t 32)) b:=by
  unfold nxS;rw [sure_read]
  show (if m % 2 = b then _ else sureS S _ b) = _
  rw [if_neg (Ne.symm h),sure_read]
theorem nxF_not {id:Nat} (h:t (id:Int) = none):nxF f t id = f id:=by unfold nxF;rw [h];rfl
theorem plc_congr {f g:Nat -> Bool} {id:Nat} (h:f id = g id):plc f id = plc g id:=by unfold plc;rw [h]
theorem nxS_told {id:Nat} {x:Int × ByteArray} (hi:id < 32) (h:t (id:Int) = some x):nxS S sec m en f p t (plc (nxF f t) id) = Dv.bAt (Pg.sealT (epoK sec en) (id:Int) x.1 x.2):=by
  rw [nxS_other (by have:=plc_ge (nxF f t) id;omega)]
  exact sl_hit S _ _ t id x h 32 hi
theorem nxS_not {id:Nat} (h:t (id:Int) = none):nxS S sec m en f p t (plc (nxF f t) id) = S (plc f id):=by
  rw [nxS_other (by have:=plc_ge (nxF f t) id;omega),sl_miss,plc_congr (nxF_not h)]
  intro k _ hs e
  have:=plc_inj e
  subst this
  rw [h] at hs;cases hs
theorem nxS_sup {b:Nat} (hb:b < 2) (h:b ≠ m % 2):nxS S sec m en f p t b = S b:=by
  rw [nxS_other h,sl_miss]
  intro k _ _ e
  have:=plc_ge (nxF f t) k
  omega
theorem Pgs.told (h:Pgs S sec en f p) (ht:∀ id:Nat,id < 32 -> ∀ x,t (id:Int) = some x -> 1 <= x.1 ∧ x.1 <= 1099511627776 ∧ x.2.size <= 200) (hk:∀ i,kOk i -> (t i).isSome = true -> 0 <= i ∧ i < 32):Pgs (nxS S sec m en f p t) sec en (nxF f t) (nxP p t):=by
  refine ⟨fun id hi x hx => ?_,fun id hi hx => ?_,fun i hi hx => ?_⟩
  · cases hy:t (id:Int) with
    | some y =>
      have e:y = x:=by unfold nxP at hx;rw [hy] at hx;simpa using hx
      subst e
      exact ⟨by rw [nxS_told hi hy];rfl,ht id hi y hy⟩
    | none =>
      have e:p (id:Int) = some x:=by unfold nxP at hx;rw [hy] at hx;simpa using hx
      rw [nxS_not hy]
      exact h.some' id hi x e
  · cases hy:t (id:Int) with
    | some y => unfold nxP at hx;rw [hy] at hx;simp at hx
    | none =>
      have e:p (id:Int) = none:=by unfold nxP at hx;rw [hy] at hx;simpa using hx
      rw [nxS_not hy]
      exact h.none' id hi e
  · unfold nxP at hx
    cases hy:t i with
    | some y => exact hk i hi (by rw [hy];rfl)
    | none => rw [hy] at hx;exact h.keys i hi (by simpa using hx)
theorem Pgs.on (h:Pgs S sec en f p) {n:Nat} (n0:1 <= n) (n1:n <= 1099511627776) (e0:1 <= en) (e1:en <= 1099511627776) (hs:sb 256 (S (n % 2)) = pad (Su.allT (supK sec) (n:Int) en f (rootP p))):On S [] sec n en f p:=
  ⟨n0,n1,e0,e1,hs,h.some',h.none',h.keys⟩
theorem on_sup {n:Nat} (h:On S [] sec n en f p):SupAt S [] sec (n % 2) (some (n:Int)):=by
  have n0:=h.n0
  have hpar:=all_par (supK sec) (n:Int) en f (rootP p) (supK_size sec) (by unfold Su.okN;rw [decide_eq_true (by omega),decide_eq_true (by have:=h.n1;omega)];rfl) (by unfold Su.okN;rw [decide_eq_true h.e0,decide_eq_true h.e1];rfl) (rootP_size p)
  rw [<- h.sup] at hpar
  exact ⟨hpar.1,en,f,rootP p,hpar.2⟩
theorem pgs_new (sec:ByteArray):Pgs (fun _ _ => 0) sec 1 (fun _ => false) (fun _ => none):=
  ⟨fun id _ x hx => (by cases hx),fun id _ _ => (by decide +kernel:begins zS = true),fun i _ hx => (by cases hx)⟩
theorem sup_new (sec:ByteArray) (b:Nat):SupAt (fun _ _ => 0) [] sec b none:=(par_zS (supK_size sec)).1
structure Tld (S:Nat -> Nat -> UInt8) (sec:ByteArray) (n:Nat) (f:Nat -> Bool) (p:Int -> Option (Int × ByteArray)):Prop where
  pgs:Pgs S sec 1 f p
  sup:1 <= n -> sb 256 (S (n % 2)) = pad (Su.allT (supK sec) (n:Int) 1 f (rootP p))
  old:∃ x,SupAt S [] sec ((n + 1) % 2) x ∧ ∀ c,x = some c -> c < (n:Int)
  new:n = 0 -> SupAt S [] sec 0 none ∧ SupAt S [] sec 1 none ∧ p = fun _ => none
  n1:n <= 1000000
  low:∀ b,2 <= b -> b < 66 -> Pg.verN (sb 256 (S b)) <= (n:Int)
theorem Tld.on {n:Nat} (h:Tld S sec n f p) (hn:1 <= n):On S [] sec n 1 f p:=h.pgs.on hn (by have:=h.n1;omega) (by decide) (by decide) (h.sup hn)
theorem low_nx {n:Nat} (h:∀ b,2 <= b -> b < 66 -> Pg.verN (sb 256 (S b)) <= (n:Int)) (ht:∀ id:Nat,id < 32 -> ∀ x,t (id:Int) = some x -> 1 <= x.1 ∧ x.1 <= 1099511627776 ∧ x.2.size <= 200) (hl:∀ id:Nat,id < 32 -> ∀ x,t (id:Int) = some x -> x.1 <= ((n + 1:Nat):Int)) (b:Nat) (h2:2 <= b) (h66:b < 66):Pg.verN (sb 256 (nxS S sec (n + 1) en f p t b)) <= ((n + 1:Nat):Int):=by
  by_cases e:∃ id x,id < 32 ∧ t ((id:Nat):Int) = some x ∧ plc (nxF f t) id = b
  · obtain ⟨id,x,hi,hx,rfl⟩:=e
    rw [nxS_told hi hx]
    have h1:=ht id hi x hx
    have h3:=hl id hi x hx
    have h4:Pg.verN (pad (Pg.sealT (epoK sec en) (id:Int) x.1 x.2)) = x.1:=seal_ver _ _ _ _ (by omega) h1.2.1
    unfold pad at h4
    rw [h4]
    exact h3
  · rw [nxS_other (by omega),sl_miss]
    · have:=h b h2 h66;omega
    · intro id hi hs hb
      obtain ⟨x,hx⟩:=Option.isSome_iff_exists.1 hs
      exact e ⟨id,x,hi,hx,hb⟩
theorem Tld.told {n:Nat} (h:Tld S sec n f p) (hn:n < 1000000) (ht:∀ id:Nat,id < 32 -> ∀ x,t (id:Int) = some x -> 1 <= x.1 ∧ x.1 <= 1099511627776 ∧ x.2.size <= 200) (hk:∀ i,kOk i -> (t i).isSome = true -> 0 <= i ∧ i < 32) (hl:∀ id:Nat,id < 32 -> ∀ x,t (id:Int) = some x -> x.1 <= ((n + 1:Nat):Int)):Tld (nxS S sec (n + 1) 1 f p t) sec (n + 1) (nxF f t) (nxP p t):=by
  refine ⟨h.pgs.told ht hk,fun _ => by rw [nxS_top];rfl,?_,fun e => by omega,by omega,low_nx h.low ht hl⟩
  have hb:(n + 1 + 1) % 2 ≠ (n + 1) % 2:=by omega
  have he:(n + 1 + 1) % 2 = n % 2:=by omega
  have hS:∀ x,SupAt S [] sec (n % 2) x -> SupAt (nxS S sec (n + 1) 1 f p t) [] sec ((n + 1 + 1) % 2) x:=fun x hx => by
    unfold SupAt at *
    rw [show Dv.readF (nxS S sec (n + 1) 1 f p t) [] ((n + 1 + 1) % 2) = Dv.readF S [] (n % 2) from by rw [read_nil,read_nil,nxS_sup (by omega) hb,he]]
    exact hx
  by_cases h0:n = 0
  · subst h0
    exact ⟨none,hS _ (h.new rfl).1,fun c h => by cases h⟩
  · exact ⟨some (n:Int),hS _ (on_sup (h.on (by omega))),fun c hc => by injection hc with hc;omega⟩
end
end Go.Proofs.YtjmpjfikcgccdaaGreatDoor.Vt
namespace Go.Proofs.YtjmpjfikcgccdaaGreatDoor.Vt
open Go.RowKit
def trn (p:Int -> Option (Int × ByteArray)) (c:Int) (k:Nat) (i:Int):Option (Int × ByteArray):=if 0 <= i ∧ i < (k:Int) then some (c,(rd p i).2) else none
theorem trn_step (p:Int -> Option (Int × ByteArray)) (c:Int) (k:Nat):(fun j => if j = (k:Int) then some (ent (c,(rd p (k:Int)).2)) else pv (trn p c k) j) = pv (trn p c (k + 1)):=by
  funext j
  unfold pv trn
  by_cases e:j = (k:Int)
  · subst e;rw [if_pos rfl,if_pos (by omega)];rfl
  · rw [if_neg e]
    by_cases e2:0 <= j ∧ j < (k:Int)
    · rw [if_pos e2,if_pos (by omega)]
    · rw [if_neg e2,if_neg (by omega)]
theorem buildE' (a:Int) (x:ByteArray) (w:World):(Instr.build 227 #[(0,.int .i64 a),(1,.string x)]).run Tryz.prog w = .ok (.agg #[.int .i64 a,.string x]) w:=run_build w 227 _ _ (by kernel_rfl)
set_option maxRecDepth 100000 in
set_option maxHeartbeats 1000000 in
theorem turn_ok (vb d c:Nat) (sec:ByteArray) (cn en:Int) (f:Nat -> Bool) (r:ByteArray) (mb n:Nat) (p:Int -> Option (Int × ByteArray)) (O:Nat -> Prop) (S:Nat -> Nat -> UInt8) (W:List (Nat × (Nat -> UInt8))) (v:Value) (lf:Int) (n0:Int) (w:World)
    (hV:Vlt w vb d c sec cn en f r mb n p false) (hD:Dv.Dev w O d S W (-1) v lf) (hC:Dv.Cnt w c n0) (hm:n0 < cn + 1)
    (hn:n + 32 <= 100000) (hc0:0 <= cn) (hc1:cn < 1099511627776) (he0:0 <= en) (he1:en < 1099511627776) (hp:∀ j:Nat,j < 32 -> (rd p j).2.size <= 200)
    (hsec:sec.size <= 300) (hW:W.length <= 100) (hO:∀ k,O k -> k < w.heap.size) (o2:¬ O vb) (o3:¬ O c) (o4:vb ≠ c) (hK:Sm.KB w) :
    Calls Tryz.prog 71 #[.pointer (some ⟨vb,0,none⟩)] w fun e w' => e = .returned .nilIface ∧
      (∃ CB n',Vlt w' vb d c sec (cn + 1) (en + 1) (nxF f (trn p (cn + 1) 32)) (rootP (nxP p (trn p (cn + 1) 32))) CB n' (nxP p (trn p (cn + 1) 32)) false ∧ w.heap.size <= CB ∧ n' <= n + 32) ∧
      (∃ O' v' l',Dv.Dev w' O' d (sureS (sureS S (W ++ wl (sl (epoK sec (en + 1)) (nxF f (trn p (cn + 1) 32)) (trn p (cn + 1) 32) 32))) [((cn + 1).toNat % 2,Dv.bAt (Su.allT (supK sec) (cn + 1) (en + 1) (nxF f (trn p (cn + 1) 32)) (rootP (nxP p (trn p (cn + 1) 32)))))]) [] (-1) v' l' ∧ ∀ k,O' k -> Dv.gro O w w' k) ∧ Dv.Cnt w' c (cn + 1) ∧ Dv.Chg w w' (fun k => O k ∨ k = c ∨ k = vb):=by
  have HP:Hid (∀ j:Nat,j < 32 -> (rd p j).2.size <= 200):=hp
  have HC:Hid (0 <= cn ∧ cn < 1099511627776 ∧ 0 <= en ∧ en < 1099511627776 ∧ n0 < cn + 1):=⟨hc0,hc1,he0,he1,hm⟩
  have HO:Hid (∀ k,O k -> k < w.heap.size):=hO
  clear hp hm hO
  have hmk:=mkMap w
  have g3:=Pg.below_alloc w (.map #[] 0)
  have t3:MapF Tryz.prog (w.alloc (.map #[] 0)) w.heap.size 0 (pv (trn p (cn + 1) 0)):=(mapF_made Tryz.prog w).congr fun i _ => by unfold pv trn;rw [if_neg (by omega)];rfl
  have hV3:=hV.below g3 hV.blk.lt hV.map.lt
  have hvw:Hid (vb < w.heap.size ∧ mb < w.heap.size):=⟨hV.blk.lt,hV.map.lt⟩
  go_enter Tryz.func71,Tryz.ntmps71
  go_wp2_with fail
  refine (ready_any w vb d c sec cn en f r mb n p false hV).mono ?_
  rintro e w1 ⟨rfl,hw1⟩
  obtain rfl:w = w1:=hw1.symm
  clear hw1
  simp only [Bool.not_false]
  go_wp2_with fail
  generalize w.alloc (.map #[] 0) = w3 at *
  obtain ⟨tm,htm⟩:∃ tm,Hid (w.heap.size = tm):=⟨_,rfl⟩
  rw [htm.out] at t3
  rw [htm.out]
  clear hmk hV
  go_loopw [10] (fun i wr => ∃ k:Nat,k <= 32 ∧ i = .int .i64 k ∧ MapF Tryz.prog wr tm k (pv (trn p (cn + 1) k)) ∧ Vlt wr vb d c sec cn en f r mb n p false ∧ Below w.heap.size w wr) (fun i _ => 32 - (intOf i).toNat)
  case atStart => exact ⟨0,by omega,rfl,t3,hV3,g3⟩
  case round =>
    clear t3 hV3 g3
    obtain ⟨k,hk,rfl,hTr,hVr,hbr⟩:=hrel
    by_cases hlt:k < 32
    · have hlt':(k:Int) < 32:=by omega
      have hlk:=run_lookV (w:=wr.drew) (t:=187) und3 undE _ zeroE (Or.inr ⟨mb,rfl,hVr.map.drew⟩) (kOk_small (i:=(k:Int)) (by omega) hlt')
      rw [pv_get] at hlk
      unfold ent at hlk
      have c38:wr.drew.cell? ⟨vb,38,none⟩ = some (.map (some mb)):=hVr.c38
      have hfe:=fldE
      have hst:=trn_step p (cn + 1) k
      have HST:Hid _:=hst
      clear hst
      have hbE:=buildE' (cn + 1) (rd p (k:Int)).2
      generalize rd p (k:Int) = x at *
      go_wp2_with fail
      refine region_s [(0,true),(1,true),(2,true),(5,true),(6,true),(7,true),(8,true),(9,false),(10,true),(11,false),(12,true)] [3,4,13] [14] (fun w' => w' = wr.drew) Tr.mixed (by kernel_rfl) (fun _ _ _ _ _ h => h) rfl ?_
      refine lead_pure _ rfl _ rfl rfl (.map (some tm)) (fun w' => by go_simp) ?_
      refine lead_pure _ rfl _ rfl rfl (.int .i64 (k:Int)) (fun w' => by go_simp) ?_
      refine lead_pure _ rfl _ rfl rfl (.pointer (some ⟨vb,0,none⟩)) (fun w' => by go_simp) ?_
      refine lead_pure _ rfl _ rfl rfl (.pointer (some ⟨vb,0,none⟩)) (fun w' => by go_simp) ?_
      refine lead_pure _ rfl _ rfl rfl (.pointer (some ⟨vb,0,none⟩)) (fun w' => by go_simp) ?_
      refine lead_pure _ rfl _ rfl rfl (.pointer (some ⟨vb,3,none⟩)) (fun w' => by go_simp) ?_
      refine lead_pure _ rfl _ rfl rfl (.pointer (some ⟨vb,38,none⟩)) (fun w' => by go_simp) ?_
      refine lead_read _ rfl _ rfl rfl (.map (some mb)) (fun w' hS => by subst hS;go_simp) ?_
      refine lead_pure _ rfl _ rfl rfl (.int .i64 (k:Int)) (fun w' => by go_simp) ?_
      refine lead_read _ rfl _ rfl rfl (.agg #[.int .i64 x.1,.string x.2]) (fun w' hS => by subst hS;go_simp) ?_
      refine lead_pure _ rfl _ rfl rfl (.string x.2) (fun w' => by go_simp) ?_
      simp only [lead_nil_eq]
      simp only [Act.put,List.setIfInBounds_toArray,List.set_cons_succ,List.set_cons_zero]
      refine mid_cons _ rfl rfl fun K hK => ?_
      go_wp2_with fail
      refine (count_any wr.drew vb d c sec cn en f r mb n p false (hVr.same rfl rfl)).mono ?_
      rintro e w5 ⟨rfl,hw5⟩
      obtain rfl:=hw5
      refine hK _ _ rfl ?_
      clear hK K
      refine mid_cons _ rfl rfl fun K hK => ?_
      go_wp2_with fail
      refine hK _ _ rfl ?_
      clear hK K
      refine mid_cons _ rfl rfl fun K hK => ?_
      go_wp2_with fail
      refine hK _ _ rfl ?_
      clear hK K
      simp only [mid_nil_eq]
      simp only [List.filterMap_cons,List.getElem?_toArray,List.getElem?_cons_succ,List.getElem?_cons_zero,List.filterMap_nil]
      refine wpl_putF rfl rfl 187 _ _ _ rfl und3 227 undE tm k (pv (trn p (cn + 1) k)) (k:Int) (ent (cn + 1,x.2)) rfl rfl rfl hTr.drew (by omega) (kOk_small (by omega) hlt') ?_
      intro w7 m7 hu7'
      go_wp2_with fail
      have hu7:Upd wr w7 tm:=⟨hu7'.os,hu7'.tape,hu7'.output,hu7'.size,hu7'.block⟩
      rw [HST.out] at m7
      have hvw':=hvw.out
      have htm':=htm.out
      exact ⟨⟨k + 1,by omega,by go_num,m7,hVr.upd hu7 (by omega) (by omega),below_upd hbr hu7 (by omega)⟩,by simp [intOf];omega⟩
    · have hk2:k = 32:=by omega
      subst hk2
      have hcc:=HC.out
      clear hc0 hc1 he0 he1
      have he0:=hcc.2.2.1
      have he1:=hcc.2.2.2.1
      go_wp2_with fail
      refine (epoch_any wr vb d c sec cn en f r mb n p false hVr).mono ?_
      rintro e w5 ⟨rfl,hw5⟩
      obtain rfl:wr = w5:=hw5.symm
      clear hw5
      go_wp2_with fail
      refine (become_any vb d c sec cn en f r mb n p (en + 1) tm 32 (trn p (cn + 1) 32) O S W v lf n0 wr hVr hTr (hD.below hbr) (hC.below hbr hC.lt) hcc.2.2.2.2 ?_ (by omega) hcc.1 hcc.2.1 (by omega) (by omega) ?_ ?_ hsec hW (fun k hk => Nat.lt_of_lt_of_le (HO.out k hk) hbr.size) o2 o3 o4 (hK.below hbr)).mono ?_
      · intro i hi hs'
        unfold trn at hs'
        by_cases e:0 <= i ∧ i < ((32:Nat):Int)
        · omega
        · rw [if_neg e] at hs';cases hs'
      · intro j hj
        have e:nxP p (trn p (cn + 1) 32) (j:Int) = some (cn + 1,(rd p (j:Int)).2):=by unfold nxP trn;rw [if_pos (by omega)];rfl
        have:=HP.out j hj
        unfold rd at this ⊢
        rw [e]
        simp only [Option.getD_some]
        unfold rd
        omega
      · intro k hk x hx
        have e:trn p (cn + 1) 32 (k:Int) = some (cn + 1,(rd p (k:Int)).2):=by unfold trn;rw [if_pos (by omega)]
        rw [e] at hx
        injection hx with hx
        subst hx
        exact ⟨by show 1 <= cn + 1;omega,by show cn + 1 <= _;omega,HP.out k hk⟩
      · rintro e w6 ⟨rfl,⟨CB,hV6,hCB⟩,⟨O6,v6,l6,hD6,hO6⟩,hC6,C6⟩
        have hz:=hbr.size
        go_wp2_with fail
        go_ret
        refine ⟨rfl,⟨CB,_,hV6,by omega,Nat.le_refl _⟩,⟨O6,v6,l6,hD6,fun k hk => ?_⟩,hC6,chg_then (Dv.Chg.of hbr _) C6 fun k _ h => h⟩
        rcases hO6 k hk with h | h
        · exact Or.inl h
        · exact Or.inr ⟨by omega,h.2⟩
end Go.Proofs.YtjmpjfikcgccdaaGreatDoor.Vt
namespace Go.Proofs.YtjmpjfikcgccdaaGreatDoor.Bs
open Go.RowKit
open Vt
structure TldE (S:Nat -> Nat -> UInt8) (sec:ByteArray) (n en:Nat) (f:Nat -> Bool) (p:Int -> Option (Int × ByteArray)):Prop where
  pgs:Pgs S sec (en:Int) f p
  sup:1 <= n -> sb 256 (S (n % 2)) = pad (Su.allT (supK sec) (n:Int) (en:Int) f (rootP p))
  old:∃ x,SupAt S [] sec ((n + 1) % 2) x ∧ ∀ c,x = some c -> c < (n:Int)
  new:n = 0 -> SupAt S [] sec 0 none ∧ SupAt S [] sec 1 none ∧ (p = fun _ => none) ∧ en = 1 ∧ f = fun _ => false
  n1:n <= 1000000
  e0:1 <= en
  e1:en <= 1000000
section
variable {S:Nat -> Nat -> UInt8} {sec:ByteArray} {n en:Nat} {f:Nat -> Bool} {p t:Int -> Option (Int × ByteArray)}
theorem tldE_new (sec:ByteArray):TldE (fun _ _ => 0) sec 0 1 (fun _ => false) (fun _ => none):=
  ⟨pgs_new sec,fun h => absurd h (by decide),⟨none,sup_new sec _,fun c h => (by cases h)⟩,fun _ => ⟨sup_new sec 0,sup_new sec 1,rfl,rfl,rfl⟩,by decide,by decide,by decide⟩
theorem TldE.on (h:TldE S sec n en f p) (hn:1 <= n):On S [] sec n (en:Int) f p:=h.pgs.on hn (by have:=h.n1;omega) (by have:=h.e0;omega) (by have:=h.e1;omega) (h.sup hn)
theorem tldE_sup (h:TldE S sec n en f p) (e:Int):∃ x,SupAt (nxS S sec (n + 1) e f p t) [] sec ((n + 1 + 1) % 2) x ∧ ∀ c,x = some c -> c < ((n + 1:Nat):Int):=by
  have hb:(n + 1 + 1) % 2 ≠ (n + 1) % 2:=by omega
  have he:(n + 1 + 1) % 2 = n % 2:=by omega
  have hS:∀ x,SupAt S [] sec (n % 2) x -> SupAt (nxS S sec (n + 1) e f p t) [] sec ((n + 1 + 1) % 2) x:=fun x hx => by
    unfold SupAt at *
    rw [show Dv.readF (nxS S sec (n + 1) e f p t) [] ((n + 1 + 1) % 2) = Dv.readF S [] (n % 2) from by rw [read_nil,read_nil,nxS_sup (by omega) hb,he]]
    exact hx
  by_cases h0:n = 0
  · subst h0
    exact ⟨none,hS _ (h.new rfl).1,fun c h => by cases h⟩
  · exact ⟨some (n:Int),hS _ (on_sup (h.on (by omega))),fun c hc => by injection hc with hc;omega⟩
theorem TldE.told (h:TldE S sec n en f p) (hn:n < 1000000) (ht:∀ id:Nat,id < 32 -> ∀ x,t (id:Int) = some x -> 1 <= x.1 ∧ x.1 <= 1099511627776 ∧ x.2.size <= 200) (hk:∀ i,Go.Proofs.YtjmpjfikcgccdaaGreatDoor.kOk i -> (t i).isSome = true -> 0 <= i ∧ i < 32) :
    TldE (nxS S sec (n + 1) (en:Int) f p t) sec (n + 1) en (nxF f t) (nxP p t):=
  ⟨h.pgs.told ht hk,fun _ => by rw [nxS_top];rfl,tldE_sup h _,fun e => by omega,by omega,h.e0,h.e1⟩
theorem TldE.size (h:TldE S sec n en f p) (j:Nat) (hj:j < 32):(rd p (j:Int)).2.size <= 200:=by
  unfold rd
  cases hx:p (j:Int) with
  | none => exact Nat.zero_le _
  | some x => have:=(h.pgs.some' j hj x hx).2.2.2;simpa using this
theorem trn_in {c:Int} {i:Int} {x:Int × ByteArray} (h:trn p c 32 i = some x):(0 <= i ∧ i < 32) ∧ x.1 = c ∧ x.2 = (rd p i).2:=by
  unfold trn at h
  by_cases hi:0 <= i ∧ i < ((32:Nat):Int)
  · rw [if_pos hi] at h;injection h with h;subst h;exact ⟨hi,rfl,rfl⟩
  · rw [if_neg hi] at h;cases h
theorem trn_all {c:Int} {id:Nat} (h:id < 32):trn p c 32 (id:Int) = some (c,(rd p (id:Int)).2):=by
  unfold trn;rw [if_pos (by omega)]
theorem TldE.turned (h:TldE S sec n en f p) (hn:n < 1000000) (he:en < 1000000) :
    TldE (nxS S sec (n + 1) ((en + 1:Nat):Int) f p (trn p ((n + 1:Nat):Int) 32)) sec (n + 1) (en + 1) (nxF f (trn p ((n + 1:Nat):Int) 32)) (nxP p (trn p ((n + 1:Nat):Int) 32)):=by
  refine ⟨⟨fun id hi x hx => ?_,fun id hi hx => ?_,fun i hi hx => ?_⟩,fun _ => by rw [nxS_top];rfl,tldE_sup h _,fun e => by omega,by omega,by omega,by omega⟩
  · have hy:=trn_all (p:=p) (c:=((n + 1:Nat):Int)) hi
    have e:(((n + 1:Nat):Int),(rd p (id:Int)).2) = x:=by unfold nxP at hx;rw [hy] at hx;simpa using hx
    subst e
    exact ⟨by rw [nxS_told hi hy];rfl,by simp;omega,by simp;omega,h.size id hi⟩
  · have hy:=trn_all (p:=p) (c:=((n + 1:Nat):Int)) hi
    unfold nxP at hx;rw [hy] at hx;simp at hx
  · unfold nxP at hx
    cases hy:trn p ((n + 1:Nat):Int) 32 i with
    | some y => exact (trn_in hy).1
    | none => rw [hy] at hx;exact h.pgs.keys i hi (by simpa using hx)
end
theorem tellE (vb d c:Nat) (sec:ByteArray) (n en:Nat) (f:Nat -> Bool) (r:ByteArray) (mb nn:Nat) (p:Int -> Option (Int × ByteArray)) (m:Value) (nm:Nat) (g:Int -> Option ByteArray) (O:Nat -> Prop) (S:Nat -> Nat -> UInt8) (v:Value) (lf:Int) (w:World)
    (hV:Vlt w vb d c sec (n:Int) (en:Int) f r mb nn p false) (hM:MapV Tryz.prog w m nm (sv g)) (hg:∀ i s,g i = some s -> (0 <= i ∧ i < 32) ∧ s.size <= 200) (hD:Dv.Dev w O d S [] (-1) v lf) (hC:Dv.Cnt w c (n:Int)) (hT:TldE S sec n en f p)
    (hn:nn + nm <= 100000) (hn1:n < 1000000) (hsec:sec.size <= 300) (hO:∀ k,O k -> k < w.heap.size) (o2:¬ O vb) (o3:¬ O c) (o4:vb ≠ c) (hK:Sm.KB w) :
    Calls Tryz.prog 68 #[.pointer (some ⟨vb,0,none⟩),m] w fun e w' => e = .returned .nilIface ∧
      ∃ S' f' r' CB n' O' v' l',Vlt w' vb d c sec ((n + 1:Nat):Int) (en:Int) f' r' CB n' (nxP p (tel g p ((n + 1:Nat):Int))) false ∧ w.heap.size <= CB ∧ n' <= nn + nm ∧
        TldE S' sec (n + 1) en f' (nxP p (tel g p ((n + 1:Nat):Int))) ∧ Dv.Dev w' O' d S' [] (-1) v' l' ∧ (∀ k,O' k -> Dv.gro O w w' k) ∧ Dv.Cnt w' c ((n + 1:Nat):Int) ∧ Dv.Chg w w' (fun k => O k ∨ k = c ∨ k = vb):=by
  have hF:¬ Far g:=fun ⟨i,_,h2,h3⟩ => by
    obtain ⟨s,hs⟩:=Option.isSome_iff_exists.1 h2
    exact h3 (hg i s hs).1
  have hWd:¬ Wide g:=fun ⟨i,s,_,h2,h3⟩ => by have:=(hg i s h2).2;omega
  have he0:=hT.e0
  have he1:=hT.e1
  have h:=tell_ok vb d c sec (n:Int) (en:Int) f r mb nn p m nm g O S [] v lf (n:Int) w hV hM (fun i s hs => by have:=(hg i s hs).2;omega) hF hWd hD hC (by omega) hn (by omega) (by omega) (by omega) (by omega) (fun j hj => by have:=hT.size j hj;omega) hsec (Nat.zero_le _) hO o2 o3 o4 hK
  rw [show (n:Int) + 1 = ((n + 1:Nat):Int) from by omega] at h
  refine h.mono ?_
  rintro e w' ⟨rfl,⟨CB,n',hV',hCB,hn'⟩,⟨O',v',l',hD',hO'⟩,hC',C'⟩
  refine ⟨rfl,_,_,_,CB,n',O',v',l',hV',hCB,hn',hT.told (t:=tel g p ((n + 1:Nat):Int)) hn1 (fun id hi x hx => ?_) (fun i hi hx => ?_),?_,hO',hC',C'⟩
  · have h1:=tel_some hx
    have h2:=(hg _ _ h1.2).2
    omega
  · obtain ⟨x,hx⟩:=Option.isSome_iff_exists.1 hx
    exact (hg _ _ (tel_some hx).2).1
  · have e:((n + 1:Nat):Int).toNat = n + 1:=by omega
    rw [e,List.nil_append] at hD'
    exact hD'
theorem turnE (vb d c:Nat) (sec:ByteArray) (n en:Nat) (f:Nat -> Bool) (r:ByteArray) (mb nn:Nat) (p:Int -> Option (Int × ByteArray)) (O:Nat -> Prop) (S:Nat -> Nat -> UInt8) (v:Value) (lf:Int) (w:World)
    (hV:Vlt w vb d c sec (n:Int) (en:Int) f r mb nn p false) (hD:Dv.Dev w O d S [] (-1) v lf) (hC:Dv.Cnt w c (n:Int)) (hT:TldE S sec n en f p)
    (hn:nn + 32 <= 100000) (hn1:n < 1000000) (he1:en < 1000000) (hsec:sec.size <= 300) (hO:∀ k,O k -> k < w.heap.size) (o2:¬ O vb) (o3:¬ O c) (o4:vb ≠ c) (hK:Sm.KB w) :
    Calls Tryz.prog 71 #[.pointer (some ⟨vb,0,none⟩)] w fun e w' => e = .returned .nilIface ∧
      ∃ S' f' r' CB n' O' v' l',Vlt w' vb d c sec ((n + 1:Nat):Int) ((en + 1:Nat):Int) f' r' CB n' (nxP p (trn p ((n + 1:Nat):Int) 32)) false ∧ w.heap.size <= CB ∧ n' <= nn + 32 ∧
        TldE S' sec (n + 1) (en + 1) f' (nxP p (trn p ((n + 1:Nat):Int) 32)) ∧ Dv.Dev w' O' d S' [] (-1) v' l' ∧ (∀ k,O' k -> Dv.gro O w w' k) ∧ Dv.Cnt w' c ((n + 1:Nat):Int) ∧ Dv.Chg w w' (fun k => O k ∨ k = c ∨ k = vb):=by
  have h:=turn_ok vb d c sec (n:Int) (en:Int) f r mb nn p O S [] v lf (n:Int) w hV hD hC (by omega) hn (by omega) (by omega) (by omega) (by omega) (fun j hj => hT.size j hj) hsec (Nat.zero_le _) hO o2 o3 o4 hK
  rw [show (n:Int) + 1 = ((n + 1:Nat):Int) from by omega,show (en:Int) + 1 = ((en + 1:Nat):Int) from by omega] at h
  refine h.mono ?_
  rintro e w' ⟨rfl,⟨CB,n',hV',hCB,hn'⟩,⟨O',v',l',hD',hO'⟩,hC',C'⟩
  refine ⟨rfl,_,_,_,CB,n',O',v',l',hV',hCB,hn',hT.turned hn1 he1,?_,hO',hC',C'⟩
  have e:((n + 1:Nat):Int).toNat = n + 1:=by omega
  rw [e,List.nil_append] at hD'
  exact hD'
theorem openE (d c:Nat) (O:Nat -> Prop) (S:Nat -> Nat -> UInt8) (v:Value) (lf:Int) (F:Int) (sec:ByteArray) (n en:Nat) (f:Nat -> Bool) (p:Int -> Option (Int × ByteArray)) (w:World) (hD:Dv.Dev w O d S [] F v lf) (hC:Dv.Cnt w c (n:Int)) (hsec:sec.size = 16) (hK:Sm.KB w) (hT:TldE S sec n en f p) :
    Calls Tryz.prog 52 #[.pointer (some ⟨d,0,none⟩),.pointer (some ⟨c,0,none⟩),.string sec] w fun e w' => (∃ VB CB n' f' r,e = .returned (.tuple #[.pointer (some ⟨VB,0,none⟩),.nilIface]) ∧ Vlt w' VB d c sec (n:Int) (en:Int) f' r CB n' p false ∧ TldE S sec n en f' p ∧ w.heap.size <= VB ∧ w.heap.size <= CB ∧ n' <= 32 * n) ∧ Below w.heap.size w w':=by
  by_cases h0:n = 0
  · subst h0
    obtain ⟨_,h1,rfl,rfl,rfl⟩:=hT.new rfl
    refine (open_0 d c O S [] F v lf sec w hD hC (by decide) hsec hK h1).mono ?_
    rintro e w' ⟨⟨VB,CB,rfl,hV,h2,h3⟩,g⟩
    exact ⟨⟨VB,CB,_,_,_,rfl,hV,hT,h2,h3,by omega⟩,g⟩
  · obtain ⟨x,hx,hx'⟩:=hT.old
    refine (open_some d c O S [] F v lf sec n x (en:Int) f p w hD hC (by decide) hsec hK hx (fun e => by have:=hx' _ e;omega) (hT.on (by omega))).mono ?_
    rintro e w' ⟨⟨VB,CB,rfl,hV,h2,h3⟩,g⟩
    exact ⟨⟨VB,CB,_,_,_,rfl,hV,hT,h2,h3,by omega⟩,g⟩
end Go.Proofs.YtjmpjfikcgccdaaGreatDoor.Bs
