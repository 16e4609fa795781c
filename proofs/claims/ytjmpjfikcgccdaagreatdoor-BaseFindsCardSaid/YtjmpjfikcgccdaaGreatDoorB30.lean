/-
  Part of the proof of BaseFindsCard (V17 and on).
-/
import Derived.Test.YtjmpjfikcgccdaaGreatDoorB29
namespace Go.Proofs.YtjmpjfikcgccdaaGreatDoor.Vt
open Go.RowKit
set_option maxRecDepth 100000 in
set_option maxHeartbeats 400000 in
theorem readSuper_some (d:Nat) (O:Nat -> Prop) (S:Nat -> Nat -> UInt8) (W:List (Nat × (Nat -> UInt8))) (F:Int) (v:Value) (lf:Int) (sec:ByteArray) (n:Nat) (w:World) (hD:Dv.Dev w O d S W F v lf) (hW:W.length <= 1000) (hsec:sec.size <= 300) (hn:n < 9007199254740992) (hK:Sm.KB w)
    (c e:Int) (f:Nat -> Bool) (r:ByteArray) (hz:Su.parC (supK sec) (sb 256 (Dv.readF S W (n % 2))) = 0) (hv:Su.parV (supK sec) (sb 256 (Dv.readF S W (n % 2))) = Su.supA c e f r) (X:Array Value) (b:Bool) (hX1:c = (n:Int) -> X = Su.supA c e f r ∧ b = true) (hX0:c ≠ (n:Int) -> X = Su.sup0 ∧ b = false) :
    Calls Tryz.prog 249 #[.pointer (some ⟨d,0,none⟩),.string sec,.int .i64 (n:Int)] w fun e w' => e = .returned (.tuple #[.agg X,.bool b]) ∧ Below w.heap.size w w':=by
  have z0:=Su.sup0_size
  have o0:=Su.sup0_one
  have zz:=Su.zero93
  have bb:=Su.build0
  have e0:Su.errV 0 = .nilIface:=rfl
  have HX1:Hid _:=hX1
  have HX0:Hid _:=hX0
  clear hX1 hX0
  have y0:=Su.supA_size c e f r
  have y1:=Su.supA_one c e f r
  have y2:=Su.supA_0 c e f r
  obtain ⟨Z,hZ⟩:∃ Z,Hid (Su.sup0 = Z):=⟨_,rfl⟩
  rw [hZ.out] at z0 o0 zz bb HX0
  obtain ⟨Y,hY⟩:∃ Z,Hid (Su.supA c e f r = Z):=⟨_,rfl⟩
  rw [hY.out] at y0 y1 y2 hv HX1
  have hsz:(sb 256 (Dv.readF S W (n % 2))).size = 256:=sb_size _ _
  obtain ⟨T,hT⟩:∃ T,Hid (sb 256 (Dv.readF S W (n % 2)) = T):=⟨_,rfl⟩
  rw [hT.out] at hz hsz hv
  go_enter Tryz.func249,Tryz.ntmps249
  go_wp2_with fail
  have g1:=Pg.below_alloc w (.cells Z 66)
  refine (superPlace_any n _ hn).mono ?_
  rintro e' w1 ⟨rfl,rfl⟩
  go_wp2_with fail
  refine (Dv.read_ok d O S W F v lf (n % 2) _ (hD.below g1) (by omega) hW).mono ?_
  rintro e' w2 ⟨rfl,g2⟩
  rw [hT.out]
  have b2:=g1.trans (g2.mono g1.size)
  have j2:=(Blk.new w Z 66).below g2 (by simp)
  go_wp2_with fail
  refine (superKey_any sec w2 hsec (hK.below b2)).mono ?_
  rintro e' w3 ⟨rfl,g3⟩
  have b3:=b2.trans (g3.mono b2.size)
  have j3:=j2.below g3 j2.lt
  go_wp2_with fail
  refine (Su.parse_any (supK sec) T w3 (by omega) (hK.below b3)).mono ?_
  rintro e' w4 ⟨rfl,g4⟩
  rw [hz,e0,hv]
  have b4:=b3.trans (g4.mono b3.size)
  have j4:=j3.below g4 j3.lt
  have j5:=j4.alloc (.cells Z 66)
  have b5:=b4.trans ((Pg.below_alloc w4 (.cells Z 66)).mono b4.size)
  have hlt4:w.heap.size < w4.heap.size:=j4.lt
  clear hz hv e0
  by_cases hcn:c = (n:Int)
  · obtain ⟨rfl,rfl⟩:=HX1.out hcn
    have hcn':decide (c = (n:Int)) = true:=decide_eq_true hcn
    go_wp2_with (first
      | (refine Su.wpl_storeV rfl rfl 66 _ _ rfl 35 Su.sz93 w4.heap.size Z 66 X y1 rfl rfl (Blk.new w4 _ _) z0 y0 ?_;intro w6 hu6 j6;have k6:=j5.upd hu6 (by omega);have c6:=j6.cell 0;rw [y2] at c6)
      | (refine Su.wpl_loadV rfl 66 _ rfl Tryz.isAgg66 35 Su.sz93 w4.heap.size 0 X 66 rfl j6 (by omega) ?_;rw [Su.ext_all y0])
      | (refine Su.wpl_storeV rfl rfl 66 _ _ rfl 35 Su.sz93 w.heap.size Z 66 X y1 rfl rfl k6 z0 y0 ?_;intro w7 hu7 j7)
      | fail)
    exact Su.ret_cellV2 6 7 66 rfl Tryz.isAgg66 35 Su.sz93 w.heap.size X 66 y0 _ rfl rfl j7 rfl ⟨rfl,below_upd (below_upd b5 hu6 (Nat.le_of_lt hlt4)) hu7 (Nat.le_refl _)⟩
  · obtain ⟨rfl,rfl⟩:=HX0.out hcn
    go_wp2_with (first
      | (refine Su.wpl_storeV rfl rfl 66 _ _ rfl 35 Su.sz93 w4.heap.size X 66 Y y1 rfl rfl (Blk.new w4 _ _) z0 y0 ?_;intro w6 hu6 j6;have k6:=j5.upd hu6 (by omega);have c6:=j6.cell 0;rw [y2] at c6)
      | (refine Su.wpl_storeV rfl rfl 66 _ _ rfl 35 Su.sz93 w.heap.size X 66 X o0 rfl rfl k6 z0 z0 ?_;intro w7 hu7 j7)
      | fail)
    exact Su.ret_cellV2 6 7 66 rfl Tryz.isAgg66 35 Su.sz93 w.heap.size X 66 z0 _ rfl rfl j7 rfl ⟨rfl,below_upd (below_upd b5 hu6 (Nat.le_of_lt hlt4)) hu7 (Nat.le_refl _)⟩
structure On (S:Nat -> Nat -> UInt8) (W:List (Nat × (Nat -> UInt8))) (sec:ByteArray) (n:Nat) (en:Int) (f:Nat -> Bool) (p:Int -> Option (Int × ByteArray)):Prop where
  n0:1 <= n
  n1:n <= 1099511627776
  e0:1 <= en
  e1:en <= 1099511627776
  sup:sb 256 (Dv.readF S W (n % 2)) = pad (Su.allT (supK sec) (n:Int) en f (rootP p))
  some':∀ id:Nat,id < 32 -> ∀ x,p (id:Int) = some x -> sb 256 (Dv.readF S W (plc f id)) = pad (Pg.sealT (epoK sec en) (id:Int) x.1 x.2) ∧ 1 <= x.1 ∧ x.1 <= 1099511627776 ∧ x.2.size <= 200
  none':∀ id:Nat,id < 32 -> p (id:Int) = none -> begins (sb 256 (Dv.readF S W (plc f id))) = true
  keys:∀ i,kOk i -> (p i).isSome = true -> 0 <= i ∧ i < 32
def upto (p:Int -> Option (Int × ByteArray)) (k:Nat) (i:Int):Option (Int × ByteArray):=if 0 <= i ∧ i < (k:Int) then p i else none
theorem upto_step {p:Int -> Option (Int × ByteArray)} {k:Nat} {x:Int × ByteArray} (h:p (k:Int) = some x):(fun j => if j = (k:Int) then some (ent x) else pv (upto p k) j) = pv (upto p (k + 1)):=by
  funext j
  unfold pv upto
  by_cases e:j = (k:Int)
  · subst e;rw [if_pos rfl,if_pos (by omega),h];rfl
  · rw [if_neg e]
    by_cases e2:0 <= j ∧ j < (k:Int)
    · rw [if_pos e2,if_pos (by omega)]
    · rw [if_neg e2,if_neg (by omega)]
theorem upto_same {p:Int -> Option (Int × ByteArray)} {k:Nat} (h:p (k:Int) = none):upto p (k + 1) = upto p k:=by
  funext j
  unfold upto
  by_cases e:j = (k:Int)
  · subst e;rw [if_pos (by omega),if_neg (by omega),h]
  · by_cases e2:0 <= j ∧ j < (k:Int)
    · rw [if_pos e2,if_pos (by omega)]
    · rw [if_neg e2,if_neg (by omega)]
structure Rd (W:World) (w:World) (B0 B1 CB NB:Nat) (Y U X:Array Value) (k:Nat) (g:Int -> Option Value):Prop where
  j0:Blk W B0 Y 189
  j1:Blk W B1 U 66
  jn:Blk W NB X 189
  m:MapF Tryz.prog W CB k g
  lo:Below w.heap.size w W
  h0:w.heap.size <= B0
  h1:w.heap.size <= B1
  h2:w.heap.size <= CB
  h3:w.heap.size <= NB
  n1:B0 ≠ B1
  n2:B0 ≠ CB
  n3:B0 ≠ NB
  n4:B1 ≠ CB
  n5:NB ≠ CB
theorem Rd.below {W W' w:World} {B0 B1 CB NB:Nat} {Y U X:Array Value} {k:Nat} {g:Int -> Option Value} (h:Rd W w B0 B1 CB NB Y U X k g) (hb:Below W.heap.size W W'):Rd W' w B0 B1 CB NB Y U X k g:=
  ⟨h.j0.below hb h.j0.lt,h.j1.below hb h.j1.lt,h.jn.below hb h.jn.lt,h.m.below hb h.m.lt,h.lo.trans (hb.mono h.lo.size),h.h0,h.h1,h.h2,h.h3,h.n1,h.n2,h.n3,h.n4,h.n5⟩
theorem Rd.put {W W' w:World} {B0 B1 CB NB:Nat} {Y U X:Array Value} {k k':Nat} {g g':Int -> Option Value} (h:Rd W w B0 B1 CB NB Y U X k g) (hu:Upd W W' CB) (m:MapF Tryz.prog W' CB k' g'):Rd W' w B0 B1 CB NB Y U X k' g':=
  ⟨h.j0.upd hu h.n2,h.j1.upd hu h.n4,h.jn.upd hu h.n5,m,below_upd h.lo hu h.h2,h.h0,h.h1,h.h2,h.h3,h.n1,h.n2,h.n3,h.n4,h.n5⟩
set_option maxRecDepth 100000 in
set_option maxHeartbeats 1000000 in
theorem whole_good (d:Nat) (O:Nat -> Prop) (S:Nat -> Nat -> UInt8) (W:List (Nat × (Nat -> UInt8))) (F:Int) (v:Value) (lf:Int) (sec:ByteArray) (n:Nat) (en:Int) (f:Nat -> Bool) (p:Int -> Option (Int × ByteArray)) (w:World) (hD:Dv.Dev w O d S W F v lf) (hW:W.length <= 1000) (hsec:sec.size <= 300) (hK:Sm.KB w)
    (hOn:On S W sec n en f p) :
    Calls Tryz.prog 172 #[.pointer (some ⟨d,0,none⟩),.string sec,.int .i64 (n:Int)] w fun e w' => (∃ CB,e = .returned (.tuple #[.agg (stA (n:Int) en f (rootP p) (.map (some CB))),.bool true]) ∧ MapF Tryz.prog w' CB 32 (pv p) ∧ w.heap.size <= CB) ∧ Below w.heap.size w w':=by
  have HOn:Hid (On S W sec n en f p):=hOn
  have hn0:=hOn.n0
  have hpar:=all_par (supK sec) (n:Int) en f (rootP p) (supK_size sec) (by unfold Su.okN;rw [decide_eq_true (by omega),decide_eq_true (by have:=hOn.n1;omega)];rfl) (by unfold Su.okN;rw [decide_eq_true hOn.e0,decide_eq_true hOn.e1];rfl) (rootP_size p)
  rw [<- hOn.sup] at hpar
  have hRS:=fun w' (hb:Below w.heap.size w w') => readSuper_some d O S W F v lf sec n w' (hD.below hb) hW hsec (by have:=hOn.n1;omega) (hK.below hb) _ _ _ _ hpar.1 hpar.2 (Su.supA (n:Int) en f (rootP p)) true (fun _ => ⟨rfl,rfl⟩) (fun h => absurd rfl h)
  have HR:Hid _:=hRS
  clear hRS hpar hOn
  have z1:=st0_size
  have o1:=st0_one
  have zt:=zeroSt
  obtain ⟨Y,hY⟩:∃ Z,Hid (st0 = Z):=⟨_,rfl⟩
  rw [hY.out] at z1 o1 zt
  clear hY
  have y0:=Su.supA_size (n:Int) en f (rootP p)
  have y1:=Su.supA_one (n:Int) en f (rootP p)
  have y2:=Su.supA_1 (n:Int) en f (rootP p)
  have y3:=Su.supA_34 (n:Int) en f (rootP p)
  have HB:Hid (∀ (CB:Nat) (w:World),(Instr.build 189 #[(0,.agg (Su.supA (n:Int) en f (rootP p))),(1,.map (some CB))]).run Tryz.prog w = .ok (.agg (stA (n:Int) en f (rootP p) (.map (some CB)))) w):=fun CB w => buildSt _ _ _ _ _ w
  obtain ⟨U,hU⟩:∃ Z,Hid (Su.supA (n:Int) en f (rootP p) = Z):=⟨_,rfl⟩
  rw [hU.out] at y0 y1 y2 y3 HB HR
  clear hU
  have zq:=Su.zero93
  have zq0:=Su.sup0_size
  obtain ⟨Z,hZ⟩:∃ Z,Hid (Su.sup0 = Z):=⟨_,rfl⟩
  rw [hZ.out] at zq zq0
  clear hZ
  have g1:=Pg.below_alloc w (.cells Y 189)
  go_enter Tryz.func172,Tryz.ntmps172
  go_wp2_with fail
  refine (HR.out _ g1).mono ?_
  rintro e w2 ⟨rfl,g2⟩
  have b2:=g1.trans (g2.mono g1.size)
  have j2:=(Blk.new w Y 189).below g2 (by simp)
  have j3:=j2.alloc (.cells Z 66)
  have b3:=b2.trans ((Pg.below_alloc w2 (.cells Z 66)).mono b2.size)
  have hlt2:w.heap.size < w2.heap.size:=j2.lt
  clear HR
  have hmk:=mkMap
  go_wp2_with (first
    | (refine Su.wpl_storeV rfl rfl 66 _ _ rfl 35 Su.sz93 w2.heap.size Z 66 U y1 rfl rfl (Blk.new w2 _ _) zq0 y0 ?_;intro w6 hu6 j6;have k6:=j3.upd hu6 (by omega);have b6:=below_upd b3 hu6 (Nat.le_of_lt hlt2))
    | (refine Su.wpl_loadV rfl 66 _ rfl Tryz.isAgg66 35 Su.sz93 w2.heap.size 0 U 66 rfl j6 (by omega) ?_;rw [Su.ext_all y0])
    | (refine wpl_bld rfl 189 _ rfl #[(0,.agg U),(1,.map (some w6.heap.size))] (by kernel_rfl) (.agg (stA (n:Int) en f (rootP p) (.map (some w6.heap.size)))) (HB.out w6.heap.size _) ?_;have x0:=stA_size (n:Int) en f (rootP p) (.map (some w6.heap.size));have x1:=stA_one (n:Int) en f (rootP p) (.map (some w6.heap.size)) rfl;obtain ⟨X,hX⟩:∃ X,Hid (stA (n:Int) en f (rootP p) (.map (some w6.heap.size)) = X):=⟨_,rfl⟩;rw [hX.out] at x0 x1;rw [hX.out])
    | (refine Su.wpl_storeV rfl rfl 189 _ _ rfl 36 szSt (w6.heap.size + 1) Y 189 X x1 rfl rfl (Blk.new' _ _ _ (by simp)) z1 x0 ?_;intro w7 hu7 j7;have l6:=j6.lt;have q7:=((j6.alloc (.map #[] 0)).alloc (.cells Y 189)).upd hu7 (by omega);have c7:=q7.cell 1;rw [y2] at c7)
    | fail)
  have r7:=((k6.alloc (.map #[] 0)).alloc (.cells Y 189)).upd hu7 (by omega)
  have m7:MapF Tryz.prog w7 w6.heap.size 0 (pv (upto p 0)):=(((mapF_made Tryz.prog w6).alloc (.cells Y 189)).upd hu7 (by omega)).congr fun i _ => by
    unfold pv upto;rw [if_neg (by omega)];rfl
  have b7:Below w.heap.size w w7:=below_upd ((b6.trans ((Pg.below_alloc w6 (.map #[] 0)).mono b6.size)).trans ((Pg.below_alloc _ (.cells Y 189)).mono (by simp;have:=b6.size;omega))) hu7 (by have:=b6.size;omega)
  have H7:Rd w7 w w.heap.size w2.heap.size w6.heap.size (w6.heap.size + 1) Y U X 0 (pv (upto p 0)):=⟨r7,q7,j7,m7,b7,Nat.le_refl _,Nat.le_of_lt hlt2,b6.size,by have:=b6.size;omega,by omega,by omega,by omega,by omega,by omega⟩
  refine (epochKey_any sec en w7 hsec (hK.below b7)).mono ?_
  rintro e w8 ⟨rfl,g8⟩
  have H8:=H7.below g8
  have hek:=epoK_size sec en
  have HX:Hid (stA (n:Int) en f (rootP p) (.map (some w6.heap.size)) = X):=hX
  obtain ⟨key,hkey⟩:∃ K,Hid (epoK sec en = K):=⟨_,rfl⟩
  have HOn':=HOn.out.some'
  rw [hkey.out] at hek HOn'
  rw [hkey.out]
  have HS:Hid _:=HOn'
  have HP:Hid (∀ (k:Nat) (w:World),k < 32 -> Calls Tryz.prog 252 #[.agg X,.int .i64 (k:Int)] w fun e' w' => e' = .returned (.int .i64 (plc f k:Int)) ∧ Below w.heap.size w w'):=fun k w h => by rw [<- hX.out];exact place_any (n:Int) en f (rootP p) _ k w h
  have HRt:Hid (∀ (W':World) (k:Nat),MapF Tryz.prog W' w6.heap.size k (pv p) -> Sm.KB W' -> Calls Tryz.prog 253 #[.agg X] W' fun e' w' => e' = .returned (.tuple #[.string (rootP p),.nilIface]) ∧ Below W'.heap.size W' w'):=fun W' k hm hk => by
    rw [<- hX.out]
    refine root_any (n:Int) en f (rootP p) _ k p W' (Or.inr ⟨_,rfl,hm⟩) (fun j hj => ?_) hk
    unfold rd
    cases hx:p (j:Int) with
    | none => exact Nat.zero_le _
    | some x => have:=(HOn.out.some' j hj x hx).2.2.2;simp;omega
  have y3':Hid (U[34]? = some (.string (rootP p))):=y3
  have x35:Hid (X[35]? = some (.map (some w6.heap.size))):=by unfold Hid;rw [<- hX.out,stA_35]
  clear HOn' y3 y2 hu6 hu7 j6 j7 k6 l6 q7 c7 r7 m7 b7 H7 g8 b6 b3 j3 j2 b2 g2 g1 hlt2 hmk zq zq0 HB hX zt
  generalize w6.heap.size = CB at *
  generalize w2.heap.size = B1 at *
  obtain ⟨B0,hB0⟩:∃ B,Hid (w.heap.size = B):=⟨_,rfl⟩
  rw [hB0.out] at H8
  rw [hB0.out]
  obtain ⟨NB,hNB⟩:∃ B,Hid (CB + 1 = B):=⟨_,rfl⟩
  rw [hNB.out] at H8
  rw [hNB.out]
  go_wp2_with fail
  go_loopw [34] (fun i wr => ∃ k:Nat,k <= 32 ∧ i = .int .i64 k ∧ ∃ k',k' <= k ∧ Rd wr w B0 B1 CB NB Y U X k' (pv (upto p k))) (fun i _ => 32 - (intOf i).toNat)
  case atStart => exact ⟨0,by omega,rfl,0,by omega,H8⟩
  case round =>
    clear H8
    obtain ⟨k,hk,rfl,k',hk',Hr⟩:=hrel
    by_cases hlt:k < 32
    · have hlt':(k:Int) < 32:=by omega
      have hDr:=hD.below Hr.lo
      go_wp2_with (first
        | (refine Su.wpl_loadV rfl 189 _ rfl Tryz.isAgg189 36 szSt NB 0 X 189 rfl Hr.jn (by omega) ?_;rw [Su.ext_all x0])
        | fail)
      refine (HP.out k _ hlt).mono ?_
      rintro e w3 ⟨rfl,g3⟩
      have H3:=Hr.below g3
      have hD3:=hDr.below g3
      clear Hr hDr g3
      cases hx:p (k:Int) with
      | none =>
        have hX':Hid (p (k:Int) = none):=hx
        clear hx
        go_wp2_with fail
        refine (readPage_blank d O S W F v lf key (k:Int) (plc f k) w3 hD3 (plc_lt f k hlt) hW (HOn.out.none' k hlt hX'.out)).mono ?_
        rintro e w4 ⟨rfl,g4⟩
        have H4:=H3.below g4
        have e1:=entC_one ent0
        simp only [ent0] at e1
        clear H3 hD3 g4
        go_wp2_with (first
          | (refine Su.wpl_storeV rfl rfl 227 _ _ rfl 2 szE w4.heap.size _ 227 #[.int .i64 0,.string ⟨#[]⟩] e1 rfl rfl (Blk.new w4 _ _) rfl rfl ?_;intro w5 hu5 j5;have d0:=j5.cell 0)
          | fail)
        have s5:Below w4.heap.size w4 w5:=below_upd (Pg.below_alloc w4 _) hu5 (Nat.le_refl _)
        refine ⟨⟨k + 1,by omega,by go_num,k',by omega,?_⟩,by simp [intOf];omega⟩
        rw [upto_same hX'.out];exact H4.below s5
      | some x =>
        have hX':Hid (p (k:Int) = some x):=hx
        obtain ⟨q1,q2,q3,q4⟩:=HS.out k hlt x hx
        clear hx
        go_wp2_with fail
        refine (readPage_good d O S W F v lf key (k:Int) (plc f k) x.1 x.2 w3 hD3 (plc_lt f k hlt) hW hek q2 q3 q4 (hK.below H3.lo) q1).mono ?_
        rintro e w4 ⟨rfl,g4⟩
        have H4:=H3.below g4
        have e1:=entC_one x
        have q5:¬ x.1 = 0:=by omega
        clear H3 hD3 g4 q1 q2 q3 q4
        go_wp2_with (first
          | (refine Su.wpl_storeV rfl rfl 227 _ _ rfl 2 szE w4.heap.size _ 227 #[.int .i64 x.1,.string x.2] e1 rfl rfl (Blk.new w4 _ _) rfl rfl ?_;intro w5 hu5 j5;have d0:=j5.cell 0;have d1:=j5.cell 1;have s5:Below w4.heap.size w4 w5:=below_upd (Pg.below_alloc w4 _) hu5 (Nat.le_refl _);have H5:=H4.below s5;have c35:w5.cell? ⟨NB,35,none⟩ = some (.map (some CB)):=(by rw [H5.jn.cell,x35.out]))
          | (refine wpl_putF rfl rfl 187 _ _ _ rfl und3 227 undE CB k' (pv (upto p k)) (k:Int) (ent x) rfl rfl rfl H5.m (by omega) (kOk_small (by omega) hlt') ?_;intro w6 m6 hu6)
          | fail)
        rw [upto_step hX'.out] at m6
        exact ⟨⟨k + 1,by omega,by go_num,k' + 1,by omega,H5.put hu6 m6⟩,by simp [intOf];omega⟩
    · have hk2:k = 32:=by omega
      have M:MapF Tryz.prog wr CB k' (pv p):=Hr.m.congr fun i hi => by
        unfold pv upto
        by_cases e:0 <= i ∧ i < (k:Int)
        · rw [if_pos e]
        · rw [if_neg e]
          cases hp:p i with
          | none => rfl
          | some x => exact absurd (HOn.out.keys i hi (by rw [hp];rfl)) (by omega)
      have hlt':¬ ((k:Int) < 32):=by omega
      clear hlt
      go_wp2_with (first
        | (refine Su.wpl_loadV rfl 189 _ rfl Tryz.isAgg189 36 szSt NB 0 X 189 rfl Hr.jn (by omega) ?_;rw [Su.ext_all x0])
        | fail)
      refine (HRt.out wr k' M (hK.below Hr.lo)).mono ?_
      rintro e w3 ⟨rfl,g3⟩
      have H3:=Hr.below g3
      have M3:=M.below g3 M.lt
      have c34:w3.cell? ⟨B1,34,none⟩ = some (.string (rootP p)):=by rw [H3.j1.cell,y3'.out]
      obtain ⟨RR,hRR⟩:∃ R,Hid (rootP p = R):=⟨_,rfl⟩
      rw [hRR.out] at c34
      rw [hRR.out]
      clear Hr M g3
      go_wp2_with (first
        | (refine Su.wpl_loadV rfl 189 _ rfl Tryz.isAgg189 36 szSt NB 0 X 189 rfl H3.jn (by omega) ?_;rw [Su.ext_all x0])
        | (refine Su.wpl_storeV rfl rfl 189 _ _ rfl 36 szSt B0 Y 189 X x1 rfl rfl H3.j0 z1 x0 ?_;intro w7 hu7 j7)
        | fail)
      exact Su.ret_cellV2 6 7 189 rfl Tryz.isAgg189 36 szSt B0 X 189 x0 _ rfl rfl j7 rfl ⟨⟨CB,by rw [HX.out];rfl,(M3.upd hu7 (Ne.symm H3.n2)).mono (by omega),H3.h2⟩,below_upd H3.lo hu7 H3.h0⟩
def SupAt (S:Nat -> Nat -> UInt8) (W:List (Nat × (Nat -> UInt8))) (sec:ByteArray) (b:Nat) (c:Option Int):Prop:=match c with
  | none => Su.parC (supK sec) (sb 256 (Dv.readF S W b)) = 15
  | some c => Su.parC (supK sec) (sb 256 (Dv.readF S W b)) = 0 ∧ ∃ e f r,Su.parV (supK sec) (sb 256 (Dv.readF S W b)) = Su.supA c e f r
theorem readSuper_no (d:Nat) (O:Nat -> Prop) (S:Nat -> Nat -> UInt8) (W:List (Nat × (Nat -> UInt8))) (F:Int) (v:Value) (lf:Int) (sec:ByteArray) (n:Nat) (c:Option Int) (w:World) (hD:Dv.Dev w O d S W F v lf) (hW:W.length <= 1000) (hsec:sec.size <= 300) (hn:n < 9007199254740992) (hK:Sm.KB w)
    (hs:SupAt S W sec (n % 2) c) (hc:c ≠ some (n:Int)) :
    Calls Tryz.prog 249 #[.pointer (some ⟨d,0,none⟩),.string sec,.int .i64 (n:Int)] w fun e w' => e = .returned (.tuple #[.agg Su.sup0,.bool false]) ∧ Below w.heap.size w w':=by
  cases c with
  | none => exact readSuper_bad d O S W F v lf sec n w hD hW hsec hn hK hs
  | some c =>
    obtain ⟨h1,e,f,r,h2⟩:=hs
    exact readSuper_some d O S W F v lf sec n w hD hW hsec hn hK c e f r h1 h2 Su.sup0 false (fun h => absurd (by rw [h]) hc) (fun _ => ⟨rfl,rfl⟩)
set_option maxRecDepth 100000 in
set_option maxHeartbeats 400000 in
theorem whole_no (d:Nat) (O:Nat -> Prop) (S:Nat -> Nat -> UInt8) (W:List (Nat × (Nat -> UInt8))) (F:Int) (v:Value) (lf:Int) (sec:ByteArray) (n:Nat) (c:Option Int) (w:World) (hD:Dv.Dev w O d S W F v lf) (hW:W.length <= 1000) (hsec:sec.size <= 300) (hn:n < 9007199254740992) (hK:Sm.KB w)
    (hs:SupAt S W sec (n % 2) c) (hc:c ≠ some (n:Int)) :
    Calls Tryz.prog 172 #[.pointer (some ⟨d,0,none⟩),.string sec,.int .i64 (n:Int)] w fun e w' => e = .returned (.tuple #[.agg st0,.bool false]) ∧ Below w.heap.size w w':=by
  have z0:=Su.sup0_size
  have o0:=Su.sup0_one
  have zz:=Su.zero93
  have z1:=st0_size
  have o1:=st0_one
  have zt:=zeroSt
  have bt:=buildSt0
  have hRS:=fun w' (hb:Below w.heap.size w w') => readSuper_no d O S W F v lf sec n c w' (hD.below hb) hW hsec hn (hK.below hb) hs hc
  clear hs hc
  obtain ⟨Z,hZ⟩:∃ Z,Hid (Su.sup0 = Z):=⟨_,rfl⟩
  rw [hZ.out] at z0 o0 zz hRS
  obtain ⟨Y,hY⟩:∃ Z,Hid (st0 = Z):=⟨_,rfl⟩
  rw [hY.out] at z1 o1 zt bt
  rw [hY.out]
  have g1:=Pg.below_alloc w (.cells Y 189)
  go_enter Tryz.func172,Tryz.ntmps172
  go_wp2_with fail
  refine (hRS _ g1).mono ?_
  rintro e w2 ⟨rfl,g2⟩
  have b2:=g1.trans (g2.mono g1.size)
  have j2:=(Blk.new w Y 189).below g2 (by simp)
  have j3:=j2.alloc (.cells Z 66)
  have b3:=b2.trans ((Pg.below_alloc w2 (.cells Z 66)).mono b2.size)
  have hlt2:w.heap.size < w2.heap.size:=j2.lt
  clear hRS
  go_wp2_with (first
    | (refine Su.wpl_storeV rfl rfl 66 _ _ rfl 35 Su.sz93 w2.heap.size Z 66 Z o0 rfl rfl (Blk.new w2 _ _) z0 z0 ?_;intro w6 hu6 j6;have k6:=j3.upd hu6 (by omega))
    | (refine Su.wpl_storeV rfl rfl 189 _ _ rfl 36 szSt w.heap.size Y 189 Y o1 rfl rfl k6 z1 z1 ?_;intro w7 hu7 j7)
    | fail)
  exact Su.ret_cellV2 6 7 189 rfl Tryz.isAgg189 36 szSt w.heap.size Y 189 z1 _ rfl rfl j7 rfl ⟨rfl,below_upd (below_upd b3 hu6 (Nat.le_of_lt hlt2)) hu7 (Nat.le_refl _)⟩
set_option maxRecDepth 100000 in
set_option maxHeartbeats 400000 in
theorem last_spoilt (d c:Nat) (O:Nat -> Prop) (S:Nat -> Nat -> UInt8) (W:List (Nat × (Nat -> UInt8))) (F:Int) (v:Value) (lf:Int) (sec:ByteArray) (n:Nat) (x y:Option Int) (w:World) (hD:Dv.Dev w O d S W F v lf) (hC:Dv.Cnt w c (n:Int)) (hW:W.length <= 1000) (hsec:sec.size <= 300) (hK:Sm.KB w) (hn0:1 <= n) (hn1:n <= 1099511627776)
    (hx:SupAt S W sec ((n + 1) % 2) x) (hx':x ≠ some ((n + 1:Nat):Int)) (hy:SupAt S W sec (n % 2) y) (hy':y ≠ some (n:Int)) :
    Calls Tryz.prog 112 #[.pointer (some ⟨d,0,none⟩),.pointer (some ⟨c,0,none⟩),.string sec] w fun e w' => e = .returned (.tuple #[.agg st0,.iface 34 (.int .i64 15)]) ∧ Below w.heap.size w w':=by
  have z1:=st0_size
  have o1:=st0_one
  have zt:=zeroSt
  have bt:=buildSt0
  have hR1:∀ w',Below w.heap.size w w' -> Calls Tryz.prog 172 #[.pointer (some ⟨d,0,none⟩),.string sec,.int .i64 ((n:Int) + 1)] w' fun e w'' => e = .returned (.tuple #[.agg st0,.bool false]) ∧ Below w'.heap.size w' w'':=fun w' hb =>
    whole_no d O S W F v lf sec (n + 1) x w' (hD.below hb) hW hsec (by omega) (hK.below hb) hx hx'
  have hR2:=fun w' (hb:Below w.heap.size w w') => whole_no d O S W F v lf sec n y w' (hD.below hb) hW hsec (by omega) (hK.below hb) hy hy'
  obtain ⟨Y,hY⟩:∃ Z,Hid (st0 = Z):=⟨_,rfl⟩
  rw [hY.out] at z1 o1 zt hR1 hR2 bt
  rw [hY.out]
  have H1:Hid _:=hR1
  have H2:Hid _:=hR2
  clear hR1 hR2 hx hx' hy hy' hY
  have g1:=Pg.below_alloc w (.cells Y 189)
  have hn':¬ (n:Int) = 0:=by omega
  go_enter Tryz.func112,Tryz.ntmps112
  go_wp2_with fail
  refine (Dv.get_any c (n:Int) _ (hC.below g1 hC.lt)).mono ?_
  rintro e w1 ⟨rfl,hw1⟩
  obtain rfl:=hw1
  go_wp2_with fail
  refine (H1.out _ g1).mono ?_
  rintro e w2 ⟨rfl,g2⟩
  have b2:=g1.trans (g2.mono g1.size)
  have j2:=(Blk.new w Y 189).below g2 (by simp)
  have j3:=j2.alloc (.cells Y 189)
  have b3:=b2.trans ((Pg.below_alloc w2 (.cells Y 189)).mono b2.size)
  have hlt2:w.heap.size < w2.heap.size:=j2.lt
  go_wp2_with (first
    | (refine Su.wpl_storeV rfl rfl 189 _ _ rfl 36 szSt w2.heap.size Y 189 Y o1 rfl rfl (Blk.new w2 _ _) z1 z1 ?_;intro w6 hu6 j6;have k6:=j3.upd hu6 (by omega);have b6:=below_upd b3 hu6 (Nat.le_of_lt hlt2))
    | fail)
  refine (H2.out _ b6).mono ?_
  rintro e w7 ⟨rfl,g7⟩
  have b7:=b6.trans (g7.mono b6.size)
  have k7:=k6.below g7 k6.lt
  have k8:=k7.alloc (.cells Y 189)
  have b8:=b7.trans ((Pg.below_alloc w7 (.cells Y 189)).mono b7.size)
  have hlt7:w.heap.size < w7.heap.size:=k7.lt
  clear H1 H2
  go_wp2_with (first
    | (refine Su.wpl_storeV rfl rfl 189 _ _ rfl 36 szSt w7.heap.size Y 189 Y o1 rfl rfl (Blk.new w7 _ _) z1 z1 ?_;intro w9 hu9 j9;have k9:=k8.upd hu9 (by omega);have b9:=below_upd b8 hu9 (Nat.le_of_lt hlt7))
    | (refine Su.wpl_storeV rfl rfl 189 _ _ rfl 36 szSt w.heap.size Y 189 Y o1 rfl rfl k9 z1 z1 ?_;intro wa hua ja)
    | fail)
  exact Su.ret_cellV2 6 7 189 rfl Tryz.isAgg189 36 szSt w.heap.size Y 189 z1 _ rfl rfl ja rfl ⟨rfl,below_upd b9 hua (Nat.le_refl _)⟩
set_option maxRecDepth 100000 in
set_option maxHeartbeats 400000 in
theorem last_some (d c:Nat) (O:Nat -> Prop) (S:Nat -> Nat -> UInt8) (W:List (Nat × (Nat -> UInt8))) (F:Int) (v:Value) (lf:Int) (sec:ByteArray) (n:Nat) (x:Option Int) (en:Int) (f:Nat -> Bool) (p:Int -> Option (Int × ByteArray)) (w:World) (hD:Dv.Dev w O d S W F v lf) (hC:Dv.Cnt w c (n:Int)) (hW:W.length <= 1000) (hsec:sec.size <= 300) (hK:Sm.KB w)
    (hx:SupAt S W sec ((n + 1) % 2) x) (hx':x ≠ some ((n + 1:Nat):Int)) (hOn:On S W sec n en f p) :
    Calls Tryz.prog 112 #[.pointer (some ⟨d,0,none⟩),.pointer (some ⟨c,0,none⟩),.string sec] w fun e w' => (∃ CB,e = .returned (.tuple #[.agg (stA (n:Int) en f (rootP p) (.map (some CB))),.nilIface]) ∧ MapF Tryz.prog w' CB 32 (pv p) ∧ w.heap.size <= CB) ∧ Below w.heap.size w w':=by
  have hn0:=hOn.n0
  have hn1:=hOn.n1
  have z1:=st0_size
  have o1:=st0_one
  have zt:=zeroSt
  have hR1:∀ w',Below w.heap.size w w' -> Calls Tryz.prog 172 #[.pointer (some ⟨d,0,none⟩),.string sec,.int .i64 ((n:Int) + 1)] w' fun e w'' => e = .returned (.tuple #[.agg st0,.bool false]) ∧ Below w'.heap.size w' w'':=fun w' hb =>
    whole_no d O S W F v lf sec (n + 1) x w' (hD.below hb) hW hsec (by omega) (hK.below hb) hx hx'
  have hR2:=fun w' (hb:Below w.heap.size w w') => whole_good d O S W F v lf sec n en f p w' (hD.below hb) hW hsec (hK.below hb) hOn
  obtain ⟨Y,hY⟩:∃ Z,Hid (st0 = Z):=⟨_,rfl⟩
  rw [hY.out] at z1 o1 zt hR1
  have H1:Hid _:=hR1
  have H2:Hid _:=hR2
  clear hR1 hR2 hx hx' hY hOn
  have g1:=Pg.below_alloc w (.cells Y 189)
  have hn':¬ (n:Int) = 0:=by omega
  go_enter Tryz.func112,Tryz.ntmps112
  go_wp2_with fail
  refine (Dv.get_any c (n:Int) _ (hC.below g1 hC.lt)).mono ?_
  rintro e w1 ⟨rfl,hw1⟩
  obtain rfl:=hw1
  go_wp2_with fail
  refine (H1.out _ g1).mono ?_
  rintro e w2 ⟨rfl,g2⟩
  have b2:=g1.trans (g2.mono g1.size)
  have j2:=(Blk.new w Y 189).below g2 (by simp)
  have j3:=j2.alloc (.cells Y 189)
  have b3:=b2.trans ((Pg.below_alloc w2 (.cells Y 189)).mono b2.size)
  have hlt2:w.heap.size < w2.heap.size:=j2.lt
  go_wp2_with (first
    | (refine Su.wpl_storeV rfl rfl 189 _ _ rfl 36 szSt w2.heap.size Y 189 Y o1 rfl rfl (Blk.new w2 _ _) z1 z1 ?_;intro w6 hu6 j6;have k6:=j3.upd hu6 (by omega);have b6:=below_upd b3 hu6 (Nat.le_of_lt hlt2))
    | fail)
  refine (H2.out _ b6).mono ?_
  rintro e w7 ⟨⟨CB,rfl,hM7,hCB⟩,g7⟩
  have b7:=b6.trans (g7.mono b6.size)
  have k7:=k6.below g7 k6.lt
  have k8:=k7.alloc (.cells Y 189)
  have b8:=b7.trans ((Pg.below_alloc w7 (.cells Y 189)).mono b7.size)
  have hlt7:w.heap.size < w7.heap.size:=k7.lt
  have hC6:w.heap.size < w6.heap.size:=k6.lt
  have hM8:=hM7.alloc (.cells Y 189)
  have hMl:=hM7.lt
  have x0:=stA_size (n:Int) en f (rootP p) (.map (some CB))
  have x1:=stA_one (n:Int) en f (rootP p) (.map (some CB)) rfl
  obtain ⟨X,hX⟩:∃ X,Hid (stA (n:Int) en f (rootP p) (.map (some CB)) = X):=⟨_,rfl⟩
  rw [hX.out] at x0 x1
  rw [hX.out]
  clear H1 H2
  go_wp2_with (first
    | (refine Su.wpl_storeV rfl rfl 189 _ _ rfl 36 szSt w7.heap.size Y 189 X x1 rfl rfl (Blk.new w7 _ _) z1 x0 ?_;intro w9 hu9 j9;have k9:=k8.upd hu9 (by omega);have b9:=below_upd b8 hu9 (Nat.le_of_lt hlt7))
    | (refine Su.wpl_loadV rfl 189 _ rfl Tryz.isAgg189 36 szSt w7.heap.size 0 X 189 rfl j9 (by omega) ?_;rw [Su.ext_all x0])
    | (refine Su.wpl_storeV rfl rfl 189 _ _ rfl 36 szSt w.heap.size Y 189 X x1 rfl rfl k9 z1 x0 ?_;intro wa hua ja)
    | fail)
  exact Su.ret_cellV2 6 7 189 rfl Tryz.isAgg189 36 szSt w.heap.size X 189 x0 _ rfl rfl ja rfl ⟨⟨CB,by rw [hX.out];rfl,(hM8.upd hu9 (by omega)).upd hua (by omega),by omega⟩,below_upd b9 hua (Nat.le_refl _)⟩
theorem buildVa' (d c:Nat) (sec:ByteArray) (cn en:Int) (f:Nat -> Bool) (r:ByteArray) (CB:Nat) (w:World):(Instr.build 193 #[(0,.pointer (some ⟨d,0,none⟩)),(1,.pointer (some ⟨c,0,none⟩)),(2,.string sec),(3,.agg (stA cn en f r (.map (some CB))))]).run Tryz.prog w = .ok (.agg (vaA d c sec (stA cn en f r (.map (some CB))) false)) w:=run_build w 193 _ _ (by kernel_rfl)
set_option maxRecDepth 100000 in
set_option maxHeartbeats 400000 in
theorem open_some (d c:Nat) (O:Nat -> Prop) (S:Nat -> Nat -> UInt8) (W:List (Nat × (Nat -> UInt8))) (F:Int) (v:Value) (lf:Int) (sec:ByteArray) (n:Nat) (x:Option Int) (en:Int) (f:Nat -> Bool) (p:Int -> Option (Int × ByteArray)) (w:World) (hD:Dv.Dev w O d S W F v lf) (hC:Dv.Cnt w c (n:Int)) (hW:W.length <= 1000) (hsec:sec.size = 16) (hK:Sm.KB w)
    (hx:SupAt S W sec ((n + 1) % 2) x) (hx':x ≠ some ((n + 1:Nat):Int)) (hOn:On S W sec n en f p) :
    Calls Tryz.prog 52 #[.pointer (some ⟨d,0,none⟩),.pointer (some ⟨c,0,none⟩),.string sec] w fun e w' => (∃ VB CB,e = .returned (.tuple #[.pointer (some ⟨VB,0,none⟩),.nilIface]) ∧ Vlt w' VB d c sec (n:Int) en f (rootP p) CB 32 p false ∧ w.heap.size <= VB ∧ w.heap.size <= CB) ∧ Below w.heap.size w w':=by
  have hs':(sec.size:Int) = 16:=by omega
  have z1:=st0_size
  have zt:=zeroSt
  obtain ⟨Y,hY⟩:∃ Z,Hid (st0 = Z):=⟨_,rfl⟩
  rw [hY.out] at z1 zt
  clear hY
  have HL:=last_some d c O S W F v lf sec n x en f p w hD hC hW (by omega) hK hx hx' hOn
  clear hx hx' hOn
  go_enter Tryz.func52,Tryz.ntmps52
  go_wp2_with fail
  refine HL.mono ?_
  rintro e w1 ⟨⟨CB,rfl,hM1,hCB⟩,g1⟩
  have u0:=stA_size (n:Int) en f (rootP p) (.map (some CB))
  have u1:=stA_one (n:Int) en f (rootP p) (.map (some CB)) rfl
  have B1:Hid (∀ w:World,_):=buildVa' d c sec (n:Int) en f (rootP p) CB
  obtain ⟨X,hX⟩:∃ X,Hid (stA (n:Int) en f (rootP p) (.map (some CB)) = X):=⟨_,rfl⟩
  rw [hX.out] at u0 u1 B1
  rw [hX.out]
  obtain ⟨VA,hVA⟩:∃ V,Hid (vaA d c sec X false = V):=⟨_,rfl⟩
  rw [hVA.out] at B1
  go_wp2_with (first
    | (refine Su.wpl_storeV rfl rfl 189 _ _ rfl 36 szSt w1.heap.size Y 189 X u1 rfl rfl (Blk.new w1 _ _) z1 u0 ?_;intro w2 hu2 j2)
    | (refine Su.wpl_loadV rfl 189 _ rfl Tryz.isAgg189 36 szSt w1.heap.size 0 X 189 rfl j2 (by omega) ?_;rw [Su.ext_all u0])
    | (refine wpl_bld rfl 193 _ rfl #[(0,.pointer (some ⟨d,0,none⟩)),(1,.pointer (some ⟨c,0,none⟩)),(2,.string sec),(3,.agg X)] (by kernel_rfl) (.agg VA) (B1.out _) ?_)
    | fail)
  go_ret2
  have s2:Below w1.heap.size w1 w2:=below_upd (Pg.below_alloc w1 _) hu2 (Nat.le_refl _)
  have b2:=g1.trans (s2.mono g1.size)
  refine ⟨⟨w2.heap.size,CB,rfl,⟨?_,((hM1.below s2 hM1.lt).alloc _)⟩,b2.size,hCB⟩,b2.trans ((Pg.below_alloc w2 _).mono b2.size)⟩
  rw [hX.out,hVA.out]
  exact Blk.new w2 VA 193
theorem lose_read (S:Nat -> Nat -> UInt8) (W:List (Nat × (Nat -> UInt8))):∀ i,i <= W.length -> ∀ k,Dv.loseS S W (fun _ => true) i k = Dv.readF S (W.take i) k
  | 0,_,k => rfl
  | i + 1,hi,k => by
    have hw:W[i]? = some W[i]:=List.getElem?_eq_getElem (by omega)
    rw [Dv.loseS_yes hw rfl,List.take_add_one,hw]
    show Dv.putS _ _ _ k = Dv.readF S (W.take i ++ [W[i]]) k
    rw [Dv.readF_snoc]
    unfold Dv.putS
    by_cases e:k = W[i].1
    · rw [if_pos e,if_pos e.symm]
    · rw [if_neg e,if_neg (Ne.symm e)];exact lose_read S W i (by omega) k
theorem sure_read (S:Nat -> Nat -> UInt8) (W:List (Nat × (Nat -> UInt8))) (k:Nat):sureS S W k = Dv.readF S W k:=by
  unfold sureS;rw [lose_read S W W.length (Nat.le_refl _) k,List.take_length]
theorem read_nil (S:Nat -> Nat -> UInt8) (k:Nat):Dv.readF S [] k = S k:=rfl
theorem plc_inj {f:Nat -> Bool} {a b:Nat} (h:plc f a = plc f b):a = b:=by
  unfold plc at h;revert h;split <;> split <;> omega
theorem read_wl (S:Nat -> Nat -> UInt8) (l:List (Nat × ByteArray)) (x:Nat × ByteArray) (b:Nat):Dv.readF S (wl (l ++ [x])) b = if x.1 = b then Dv.bAt x.2 else Dv.readF S (wl l) b:=by
  have:wl (l ++ [x]) = wl l ++ [(x.1,Dv.bAt x.2)]:=by unfold wl;simp
  rw [this,Dv.readF_snoc]
theorem sl_miss (S:Nat -> Nat -> UInt8) (key:ByteArray) (f:Nat -> Bool) (t:Int -> Option (Int × ByteArray)) (b:Nat):∀ k:Nat,(∀ id:Nat,id < k -> (t (id:Int)).isSome = true -> plc f id ≠ b) -> Dv.readF S (wl (sl key f t k)) b = S b
  | 0,_ => rfl
  | k + 1,h => by
    have ih:=sl_miss S key f t b k fun id hid => h id (by omega)
    cases hx:t (k:Int) with
    | none => rw [sl_none hx];exact ih
    | some x => rw [sl_some hx,read_wl,if_neg (h k (by omega) (by rw [hx];rfl))];exact ih
theorem sl_hit (S:Nat -> Nat -> UInt8) (key:ByteArray) (f:Nat -> Bool) (t:Int -> Option (Int × ByteArray)) (id:Nat) (x:Int × ByteArray) (hx:t (id:Int) = some x):∀ k:Nat,id < k -> Dv.readF S (wl (sl key f t k)) (plc f id) = Dv.bAt (Pg.sealT key (id:Int) x.1 x.2)
  | 0,h => by omega
  | k + 1,h => by
    by_cases e:id = k
    · subst e;rw [sl_some hx,read_wl,if_pos rfl]
    · have ih:=sl_hit S key f t id x hx k (by omega)
      cases hy:t (k:Int) with
      | none => rw [sl_none hy];exact ih
      | some y => rw [sl_some hy,read_wl,if_neg (fun h => e (plc_inj h).symm)];exact ih
structure Pgs (S:Nat -> Nat -> UInt8) (sec:ByteArray) (en:Int) (f:Nat -> Bool) (p:Int -> Option (Int × ByteArray)):Prop where
  some':∀ id:Nat,id < 32 -> ∀ x,p (id:Int) = some x -> sb 256 (S (plc f id)) = pad (Pg.sealT (epoK sec en) (id:Int) x.1 x.2) ∧ 1 <= x.1 ∧ x.1 <= 1099511627776 ∧ x.2.size <= 200
  none':∀ id:Nat,id < 32 -> p (id:Int) = none -> begins (sb 256 (S (plc f id))) = true
  keys:∀ i,kOk i -> (p i).isSome = true -> 0 <= i ∧ i < 32
def nxS (S:Nat -> Nat -> UInt8) (sec:ByteArray) (m:Nat) (en:Int) (f:Nat -> Bool) (p t:Int -> Option (Int × ByteArray)):Nat -> Nat -> UInt8:=
  sureS (sureS S (wl (sl (epoK sec en) (nxF f t) t 32))) [(m % 2,Dv.bAt (Su.allT (supK sec) (m:Int) en (nxF f t) (rootP (nxP p t))))]
section
variable {S:Nat -> Nat -> UInt8} {sec:ByteArray} {m:Nat} {en:Int} {f:Nat -> Bool} {p t:Int -> Option (Int × ByteArray)}
theorem nxS_top:nxS S sec m en f p t (m % 2) = Dv.bAt (Su.allT (supK sec) (m:Int) en (nxF f t) (rootP (nxP p t))):=by
  unfold nxS;rw [sure_read]
  show (if m % 2 = m % 2 then _ else _) = _
  rw [if_pos rfl]
theorem nxS_other {b:Nat} (h:b ≠ m % 2):nxS S sec m en f p t b = Dv.readF S (wl (sl (epoK sec en) (nxF f t) t 32)) b:=by
  unfold nxS;rw [sure_read]
  show (if m % 2 = b then _ else sureS S _ b) = _
  rw [if_neg (Ne.symm h),sure_read]
theorem nxF_not {id:Nat} (h:t (id:Int) = none):nxF f t id = f id:=by unfold nxF;rw [h];rfl
theorem plc_congr {f g:Nat -> Bool} {id:Nat} (h:f id = g id):plc f id = plc g id:=by unfold plc;rw [h]
theorem nxS_told {id:Nat} {x:Int × ByteArray} (hi:id < 32) (h:t (id:Int) = some x):nxS S sec m en f p t (plc (nxF f t) id) = Dv.bAt (Pg.sealT (epoK sec en) (id:Int) x.1 x.2):=by
  rw [nxS_other (by have:=plc_ge (nxF f t) id;omega)]
  exact sl_hit S _ _ t id x h 32 hi
theorem nxS_not {id:Nat} (h:t (id:Int) = none):nxS S sec m en f p t (plc (nxF f t) id) = S (plc f id):=by
  rw [nxS_other (by have:=plc_ge (nxF f t) id;omega),sl_miss,plc_congr (nxF_not h)]
  intro k _ hs e
  have:=plc_inj e
  subst this
  rw [h] at hs;cases hs
theorem nxS_sup {b:Nat} (hb:b < 2) (h:b ≠ m % 2):nxS S sec m en f p t b = S b:=by
  rw [nxS_other h,sl_miss]
  intro k _ _ e
  have:=plc_ge (nxF f t) k
  omega
theorem Pgs.told (h:Pgs S sec en f p) (ht:∀ id:Nat,id < 32 -> ∀ x,t (id:Int) = some x -> 1 <= x.1 ∧ x.1 <= 1099511627776 ∧ x.2.size <= 200) (hk:∀ i,kOk i -> (t i).isSome = true -> 0 <= i ∧ i < 32):Pgs (nxS S sec m en f p t) sec en (nxF f t) (nxP p t):=by
  refine ⟨fun id hi x hx => ?_,fun id hi hx => ?_,fun i hi hx => ?_⟩
  · cases hy:t (id:Int) with
    | some y =>
      have e:y = x:=by unfold nxP at hx;rw [hy] at hx;simpa using hx
      subst e
      exact ⟨by rw [nxS_told hi hy];rfl,ht id hi y hy⟩
    | none =>
      have e:p (id:Int) = some x:=by unfold nxP at hx;rw [hy] at hx;simpa using hx
      rw [nxS_not hy]
      exact h.some' id hi x e
  · cases hy:t (id:Int) with
    | some y => unfold nxP at hx;rw [hy] at hx;simp at hx
    | none =>
      have e:p (id:Int) = none:=by unfold nxP at hx;rw [hy] at hx;simpa using hx
      rw [nxS_not hy]
      exact h.none' id hi e
  · unfold nxP at hx
    cases hy:t i with
    | some y => exact hk i hi (by rw [hy];rfl)
    | none => rw [hy] at hx;exact h.keys i hi (by simpa using hx)
theorem Pgs.on (h:Pgs S sec en f p) {n:Nat} (n0:1 <= n) (n1:n <= 1099511627776) (e0:1 <= en) (e1:en <= 1099511627776) (hs:sb 256 (S (n % 2)) = pad (Su.allT (supK sec) (n:Int) en f (rootP p))):On S [] sec n en f p:=
  ⟨n0,n1,e0,e1,hs,h.some',h.none',h.keys⟩
theorem on_sup {n:Nat} (h:On S [] sec n en f p):SupAt S [] sec (n % 2) (some (n:Int)):=by
  have n0:=h.n0
  have hpar:=all_par (supK sec) (n:Int) en f (rootP p) (supK_size sec) (by unfold Su.okN;rw [decide_eq_true (by omega),decide_eq_true (by have:=h.n1;omega)];rfl) (by unfold Su.okN;rw [decide_eq_true h.e0,decide_eq_true h.e1];rfl) (rootP_size p)
  rw [<- h.sup] at hpar
  exact ⟨hpar.1,en,f,rootP p,hpar.2⟩
theorem pgs_new (sec:ByteArray):Pgs (fun _ _ => 0) sec 1 (fun _ => false) (fun _ => none):=
  ⟨fun id _ x hx => (by cases hx),fun id _ _ => (by decide +kernel:begins zS = true),fun i _ hx => (by cases hx)⟩
theorem sup_new (sec:ByteArray) (b:Nat):SupAt (fun _ _ => 0) [] sec b none:=(par_zS (supK_size sec)).1
structure Tld (S:Nat -> Nat -> UInt8) (sec:ByteArray) (n:Nat) (f:Nat -> Bool) (p:Int -> Option (Int × ByteArray)):Prop where
  pgs:Pgs S sec 1 f p
  sup:1 <= n -> sb 256 (S (n % 2)) = pad (Su.allT (supK sec) (n:Int) 1 f (rootP p))
  old:∃ x,SupAt S [] sec ((n + 1) % 2) x ∧ ∀ c,x = some c -> c < (n:Int)
  new:n = 0 -> SupAt S [] sec 0 none ∧ SupAt S [] sec 1 none ∧ p = fun _ => none
  n1:n <= 1000000
  low:∀ b,2 <= b -> b < 66 -> Pg.verN (sb 256 (S b)) <= (n:Int)
theorem Tld.on {n:Nat} (h:Tld S sec n f p) (hn:1 <= n):On S [] sec n 1 f p:=h.pgs.on hn (by have:=h.n1;omega) (by decide) (by decide) (h.sup hn)
theorem low_nx {n:Nat} (h:∀ b,2 <= b -> b < 66 -> Pg.verN (sb 256 (S b)) <= (n:Int)) (ht:∀ id:Nat,id < 32 -> ∀ x,t (id:Int) = some x -> 1 <= x.1 ∧ x.1 <= 1099511627776 ∧ x.2.size <= 200) (hl:∀ id:Nat,id < 32 -> ∀ x,t (id:Int) = some x -> x.1 <= ((n + 1:Nat):Int)) (b:Nat) (h2:2 <= b) (h66:b < 66):Pg.verN (sb 256 (nxS S sec (n + 1) en f p t b)) <= ((n + 1:Nat):Int):=by
  by_cases e:∃ id x,id < 32 ∧ t ((id:Nat):Int) = some x ∧ plc (nxF f t) id = b
  · obtain ⟨id,x,hi,hx,rfl⟩:=e
    rw [nxS_told hi hx]
    have h1:=ht id hi x hx
    have h3:=hl id hi x hx
    have h4:Pg.verN (pad (Pg.sealT (epoK sec en) (id:Int) x.1 x.2)) = x.1:=seal_ver _ _ _ _ (by omega) h1.2.1
    unfold pad at h4
    rw [h4]
    exact h3
  · rw [nxS_other (by omega),sl_miss]
    · have:=h b h2 h66;omega
    · intro id hi hs hb
      obtain ⟨x,hx⟩:=Option.isSome_iff_exists.1 hs
      exact e ⟨id,x,hi,hx,hb⟩
theorem Tld.told {n:Nat} (h:Tld S sec n f p) (hn:n < 1000000) (ht:∀ id:Nat,id < 32 -> ∀ x,t (id:Int) = some x -> 1 <= x.1 ∧ x.1 <= 1099511627776 ∧ x.2.size <= 200) (hk:∀ i,kOk i -> (t i).isSome = true -> 0 <= i ∧ i < 32) (hl:∀ id:Nat,id < 32 -> ∀ x,t (id:Int) = some x -> x.1 <= ((n + 1:Nat):Int)):Tld (nxS S sec (n + 1) 1 f p t) sec (n + 1) (nxF f t) (nxP p t):=by
  refine ⟨h.pgs.told ht hk,fun _ => by rw [nxS_top];rfl,?_,fun e => by omega,by omega,low_nx h.low ht hl⟩
  have hb:(n + 1 + 1) % 2 ≠ (n + 1) % 2:=by omega
  have he:(n + 1 + 1) % 2 = n % 2:=by omega
  have hS:∀ x,SupAt S [] sec (n % 2) x -> SupAt (nxS S sec (n + 1) 1 f p t) [] sec ((n + 1 + 1) % 2) x:=fun x hx => by
    unfold SupAt at *
    rw [show Dv.readF (nxS S sec (n + 1) 1 f p t) [] ((n + 1 + 1) % 2) = Dv.readF S [] (n % 2) from by rw [read_nil,read_nil,nxS_sup (by omega) hb,he]]
    exact hx
  by_cases h0:n = 0
  · subst h0
    exact ⟨none,hS _ (h.new rfl).1,fun c h => by cases h⟩
  · exact ⟨some (n:Int),hS _ (on_sup (h.on (by omega))),fun c hc => by injection hc with hc;omega⟩
end
end Go.Proofs.YtjmpjfikcgccdaaGreatDoor.Vt
