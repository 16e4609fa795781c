/-
  Part of the proof of BaseFindsCard (Su4 and on).
-/
import Derived.Test.YtjmpjfikcgccdaaGreatDoorB23
import Derived.Test.YtjmpjfikcgccdaaGreatDoorB04
import Derived.Laws.Tables
import Derived.Test.YtjmpjfikcgccdaaGreatDoorB02
namespace Go.Proofs.YtjmpjfikcgccdaaGreatDoor.Su
open Go.RowKit Pg
theorem build4 (c e:Int) (f:Nat -> Bool) (r:ByteArray) (w:World):(Instr.build 66 #[(0,.int .i64 c),(1,.int .i64 e),(2,.agg (bl 32 f)),(3,.string r)]).run Tryz.prog w = .ok (.agg (supA c e f r)) w:=run_build w 66 _ _ (by kernel_rfl)
theorem build0 (w:World):(Instr.build 66 #[]).run Tryz.prog w = .ok (.agg sup0) w:=run_build w 66 _ _ (by kernel_rfl)
section
variable {P:Program} {Q:Exit -> Act -> World -> Prop} {K:Act -> World -> Prop} {a:Act} {w:World} {o:Oper}
theorem op_storeV (hdn:o.dst = none) (t:TypeId) (x y:Operand) (ho:o.op = .store t x y) (n:Nat) (hi0:(P.info? t).map (·.size) = some n)
    (b:Nat) (arr:Array Value) (T:TypeId) (vs:Array Value) (hone:∀ v ∈ vs.toList,v.oneCell' = true) (hx:a.eval x = .pointer (some ⟨b,0,none⟩)) (hy:a.eval y = .agg vs) (hb:Blk w b arr T) (hn:arr.size = n) (hv:vs.size = n)
    (h:∀ w',Upd w w' b -> Blk w' b vs T -> K a w'):o.wp P a w K Q:=by
  unfold Oper.wp execOp
  simp only [ho,hx,hy,Instr.storeAt,Instr.sureAddr,Sem.run_bind,Sem.run_pure,Result.andThen_ok,storeVar_run t n hi0 b arr vs T hone hb hn hv]
  simp only [Oper.upon_skip,hdn,Act.put]
  exact h _ (putBlk_upd _ _ _) (putBlk_blk hb)
end
theorem exec_build {P:Program} {a:Act} {o:Oper} {w:World} (t:TypeId) (parts:Array (Nat × Operand)) (ho:o.op = .build t parts) (v:Value) (vs:Array (Nat × Value)) (hp:(parts.map fun p => (p.1,a.eval p.2)) = vs) (hb:(Instr.build t vs).run P w = .ok v w):(execOp a.eval o).run P w = .ok (.value v) w:=by
  subst hp
  unfold execOp
  simp only [ho,Sem.run_bind,Sem.run_pure]
  rw [show (parts.map fun x => (x.1,a.eval x.2)) = (parts.map fun (x:Nat × Operand) => match x with | (i,p) => (i,a.eval p)) from rfl] at hb
  rw [hb]
  rfl
theorem sup0_size:sup0.size = 35:=supA_size _ _ _ _
def fC (s:ByteArray):Int:=verN (s.extract 2 10)
def fE (s:ByteArray):Int:=verN (s.extract 10 18)
def fF (s:ByteArray):Nat -> Bool:=sideF (s.extract 18 50) 0
def fR (s:ByteArray):ByteArray:=s.extract 50 66
set_option maxRecDepth 100000 in
set_option maxHeartbeats 2000000 in
theorem fields_any (s:ByteArray) (w:World) (h82:82 <= s.size) (hs:s.size <= 10000) :
    Calls Tryz.prog 339 #[.string s] w fun e w' => e = .returned (.agg (supA (fC s) (fE s) (fF s) (fR s))) ∧ Below w.heap.size w w':=by
  have z93:=zero93
  have x1:(s.extract 2 10).size = 8:=by rw [ByteArray.size_extract];omega
  have x2:(s.extract 10 18).size = 8:=by rw [ByteArray.size_extract];omega
  have x3:(s.extract 18 50).size = 32:=by rw [ByteArray.size_extract];omega
  have x4:(s.extract 50 66).size = 16:=by rw [ByteArray.size_extract];omega
  have h82':(82:Int) <= (s.size:Int):=by omega
  go_enter Tryz.func339,Tryz.ntmps339
  go_wp2_with fail
  have g0:=below_alloc w (.cells sup0 66)
  have j0:=Blk.new w sup0 66
  generalize hw1:w.alloc (.cells sup0 66) = w1 at *
  have HW:Hid (w.heap.size < w1.heap.size):=by unfold Hid;rw [<- hw1];simp
  clear hw1 z93
  refine regS_in 14 (fun _ => True) mixed rfl ?_
  refine regS_take 0 3 (.string s) rfl rfl (by kernel_rfl) (fun _ _ _ h => h) rfl (fun w _ => by go_simp) trivial ?_
  refine regS_take 1 4 (.string (s.extract 2 10)) rfl rfl (by kernel_rfl) (fun _ _ _ h => h) rfl (fun w _ => by go_simp;intro h;exfalso;omega) trivial ?_
  refine regS_take 3 6 (.string s) rfl rfl (by kernel_rfl) (fun _ _ _ h => h) rfl (fun w _ => by go_simp) trivial ?_
  refine regS_take 4 7 (.string (s.extract 10 18)) rfl rfl (by kernel_rfl) (fun _ _ _ h => h) rfl (fun w _ => by go_simp;intro h;exfalso;omega) trivial ?_
  refine regS_take 6 9 (.string s) rfl rfl (by kernel_rfl) (fun _ _ _ h => h) rfl (fun w _ => by go_simp) trivial ?_
  refine regS_take 7 10 (.string (s.extract 18 50)) rfl rfl (by kernel_rfl) (fun _ _ _ h => h) rfl (fun w _ => by go_simp;intro h;exfalso;omega) trivial ?_
  refine regS_take 9 12 (.string s) rfl rfl (by kernel_rfl) (fun _ _ _ h => h) rfl (fun w _ => by go_simp) trivial ?_
  refine regS_take 10 13 (.string (s.extract 50 66)) rfl rfl (by kernel_rfl) (fun _ _ _ h => h) rfl (fun w _ => by go_simp;intro h;exfalso;omega) trivial ?_
  simp only [Act.put,List.setIfInBounds_toArray,List.set_cons_succ,List.set_cons_zero]
  clear h82' h82 hs
  refine regS_one 2 rfl (by kernel_rfl) rfl (fun K hK' => ?_)
  go_wp2_with fail
  refine (snumber_any _ _ (by omega) (by omega)).mono ?_
  rintro e' w2 ⟨rfl,rfl⟩
  refine hK' _ _ trivial ?_
  clear hK' K
  refine regS_one 5 rfl (by kernel_rfl) rfl (fun K hK' => ?_)
  go_wp2_with fail
  refine (snumber_any _ _ (by omega) (by omega)).mono ?_
  rintro e' w2 ⟨rfl,rfl⟩
  refine hK' _ _ trivial ?_
  clear hK' K
  refine regS_one 8 rfl (by kernel_rfl) rfl (fun K hK' => ?_)
  go_wp2_with fail
  refine (sides_any _ _ x3).mono ?_
  rintro e' w2 ⟨rfl,g2⟩
  refine hK' _ _ trivial ?_
  clear hK' K
  refine regS_one 11 rfl (by kernel_rfl) rfl (fun K hK' => ?_)
  go_wp2_with fail
  refine (clone_any _ _ (by omega)).mono ?_
  rintro e' w3 ⟨rfl,g3⟩
  refine hK' _ _ trivial ?_
  clear hK' K
  have b1:Below w1.heap.size w1 w3:=((below_drewN (Below.refl _ _) 1).trans g2).trans (g3.mono g2.size)
  have j3:=j0.below b1 HW.out
  have b3:=g0.trans (b1.mono g0.size)
  refine regS_take 12 15 (.agg (supA (fC s) (fE s) (fF s) (fR s))) rfl rfl (by kernel_rfl) (fun _ _ _ h => h) rfl (fun w _ => exec_build 66 #[(0,.tmp 5),(1,.tmp 8),(2,.tmp 11),(3,.tmp 14)] rfl _ #[(0,.int .i64 (fC s)),(1,.int .i64 (fE s)),(2,.agg (bl 32 (fF s))),(3,.string (fR s))] (by kernel_rfl) (build4 (fC s) (fE s) (fF s) (fR s) w)) trivial ?_
  simp only [Act.put,List.setIfInBounds_toArray,List.set_cons_succ,List.set_cons_zero]
  have hn:=supA_size (fC s) (fE s) (fF s) (fR s)
  have h1:=supA_one (fC s) (fE s) (fF s) (fR s)
  obtain ⟨V,hV⟩:∃ V,Hid (supA (fC s) (fE s) (fF s) (fR s) = V):=⟨_,rfl⟩
  rw [hV.out] at hn h1
  rw [hV.out]
  refine regS_last 13 rfl (by kernel_rfl) rfl (fun K hK' => ?_)
  refine op_storeV rfl 66 (.tmp 2) (.tmp 15) rfl 35 sz93 w.heap.size sup0 66 V h1 rfl rfl j3 sup0_size hn ?_
  intro w4 hu4 j4
  refine hK' _ _ trivial ?_
  clear hK' K
  go_wp2_with fail
  exact ret_cellV 2 66 rfl Tryz.isAgg66 35 sz93 w.heap.size V 66 hn rfl j4 rfl ⟨by rw [hV.out],below_upd b3 hu4 (Nat.le_refl _)⟩
def okP (key s:ByteArray):Bool:=okW key (fC s) (fE s) (fR s) && ((s.extract 0 82).toList == (allT key (fC s) (fE s) (fF s) (fR s)).toList) && blank (s.extract 82 s.size)
def parC (key s:ByteArray):Int:=if key.size = 32 then if s.size < 82 then 15 else if okP key s then 0 else 15 else 1
def parV (key s:ByteArray):Array Value:=if key.size = 32 then if s.size < 82 then sup0 else if okP key s then supA (fC s) (fE s) (fF s) (fR s) else sup0 else sup0
theorem sup0_one:∀ v ∈ sup0.toList,v.oneCell' = true:=supA_one _ _ _ _
set_option maxRecDepth 100000 in
set_option maxHeartbeats 2000000 in
theorem parse_short (key s:ByteArray) (w:World) (h:key.size = 32 -> s.size < 82) :
    Calls Tryz.prog 297 #[.string key,.string s] w fun e w' => e = .returned (.tuple #[.agg sup0,.iface 34 (.int .i64 (if key.size = 32 then 15 else 1))]) ∧ Below w.heap.size w w':=by
  have z93:=zero93
  have hb:=build0
  have hn:=sup0_size
  have h1:=sup0_one
  obtain ⟨V,hV⟩:∃ V,Hid (sup0 = V):=⟨_,rfl⟩
  rw [hV.out] at hn h1
  simp only [hV.out] at z93 hb
  rw [hV.out]
  have j0:=Blk.new w V 66
  have g0:=below_alloc w (.cells V 66)
  by_cases c1:key.size = 32
  · have c1':(key.size:Int) = 32:=by omega
    have c2:=h c1
    have c2':(s.size:Int) < 82:=by omega
    rw [if_pos c1]
    go_enter Tryz.func297,Tryz.ntmps297
    go_wp2_with (refine wpl_storeV rfl rfl 66 _ _ rfl 35 sz93 w.heap.size V 66 V h1 rfl rfl j0 hn hn ?_;intro w1 hu1 j1)
    exact ret_cellV2 4 5 66 rfl Tryz.isAgg66 35 sz93 w.heap.size V 66 hn _ rfl rfl j1 rfl ⟨rfl,below_upd g0 hu1 (Nat.le_refl _)⟩
  · have c1':¬ ((key.size:Int) = 32):=by omega
    rw [if_neg c1]
    go_enter Tryz.func297,Tryz.ntmps297
    go_wp2_with (refine wpl_storeV rfl rfl 66 _ _ rfl 35 sz93 w.heap.size V 66 V h1 rfl rfl j0 hn hn ?_;intro w1 hu1 j1)
    exact ret_cellV2 4 5 66 rfl Tryz.isAgg66 35 sz93 w.heap.size V 66 hn _ rfl rfl j1 rfl ⟨rfl,below_upd g0 hu1 (Nat.le_refl _)⟩
theorem ext_all {vs:Array Value} {n:Nat} (h:vs.size = n):vs.extract 0 (0 + n) = vs:=by
  subst h;rw [Nat.zero_add];exact Array.extract_size
set_option maxRecDepth 100000 in
set_option maxHeartbeats 2000000 in
theorem parse_long (key s:ByteArray) (w:World) (hk:key.size = 32) (h82:82 <= s.size) (hs:s.size <= 10000) (hK:Sm.KB w) (X:Array Value) (Y:Value)
    (hg:okP key s = true -> X = supA (fC s) (fE s) (fF s) (fR s) ∧ Y = .nilIface) (hf:okP key s = false -> X = sup0 ∧ Y = .iface 34 (.int .i64 15)) :
    Calls Tryz.prog 297 #[.string key,.string s] w fun e w' => e = .returned (.tuple #[.agg X,Y]) ∧ Below w.heap.size w w':=by
  have HG:Hid (okP key s = true -> X = supA (fC s) (fE s) (fF s) (fR s) ∧ Y = .nilIface):=hg
  have HB:Hid (okP key s = false -> X = sup0 ∧ Y = .iface 34 (.int .i64 15)):=hf
  clear hg hf
  have z93:=zero93
  have hb:=build0
  have zn:=sup0_size
  have z1:=sup0_one
  obtain ⟨Z,hZ⟩:∃ Z,Hid (sup0 = Z):=⟨_,rfl⟩
  rw [hZ.out] at zn z1
  simp only [hZ.out] at z93 hb
  have hn:=supA_size (fC s) (fE s) (fF s) (fR s)
  have h1:=supA_one (fC s) (fE s) (fF s) (fR s)
  have HW:=fun (w0:World) (k0:Sm.KB w0) => write_any key (fC s) (fE s) (fF s) (fR s) w0 k0
  have HF:=fun (w0:World) => fields_any s w0 h82 hs
  obtain ⟨V,hV⟩:∃ V,Hid (supA (fC s) (fE s) (fF s) (fR s) = V):=⟨_,rfl⟩
  rw [hV.out] at hn h1
  simp only [hV.out] at HW HF
  have k1:(key.size:Int) = 32:=by omega
  have k2:¬ ((s.size:Int) < 82):=by omega
  have x1:(s.extract 82 s.size).size <= 10000:=by rw [ByteArray.size_extract];omega
  have j0:=Blk.new w Z 66
  have g0:=below_alloc w (.cells Z 66)
  go_enter Tryz.func297,Tryz.ntmps297
  go_wp2_with fail
  generalize hw1:w.alloc (.cells Z 66) = w1 at *
  have HL:Hid (w.heap.size < w1.heap.size):=by unfold Hid;rw [<- hw1];simp
  clear hw1
  refine (HF _).mono ?_
  rintro e' w2 ⟨rfl,g2⟩
  have j2:=j0.below g2 HL.out
  have b2:=g0.trans (g2.mono g0.size)
  go_wp2_with (first
    | (refine wpl_storeV rfl rfl 66 _ _ rfl 35 sz93 w2.heap.size Z 66 V h1 rfl rfl (Blk.new w2 Z 66) zn hn ?_;intro w3 hu3 i3)
    | (refine wpl_loadV rfl 66 _ rfl Tryz.isAgg66 35 sz93 w2.heap.size 0 V 66 rfl i3 (by omega) ?_;rw [ext_all hn])
    | fail)
  have b3:=below_upd (b2.alloc b2.size (.cells Z 66)) hu3 b2.size
  have j3:=(j2.alloc (.cells Z 66)).upd hu3 (by have:=j2.lt;omega)
  clear g2 b2 j2 g0 j0
  refine (HW _ (hK.below b3)).mono ?_
  rintro e' w4 ⟨rfl,g4⟩
  have b4:=b3.trans (g4.mono b3.size)
  have j4:=j3.below g4 j3.lt
  have i4:=i3.below g4 i3.lt
  clear b3 j3 i3 hu3 g4 HW HF
  cases ho:okW key (fC s) (fE s) (fR s) with
  | false =>
    obtain ⟨hX,hY⟩:=HB.out (by unfold okP;rw [ho];rfl)
    rw [hZ.out] at hX
    have hT:wrT key (fC s) (fE s) (fF s) (fR s) = ⟨#[]⟩:=by unfold wrT;rw [ho];rfl
    have hC:errV (wrC key (fC s) (fE s) (fR s)) = .iface 34 (.int .i64 1):=by unfold wrC errV;rw [ho];rfl
    rw [hT,hC]
    clear HG HB hT hC
    go_wp2_with (refine wpl_storeV rfl rfl 66 _ _ rfl 35 sz93 w.heap.size Z 66 Z z1 rfl rfl j4 zn zn ?_;intro w5 hu5 j5)
    exact ret_cellV2 4 5 66 rfl Tryz.isAgg66 35 sz93 w.heap.size Z 66 zn _ rfl rfl j5 rfl ⟨by rw [hX,hY];rfl,below_upd b4 hu5 (Nat.le_refl _)⟩
  | true =>
    have hC:errV (wrC key (fC s) (fE s) (fR s)) = .nilIface:=by unfold wrC errV;rw [ho];rfl
    have hT:wrT key (fC s) (fE s) (fF s) (fR s) = allT key (fC s) (fE s) (fF s) (fR s):=by unfold wrT;rw [ho];rfl
    have hO:okP key s = (((s.extract 0 82).toList == (allT key (fC s) (fE s) (fF s) (fR s)).toList) && blank (s.extract 82 s.size)):=by unfold okP;rw [ho,Bool.true_and]
    rw [hT,hC]
    clear hT hC
    generalize allT key (fC s) (fE s) (fF s) (fR s) = A at *
    cases c1:((s.extract 0 82).toList == A.toList) with
    | false =>
      obtain ⟨hX,hY⟩:=HB.out (by rw [hO,c1];rfl)
      rw [hZ.out] at hX
      clear HG HB hO
      go_wp2_with (refine wpl_storeV rfl rfl 66 _ _ rfl 35 sz93 w.heap.size Z 66 Z z1 rfl rfl j4 zn zn ?_;intro w5 hu5 j5)
      exact ret_cellV2 4 5 66 rfl Tryz.isAgg66 35 sz93 w.heap.size Z 66 zn _ rfl rfl j5 rfl ⟨by rw [hX,hY];rfl,below_upd b4 hu5 (Nat.le_refl _)⟩
    | true =>
      cases c2:blank (s.extract 82 s.size) with
      | false =>
        obtain ⟨hX,hY⟩:=HB.out (by rw [hO,c1,c2];rfl)
        rw [hZ.out] at hX
        clear HG HB hO
        go_wp2_with (first
          | (go_at_call 340;refine (isBlank_any _ _ x1).mono ?_;rintro e' w' ⟨rfl,rfl⟩;rw [c2])
          | (refine wpl_storeV rfl rfl 66 _ _ rfl 35 sz93 w.heap.size Z 66 Z z1 rfl rfl j4 zn zn ?_;intro w5 hu5 j5)
          | fail)
        exact ret_cellV2 4 5 66 rfl Tryz.isAgg66 35 sz93 w.heap.size Z 66 zn _ rfl rfl j5 rfl ⟨by rw [hX,hY];rfl,below_upd b4 hu5 (Nat.le_refl _)⟩
      | true =>
        obtain ⟨hX,hY⟩:=HG.out (by rw [hO,c1,c2];rfl)
        rw [hV.out] at hX
        clear HG HB hO
        go_wp2_with (first
          | (go_at_call 340;refine (isBlank_any _ _ x1).mono ?_;rintro e' w' ⟨rfl,rfl⟩;rw [c2])
          | (refine wpl_storeV rfl rfl 66 _ _ rfl 35 sz93 w.heap.size Z 66 V h1 rfl rfl j4 zn hn ?_;intro w5 hu5 j5)
          | (refine wpl_loadV rfl 66 _ rfl Tryz.isAgg66 35 sz93 w2.heap.size 0 V 66 rfl i4 (by omega) ?_;rw [ext_all hn])
          | fail)
        exact ret_cellV2 4 5 66 rfl Tryz.isAgg66 35 sz93 w.heap.size V 66 hn _ rfl rfl j5 rfl ⟨by rw [hX,hY];rfl,below_upd b4 hu5 (Nat.le_refl _)⟩
theorem parse_any (key s:ByteArray) (w:World) (hs:s.size <= 10000) (hK:Sm.KB w) :
    Calls Tryz.prog 297 #[.string key,.string s] w fun e w' => e = .returned (.tuple #[.agg (parV key s),errV (parC key s)]) ∧ Below w.heap.size w w':=by
  by_cases c1:key.size = 32
  · by_cases c2:s.size < 82
    · have:=parse_short key s w (fun _ => c2)
      unfold parV parC errV
      simpa [c1,c2] using this
    · refine parse_long key s w c1 (by omega) hs hK _ _ (fun h => ?_) (fun h => ?_)
      · unfold parV parC errV;simp [c1,c2,h]
      · unfold parV parC errV;simp [c1,c2,h]
  · have:=parse_short key s w (fun h => absurd h c1)
    unfold parV parC errV
    simpa [c1] using this
end Go.Proofs.YtjmpjfikcgccdaaGreatDoor.Su
namespace Go.Proofs.YtjmpjfikcgccdaaGreatDoor.Dv
open Go.RowKit
def bAt (s:ByteArray) (j:Nat):UInt8:=s.data.toList.getD j 0
def flat (S:Nat -> Nat -> UInt8) (j:Nat):UInt8:=S (j / 256) (j % 256)
def putS (S:Nat -> Nat -> UInt8) (k:Nat) (g:Nat -> UInt8) (i:Nat):Nat -> UInt8:=if i = k then g else S i
def devA (S:Nat -> Nat -> UInt8) (v:Value) (fu:Bool) (lf:Int):Array Value:=tb 16896 (flat S) ++ #[v,.bool fu,.int .i64 lf]
section
variable (S:Nat -> Nat -> UInt8) (v:Value) (fu:Bool) (lf:Int)
theorem devA_size:(devA S v fu lf).size = 16899:=by simp [devA,tb_size]
theorem devA_0:(devA S v fu lf)[16896]? = some v:=by
  unfold devA;rw [Array.getElem?_append_right (by simp [tb_size])];simp [tb_size]
theorem devA_1:(devA S v fu lf)[16897]? = some (.bool fu):=by
  unfold devA;rw [Array.getElem?_append_right (by simp [tb_size])];simp [tb_size]
theorem devA_2:(devA S v fu lf)[16898]? = some (.int .i64 lf):=by
  unfold devA;rw [Array.getElem?_append_right (by simp [tb_size])];simp [tb_size]
theorem devA_set0 (v':Value):(devA S v fu lf).setIfInBounds 16896 v' = devA S v' fu lf:=by
  unfold devA;rw [Array.setIfInBounds_append_right (by simp [tb_size])];simp [tb_size]
theorem devA_set2 (l':Int):(devA S v fu lf).setIfInBounds 16898 (.int .i64 l') = devA S v fu l':=by
  unfold devA;rw [Array.setIfInBounds_append_right (by simp [tb_size])];simp [tb_size]
theorem devA_byte (j:Nat) (h:j < 16896):(devA S v fu lf)[j]? = some (.int .u8 ((flat S j).toNat:Int)):=by
  unfold devA;rw [Array.getElem?_append_left (by simpa [tb_size] using h),tb_get _ _ _ h]
theorem devA_ext (k:Nat) (hk:k < 66):(devA S v fu lf).extract (k * 256) (k * 256 + 256) = tb 256 (S k):=by
  apply Array.ext_getElem?;intro i
  by_cases hi:i < 256
  · rw [tb_get _ _ _ hi,Array.getElem?_extract,if_pos (by rw [devA_size];omega),devA_byte _ _ _ _ _ (by omega)]
    unfold flat
    rw [show (k * 256 + i) / 256 = k from by omega,show (k * 256 + i) % 256 = i from by omega]
  · rw [Array.getElem?_eq_none (by rw [Array.size_extract,devA_size];omega),Array.getElem?_eq_none (by rw [tb_size];omega)]
end
theorem foldset_get (vs:List Value):∀ (c:Array Value) (i j:Nat),i + vs.length <= c.size -> (foldset c i vs)[j]? = if i <= j ∧ j < i + vs.length then vs[j - i]? else c[j]?:=by
  induction vs with
  | nil => intro c i j _;simp [foldset];intro h1 h2;omega
  | cons v vs ih =>
    intro c i j h
    simp only [List.length_cons] at h
    simp only [foldset]
    rw [ih _ _ _ (by simp;omega),Array.getElem?_setIfInBounds]
    by_cases e:j = i
    · subst e
      rw [if_neg (by omega),if_pos rfl,if_pos (by omega),if_pos (by simp)]
      simp
    · by_cases e2:i <= j ∧ j < i + (vs.length + 1)
      · rw [if_pos (by omega),if_pos (by simpa using e2)]
        obtain ⟨d,hd⟩:∃ d,j - i = d + 1:=⟨j - i - 1,by omega⟩
        rw [hd,List.getElem?_cons_succ];congr 1;omega
      · rw [if_neg (by omega),if_neg (Ne.symm e),if_neg (by simpa using e2)]
theorem devA_put (S:Nat -> Nat -> UInt8) (v:Value) (fu:Bool) (lf:Int) (k:Nat) (hk:k < 66) (g:Nat -> UInt8):foldset (devA S v fu lf) (k * 256) (tb 256 g).toList = devA (putS S k g) v fu lf:=by
  apply Array.ext_getElem?;intro j
  rw [foldset_get _ _ _ _ (by simp [tb_size,devA_size];omega)]
  by_cases hj:j < 16896
  · rw [devA_byte (putS S k g) _ _ _ _ hj]
    by_cases e:k * 256 <= j ∧ j < k * 256 + 256
    · rw [if_pos (by simpa [tb_size] using e)]
      have:=tb_get 256 g (j - k * 256) (by omega)
      rw [<- Array.getElem?_toList] at this
      rw [this]
      unfold flat putS
      rw [if_pos (by omega)]
      rw [show j % 256 = j - k * 256 from by omega]
    · rw [if_neg (by simpa [tb_size] using e),devA_byte _ _ _ _ _ hj]
      unfold flat putS
      rw [if_neg (by omega)]
  · rw [if_neg (by simp [tb_size];omega)]
    unfold devA
    rw [Array.getElem?_append_right (by simp [tb_size];omega),Array.getElem?_append_right (by simp [tb_size];omega)]
    simp [tb_size]
def isZ:Value -> Bool
  | .int .u8 0 => true
  | _ => false
theorem isZ_eq {v:Value} (h:isZ v = true):v = .int .u8 0:=by
  unfold isZ at h;split at h
  · rfl
  · cases h
def FZ (l:List Value):Prop:=l.all isZ = true
def GZ (l:List Value):Prop:=∃ a,a.all isZ = true ∧ l = a ++ [.slice none 0 0,.bool false,.int .i64 0]
theorem FZ.leaf {l:List Value} (h:l.all isZ = true):FZ l:=h
theorem FZ.app {a b:List Value} (ha:FZ a) (hb:FZ b):FZ (a.append b):=by
  unfold FZ at *;show (a ++ b).all isZ = true;rw [List.all_append,ha,hb];rfl
theorem GZ.app {a b:List Value} (ha:FZ a) (hb:GZ b):GZ (a.append b):=by
  obtain ⟨c,hc,rfl⟩:=hb
  exact ⟨a ++ c,by rw [List.all_append];unfold FZ at ha;rw [ha,hc];rfl,by show a ++ _ = _;simp⟩
theorem GZ.leaf {l:List Value} (h:(l.take (l.length - 3)).all isZ = true) (h2:l.drop (l.length - 3) = [.slice none 0 0,.bool false,.int .i64 0]):GZ l:=
  ⟨_,h,by rw [<- h2,List.take_append_drop]⟩
theorem zeroDev_g:GZ Tryz.zeroCells117.toList:=by
  unfold Tryz.zeroCells117
  show GZ (List.append _ _)
  repeat' (first | refine GZ.app ?_ ?_ | refine FZ.app ?_ ?_ | exact GZ.leaf (by kernel_rfl) (by kernel_rfl) | exact FZ.leaf (by kernel_rfl))
theorem zeroDev:Tryz.zeroCells117 = devA (fun _ _ => 0) (.slice none 0 0) false 0:=by
  obtain ⟨a,ha,hl⟩:=zeroDev_g
  have hs:=Tryz.zeroCells117_size
  have hla:a.length = 16896:=by
    have:Tryz.zeroCells117.toList.length = 16899:=hs
    rw [hl] at this;simp at this;omega
  have hr:a = List.replicate 16896 (.int .u8 0):=List.eq_replicate_iff.2 ⟨hla,fun b hb => isZ_eq (List.all_eq_true.1 ha b hb)⟩
  apply Array.toList_inj.1
  rw [hl,hr]
  have e:(tb 16896 (flat fun _ _ => 0)).toList = List.replicate 16896 (.int .u8 0):=by
    refine List.eq_replicate_iff.2 ⟨by rw [Array.length_toList,tb_size],fun b hb => ?_⟩
    unfold tb at hb
    simp only [List.mem_map] at hb
    obtain ⟨j,_,rfl⟩:=hb
    rfl
  unfold devA
  rw [Array.toList_append,e]
theorem zeroBlk:Tryz.zeroCells113 = tb 256 (fun _ => 0):=by kernel_rfl
end Go.Proofs.YtjmpjfikcgccdaaGreatDoor.Dv
namespace Go.Proofs.YtjmpjfikcgccdaaGreatDoor.Dv
open Go.RowKit
structure Chg (w w':World) (O:Nat -> Prop):Prop where
  os:w'.os = w.os
  tape:w'.tape = w.tape
  output:w'.output = w.output
  size:w.heap.size <= w'.heap.size
  block:∀ k,k < w.heap.size -> ¬ O k -> w'.heap[k]? = w.heap[k]?
theorem Chg.refl (w:World) (O:Nat -> Prop):Chg w w O:=⟨rfl,rfl,rfl,Nat.le_refl _,fun _ _ _ => rfl⟩
theorem Chg.trans {w w' w'':World} {O:Nat -> Prop} (h:Chg w w' O) (u:Chg w' w'' O):Chg w w'' O:=
  ⟨u.os.trans h.os,u.tape.trans h.tape,u.output.trans h.output,Nat.le_trans h.size u.size,fun k hk hne => (u.block k (Nat.lt_of_lt_of_le hk h.size) hne).trans (h.block k hk hne)⟩
theorem Chg.mono {w w':World} {O P:Nat -> Prop} (h:Chg w w' O) (hp:∀ k,k < w.heap.size -> O k -> P k):Chg w w' P:=
  ⟨h.os,h.tape,h.output,h.size,fun k hk hn => h.block k hk fun ho => hn (hp k hk ho)⟩
theorem Chg.drewN {w w':World} {O:Nat -> Prop} (h:Chg w w' O) (n:Nat):Chg w (w'.drewN n) O:=⟨h.os,h.tape,h.output,h.size,h.block⟩
theorem Chg.alloc {w w':World} {O:Nat -> Prop} (h:Chg w w' O) (o:Obj):Chg w (w'.alloc o) O:=
  ⟨h.os,h.tape,h.output,by simp;exact Nat.le_succ_of_le h.size,fun k hk hne => by rw [Below.heap_alloc _ _ _ (Nat.lt_of_lt_of_le hk h.size)];exact h.block k hk hne⟩
theorem Chg.upd {w w' w'':World} {O:Nat -> Prop} {b:Nat} (h:Chg w w' O) (u:Upd w' w'' b) (hb:O b ∨ w.heap.size <= b):Chg w w'' O:=
  ⟨u.os.trans h.os,u.tape.trans h.tape,u.output.trans h.output,by rw [u.size];exact h.size,fun k hk hne => (u.block k (fun e => by subst e;rcases hb with hb | hb;exact hne hb;omega)).trans (h.block k hk hne)⟩
theorem Chg.setCell {w w':World} {O:Nat -> Prop} {b j:Nat} (h:Chg w w' O) (hb:O b ∨ w.heap.size <= b) (v:Value):Chg w (w'.setCell ⟨b,j,none⟩ v) O:=h.upd (setCell_upd _ _ _ _) hb
theorem Chg.below {w w' w'':World} {O:Nat -> Prop} (h:Chg w w' O) (g:Below w'.heap.size w' w''):Chg w w'' O:=
  ⟨g.os.trans h.os,g.tape.trans h.tape,g.output.trans h.output,Nat.le_trans h.size g.size,fun k hk hne => (g.block k (Nat.lt_of_lt_of_le hk h.size)).trans (h.block k hk hne)⟩
theorem Chg.grown {w w' w'':World} {O:Nat -> Prop} {r:Option Nat} (h:Chg w w' O) (g:w'.grownBy w'' r) (hr:∀ k,r = some k -> O k ∨ w.heap.size <= k):Chg w w'' O:=
  ⟨g.os.trans h.os,g.tape.trans h.tape,g.output.trans h.output,Nat.le_trans h.size g.size,fun k hk hne => (g.block k (Nat.lt_of_lt_of_le hk h.size) (fun e => by rcases hr k e.symm with hb | hb;exact hne hb;omega)).trans (h.block k hk hne)⟩
theorem Chg.to {w0 w w':World} {O:Nat -> Prop} {B:Nat} (h:Chg w w' O) (hb:Below B w0 w) (hB:B <= w.heap.size) (hO:∀ k,O k -> B <= k):Below B w0 w':=
  hb.trans ⟨h.os,h.tape,h.output,h.size,fun k hk => h.block k (Nat.lt_of_lt_of_le hk hB) (fun ho => by have:=hO k ho;omega)⟩
theorem Chg.of {w w':World} (g:Below w.heap.size w w') (O:Nat -> Prop):Chg w w' O:=(Chg.refl w O).below g
theorem _root_.Go.Proofs.YtjmpjfikcgccdaaGreatDoor.Blk.chg {w w':World} {O:Nat -> Prop} {b:Nat} {arr:Array Value} {T:TypeId} (h:Blk w b arr T) (hc:Chg w w' O) (hb:¬ O b):Blk w' b arr T:=by
  have:=h.lt
  unfold Blk at *;rw [hc.block b this hb];exact h
def wrC (x:Nat × (Nat -> UInt8)):List Value:=.int .i64 (x.1:Int) :: (tb 256 x.2).toList
theorem wrC_len (x:Nat × (Nat -> UInt8)):(wrC x).length = 257:=by simp [wrC,tb_size]
def wrsC (W:List (Nat × (Nat -> UInt8))):List Value:=W.flatMap wrC
theorem wrsC_cut (W:List (Nat × (Nat -> UInt8))):∀ (i:Nat) (x:Nat × (Nat -> UInt8)),W[i]? = some x -> ((wrsC W).drop (i * 257)).take 257 = wrC x:=by
  induction W with
  | nil => intro i x h;simp at h
  | cons y W ih =>
    intro i x h
    match i with
    | 0 =>
      simp at h;subst h
      simp only [wrsC,List.flatMap_cons,Nat.zero_mul,List.drop_zero]
      rw [List.take_append_of_le_length (by rw [wrC_len];omega),List.take_of_length_le (by rw [wrC_len];omega)]
    | i + 1 =>
      simp at h
      have:=ih i x h
      simp only [wrsC,List.flatMap_cons] at *
      rw [show (i + 1) * 257 = (wrC y).length + i * 257 from by rw [wrC_len];omega,List.drop_append,List.drop_eq_nil_of_le (by omega),List.nil_append,Nat.add_sub_cancel_left]
      exact this
theorem wrsC_snoc (W:List (Nat × (Nat -> UInt8))) (x:Nat × (Nat -> UInt8)):wrsC W ++ wrC x = wrsC (W ++ [x]):=by simp [wrsC]
theorem wrC_one (x:Nat × (Nat -> UInt8)):∀ u ∈ wrC x,u.oneCell' = true:=by
  intro u hu
  simp only [wrC,List.mem_cons] at hu
  rcases hu with rfl | hu
  · rfl
  · exact tb_one _ _ u hu
structure Dev (w:World) (O:Nat -> Prop) (b:Nat) (S:Nat -> Nat -> UInt8) (W:List (Nat × (Nat -> UInt8))) (F:Int) (v:Value) (lf:Int):Prop where
  blk:Blk w b (devA S v (decide (0 <= F)) lf) 117
  left:0 <= F -> lf = F
  top:F <= 9223372036854775807
  row:w.ownsRow 0 168 257 v W.length (wrsC W)
  own:O b
  rown:∀ g,v.ownBlock = some g -> O g ∧ g ≠ b
  at':∀ p ∈ W,p.1 < 66
theorem Dev.mono {w:World} {O P:Nat -> Prop} {b:Nat} {S:Nat -> Nat -> UInt8} {W:List (Nat × (Nat -> UInt8))} {F:Int} {v:Value} {lf:Int} (h:Dev w O b S W F v lf) (hp:∀ k,O k -> P k):Dev w P b S W F v lf:=
  ⟨h.blk,h.left,h.top,h.row,hp _ h.own,fun g hg => ⟨hp _ (h.rown g hg).1,(h.rown g hg).2⟩,h.at'⟩
theorem ownsRow_lt {w:World} {B:Nat} {e:TypeId} {z:Nat} {v:Value} {n:Nat} {xs:List Value} (h:w.ownsRow B e z v n xs):∀ g,v.ownBlock = some g -> B <= g ∧ g < w.heap.size:=by
  intro g hg
  obtain ⟨_,h2⟩:=h
  rcases h2 with ⟨h2,_⟩ | ⟨g',cap,cur,hv,hb,hh,_⟩
  · rw [h2] at hg;cases hg
  · rw [hv] at hg;simp only [Value.ownBlock,Option.some.injEq] at hg
    subst hg
    refine ⟨hb,?_⟩
    rcases Nat.lt_or_ge g' w.heap.size with h' | h'
    · exact h'
    · simp [Array.getElem?_eq_none h'] at hh
theorem ownsRow_same {w w':World} {B:Nat} {e:TypeId} {z:Nat} {v:Value} {n:Nat} {xs:List Value} (h:w.ownsRow B e z v n xs) (hs:∀ g,v.ownBlock = some g -> w'.heap[g]? = w.heap[g]?):w'.ownsRow B e z v n xs:=by
  obtain ⟨h1,h2⟩:=h
  refine ⟨h1,?_⟩
  rcases h2 with h2 | ⟨g,cap,cur,hv,hg,hh,r⟩
  · exact Or.inl h2
  · refine Or.inr ⟨g,cap,cur,hv,hg,?_,r⟩
    rw [hs g (by rw [hv];rfl)];exact hh
theorem Dev.chg {w w':World} {O P:Nat -> Prop} {b:Nat} {S:Nat -> Nat -> UInt8} {W:List (Nat × (Nat -> UInt8))} {F:Int} {v:Value} {lf:Int} (h:Dev w O b S W F v lf) (hc:Chg w w' P) (hd:∀ k,O k -> ¬ P k):Dev w' O b S W F v lf:=
  ⟨h.blk.chg hc (hd _ h.own),h.left,h.top,ownsRow_same h.row fun g hg => hc.block g (ownsRow_lt h.row g hg).2 (hd g (h.rown g hg).1),h.own,h.rown,h.at'⟩
theorem Dev.below {w w':World} {O:Nat -> Prop} {b:Nat} {S:Nat -> Nat -> UInt8} {W:List (Nat × (Nat -> UInt8))} {F:Int} {v:Value} {lf:Int} (h:Dev w O b S W F v lf) (hb:Below w.heap.size w w'):Dev w' O b S W F v lf:=
  h.chg (P:=fun _ => False) (Chg.of hb _) (fun _ _ h => h)
section
variable {w:World} {O:Nat -> Prop} {b:Nat} {S:Nat -> Nat -> UInt8} {W:List (Nat × (Nat -> UInt8))} {F:Int} {v:Value} {lf:Int}
theorem Dev.c0 (h:Dev w O b S W F v lf):w.cell? ⟨b,16896,none⟩ = some v:=by rw [h.blk.cell,devA_0]
theorem Dev.c1 (h:Dev w O b S W F v lf):w.cell? ⟨b,16897,none⟩ = some (.bool (decide (0 <= F))):=by rw [h.blk.cell,devA_1]
theorem Dev.c2 (h:Dev w O b S W F v lf):w.cell? ⟨b,16898,none⟩ = some (.int .i64 lf):=by rw [h.blk.cell,devA_2]
end
theorem dnew_any (w:World):Calls Tryz.prog 10 #[] w fun e w' => e = .returned (.pointer (some ⟨w.heap.size,0,none⟩)) ∧ Dev w' (fun k => k = w.heap.size) w.heap.size (fun _ _ => 0) [] (-1) (.slice none 0 0) 0 ∧ Below w.heap.size w w' ∧ w'.heap.size = w.heap.size + 1:=by
  go_enter Tryz.func10,Tryz.ntmps10
  go_wp2
  go_ret
  refine ⟨rfl,⟨?_,fun h => by omega,by decide,⟨rfl,Or.inl ⟨rfl,rfl⟩⟩,rfl,(fun g hg => by cases hg),(fun p hp => by cases hp)⟩,(Below.refl _ _).alloc (Nat.le_refl _) _,by simp⟩
  rw [zeroDev]
  exact Blk.new _ _ _
theorem has_any (b:Nat) (at':Int) (w:World):Calls Tryz.prog 324 #[.pointer (some ⟨b,0,none⟩),.int .i64 at'] w fun e w' => e = .returned (.bool (decide (0 <= at' ∧ at' < 66))) ∧ w' = w:=by
  by_cases h1:0 <= at'
  · by_cases h2:at' < 66
    · go_enter Tryz.func324,Tryz.ntmps324
      go_wp2
      go_ret
      simp [h1,h2]
    · have d2:decide (at' < 66) = false:=by simpa using h2
      go_enter Tryz.func324,Tryz.ntmps324
      go_wp2
      go_ret
      simp
  · have d1:decide (0 <= at') = false:=by simpa using h1
    go_enter Tryz.func324,Tryz.ntmps324
    go_wp2
    go_ret
    simp
theorem Dev.put {w w':World} {O:Nat -> Prop} {b:Nat} {S S':Nat -> Nat -> UInt8} {W:List (Nat × (Nat -> UInt8))} {F F':Int} {v:Value} {lf lf':Int} (h:Dev w O b S W F v lf) (hu:Upd w w' b) (hb:Blk w' b (devA S' v (decide (0 <= F')) lf') 117) (hl:0 <= F' -> lf' = F') (ht:F' <= 9223372036854775807):Dev w' O b S' W F' v lf':=
  ⟨hb,hl,ht,ownsRow_same h.row fun g hg => hu.block g (h.rown g hg).2,h.own,h.rown,h.at'⟩
theorem Dev.cleared {w w':World} {O:Nat -> Prop} {b:Nat} {S S':Nat -> Nat -> UInt8} {W:List (Nat × (Nat -> UInt8))} {F F':Int} {v:Value} {lf lf':Int} (h:Dev w O b S W F v lf) (hb:Blk w' b (devA S' (.slice none 0 0) (decide (0 <= F')) lf') 117) (hl:0 <= F' -> lf' = F') (ht:F' <= 9223372036854775807):Dev w' O b S' [] F' (.slice none 0 0) lf':=
  ⟨hb,hl,ht,⟨rfl,Or.inl ⟨rfl,rfl⟩⟩,h.own,(fun g hg => by cases hg),(fun p hp => by cases hp)⟩
def burnt (F:Int):Int:=if 0 < F then F - 1 else F
set_option maxHeartbeats 400000 in
theorem burn_any (b:Nat) (O:Nat -> Prop) (S:Nat -> Nat -> UInt8) (W:List (Nat × (Nat -> UInt8))) (F:Int) (v:Value) (lf:Int) (w:World) (h:Dev w O b S W F v lf) :
    Calls Tryz.prog 325 #[.pointer (some ⟨b,0,none⟩)] w fun e w' => e = .returned (.bool (decide (F ≠ 0))) ∧ (∃ l',Dev w' O b S W (burnt F) v l') ∧ Upd w w' b:=by
  have c1:=h.c1
  have c2:=h.c2
  have fz:=fun j => h.blk.frozen j
  have ht:=h.top
  by_cases hF:0 <= F
  · have d1:decide (0 <= F) = true:=by simpa using hF
    obtain rfl:=h.left hF
    rw [d1] at c1
    by_cases h0:lf = 0
    · subst h0
      go_enter Tryz.func325,Tryz.ntmps325
      go_wp2
      go_ret
      exact ⟨rfl,⟨_,h⟩,Upd.refl _ _⟩
    · have d0:decide (lf = 0) = false:=by simpa using h0
      have dt:decide (lf ≠ 0) = true:=by simpa using h0
      have hp:0 < lf:=by omega
      have hw:wrap64 (lf - 1) = lf - 1:=by unfold wrap64;omega
      rw [dt]
      go_enter Tryz.func325,Tryz.ntmps325
      go_wp2
      go_ret
      refine ⟨rfl,⟨lf - 1,?_⟩,setCell_upd _ _ _ _⟩
      have hb:=h.blk.set 16898 (.int .i64 (lf - 1))
      rw [devA_set2] at hb
      have e:decide (0 <= burnt lf) = decide (0 <= lf):=by unfold burnt;rw [if_pos hp];simp;omega
      refine h.put (setCell_upd _ _ _ _) (by rw [e];exact hb) (fun _ => by unfold burnt;rw [if_pos hp]) (by unfold burnt;rw [if_pos hp];omega)
  · have d1:decide (0 <= F) = false:=by simpa using hF
    rw [d1] at c1
    go_enter Tryz.func325,Tryz.ntmps325
    go_wp2
    go_ret
    refine ⟨?_,⟨lf,?_⟩,Upd.refl _ _⟩
    · simp;omega
    · rw [burnt,if_neg (by omega)];exact h
theorem addr_addO (b off i:Nat):(⟨b,off,none⟩:Addr).add i = ⟨b,off + i,none⟩:=by
  unfold Addr.add;split
  · rename_i e;subst e;rfl
  · rfl
theorem storeCells_at (P:Program) (w:World) (b off:Nat) (hl:b < w.heap.size) (T:TypeId):∀ (vs:List Value) (i:Nat) (c:Array Value),off + i + vs.length <= c.size -> (∀ v ∈ vs,v.oneCell' = true) ->
    (storeCells ⟨b,off,none⟩ vs i).run P (putBlk w b (.cells c T)) = .ok () (putBlk w b (.cells (foldset c (off + i) vs) T)):=by
  intro vs
  induction vs with
  | nil => intro i c _ _;rfl
  | cons v vs ih =>
    intro i c h hv
    simp only [List.length_cons] at h
    have hb:Blk (putBlk w b (.cells c T)) b c T:=by unfold Blk putBlk;simp [hl]
    simp only [storeCells,Sem.run_bind,addr_addO]
    rw [run_store _ _ _ _ _ (hv v (by simp)),hb.cell,Array.getElem?_eq_getElem (by omega)]
    simp only [hb.frozen,Bool.false_eq_true,if_false,Result.andThen_ok]
    rw [putBlk_setCell hl,ih _ _ (by simp;omega) (fun x hx => hv x (by simp [hx]))]
    rfl
section
variable {P:Program} {ops:Array Oper} {Q:Exit -> Act -> World -> Prop} {a:Act} {w:World} {rest:List Oper} {o:Oper}
theorem wpl_storeAt (hgd:o.guard = none) (hdn:o.dst = none) (t:TypeId) (x y:Operand) (ho:o.op = .store t x y) (n:Nat) (hi0:(P.info? t).map (·.size) = some n)
    (b off:Nat) (arr:Array Value) (T:TypeId) (vs:Array Value) (hx:a.eval x = .pointer (some ⟨b,off,none⟩)) (hy:a.eval y = .agg vs) (hvs:vs.size = n) (h1:∀ v ∈ vs.toList,v.oneCell' = true) (hb:Blk w b arr T) (hn:off + n <= arr.size)
    (h:∀ w',Upd w w' b -> Blk w' b (foldset arr off vs.toList) T -> wpList P ops Q rest a w'):wpList P ops Q (o :: rest) a w:=by
  refine wpList_plain hgd fun K hK => ?_
  obtain ⟨i,hi,hsize⟩:=Option.map_eq_some_iff.1 hi0
  unfold Oper.wp execOp
  have hl:=storeCells_at P w b off hb.lt T vs.toList 0 arr (by simp [hvs];omega) h1
  rw [putBlk_self hb] at hl
  simp only [ho,hx,hy,Instr.storeAt,Instr.sureAddr,storeVar,sizeOf,typeInfo,hi,hsize,Sem.run_bind,Sem.run_pure,run_program,Result.andThen_ok,Value.cells,hvs,ne_eq,not_true,if_false,hl]
  simp only [Oper.upon_skip,hdn,Act.put]
  exact hK _ _ (h _ (putBlk_upd _ _ _) (putBlk_blk hb))
theorem wpl_copyS (hgd:o.guard = none) (d x:Operand) (dT sT:TypeId) (ho:o.op = .call { callee:=.builtin .copy,args:=#[d,x],argTypes:=#[dT,sT] }) (elem:TypeId) (hu:P.underlying dT = some (.slice elem)) (hs:(P.info? elem).map (·.size) = some 1)
    (b n cap:Nat) (hd:a.eval d = .slice (some ⟨b,0,none⟩) n cap) (s:ByteArray) (hx:a.eval x = .string s) (T:TypeId) (hb:Blk w b (tb n (fun _ => 0)) T)
    (h:∀ k w',Upd w w' b -> Blk w' b (tb n (bAt s)) T -> wpList P ops Q rest (a.put o.dst (goInt k)) w'):wpList P ops Q (o :: rest) a w:=by
  refine wpList_plain hgd fun K hK => ?_
  obtain ⟨i,hi,hsize⟩:=Option.map_eq_some_iff.1 hs
  obtain ⟨vs,hvs⟩:∃ vs,vs = List.take (min s.size n) (List.map (fun b:UInt8 => Value.int IntKind.u8 (b.toNat:Int)) s.data.toList):=⟨_,rfl⟩
  have hln:vs.length = min s.size n:=by
    have:s.data.size = s.size:=rfl
    rw [hvs,List.length_take,List.length_map,Array.length_toList];omega
  have hl:=storeCells_at P w b 0 hb.lt T vs 0 (tb n (fun _ => 0)) (by rw [tb_size,hln];omega) (fun v hv => by
    rw [hvs] at hv
    obtain ⟨c,_,rfl⟩:=List.mem_map.1 (List.mem_of_mem_take hv)
    rfl)
  rw [putBlk_self hb] at hl
  have hB:foldset (tb n (fun _ => 0)) (0 + 0) vs = tb n (bAt s):=by
    apply Array.ext_getElem?;intro j
    rw [foldset_get _ _ _ _ (by rw [tb_size,hln];omega),hln]
    by_cases hj:j < n
    · rw [tb_get _ _ _ hj,tb_get _ _ _ hj]
      by_cases hjs:j < s.size
      · rw [if_pos (by omega),hvs,List.getElem?_take,if_pos (by omega)]
        simp only [Nat.add_zero,Nat.sub_zero,List.getElem?_map]
        unfold bAt
        rw [List.getD_eq_getElem?_getD,List.getElem?_eq_getElem (by simpa using hjs)]
        rfl
      · rw [if_neg (by omega)]
        unfold bAt
        rw [List.getD_eq_getElem?_getD,List.getElem?_eq_none (by simpa using hjs)]
        rfl
    · rw [if_neg (by omega),Array.getElem?_eq_none (by rw [tb_size];omega),Array.getElem?_eq_none (by rw [tb_size];omega)]
  rw [hB] at hl
  have hrun:(Builtin.copy_ #[dT,sT] o.type #[.slice (some ⟨b,0,none⟩) n cap,.string s]).run P w = .ok (goInt (min s.size n)) (putBlk w b (.cells (tb n (bAt s)) T)):=by
    rw [hvs] at hl
    simp [Builtin.copy_,run_underlying hu,Builtin.lenOf,Builtin.firstCells,sizeOf,typeInfo,hi]
    rw [show s.size.min n = min s.size n from rfl,hl]
    simp [Result.andThen]
    congr 1;omega
  unfold Oper.wp
  simp [execOp,ho,resolve,invoke,builtin,hd,hx,hrun,Result.andThen]
  exact hK _ _ (h _ _ (putBlk_upd _ _ _) (putBlk_blk hb))
end
theorem szBl:(Tryz.prog.info? 113).map (·.size) = some 256:=by kernel_rfl
theorem szU8:(Tryz.prog.info? 5).map (·.size) = some 1:=by kernel_rfl
theorem szWr:(Tryz.prog.info? 168).map (·.size) = some 257:=by kernel_rfl
attribute [local go_sem] zeroBlk
set_option maxRecDepth 100000 in
theorem blockOf_any (s:ByteArray) (w:World):Calls Tryz.prog 326 #[.string s] w fun e w' => e = .returned (.agg (tb 256 (bAt s))) ∧ Below w.heap.size w w':=by
  go_enter Tryz.func326,Tryz.ntmps326
  go_wp2_with (first
    | (refine wpl_copyS rfl _ _ 180 9 rfl 5 Tryz.underlying180 szU8 _ _ _ rfl s rfl 113 (Blk.new' _ _ _ (by simp)) ?_;intro k1 w1 hu1 j1)
    | (refine wpl_load rfl 113 _ rfl 256 5 Tryz.underlying113 szBl _ _ _ _ rfl j1 (by simp [tb_size]) ?_;rw [tb_all _ _ _ (Nat.zero_add _)])
    | (refine wpl_storeB rfl rfl 113 _ _ rfl 256 szBl _ _ _ _ rfl rfl (((Blk.new w (tb 256 fun _ => 0) 113).alloc _).upd hu1 (by simp)) (by simp [tb_size]) ?_;intro w2 hu2 j2))
  refine ret_cellB 2 113 rfl 256 5 Tryz.underlying113 szBl _ _ _ rfl j2 rfl ⟨rfl,?_⟩
  exact below_upd (below_upd (((Below.refl _ _).alloc (Nat.le_refl _) _).alloc (by simp) _) hu1 (by simp)) hu2 (by simp)
end Go.Proofs.YtjmpjfikcgccdaaGreatDoor.Dv
