/-
  Part of the proof of BaseFindsCard (P4 and on).
-/
import Derived.Test.YtjmpjfikcgccdaaGreatDoorB21
import Derived.OwnWalk
import Derived.Test.YtjmpjfikcgccdaaGreatDoorB20
import Derived.Test.YtjmpjfikcgccdaaGreatDoorB02
import Derived.Test.YtjmpjfikcgccdaaGreatDoorB04
namespace Go.Proofs.YtjmpjfikcgccdaaGreatDoor.Pg
open Go.RowKit
def shownT (key s:ByteArray):ByteArray:=sb 201 (xorF key (s.extract 8 20) (s.extract 20 221))
theorem shownT_size (key s:ByteArray):(shownT key s).size = 201:=sb_size _ _
def sealed (key:ByteArray) (id:Int) (s:ByteArray):Prop:=237 <= s.size ∧ (s.extract 221 237).toList = (mk 103 [key,numS id,s.extract 0 221]).toList
instance (key:ByteArray) (id:Int) (s:ByteArray):Decidable (sealed key id s):=by unfold sealed;infer_instance
def openC (key:ByteArray) (id:Int) (s:ByteArray):Int:=if key.size = 32 then (if sealed key id s then 0 else 15) else 1
def openN (key:ByteArray) (id:Int) (s:ByteArray):Int:=if key.size = 32 ∧ sealed key id s then verN s else 0
def openT (key:ByteArray) (id:Int) (s:ByteArray):ByteArray:=if key.size = 32 ∧ sealed key id s then cutT (shownT key s) else ⟨#[]⟩
set_option maxRecDepth 100000 in
set_option maxHeartbeats 1000000 in
theorem open_arg (key:ByteArray) (id:Int) (s:ByteArray) (w:World) (_hk:key.size <= 60) (h:¬ key.size = 32) :
    Calls Tryz.prog 298 #[.string key,.int .i64 id,.string s] w fun e w' => e = .returned (.tuple #[.int .i64 0,.string ⟨#[]⟩,.iface 34 (.int .i64 1)]) ∧ w' = w:=by
  have d0:decide ((key.size:Int) = 32) = false:=decide_eq_false (by omega)
  go_enter Tryz.func298,Tryz.ntmps298
  go_wp2
  go_ret3
  exact ⟨rfl,rfl⟩
set_option maxRecDepth 100000 in
set_option maxHeartbeats 1000000 in
theorem open_short (key:ByteArray) (id:Int) (s:ByteArray) (w:World) (hk:key.size = 32) (hs:s.size < 237) :
    Calls Tryz.prog 298 #[.string key,.int .i64 id,.string s] w fun e w' => e = .returned (.tuple #[.int .i64 0,.string ⟨#[]⟩,.iface 34 (.int .i64 15)]) ∧ Below w.heap.size w w':=by
  have d0:decide ((s.size:Int) < 237) = true:=decide_eq_true (by omega)
  have g0:Below w.heap.size w w.drew:=below_drewN (Below.refl _ _) 1
  go_enter Tryz.func298,Tryz.ntmps298
  go_wp2_with fail
  refine reg_in 13 mixed rfl ?_
  refine reg_take 0 15 (.string s) rfl rfl (by kernel_rfl) (fun _ _ _ h => h) (by kernel_rfl) (fun w => by go_simp) ?_
  refine reg_take 1 16 (.int .i64 s.size) rfl rfl (by kernel_rfl) (fun _ _ _ h => h) (by kernel_rfl) (fun w => by go_simp) ?_
  refine reg_take 2 17 (.bool true) rfl rfl (by kernel_rfl) (fun _ _ _ h => h) (by kernel_rfl) (fun w => by go_simp) ?_
  refine reg_take 3 18 (.bool true) rfl rfl (by kernel_rfl) (fun _ _ _ h => h) (by kernel_rfl) (fun w => by go_simp) ?_
  refine reg_skip 4 19 rfl rfl (by kernel_rfl) (fun _ _ _ h => h) (by kernel_rfl) ?_
  refine reg_skip 5 20 rfl rfl (by kernel_rfl) (fun _ _ _ h => h) (by kernel_rfl) ?_
  refine reg_skip 6 21 rfl rfl (by kernel_rfl) (fun _ _ _ h => h) (by kernel_rfl) ?_
  refine reg_skip 7 22 rfl rfl (by kernel_rfl) (fun _ _ _ h => h) (by kernel_rfl) ?_
  refine reg_skip 8 23 rfl rfl (by kernel_rfl) (fun _ _ _ h => h) (by kernel_rfl) ?_
  refine reg_skip 9 24 rfl rfl (by kernel_rfl) (fun _ _ _ h => h) (by kernel_rfl) ?_
  refine reg_skip 10 25 rfl rfl (by kernel_rfl) (fun _ _ _ h => h) (by kernel_rfl) ?_
  refine reg_skip 11 26 rfl rfl (by kernel_rfl) (fun _ _ _ h => h) (by kernel_rfl) ?_
  refine reg_take 12 27 (.bool true) rfl rfl (by kernel_rfl) (fun _ _ _ h => h) (by kernel_rfl) (fun w => by go_simp) ?_
  refine reg_end (by kernel_rfl) ?_
  simp only [Act.put,List.setIfInBounds_toArray,List.set_cons_succ,List.set_cons_zero]
  go_wp2_with fail
  go_ret3
  exact ⟨rfl,g0⟩
set_option maxRecDepth 100000 in
set_option maxHeartbeats 1000000 in
theorem open_spoilt (key:ByteArray) (id:Int) (s:ByteArray) (w:World) (hk:key.size = 32) (hs:237 <= s.size) (hz:s.size <= 300) (hK1:Sm.KB w) (hne:¬ (s.extract 221 237).toList = (mk 103 [key,numS id,s.extract 0 221]).toList) :
    Calls Tryz.prog 298 #[.string key,.int .i64 id,.string s] w fun e w' => e = .returned (.tuple #[.int .i64 0,.string ⟨#[]⟩,.iface 34 (.int .i64 15)]) ∧ Below w.heap.size w w':=by
  have hs':(237:Int) <= (s.size:Int):=by omega
  have hs1:(221:Int) <= (s.size:Int):=by omega
  have hs2:(20:Int) <= (s.size:Int):=by omega
  have d0:decide ((s.size:Int) < 237) = false:=decide_eq_false (by omega)
  have g0:Below w.heap.size w w.drew:=below_drewN (Below.refl _ _) 1
  have z1:(s.extract 0 221).size = 221:=by rw [ByteArray.size_extract];omega
  obtain ⟨H,hH⟩:∃ H,Hid (H = s.extract 0 221):=⟨_,rfl⟩
  obtain ⟨E,hE⟩:∃ E,Hid (E = s.extract 221 237):=⟨_,rfl⟩
  have eH:s.extract 0 221 = H:=hH.out.symm
  have eE:s.extract 221 237 = E:=hE.out.symm
  rw [eH] at z1
  have zH:H.size <= 300:=by omega
  obtain ⟨M,hM⟩:∃ M,Hid (M = mk 103 [key,numS id,H]):=⟨_,rfl⟩
  have d1:¬ E.toList = M.toList:=by rw [hE.out,hM.out,hH.out];exact hne
  go_enter Tryz.func298,Tryz.ntmps298
  go_wp2_with fail
  refine reg_in 13 mixed rfl ?_
  refine reg_take 0 15 (.string s) rfl rfl (by kernel_rfl) (fun _ _ _ h => h) (by kernel_rfl) (fun w => by go_simp) ?_
  refine reg_take 1 16 (.int .i64 s.size) rfl rfl (by kernel_rfl) (fun _ _ _ h => h) (by kernel_rfl) (fun w => by go_simp) ?_
  refine reg_take 2 17 (.bool false) rfl rfl (by kernel_rfl) (fun _ _ _ h => h) (by kernel_rfl) (fun w => by go_simp) ?_
  refine reg_take 3 18 (.bool false) rfl rfl (by kernel_rfl) (fun _ _ _ h => h) (by kernel_rfl) (fun w => by go_simp) ?_
  refine reg_take 4 19 (.string s) rfl rfl (by kernel_rfl) (fun _ _ _ h => h) (by kernel_rfl) (fun w => by go_simp) ?_
  refine reg_take 5 20 (.string E) rfl rfl (by kernel_rfl) (fun _ _ _ h => h) (by kernel_rfl) (fun w => by go_simp) ?_
  refine reg_take 6 21 (.string key) rfl rfl (by kernel_rfl) (fun _ _ _ h => h) (by kernel_rfl) (fun w => by go_simp) ?_
  refine reg_take 7 22 (.int .i64 id) rfl rfl (by kernel_rfl) (fun _ _ _ h => h) (by kernel_rfl) (fun w => by go_simp) ?_
  refine reg_take 8 23 (.string s) rfl rfl (by kernel_rfl) (fun _ _ _ h => h) (by kernel_rfl) (fun w => by go_simp) ?_
  refine reg_take 9 24 (.string H) rfl rfl (by kernel_rfl) (fun _ _ _ h => h) (by kernel_rfl) (fun w => by go_simp) ?_
  simp only [Act.put,List.setIfInBounds_toArray,List.set_cons_succ,List.set_cons_zero]
  refine reg_one 10 rfl (by kernel_rfl) (by kernel_rfl) (fun K hK => ?_)
  go_wp2_with (go_at_call 318;refine (pseal_any key id H _ (by omega) zH (hK1.below g0)).mono ?_;rintro e w1 ⟨rfl,g1⟩)
  rw [<- hM.out]
  refine reg_take 11 26 (.bool true) rfl rfl (by kernel_rfl) (fun _ _ _ h => h) (by kernel_rfl) (fun w => by go_simp) ?_
  refine reg_take 12 27 (.bool true) rfl rfl (by kernel_rfl) (fun _ _ _ h => h) (by kernel_rfl) (fun w => by go_simp) ?_
  refine reg_end (by kernel_rfl) ?_
  simp only [Act.put,List.setIfInBounds_toArray,List.set_cons_succ,List.set_cons_zero]
  go_wp2_with fail
  go_ret3
  exact ⟨rfl,g0.trans (g1.mono g0.size)⟩
set_option maxRecDepth 100000 in
set_option maxHeartbeats 1000000 in
theorem open_ok (key:ByteArray) (id:Int) (s:ByteArray) (w:World) (hk:key.size = 32) (hs:237 <= s.size) (hz:s.size <= 300) (hK1:Sm.KB w) (heq:(s.extract 221 237).toList = (mk 103 [key,numS id,s.extract 0 221]).toList) :
    Calls Tryz.prog 298 #[.string key,.int .i64 id,.string s] w fun e w' => e = .returned (.tuple #[.int .i64 (verN s),.string (cutT (shownT key s)),.nilIface]) ∧ Below w.heap.size w w':=by
  have hs':(237:Int) <= (s.size:Int):=by omega
  have hs1:(221:Int) <= (s.size:Int):=by omega
  have hs2:(20:Int) <= (s.size:Int):=by omega
  have d0:decide ((s.size:Int) < 237) = false:=decide_eq_false (by omega)
  have g0:Below w.heap.size w w.drew:=below_drewN (Below.refl _ _) 1
  have z1:(s.extract 0 221).size = 221:=by rw [ByteArray.size_extract];omega
  obtain ⟨H,hH⟩:∃ H,Hid (H = s.extract 0 221):=⟨_,rfl⟩
  obtain ⟨E,hE⟩:∃ E,Hid (E = s.extract 221 237):=⟨_,rfl⟩
  have eH:s.extract 0 221 = H:=hH.out.symm
  have eE:s.extract 221 237 = E:=hE.out.symm
  rw [eH] at z1
  have zH:H.size <= 300:=by omega
  obtain ⟨M,hM⟩:∃ M,Hid (M = mk 103 [key,numS id,H]):=⟨_,rfl⟩
  have d1:E.toList = M.toList:=by rw [hE.out,hM.out,hH.out];exact heq
  obtain ⟨N,hN⟩:∃ N,Hid (N = s.extract 8 20):=⟨_,rfl⟩
  obtain ⟨X,hX⟩:∃ X,Hid (X = s.extract 20 221):=⟨_,rfl⟩
  have eN:s.extract 8 20 = N:=hN.out.symm
  have eX:s.extract 20 221 = X:=hX.out.symm
  have zN:N.size = 12:=by rw [hN.out,ByteArray.size_extract];omega
  have zX:X.size = 201:=by rw [hX.out,ByteArray.size_extract];omega
  have eV:Hid (xorV key N X = .tuple #[.string (shownT key s),.nilIface]):=by
    unfold Hid xorV shownT;rw [if_pos ⟨hk,zN⟩,zX,hN.out,hX.out]
  have zS:=shownT_size key s
  generalize shownT key s = Y at *
  clear heq
  go_enter Tryz.func298,Tryz.ntmps298
  go_wp2_with fail
  refine reg_in 13 mixed rfl ?_
  refine reg_take 0 15 (.string s) rfl rfl (by kernel_rfl) (fun _ _ _ h => h) (by kernel_rfl) (fun w => by go_simp) ?_
  refine reg_take 1 16 (.int .i64 s.size) rfl rfl (by kernel_rfl) (fun _ _ _ h => h) (by kernel_rfl) (fun w => by go_simp) ?_
  refine reg_take 2 17 (.bool false) rfl rfl (by kernel_rfl) (fun _ _ _ h => h) (by kernel_rfl) (fun w => by go_simp) ?_
  refine reg_take 3 18 (.bool false) rfl rfl (by kernel_rfl) (fun _ _ _ h => h) (by kernel_rfl) (fun w => by go_simp) ?_
  refine reg_take 4 19 (.string s) rfl rfl (by kernel_rfl) (fun _ _ _ h => h) (by kernel_rfl) (fun w => by go_simp) ?_
  refine reg_take 5 20 (.string E) rfl rfl (by kernel_rfl) (fun _ _ _ h => h) (by kernel_rfl) (fun w => by go_simp) ?_
  refine reg_take 6 21 (.string key) rfl rfl (by kernel_rfl) (fun _ _ _ h => h) (by kernel_rfl) (fun w => by go_simp) ?_
  refine reg_take 7 22 (.int .i64 id) rfl rfl (by kernel_rfl) (fun _ _ _ h => h) (by kernel_rfl) (fun w => by go_simp) ?_
  refine reg_take 8 23 (.string s) rfl rfl (by kernel_rfl) (fun _ _ _ h => h) (by kernel_rfl) (fun w => by go_simp) ?_
  refine reg_take 9 24 (.string H) rfl rfl (by kernel_rfl) (fun _ _ _ h => h) (by kernel_rfl) (fun w => by go_simp) ?_
  simp only [Act.put,List.setIfInBounds_toArray,List.set_cons_succ,List.set_cons_zero]
  refine reg_one 10 rfl (by kernel_rfl) (by kernel_rfl) (fun K hK => ?_)
  go_wp2_with (go_at_call 318;refine (pseal_any key id H _ (by omega) zH (hK1.below g0)).mono ?_;rintro e w1 ⟨rfl,g1⟩)
  rw [<- hM.out]
  have g1n:=g0.trans (g1.mono g0.size)
  clear g1 g0
  refine reg_take 11 26 (.bool false) rfl rfl (by kernel_rfl) (fun _ _ _ h => h) (by kernel_rfl) (fun w => by go_simp) ?_
  refine reg_take 12 27 (.bool false) rfl rfl (by kernel_rfl) (fun _ _ _ h => h) (by kernel_rfl) (fun w => by go_simp) ?_
  refine reg_end (by kernel_rfl) ?_
  simp only [Act.put,List.setIfInBounds_toArray,List.set_cons_succ,List.set_cons_zero]
  clear d0 d1
  go_wp2_with fail
  have g2:Below w.heap.size w w1.drew:=below_drewN g1n 1
  refine reg_in 11 mixed rfl ?_
  refine reg_take 0 30 (.string key) rfl rfl (by kernel_rfl) (fun _ _ _ h => h) (by kernel_rfl) (fun w => by go_simp) ?_
  refine reg_take 1 31 (.string s) rfl rfl (by kernel_rfl) (fun _ _ _ h => h) (by kernel_rfl) (fun w => by go_simp) ?_
  refine reg_take 2 32 (.string N) rfl rfl (by kernel_rfl) (fun _ _ _ h => h) (by kernel_rfl) (fun w => by go_simp) ?_
  refine reg_take 3 33 (.string s) rfl rfl (by kernel_rfl) (fun _ _ _ h => h) (by kernel_rfl) (fun w => by go_simp) ?_
  refine reg_take 4 34 (.string X) rfl rfl (by kernel_rfl) (fun _ _ _ h => h) (by kernel_rfl) (fun w => by go_simp) ?_
  simp only [Act.put,List.setIfInBounds_toArray,List.set_cons_succ,List.set_cons_zero]
  refine reg_one 5 rfl (by kernel_rfl) (by kernel_rfl) (fun K hK => ?_)
  go_wp2_with (go_at_call 316;refine (xor_any key N X _ (by omega) (by omega) (by omega)).mono ?_;rintro e w3 ⟨rfl,g3⟩)
  rw [eV.out]
  have g3n:=g2.trans (g3.mono g2.size)
  refine reg_take 6 29 (.tuple #[.string Y,.nilIface]) rfl rfl (by kernel_rfl) (fun _ _ _ h => h) (by kernel_rfl) (fun w => by go_simp) ?_
  refine reg_take 7 36 (.string Y) rfl rfl (by kernel_rfl) (fun _ _ _ h => h) (by kernel_rfl) (fun w => by go_simp) ?_
  refine reg_take 8 37 (.nilIface) rfl rfl (by kernel_rfl) (fun _ _ _ h => h) (by kernel_rfl) (fun w => by go_simp) ?_
  refine reg_take 9 9 (.string Y) rfl rfl (by kernel_rfl) (fun _ _ _ h => h) (by kernel_rfl) (fun w => by go_simp) ?_
  refine reg_take 10 10 (.nilIface) rfl rfl (by kernel_rfl) (fun _ _ _ h => h) (by kernel_rfl) (fun w => by go_simp) ?_
  refine reg_end (by kernel_rfl) ?_
  simp only [Act.put,List.setIfInBounds_toArray,List.set_cons_succ,List.set_cons_zero]
  go_wp2_with fail
  refine (versionOf_any s _ (by omega) (by omega)).mono ?_
  rintro e wv ⟨rfl,hwv⟩
  subst hwv
  go_wp2_with fail
  refine (unpadded_any Y _ zS).mono ?_
  rintro e wu ⟨rfl,hwu⟩
  subst hwu
  go_wp2_with fail
  go_ret3
  exact ⟨rfl,g3n⟩
theorem open_any (key:ByteArray) (id:Int) (s:ByteArray) (w:World) (hk:key.size <= 60) (hs:s.size <= 300) (hK:Sm.KB w) :
    Calls Tryz.prog 298 #[.string key,.int .i64 id,.string s] w fun e w' => e = .returned (.tuple #[.int .i64 (openN key id s),.string (openT key id s),errV (openC key id s)]) ∧ Below w.heap.size w w':=by
  unfold openN openT openC errV
  by_cases h:key.size = 32
  · by_cases hz:sealed key id s
    · simp only [h,hz,and_self,if_true]
      exact open_ok key id s w h hz.1 hs hK hz.2
    · simp only [h,hz,and_false,if_true,if_false]
      by_cases h2:237 <= s.size
      · exact open_spoilt key id s w h h2 hs hK fun e => hz ⟨h2,e⟩
      · exact open_short key id s w h (by omega)
  · simp only [h,false_and,if_false]
    exact (open_arg key id s w hk h).mono fun e w' ⟨he,hw⟩ => ⟨he,by rw [hw];exact Below.refl _ _⟩
end Go.Proofs.YtjmpjfikcgccdaaGreatDoor.Pg
namespace Go.Proofs.YtjmpjfikcgccdaaGreatDoor.Tr
open Go.RowKit
def mk2 (a b:ByteArray):ByteArray:=(Sm.sumS ⟨(Sm.markTo 117 [a,b] 2).toArray⟩).extract 0 16
theorem mk2_size (a b:ByteArray):(mk2 a b).size = 16:=by
  have h:(Sm.sumS ⟨(Sm.markTo 117 [a,b] 2).toArray⟩).size = 32:=sb_size _ _
  unfold mk2;rw [ByteArray.size_extract,h];rfl
def R (l:Nat -> ByteArray):Nat -> Nat -> ByteArray
  | 0,j => l j
  | t + 1,j => mk2 (R l t (2 * j)) (R l t (2 * j + 1))
theorem R_size (l:Nat -> ByteArray) (h:∀ j,j < 32 -> (l j).size = 16) (t j:Nat) (hj:j < 32):(R l t j).size = 16:=by
  cases t with
  | zero => exact h j hj
  | succ t => exact mk2_size _ _
end Go.Proofs.YtjmpjfikcgccdaaGreatDoor.Tr
namespace Go.Proofs.YtjmpjfikcgccdaaGreatDoor.Tr
open Go.RowKit Go.Shelf
theorem mixed:Tryz.prog.follows .mixedOrders = true:=by kernel_rfl
def Tx (w:World) (a:Option Addr) (f:Nat -> ByteArray) (n:Nat):Prop:=
  ∀ i,i < n -> ∃ g o,a = some ⟨g,o,none⟩ ∧ g < w.heap.size ∧ w.cell? ⟨g,o + i,none⟩ = some (.string (f i))
theorem Tx.below {w w':World} {a:Option Addr} {f:Nat -> ByteArray} {n:Nat} (h:Tx w a f n) (hb:Below w.heap.size w w'):Tx w' a f n:=fun i hi => by
  obtain ⟨g,o,h1,h2,h3⟩:=h i hi
  exact ⟨g,o,h1,Nat.lt_of_lt_of_le h2 hb.size,by rw [hb.cell h2];exact h3⟩
theorem Tx.drew {w:World} {a:Option Addr} {f:Nat -> ByteArray} {n:Nat} (h:Tx w a f n):Tx w.drew a f n:=h
theorem Tx.drewN {w:World} {a:Option Addr} {f:Nat -> ByteArray} {n:Nat} (h:Tx w a f n) (k:Nat):Tx (w.drewN k) a f n:=h
theorem Tx.congr {w:World} {a:Option Addr} {f g:Nat -> ByteArray} {n:Nat} (h:Tx w a f n) (e:∀ i,i < n -> f i = g i):Tx w a g n:=fun i hi => by
  rw [<- e i hi];exact h i hi
theorem parts2 {w:World} {b:Nat} {T:TypeId} {x y:ByteArray} (h:Blk w b #[.string x,.string y] T):Sm.Parts w (some ⟨b,0,none⟩) 2 [x,y]:=by
  refine ⟨rfl,fun j hj => ?_⟩
  have hc:=h.cell j
  match j,hj with
  | 0,_ => exact ⟨b,0,x,rfl,h.lt,hc,rfl⟩
  | 1,_ => exact ⟨b,0,y,rfl,h.lt,hc,rfl⟩
theorem all2 {x y:ByteArray} (hx:x.size <= 300) (hy:y.size <= 300):∀ p ∈ [x,y],p.size <= 300:=by
  intro p hp
  simp only [List.mem_cons,List.not_mem_nil,or_false] at hp
  rcases hp with rfl | rfl <;> assumption
theorem mark2 {k:Int} (hk:k = 117) {b:Nat} {T:TypeId} {x y:ByteArray} {w:World} (h:Blk w b #[.string x,.string y] T) (hx:x.size <= 300) (hy:y.size <= 300) (hK:Sm.KB w) :
    Calls Tryz.prog 273 #[.int .u8 k,.slice (some ⟨b,0,none⟩) 2 2] w fun e w' => e = .returned (.string (mk2 x y)) ∧ Below w.heap.size w w':=by
  subst hk;exact Sm.mark_any 117 _ 2 2 _ w (parts2 h) (by decide) (all2 hx hy) hK
theorem below_alloc (w:World) (o:Obj):Below w.heap.size w (w.alloc o):=(Below.refl _ _).alloc (Nat.le_refl _) o
set_option maxRecDepth 100000 in
set_option maxHeartbeats 400000 in
theorem bind_any (x y:ByteArray) (w:World) (hx:x.size <= 300) (hy:y.size <= 300) (hK:Sm.KB w) :
    Calls Tryz.prog 365 #[.string x,.string y] w fun e w' => e = .returned (.string (mk2 x y)) ∧ Below w.heap.size w w':=by
  go_enter Tryz.func365,Tryz.ntmps365
  go_wp2_with fail
  have g:=below_alloc w (.cells #[.string x,.string y] 9)
  refine (mark2 rfl (Blk.new w _ 9) hx hy (hK.below g)).mono ?_
  rintro e w2 ⟨rfl,g2⟩
  go_wp2
  go_ret
  exact ⟨rfl,g.trans (g2.mono g.size)⟩
def marksB (f:Nat -> ByteArray) (n:Nat):Bool:=(List.range n).all fun i => decide ((f i).size = 16)
theorem marksB_spec {f:Nat -> ByteArray} {n:Nat}:marksB f n = true ↔ ∀ i,i < n -> (f i).size = 16:=by
  unfold marksB;simp
theorem marksB_not {f:Nat -> ByteArray} {n i:Nat} (hi:i < n) (h:¬ (f i).size = 16):marksB f n = false:=by
  cases e:marksB f n with
  | false => rfl
  | true => exact absurd (marksB_spec.1 e i hi) h
theorem are1_any (s:ByteArray) (w:World) (_hs:s.size <= 60):Calls Tryz.prog 363 #[.string s] w fun e w' => e = .returned (.bool (decide (s.size ≠ 16))) ∧ w' = w:=by
  go_enter Tryz.func363,Tryz.ntmps363
  go_wp2
  go_ret
  refine ⟨?_,rfl⟩
  congr 2
  by_cases h:s.size = 16
  · simp [h]
  · simp [h];omega
set_option maxHeartbeats 400000 in
theorem indexFunc_any (a:Option Addr) (n cap:Nat) (f:Nat -> ByteArray) (w:World) (h:Tx w a f n) (hl:n <= 40) (hs:∀ i,i < n -> (f i).size <= 60) :
    Calls Tryz.prog 375 #[.slice a n cap,.func (.func 363) #[] #[]] w fun e w' => (∃ j:Int,e = .returned (.int .i64 j) ∧ decide (0 <= j) = !marksB f n) ∧ w' = w:=by
  go_enter Tryz.func375,Tryz.ntmps375
  go_wp2_with fail
  go_loop [8] (fun i => ∃ k:Nat,k <= n ∧ i = .int .i64 k ∧ ∀ j,j < k -> (f j).size = 16) (fun i => n - (intOf i).toNat)
  case atStart => exact ⟨0,by omega,rfl,fun j hj => absurd hj (Nat.not_lt_zero _)⟩
  case round =>
    obtain ⟨k,hk,rfl,hp⟩:=hrel
    by_cases hlt:k < n
    · obtain ⟨g,o,rfl,hg,hc⟩:=h k hlt
      have hsz:=hs k hlt
      have hlt':(k:Int) < (n:Int):=by omega
      by_cases hx:(f k).size = 16
      · have dx:decide ((f k).size ≠ 16) = false:=by simp [hx]
        have hp':∀ j,j < k + 1 -> (f j).size = 16:=fun j hj => by
          by_cases e:j = k
          · rw [e];exact hx
          · exact hp j (by omega)
        have HP:Hid (∀ j,j < k + 1 -> (f j).size = 16):=hp'
        clear hp hp' hx
        generalize f k = x at *
        go_wp2_with (go_at_call 363;refine (are1_any _ _ hsz).mono ?_;rintro e w' ⟨rfl,rfl⟩;rw [dx])
        go_round
        case rel => exact ⟨k + 1,by omega,by go_num,HP.out⟩
        case measure => simp [intOf];omega
      · have dx:decide ((f k).size ≠ 16) = true:=by simp [hx]
        have hm:Hid (marksB f n = false):=marksB_not hlt hx
        clear hp hx
        generalize f k = x at *
        go_wp2_with (go_at_call 363;refine (are1_any _ _ hsz).mono ?_;rintro e w' ⟨rfl,rfl⟩;rw [dx])
        go_ret
        refine ⟨⟨k,rfl,?_⟩,rfl⟩
        rw [hm.out];simp
    · have hk':k = n:=by omega
      subst hk'
      have hm:Hid (marksB f k = true):=marksB_spec.2 hp
      clear hp
      go_wp2_with fail
      go_ret
      refine ⟨⟨-1,rfl,?_⟩,rfl⟩
      rw [hm.out];decide
theorem containsFunc_any (a:Option Addr) (n cap:Nat) (f:Nat -> ByteArray) (w:World) (h:Tx w a f n) (hl:n <= 40) (hs:∀ i,i < n -> (f i).size <= 60) :
    Calls Tryz.prog 362 #[.slice a n cap,.func (.func 363) #[] #[]] w fun e w' => e = .returned (.bool (!marksB f n)) ∧ w' = w:=by
  go_enter Tryz.func362,Tryz.ntmps362
  go_wp2_with (go_at_call 375;refine (indexFunc_any _ _ _ _ _ h hl hs).mono ?_;rintro e w' ⟨⟨j,rfl,hj⟩,rfl⟩)
  go_ret
  refine ⟨?_,rfl⟩
  rw [<- hj];rfl
theorem are_any (a:Option Addr) (n cap:Nat) (f:Nat -> ByteArray) (c:Nat) (w:World) (h:Tx w a f n) (hl:n <= 40) (hs:∀ i,i < n -> (f i).size <= 60) (hc:c <= 40) :
    Calls Tryz.prog 343 #[.slice a n cap,.int .i64 (c:Int)] w fun e w' => e = .returned (.bool (decide (n = c) && marksB f n)) ∧ w' = w:=by
  by_cases hn:n = c
  · subst hn
    go_enter Tryz.func343,Tryz.ntmps343
    go_wp2_with (go_at_call 362;refine (containsFunc_any _ _ _ _ _ h hl hs).mono ?_;rintro e w' ⟨rfl,rfl⟩)
    go_ret
    refine ⟨?_,rfl⟩
    simp
  · have d:((n:Int) == (c:Int)) = false:=by simp;omega
    go_enter Tryz.func343,Tryz.ntmps343
    go_wp2
    go_ret
    refine ⟨?_,rfl⟩
    simp [hn]
theorem pairs_any (v:Value) (w:World) (hv:v.oneCell' = true):Calls Tryz.prog 364 #[v] w fun e w' => e = .returned (.func (.func 376) #[] #[.pointer (some ⟨w.heap.size,0,none⟩)]) ∧ w' = w.alloc (.cells #[v] 108):=by
  go_enter Tryz.func364,Tryz.ntmps364
  go_wp2
  go_ret
  exact ⟨rfl,rfl⟩
attribute [local go_sem] Oper.semAt_some
theorem drewN_ind (J:World -> Prop) (h:∀ W,J W -> J W.drew) (W:World) (h0:J W) (k:Nat):J (W.drewN k):=by
  induction k with
  | zero => exact h0
  | succ k ih => exact h _ ih
set_option maxRecDepth 100000 in
set_option maxHeartbeats 1000000 in
theorem pairs_gives (n Bp:Nat) (_hn:1 <= n) (a:Option Addr) (M c N:Nat) (hM:Hid (M = 2 * N)) (f:Nat -> ByteArray) (hN:N <= 16) (I:Nat -> World -> Prop) (hI:∀ i W,I i W -> W.cell? ⟨Bp,0,none⟩ = some (.slice a M c) ∧ Tx W a f M) :
    Gives Fence.wide n Tryz.prog 376 #[.pointer (some ⟨Bp,0,none⟩)] (fun i => #[.string (f (2 * i)),.string (f (2 * i + 1))]) N I:=by
  intro l J W hJI hJd hY h0
  refine callsIn_of_wp Tryz.func376 rfl trivial ?_ rfl
  simp only [Tryz.ntmps376,List.size_toArray,List.length_cons,List.length_nil,Nat.reduceAdd,Nat.reduceSub,Array.replicate_succ,Array.replicate_zero,List.push_toArray,List.append_toArray,List.nil_append,List.cons_append]
  gi_wp2
  gi_loopw [3] (fun p wr => ∃ i:Nat,i <= N ∧ p = .int .i64 (2 * (i:Int) + 1) ∧ J i wr) (fun p _ => (2 * (N:Int) + 1 - intOf p).toNat)
  case atStart => exact ⟨0,by omega,by simp,h0⟩
  case round =>
    obtain ⟨i,hi,rfl,hJ⟩:=hrel
    obtain ⟨c0,hT⟩:=hI i wr (hJI i wr hJ)
    by_cases hlt:i < N
    · obtain ⟨u,hu⟩:∃ u:Nat,u = 2 * i:=⟨_,rfl⟩
      obtain ⟨t,ht⟩:∃ t:Nat,t = 2 * i + 1:=⟨_,rfl⟩
      have hMo:=hM.out
      have e1:2 * (i:Int) + 1 = (t:Int):=by omega
      have htu:(t:Int) - 1 = (u:Int):=by omega
      have htM:(t:Int) < (M:Int):=by omega
      have huM:(u:Int) < (M:Int):=by omega
      have hM32:M <= 32:=by omega
      have e2:Hid ((t:Int) + 2 = 2 * ((i + 1:Nat):Int) + 1):=by unfold Hid;omega
      have e3:Hid (t <= 2 * N):=by unfold Hid;omega
      obtain ⟨g,o,rfl,hg,cu⟩:=hT u (by omega)
      obtain ⟨g',o',hgo,_,ct⟩:=hT t (by omega)
      obtain ⟨rfl,rfl⟩:g = g' ∧ o = o':=by injection hgo with h;injection h with h1 h2;exact ⟨h1,h2⟩
      have hY':=fun k => hY i (wr.drewN k) hlt (drewN_ind (J i) (hJd i) wr hJ k)
      have ht':t = u + 1:=by omega
      simp only [<- hu,<- ht'] at hY'
      rw [e1]
      generalize f u = x at *
      generalize f t = y at *
      clear hT hY hgo hg hI hJI h0 e1
      have hu0:(0:Int) <= (u:Int):=by omega
      have ht0:(0:Int) <= (t:Int):=by omega
      clear hu ht hMo ht'
      gi_wp2
      refine regIn_head 10 12 (fun w' => ∃ n,w' = wr.drewN n) wide_none mixed rfl (by kernel_rfl) (by kernel_rfl) ⟨1,rfl⟩ ?_
      simp only [List.take_succ_cons,List.take_zero]
      repeat (go_big_quiet_step (fail))
      refine wpQuiet_nil ?_
      rintro w' ⟨k,rfl⟩
      obtain ⟨fn,tmps,assign,body,hy,hR⟩:=hY' k
      refine regIn_one 10 rfl (by kernel_rfl) (by kernel_rfl) fun K hK => ?_
      refine opIn_round wide_none (fun c => by simp) 20 rfl l fn tmps assign body (by go_simp) hR ?_
      rintro e w' ⟨rfl,hJ3⟩
      refine ⟨_,rfl,hK _ _ ?_⟩
      clear hK K
      refine regIn_one 11 rfl (by kernel_rfl) (by kernel_rfl) fun K hK => ?_
      refine opIn_value wide_none (fun c => by simp) 21 rfl (.bool false) (by go_simp) (hK _ _ ?_)
      clear hK K
      refine regIn_end (by kernel_rfl) ?_
      simp only [Act.put,List.setIfInBounds_toArray,List.set_cons_succ,List.set_cons_zero]
      gi_wp2
      go_light
      exact ⟨⟨i + 1,by omega,congrArg (Value.int .i64) e2.out,hJ3⟩,by have:=e3.out;simp [intOf];omega⟩
    · obtain rfl:i = N:=by omega
      have hMo:=hM.out
      have d:decide (2 * (i:Int) + 1 < (M:Int)) = false:=decide_eq_false (by omega)
      clear hMo
      gi_wp2
      go_end0
      exact ⟨⟨_,rfl⟩,hJ⟩
end Go.Proofs.YtjmpjfikcgccdaaGreatDoor.Tr
namespace Go.Proofs.YtjmpjfikcgccdaaGreatDoor.Tr
open Go.RowKit Go.Shelf
attribute [local go_sem] Oper.semAt_some
section
variable {P:Program} {l:List Oper} {Q:Exit -> Act -> World -> Prop} {fuel:Nat} {listed:Array Bool} {a:Act} {w:World}
theorem reg_seq (p:Nat) (hp:(l.drop p).length = fuel) (hB:Region.seqB .any l.toArray fuel p listed = true) (h:wpList P l.toArray Q (l.drop p) a w):wpAny P .any l.toArray Q fuel listed a w:=by
  subst hp
  exact wpAny_of_seq (md:=.any) (Q':=Q) (l.drop p) p _ a w (fun j => by rw [List.getElem?_drop,List.getElem?_toArray]) hB h
end
theorem infoStr:(Tryz.prog.info? 9).map (fun i => (i.zero,i.size,i.bytes)) = some (some (.string ByteArray.empty),1,16):=by kernel_rfl
def zN (n:Nat):Array Value:=madeCells (Value.string ByteArray.empty).cells (n * 1)
theorem mkN (n:Nat) (hn:n <= 16) (w:World):(Instr.makeSlice 108 (.int .i64 0) (.int .i64 (n:Int))).run Tryz.prog w = .ok (.slice (some ⟨w.heap.size,0,none⟩) 0 n) (w.alloc (.cells (zN n) 9)):=by
  obtain ⟨i,hi,h1⟩:=Option.map_eq_some_iff.1 infoStr
  simp only [Prod.mk.injEq] at h1
  obtain ⟨h1,h2,h3⟩:=h1
  have:=run_makeSlice (P:=Tryz.prog) w 108 9 i _ Tryz.underlying108 hi h1 .i64 .i64 0 (n:Int) (by decide) (by omega) (by rw [h2];simp;omega) (by rw [h3];omega) (by omega)
  rw [this,h2]
  rfl
theorem zN_own (n:Nat) (hn:n <= 16) (w:World):(w.alloc (.cells (zN n) 9)).ownsRow w.heap.size 9 1 (.slice (some ⟨w.heap.size,0,none⟩) 0 n) 0 []:=by
  refine ⟨rfl,Or.inr ⟨w.heap.size,n,zN n,rfl,Nat.le_refl _,?_,Nat.zero_le _,by unfold maxLen;omega,?_,by simp⟩⟩
  · exact heap_alloc_new w (.cells (zN n) 9)
  · unfold zN madeCells;simp
theorem own_below {w w':World} {B g n cap:Nat} {xs:List Value} (h:w.ownsRow B 9 1 (.slice (some ⟨g,0,none⟩) n cap) n xs) {C:Nat} (hb:Below C w w') (hC:g < C):w'.ownsRow B 9 1 (.slice (some ⟨g,0,none⟩) n cap) n xs:=by
  obtain ⟨h1,h2⟩:=h
  refine ⟨h1,?_⟩
  rcases h2 with ⟨h2,_⟩ | ⟨g',cap',cur,hv,hgB,hh,r⟩
  · cases h2
  · have e:g = g':=by injection hv with a1;injection a1 with a2;injection a2
    subst e
    exact Or.inr ⟨g,cap',cur,hv,hgB,by rw [hb.block _ hC];exact hh,r⟩
theorem own_cell {w:World} {B g n cap:Nat} {xs:List Value} (h:w.ownsRow B 9 1 (.slice (some ⟨g,0,none⟩) n cap) n xs) (j:Nat) (u:Value) (hj:xs[j]? = some u):w.cell? ⟨g,j,none⟩ = some u:=by
  obtain ⟨h1,h2⟩:=h
  rcases h2 with ⟨h2,_⟩ | ⟨g',cap',cur,hv,hgB,hh,_,_,_,ht⟩
  · cases h2
  · have e:g = g':=by injection hv with a1;injection a1 with a2;injection a2
    subst e
    simp only [World.cell?,hh]
    rw [<- ht,List.getElem?_take] at hj
    split at hj
    · simpa using hj
    · cases hj
theorem own_lt {w:World} {B g n cap:Nat} {xs:List Value} (h:w.ownsRow B 9 1 (.slice (some ⟨g,0,none⟩) n cap) n xs):g < w.heap.size:=by
  obtain ⟨h1,h2⟩:=h
  rcases h2 with ⟨h2,_⟩ | ⟨g',cap',cur,hv,hgB,hh,_⟩
  · cases h2
  · have e:g = g':=by injection hv with a1;injection a1 with a2;injection a2
    subst e
    exact (Array.getElem?_eq_some_iff.1 hh).1
def strs (f:Nat -> ByteArray) (n:Nat):List Value:=(List.range n).map fun j => .string (f j)
theorem strs_succ (f:Nat -> ByteArray) (n:Nat):strs f (n + 1) = strs f n ++ [.string (f n)]:=by unfold strs;rw [List.range_succ,List.map_append];rfl
theorem strs_get (f:Nat -> ByteArray) (n j:Nat) (h:j < n):(strs f n)[j]? = some (.string (f j)):=by unfold strs;simp [h]
theorem own_tx {w:World} {B g n cap:Nat} {f:Nat -> ByteArray} (h:w.ownsRow B 9 1 (.slice (some ⟨g,0,none⟩) n cap) n (strs f n)):Tx w (some ⟨g,0,none⟩) f n:=fun i hi =>
  ⟨g,0,rfl,own_lt h,by rw [Nat.zero_add];exact own_cell h i _ (strs_get f n i hi)⟩
theorem own_set {w:World} {B g n cap:Nat} {xs:List Value} (h:w.ownsRow B 9 1 (.slice (some ⟨g,0,none⟩) n cap) n xs) {p:Addr} {v:Value} (hp:p.block ≠ g):(w.setCell p v).ownsRow B 9 1 (.slice (some ⟨g,0,none⟩) n cap) n xs:=by
  obtain ⟨h1,h2⟩:=h
  refine ⟨h1,?_⟩
  rcases h2 with ⟨h2,_⟩ | ⟨g',cap',cur,hv,hgB,hh,r⟩
  · cases h2
  · have e:g = g':=by injection hv with a1;injection a1 with a2;injection a2
    subst e
    exact Or.inr ⟨g,cap',cur,hv,hgB,by rw [Below.heap_setCell _ _ _ _ (Ne.symm hp)];exact hh,r⟩
theorem keeps_below {B:Nat} {W W':World} (h:Below W.heap.size W W'):KeepsFrom B W W':=
  ⟨h.size,fun k o _ hk _ => by rw [h.block k (Array.getElem?_eq_some_iff.1 hk).1];exact hk⟩
theorem grown_blk {w w':World} {b:Nat} {arr:Array Value} {T:TypeId} {row:Option Nat} (h:Blk w b arr T) (hg:w.grownBy w' row) (hne:some b ≠ row):Blk w' b arr T:=by
  have:=h.lt
  unfold Blk at *
  rw [hg.block b this hne];exact h
theorem Tx.grown {w w':World} {a:Option Addr} {f:Nat -> ByteArray} {n G:Nat} (h:Tx w a f n) (hg:w.grownBy w' (some G)) (hne:∀ ad,a = some ad -> ad.block ≠ G):Tx w' a f n:=fun i hi => by
  obtain ⟨g,o,h1,h2,h3⟩:=h i hi
  exact ⟨g,o,h1,Nat.lt_of_lt_of_le h2 hg.size,(World.cell?_of_block (hg.block g h2 (fun e => hne _ h1 (by injection e)))).trans h3⟩
def up (f:Nat -> ByteArray) (j:Nat):ByteArray:=mk2 (f (2 * j)) (f (2 * j + 1))
set_option maxRecDepth 100000 in
set_option maxHeartbeats 1000000 in
theorem above_any (a:Option Addr) (M c N:Nat) (f:Nat -> ByteArray) (w:World) (hN:N <= 16) (hM:Hid (M = 2 * N)) (hT:Tx w a f M) (hs:∀ i,i < M -> (f i).size = 16) (hK:Sm.KB w) :
    Calls Tryz.prog 344 #[.slice a M c] w fun e w' => (∃ g cap,e = .returned (.slice (some ⟨g,0,none⟩) N cap) ∧ w.heap.size <= g ∧ Tx w' (some ⟨g,0,none⟩) (up f) N) ∧ Below w.heap.size w w':=by
  have mk:=mkN N hN
  have hK0:∀ W:World,Below w.heap.size w W -> Sm.KB W.drew:=fun W g => hK.below g.drew
  have hq:(M:Int).tdiv 2 = (N:Int):=by rw [Int.tdiv_eq_ediv_of_nonneg (by omega)];have:=hM.out;omega
  have hq':(M:Int) / 2 = (N:Int):=by have:=hM.out;omega
  have hM32:M <= 32:=by have:=hM.out;omega
  refine (callsIn_wide (n:=10)).1 ?_
  refine callsIn_of_wp_marks Tryz.func344 rfl trivial ?_ rfl
  refine wpIn_wide.2 ?_
  simp only [Tryz.ntmps344,List.size_toArray,List.length_cons,List.length_nil,Nat.reduceAdd,Nat.reduceSub,Array.replicate_succ,Array.replicate_zero,List.push_toArray,List.append_toArray,List.nil_append,List.cons_append]
  go_wp2_with (go_at_call 364;refine (pairs_any _ _ rfl).mono ?_;rintro e w' ⟨rfl,rfl⟩)
  obtain ⟨i0,hi0,hp⟩:=Option.map_eq_some_iff.1 infoStr
  simp only [Prod.mk.injEq] at hp
  obtain ⟨hp0,hp1,hp2⟩:=hp
  have j0:=own_below (own_below (zN_own N hN w) (below_alloc _ (.cells #[.slice (some ⟨w.heap.size,0,none⟩) 0 N] 108)) (by simp)) (below_alloc _ (.cells #[.slice a M c] 108)) (by simp;omega)
  have j1:=(Blk.new' (w.alloc (.cells (zN N) 9)) #[.slice (some ⟨w.heap.size,0,none⟩) 0 N] 108 (b:=w.heap.size + 1) (by simp)).alloc (.cells #[.slice a M c] 108)
  have j2:=Blk.new' ((w.alloc (.cells (zN N) 9)).alloc (.cells #[.slice (some ⟨w.heap.size,0,none⟩) 0 N] 108)) #[.slice a M c] 108 (b:=w.heap.size + 1 + 1) (by simp)
  have g0:=(((Below.refl w.heap.size w).alloc (Nat.le_refl _) (.cells (zN N) 9)).alloc (by simp) (.cells #[.slice (some ⟨w.heap.size,0,none⟩) 0 N] 108)).alloc (by simp;omega) (.cells #[.slice a M c] 108)
  have hsz:(((w.alloc (.cells (zN N) 9)).alloc (.cells #[.slice (some ⟨w.heap.size,0,none⟩) 0 N] 108)).alloc (.cells #[.slice a M c] 108)).heap.size = w.heap.size + 3:=by simp
  obtain ⟨W0,hW0⟩:∃ W0,((w.alloc (.cells (zN N) 9)).alloc (.cells #[.slice (some ⟨w.heap.size,0,none⟩) 0 N] 108)).alloc (.cells #[.slice a M c] 108) = W0:=⟨_,rfl⟩
  rw [hW0] at j0 j1 j2 g0 hsz ⊢
  clear hW0 mk hq hq'
  refine wpIn_wide.1 (range_clos (F:=Fence.wide) (n:=10) rfl (by decide) 376 #[.pointer (some ⟨w.heap.size + 1 + 1,0,none⟩)] rfl trivial (enters_of Tryz.func376 (by kernel_rfl) rfl) (fun i => #[.string (f (2 * i)),.string (f (2 * i + 1))]) N (fun _ => rfl)
    (fun i W => W.ownsRow w.heap.size 9 1 (.slice (some ⟨w.heap.size,0,none⟩) i N) i (strs (up f) i) ∧ Blk W (w.heap.size + 1) #[.slice (some ⟨w.heap.size,0,none⟩) i N] 108 ∧ Blk W (w.heap.size + 1 + 1) #[.slice a M c] 108 ∧ Below w.heap.size w W)
    (fun i X Y hb h => ⟨own_below h.1 hb (by omega),h.2.1.below hb (by omega),h.2.2.1.below hb (by omega),h.2.2.2.trans (hb.mono (by omega))⟩)
    ⟨j0,j1,j2,g0⟩ (pairs_gives 9 (w.heap.size + 1 + 1) (by decide) a M c N hM f hN _ (fun i W h => ⟨h.2.2.1.cell 0,hT.below h.2.2.2⟩))
    (fun i => { tmps:=#[.slice a M c,undef,.slice none 0 0,.pointer (some ⟨w.heap.size + 1,0,none⟩),.string (f (2 * i)),.string (f (2 * i + 1)),.slice a M c,.int .i64 (M:Int),.int .i64 (N:Int),.slice (some ⟨w.heap.size,0,none⟩) 0 N,.slice a M c,.func (.func 376) #[] #[.pointer (some ⟨w.heap.size + 1 + 1,0,none⟩)],.string (f (2 * i)),.string (f (2 * i + 1)),undef,undef,undef,undef,undef,undef,undef],defers:=[] })
    ?assign ?body ?done)
  case assign =>
    rintro i W K hi _ hK
    gi_wp2
    exact hK
  case body =>
    rintro i W hi ⟨ow,b1,b2,gW⟩ hz
    have hMo:=hM.out
    have s1:=hs (2 * i) (by omega)
    have s2:=hs (2 * i + 1) (by omega)
    clear hMo
    have c1:=b1.cell 0
    have hh1:w.heap.size + 5 <= W.heap.size:=by omega
    have fin:∀ w1 w3:World,Below W.heap.size W (w1.alloc (.cells #[.string (mk2 (f (2 * i)) (f (2 * i + 1)))] 9)) -> w3.ownsRow w.heap.size 9 1 (.slice (some ⟨w.heap.size,0,none⟩) (i + 1) N) (i + 1) (strs (up f) i ++ [.string (mk2 (f (2 * i)) (f (2 * i + 1)))]) -> (w1.alloc (.cells #[.string (mk2 (f (2 * i)) (f (2 * i + 1)))] 9)).grownBy w3 (some w.heap.size) ->
        Blk w3 (w.heap.size + 1) #[.slice (some ⟨w.heap.size,0,none⟩) i N] 108 -> Blk w3 (w.heap.size + 1 + 1) #[.slice a M c] 108 ->
        roundPost W0.heap.size (fun W => W.ownsRow w.heap.size 9 1 (.slice (some ⟨w.heap.size,0,none⟩) (i + 1) N) (i + 1) (strs (up f) (i + 1)) ∧ Blk W (w.heap.size + 1) #[.slice (some ⟨w.heap.size,0,none⟩) (i + 1) N] 108 ∧ Blk W (w.heap.size + 1 + 1) #[.slice a M c] 108 ∧ Below w.heap.size w W) W .normal ⟨#[],[]⟩ (w3.setCell ⟨w.heap.size + 1,0,none⟩ (.slice (some ⟨w.heap.size,0,none⟩) (i + 1) N)):=by
      intro w1 w3 G2 ow3 gr3 bb3 bp3
      have k1:KeepsFrom W0.heap.size W (w1.alloc (.cells #[.string (mk2 (f (2 * i)) (f (2 * i + 1)))] 9)):=keeps_below G2
      have k2:KeepsFrom W0.heap.size (w1.alloc (.cells #[.string (mk2 (f (2 * i)) (f (2 * i + 1)))] 9)) w3:=KeepsFrom.of_grownBy gr3 (fun j e => by injection e with e;omega)
      have B3:Below w.heap.size w w3:=(gW.trans (G2.mono gW.size)).grown gr3 (by have:=G2.size;omega) (fun k e => by injection e with e;omega)
      refine ⟨(k1.trans k2).trans ((KeepsOthers.setCell _ _ _).from _),?_,bb3.set 0 _,bp3.setOther _ (by simp) _,B3.setCell (by simp) _⟩
      rw [strs_succ]
      exact own_set ow3 (by simp)
    gi_wp2
    refine regIn (wide_round _) mixed (by kernel_rfl) 7 rfl ?_
    refine reg_take 1 15 (.string (f (2 * i))) rfl rfl (by kernel_rfl) (fun _ _ _ h => h) rfl (fun w => by go_simp) ?_
    refine reg_take 2 16 (.string (f (2 * i + 1))) rfl rfl (by kernel_rfl) (fun _ _ _ h => h) rfl (fun w => by go_simp) ?_
    simp only [Act.put,List.setIfInBounds_toArray,List.set_cons_succ,List.set_cons_zero]
    refine reg_two 0 3 rfl rfl (by kernel_rfl) rfl rfl (fun K hK => ?_) (fun K hK => ?_)
    · go_wp2_with fail
      refine reg_one 3 rfl (by kernel_rfl) rfl (fun K hK => ?_)
      go_wp2_with (go_at_call 365;refine (bind_any _ _ _ (by omega) (by omega) (hK0 W gW)).mono ?_;rintro e w1 ⟨rfl,g1⟩)
      have G1:Below W.heap.size W w1:=(Below.refl _ W).drew.trans g1
      clear g1
      refine reg_one 4 rfl (by kernel_rfl) rfl (fun K hK => ?_)
      go_wp2_with fail
      have g2:=below_alloc w1 (.cells #[.string (mk2 (f (2 * i)) (f (2 * i + 1)))] 9)
      have G2:=G1.trans (g2.mono G1.size)
      have ow2:=own_below ow G2 (by omega)
      have bb2:=b1.below G2 b1.lt
      have bp2:=b2.below G2 b2.lt
      clear g2
      refine reg_seq 5 rfl (by kernel_rfl) ?_
      simp only [List.drop_succ_cons,List.drop_zero]
      go_wp2_with (refine wpList_append_fits _ rfl _ _ _ rfl w.heap.size 9 i0 1 Tryz.underlying108 hi0 hp1 w.heap.size i N (strs (up f) i) rfl ow2 ⟨w1.heap.size,0,none⟩ 1 1 [.string (mk2 (f (2 * i)) (f (2 * i + 1)))] rfl rfl (cell_one_new w1 _ 9) (fun u hu => by simp at hu;subst hu;rfl) (by omega) ?_;intro w3 ow3 gr3;have bb3:=grown_blk bb2 gr3 (by simp);have bp3:=grown_blk bp2 gr3 (by simp;omega);have c3:=bb3.cell 0;have f3:=bb3.frozen 0)
      exact fin w1 w3 G2 ow3 gr3 bb3 bp3
    · go_wp2_with (go_at_call 365;refine (bind_any _ _ _ (by omega) (by omega) (hK0 W gW)).mono ?_;rintro e w1 ⟨rfl,g1⟩)
      have G1:Below W.heap.size W w1:=(Below.refl _ W).drew.trans g1
      clear g1
      have c2:=(b1.below G1 b1.lt).cell 0
      refine reg_two 0 4 rfl rfl (by kernel_rfl) rfl rfl (fun K hK => ?_) (fun K hK => ?_)
      · go_wp2_with fail
        refine reg_one 4 rfl (by kernel_rfl) rfl (fun K hK => ?_)
        go_wp2_with fail
        have g2:=below_alloc w1 (.cells #[.string (mk2 (f (2 * i)) (f (2 * i + 1)))] 9)
        have G2:=G1.trans (g2.mono G1.size)
        have ow2:=own_below ow G2 (by omega)
        have bb2:=b1.below G2 b1.lt
        have bp2:=b2.below G2 b2.lt
        clear g2
        refine reg_seq 5 rfl (by kernel_rfl) ?_
        simp only [List.drop_succ_cons,List.drop_zero]
        go_wp2_with (refine wpList_append_fits _ rfl _ _ _ rfl w.heap.size 9 i0 1 Tryz.underlying108 hi0 hp1 w.heap.size i N (strs (up f) i) rfl ow2 ⟨w1.heap.size,0,none⟩ 1 1 [.string (mk2 (f (2 * i)) (f (2 * i + 1)))] rfl rfl (cell_one_new w1 _ 9) (fun u hu => by simp at hu;subst hu;rfl) (by omega) ?_;intro w3 ow3 gr3;have bb3:=grown_blk bb2 gr3 (by simp);have bp3:=grown_blk bp2 gr3 (by simp;omega);have c3:=bb3.cell 0;have f3:=bb3.frozen 0)
        exact fin w1 w3 G2 ow3 gr3 bb3 bp3
      · go_wp2_with fail
        have c4:=((b1.below G1 b1.lt).alloc (.cells #[.string (mk2 (f (2 * i)) (f (2 * i + 1)))] 9)).cell 0
        refine reg_one 0 rfl (by kernel_rfl) rfl (fun K hK => ?_)
        go_wp2_with fail
        have g2:=below_alloc w1 (.cells #[.string (mk2 (f (2 * i)) (f (2 * i + 1)))] 9)
        have G2:=G1.trans (g2.mono G1.size)
        have ow2:=own_below ow G2 (by omega)
        have bb2:=b1.below G2 b1.lt
        have bp2:=b2.below G2 b2.lt
        clear g2
        refine reg_seq 5 rfl (by kernel_rfl) ?_
        simp only [List.drop_succ_cons,List.drop_zero]
        go_wp2_with (refine wpList_append_fits _ rfl _ _ _ rfl w.heap.size 9 i0 1 Tryz.underlying108 hi0 hp1 w.heap.size i N (strs (up f) i) rfl ow2 ⟨w1.heap.size,0,none⟩ 1 1 [.string (mk2 (f (2 * i)) (f (2 * i + 1)))] rfl rfl (cell_one_new w1 _ 9) (fun u hu => by simp at hu;subst hu;rfl) (by omega) ?_;intro w3 ow3 gr3;have bb3:=grown_blk bb2 gr3 (by simp);have bp3:=grown_blk bp2 gr3 (by simp;omega);have c3:=bb3.cell 0;have f3:=bb3.frozen 0)
        exact fin w1 w3 G2 ow3 gr3 bb3 bp3
  case done =>
    rintro D W hD ⟨ow,b1,b2,gW⟩ hKD
    have c1:=b1.cell 0
    go_wp2_with fail
    refine ⟨by simp,.inl ⟨_,_,rfl,run_takeDeferred hKD,?_⟩⟩
    refine ⟨_,results_tmp rfl _ _ _,⟨w.heap.size,N,rfl,Nat.le_refl _,own_tx (own_below ow (C:=w.heap.size + 1) (below_putObj W _ (by omega)) (by omega))⟩,gW.trans (below_putObj W _ (by omega))⟩
end Go.Proofs.YtjmpjfikcgccdaaGreatDoor.Tr
namespace Go.Proofs.YtjmpjfikcgccdaaGreatDoor.Tr
open Go.RowKit Go.Shelf
def errV (n:Int):Value:=if n = 0 then .nilIface else .iface 34 (.int .i64 n)
def okB (f:Nat -> ByteArray) (n:Nat):Bool:=decide (n = 32) && marksB f n
theorem okB_spec {f:Nat -> ByteArray} {n:Nat} (h:okB f n = true):n = 32 ∧ ∀ i,i < 32 -> (f i).size = 16:=by
  unfold okB at h
  simp only [Bool.and_eq_true,decide_eq_true_eq] at h
  obtain ⟨rfl,h2⟩:=h
  exact ⟨rfl,marksB_spec.1 h2⟩
def rootT (f:Nat -> ByteArray) (n:Nat):ByteArray:=if okB f n then R f 5 0 else ⟨#[]⟩
def rootC (f:Nat -> ByteArray) (n:Nat):Int:=if okB f n then 0 else 1
theorem pw_step:∀ t:Fin 5,32 / 2 ^ t.1 = 2 * (32 / 2 ^ (t.1 + 1)) ∧ 32 / 2 ^ (t.1 + 1) <= 16 ∧ 1 <= 32 / 2 ^ (t.1 + 1):=by decide
def lenOf:Value -> Nat
  | .slice _ n _ => n
  | _ => 0
structure Rw (w:World) (v:Value) (f:Nat -> ByteArray) (t M:Nat):Prop where
  le:t <= 5
  len:Hid (M = 32 / 2 ^ t)
  form:∃ a c,v = .slice a M c ∧ Tx w a (R f t) M
set_option maxRecDepth 100000 in
set_option maxHeartbeats 1000000 in
theorem root_any (a:Option Addr) (n c:Nat) (f:Nat -> ByteArray) (w:World) (hT:Tx w a f n) (hn:n <= 40) (hs:∀ i,i < n -> (f i).size <= 60) (hK:Sm.KB w) :
    Calls Tryz.prog 300 #[.slice a n c] w fun e w' => e = .returned (.tuple #[.string (rootT f n),errV (rootC f n)]) ∧ Below w.heap.size w w':=by
  have ha:=are_any a n c f 32 w hT hn hs (by decide)
  cases ho:okB f n with
  | false =>
    have ho':(decide (n = 32) && marksB f n) = false:=ho
    rw [ho'] at ha
    have e1:rootT f n = ⟨#[]⟩:=by unfold rootT;rw [ho];rfl
    have e2:errV (rootC f n) = .iface 34 (.int .i64 1):=by unfold rootC errV;rw [ho];rfl
    go_enter Tryz.func300,Tryz.ntmps300
    go_wp2_with (go_at_call 343;refine ha.mono ?_;rintro e w' ⟨rfl,rfl⟩)
    go_ret2
    exact ⟨by rw [e1,e2];rfl,Below.refl _ _⟩
  | true =>
    have ho':(decide (n = 32) && marksB f n) = true:=ho
    rw [ho'] at ha
    have e1:Hid (rootT f n = R f 5 0):=by unfold Hid rootT;rw [ho];rfl
    have e2:Hid (errV (rootC f n) = .nilIface):=by unfold Hid rootC errV;rw [ho];rfl
    obtain ⟨rfl,hm⟩:=okB_spec ho
    clear ho ho' hs hn
    go_enter Tryz.func300,Tryz.ntmps300
    go_wp2_with (go_at_call 343;refine ha.mono ?_;rintro e w' ⟨rfl,rfl⟩)
    clear ha
    go_loopw [4] (fun v wr => ∃ t M,Rw wr v f t M ∧ Below w'.heap.size w' wr) (fun v _ => lenOf v)
    case atStart => exact ⟨0,32,⟨by decide,rfl,a,c,rfl,hT⟩,Below.refl _ _⟩
    case round =>
      obtain ⟨t,M,⟨ht,hM,a',c',rfl,hT'⟩,gr⟩:=hrel
      by_cases h5:t < 5
      · obtain ⟨p1,p2,p3⟩:=pw_step ⟨t,h5⟩
        obtain ⟨N,hN⟩:∃ N:Nat,Hid (N = 32 / 2 ^ (t + 1)):=⟨_,rfl⟩
        have hMN:Hid (M = 2 * N):=by unfold Hid;rw [hM.out,hN.out];exact p1
        have hN16:N <= 16:=by rw [hN.out];exact p2
        have hN1:1 <= N:=by rw [hN.out];exact p3
        have hM1:(1:Int) < (M:Int):=by have:=hMN.out;omega
        have hM32:M <= 32:=by have:=hMN.out;omega
        clear p1 p2 p3
        go_wp2_with fail
        refine (above_any a' M c' N (R f t) wr hN16 hMN hT' (fun i hi => R_size f hm t i (by omega)) (hK.below gr)).mono ?_
        rintro e w1 ⟨⟨g,cap,rfl,_,hT1⟩,g1⟩
        go_wp2_with fail
        go_light
        refine ⟨⟨t + 1,N,⟨by omega,hN,_,_,rfl,hT1⟩,gr.trans (g1.mono gr.size)⟩,?_⟩
        have:=hMN.out
        simp [lenOf];omega
      · obtain rfl:t = 5:=by omega
        have hM1:M = 1:=hM.out
        subst hM1
        obtain ⟨g,o,rfl,hg,hc⟩:=hT' 0 (by decide)
        rw [Nat.add_zero] at hc
        go_wp2_with fail
        go_ret2
        exact ⟨by rw [e1.out,e2.out];rfl,gr⟩
end Go.Proofs.YtjmpjfikcgccdaaGreatDoor.Tr
