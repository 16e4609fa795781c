/-
  Part of the proof: Open is walked, where the counter's state stands on the device, and where it does not.
-/
import Derived.Test.YtkapkphhceknfaaGreatDoorB44
namespace Go.Proofs.YtkapkphhceknfaaGreatDoor.Vt
open Go.RowKit
/-- What stands in a block of Supers: none, or one of Count c. -/
def SupAt (S : Nat → Nat → UInt8) (W : List (Nat × (Nat → UInt8))) (sec : ByteArray) (b : Nat) (c : Option Int) : Prop := match c with
  | none => Su.parC (supK sec) (sb 256 (Dv.readF S W b)) = 15
  | some c => Su.parC (supK sec) (sb 256 (Dv.readF S W b)) = 0 ∧ ∃ e f r, Su.parV (supK sec) (sb 256 (Dv.readF S W b)) = Su.supA c e f r
theorem readSuper_no (d : Nat) (O : Nat → Prop) (S : Nat → Nat → UInt8) (W : List (Nat × (Nat → UInt8))) (F : Int) (v : Value) (lf : Int) (sec : ByteArray) (n : Nat) (c : Option Int) (w : World) (hD : Dv.Dev w O d S W F v lf) (hW : W.length ≤ 1000) (hsec : sec.size ≤ 300) (hn : n < 9007199254740992) (hK : Sm.KB w)
    (hs : SupAt S W sec (n % 2) c) (hc : c ≠ some (n : Int)) :
    Calls Tryz.prog 67 #[.pointer (some ⟨d, 0, none⟩), .string sec, .int .i64 (n : Int)] w fun e w' => e = .returned (.tuple #[.agg Su.sup0, .bool false]) ∧ Below w.heap.size w w' := by
  cases c with
  | none => exact readSuper_bad d O S W F v lf sec n w hD hW hsec hn hK hs
  | some c =>
    obtain ⟨h1, e, f, r, h2⟩ := hs
    exact readSuper_some d O S W F v lf sec n w hD hW hsec hn hK c e f r h1 h2 Su.sup0 false (fun h => absurd (by rw [h]) hc) (fun _ => ⟨rfl, rfl⟩)
set_option maxRecDepth 100000 in
set_option maxHeartbeats 400000 in
theorem whole_no (d : Nat) (O : Nat → Prop) (S : Nat → Nat → UInt8) (W : List (Nat × (Nat → UInt8))) (F : Int) (v : Value) (lf : Int) (sec : ByteArray) (n : Nat) (c : Option Int) (w : World) (hD : Dv.Dev w O d S W F v lf) (hW : W.length ≤ 1000) (hsec : sec.size ≤ 300) (hn : n < 9007199254740992) (hK : Sm.KB w)
    (hs : SupAt S W sec (n % 2) c) (hc : c ≠ some (n : Int)) :
    Calls Tryz.prog 46 #[.pointer (some ⟨d, 0, none⟩), .string sec, .int .i64 (n : Int)] w fun e w' => e = .returned (.tuple #[.agg st0, .bool false]) ∧ Below w.heap.size w w' := by
  have z0 := Su.sup0_size
  have o0 := Su.sup0_one
  have zz := Su.zero93
  have z1 := st0_size
  have o1 := st0_one
  have zt := zeroSt
  have bt := buildSt0
  have hRS := fun w' (hb : Below w.heap.size w w') => readSuper_no d O S W F v lf sec n c w' (hD.below hb) hW hsec hn (hK.below hb) hs hc
  clear hs hc
  obtain ⟨Z, hZ⟩ : ∃ Z, Hid (Su.sup0 = Z) := ⟨_, rfl⟩
  rw [hZ.out] at z0 o0 zz hRS
  obtain ⟨Y, hY⟩ : ∃ Z, Hid (st0 = Z) := ⟨_, rfl⟩
  rw [hY.out] at z1 o1 zt bt
  rw [hY.out]
  have g1 := Pg.below_alloc w (.cells Y 74)
  go_enter Tryz.func46, Tryz.ntmps46
  go_wp2_with fail
  refine (hRS _ g1).mono ?_
  rintro e w2 ⟨rfl, g2⟩
  have b2 := g1.trans (g2.mono g1.size)
  have j2 := (Blk.new w Y 74).below g2 (by simp)
  have j3 := j2.alloc (.cells Z 72)
  have b3 := b2.trans ((Pg.below_alloc w2 (.cells Z 72)).mono b2.size)
  have hlt2 : w.heap.size < w2.heap.size := j2.lt
  clear hRS
  go_wp2_with (first
    | (refine Su.wpl_storeV rfl rfl 72 _ _ rfl 35 Su.sz93 w2.heap.size Z 72 Z o0 rfl rfl (Blk.new w2 _ _) z0 z0 ?_; intro w6 hu6 j6; have k6 := j3.upd hu6 (by omega))
    | (refine Su.wpl_storeV rfl rfl 74 _ _ rfl 36 szSt w.heap.size Y 74 Y o1 rfl rfl k6 z1 z1 ?_; intro w7 hu7 j7)
    | fail)
  exact Su.ret_cellV2 6 7 74 rfl Tryz.isAgg74 36 szSt w.heap.size Y 74 z1 _ rfl rfl j7 rfl ⟨rfl, below_upd (below_upd b3 hu6 (Nat.le_of_lt hlt2)) hu7 (Nat.le_refl _)⟩
set_option maxRecDepth 100000 in
set_option maxHeartbeats 400000 in
theorem last_spoilt (d c : Nat) (O : Nat → Prop) (S : Nat → Nat → UInt8) (W : List (Nat × (Nat → UInt8))) (F : Int) (v : Value) (lf : Int) (sec : ByteArray) (n : Nat) (x y : Option Int) (w : World) (hD : Dv.Dev w O d S W F v lf) (hC : Dv.Cnt w c (n : Int)) (hW : W.length ≤ 1000) (hsec : sec.size ≤ 300) (hK : Sm.KB w) (hn0 : 1 ≤ n) (hn1 : n ≤ 1099511627776)
    (hx : SupAt S W sec ((n + 1) % 2) x) (hx' : x ≠ some ((n + 1 : Nat) : Int)) (hy : SupAt S W sec (n % 2) y) (hy' : y ≠ some (n : Int)) :
    Calls Tryz.prog 32 #[.pointer (some ⟨d, 0, none⟩), .pointer (some ⟨c, 0, none⟩), .string sec] w fun e w' => e = .returned (.tuple #[.agg st0, .iface 41 (.int .i64 15)]) ∧ Below w.heap.size w w' := by
  have z1 := st0_size
  have o1 := st0_one
  have zt := zeroSt
  have bt := buildSt0
  have hR1 : ∀ w', Below w.heap.size w w' → Calls Tryz.prog 46 #[.pointer (some ⟨d, 0, none⟩), .string sec, .int .i64 ((n : Int) + 1)] w' fun e w'' => e = .returned (.tuple #[.agg st0, .bool false]) ∧ Below w'.heap.size w' w'' := fun w' hb =>
    whole_no d O S W F v lf sec (n + 1) x w' (hD.below hb) hW hsec (by omega) (hK.below hb) hx hx'
  have hR2 := fun w' (hb : Below w.heap.size w w') => whole_no d O S W F v lf sec n y w' (hD.below hb) hW hsec (by omega) (hK.below hb) hy hy'
  obtain ⟨Y, hY⟩ : ∃ Z, Hid (st0 = Z) := ⟨_, rfl⟩
  rw [hY.out] at z1 o1 zt hR1 hR2 bt
  rw [hY.out]
  have H1 : Hid _ := hR1
  have H2 : Hid _ := hR2
  clear hR1 hR2 hx hx' hy hy' hY
  have g1 := Pg.below_alloc w (.cells Y 74)
  have hn' : ¬ (n : Int) = 0 := by omega
  go_enter Tryz.func32, Tryz.ntmps32
  go_wp2_with fail
  refine (Dv.get_any c (n : Int) _ (hC.below g1 hC.lt)).mono ?_
  rintro e w1 ⟨rfl, hw1⟩
  obtain rfl := hw1
  go_wp2_with fail
  refine (H1.out _ g1).mono ?_
  rintro e w2 ⟨rfl, g2⟩
  have b2 := g1.trans (g2.mono g1.size)
  have j2 := (Blk.new w Y 74).below g2 (by simp)
  have j3 := j2.alloc (.cells Y 74)
  have b3 := b2.trans ((Pg.below_alloc w2 (.cells Y 74)).mono b2.size)
  have hlt2 : w.heap.size < w2.heap.size := j2.lt
  go_wp2_with (first
    | (refine Su.wpl_storeV rfl rfl 74 _ _ rfl 36 szSt w2.heap.size Y 74 Y o1 rfl rfl (Blk.new w2 _ _) z1 z1 ?_; intro w6 hu6 j6; have k6 := j3.upd hu6 (by omega); have b6 := below_upd b3 hu6 (Nat.le_of_lt hlt2))
    | fail)
  refine (H2.out _ b6).mono ?_
  rintro e w7 ⟨rfl, g7⟩
  have b7 := b6.trans (g7.mono b6.size)
  have k7 := k6.below g7 k6.lt
  have k8 := k7.alloc (.cells Y 74)
  have b8 := b7.trans ((Pg.below_alloc w7 (.cells Y 74)).mono b7.size)
  have hlt7 : w.heap.size < w7.heap.size := k7.lt
  clear H1 H2
  go_wp2_with (first
    | (refine Su.wpl_storeV rfl rfl 74 _ _ rfl 36 szSt w7.heap.size Y 74 Y o1 rfl rfl (Blk.new w7 _ _) z1 z1 ?_; intro w9 hu9 j9; have k9 := k8.upd hu9 (by omega); have b9 := below_upd b8 hu9 (Nat.le_of_lt hlt7))
    | (refine Su.wpl_storeV rfl rfl 74 _ _ rfl 36 szSt w.heap.size Y 74 Y o1 rfl rfl k9 z1 z1 ?_; intro wa hua ja)
    | fail)
  exact Su.ret_cellV2 6 7 74 rfl Tryz.isAgg74 36 szSt w.heap.size Y 74 z1 _ rfl rfl ja rfl ⟨rfl, below_upd b9 hua (Nat.le_refl _)⟩
set_option maxRecDepth 100000 in
set_option maxHeartbeats 400000 in
theorem last_some (d c : Nat) (O : Nat → Prop) (S : Nat → Nat → UInt8) (W : List (Nat × (Nat → UInt8))) (F : Int) (v : Value) (lf : Int) (sec : ByteArray) (n : Nat) (x : Option Int) (en : Int) (f : Nat → Bool) (p : Int → Option (Int × ByteArray)) (w : World) (hD : Dv.Dev w O d S W F v lf) (hC : Dv.Cnt w c (n : Int)) (hW : W.length ≤ 1000) (hsec : sec.size ≤ 300) (hK : Sm.KB w)
    (hx : SupAt S W sec ((n + 1) % 2) x) (hx' : x ≠ some ((n + 1 : Nat) : Int)) (hOn : On S W sec n en f p) :
    Calls Tryz.prog 32 #[.pointer (some ⟨d, 0, none⟩), .pointer (some ⟨c, 0, none⟩), .string sec] w fun e w' => (∃ CB, e = .returned (.tuple #[.agg (stA (n : Int) en f (rootP p) (.map (some CB))), .nilIface]) ∧ MapF Tryz.prog w' CB 32 (pv p) ∧ w.heap.size ≤ CB) ∧ Below w.heap.size w w' := by
  have hn0 := hOn.n0
  have hn1 := hOn.n1
  have z1 := st0_size
  have o1 := st0_one
  have zt := zeroSt
  have hR1 : ∀ w', Below w.heap.size w w' → Calls Tryz.prog 46 #[.pointer (some ⟨d, 0, none⟩), .string sec, .int .i64 ((n : Int) + 1)] w' fun e w'' => e = .returned (.tuple #[.agg st0, .bool false]) ∧ Below w'.heap.size w' w'' := fun w' hb =>
    whole_no d O S W F v lf sec (n + 1) x w' (hD.below hb) hW hsec (by omega) (hK.below hb) hx hx'
  have hR2 := fun w' (hb : Below w.heap.size w w') => whole_good d O S W F v lf sec n en f p w' (hD.below hb) hW hsec (hK.below hb) hOn
  obtain ⟨Y, hY⟩ : ∃ Z, Hid (st0 = Z) := ⟨_, rfl⟩
  rw [hY.out] at z1 o1 zt hR1
  have H1 : Hid _ := hR1
  have H2 : Hid _ := hR2
  clear hR1 hR2 hx hx' hY hOn
  have g1 := Pg.below_alloc w (.cells Y 74)
  have hn' : ¬ (n : Int) = 0 := by omega
  go_enter Tryz.func32, Tryz.ntmps32
  go_wp2_with fail
  refine (Dv.get_any c (n : Int) _ (hC.below g1 hC.lt)).mono ?_
  rintro e w1 ⟨rfl, hw1⟩
  obtain rfl := hw1
  go_wp2_with fail
  refine (H1.out _ g1).mono ?_
  rintro e w2 ⟨rfl, g2⟩
  have b2 := g1.trans (g2.mono g1.size)
  have j2 := (Blk.new w Y 74).below g2 (by simp)
  have j3 := j2.alloc (.cells Y 74)
  have b3 := b2.trans ((Pg.below_alloc w2 (.cells Y 74)).mono b2.size)
  have hlt2 : w.heap.size < w2.heap.size := j2.lt
  go_wp2_with (first
    | (refine Su.wpl_storeV rfl rfl 74 _ _ rfl 36 szSt w2.heap.size Y 74 Y o1 rfl rfl (Blk.new w2 _ _) z1 z1 ?_; intro w6 hu6 j6; have k6 := j3.upd hu6 (by omega); have b6 := below_upd b3 hu6 (Nat.le_of_lt hlt2))
    | fail)
  refine (H2.out _ b6).mono ?_
  rintro e w7 ⟨⟨CB, rfl, hM7, hCB⟩, g7⟩
  have b7 := b6.trans (g7.mono b6.size)
  have k7 := k6.below g7 k6.lt
  have k8 := k7.alloc (.cells Y 74)
  have b8 := b7.trans ((Pg.below_alloc w7 (.cells Y 74)).mono b7.size)
  have hlt7 : w.heap.size < w7.heap.size := k7.lt
  have hC6 : w.heap.size < w6.heap.size := k6.lt
  have hM8 := hM7.alloc (.cells Y 74)
  have hMl := hM7.lt
  have x0 := stA_size (n : Int) en f (rootP p) (.map (some CB))
  have x1 := stA_one (n : Int) en f (rootP p) (.map (some CB)) rfl
  obtain ⟨X, hX⟩ : ∃ X, Hid (stA (n : Int) en f (rootP p) (.map (some CB)) = X) := ⟨_, rfl⟩
  rw [hX.out] at x0 x1
  rw [hX.out]
  clear H1 H2
  go_wp2_with (first
    | (refine Su.wpl_storeV rfl rfl 74 _ _ rfl 36 szSt w7.heap.size Y 74 X x1 rfl rfl (Blk.new w7 _ _) z1 x0 ?_; intro w9 hu9 j9; have k9 := k8.upd hu9 (by omega); have b9 := below_upd b8 hu9 (Nat.le_of_lt hlt7))
    | (refine Su.wpl_loadV rfl 74 _ rfl Tryz.isAgg74 36 szSt w7.heap.size 0 X 74 rfl j9 (by omega) ?_; rw [Su.ext_all x0])
    | (refine Su.wpl_storeV rfl rfl 74 _ _ rfl 36 szSt w.heap.size Y 74 X x1 rfl rfl k9 z1 x0 ?_; intro wa hua ja)
    | fail)
  exact Su.ret_cellV2 6 7 74 rfl Tryz.isAgg74 36 szSt w.heap.size X 74 x0 _ rfl rfl ja rfl ⟨⟨CB, by rw [hX.out]; rfl, (hM8.upd hu9 (by omega)).upd hua (by omega), by omega⟩, below_upd b9 hua (Nat.le_refl _)⟩
theorem vaA_toList (d c : Nat) (sec : ByteArray) (X : Array Value) : (vaA d c sec X false).toList = [.pointer (some ⟨d, 0, none⟩), .pointer (some ⟨c, 0, none⟩), .string sec] ++ X.toList ++ [.bool false] := by
  unfold vaA; simp
theorem buildVa' (d c : Nat) (sec : ByteArray) (cn en : Int) (f : Nat → Bool) (r : ByteArray) (CB : Nat) (w : World) : (Instr.build 76 #[(0, .pointer (some ⟨d, 0, none⟩)), (1, .pointer (some ⟨c, 0, none⟩)), (2, .string sec), (3, .agg (stA cn en f r (.map (some CB))))]).run Tryz.prog w = .ok (.agg (vaA d c sec (stA cn en f r (.map (some CB))) false)) w := run_build w 76 _ _ (by kernel_rfl)
set_option maxRecDepth 100000 in
set_option maxHeartbeats 400000 in
theorem open_some (d c : Nat) (O : Nat → Prop) (S : Nat → Nat → UInt8) (W : List (Nat × (Nat → UInt8))) (F : Int) (v : Value) (lf : Int) (sec : ByteArray) (n : Nat) (x : Option Int) (en : Int) (f : Nat → Bool) (p : Int → Option (Int × ByteArray)) (w : World) (hD : Dv.Dev w O d S W F v lf) (hC : Dv.Cnt w c (n : Int)) (hW : W.length ≤ 1000) (hsec : sec.size = 16) (hK : Sm.KB w)
    (hx : SupAt S W sec ((n + 1) % 2) x) (hx' : x ≠ some ((n + 1 : Nat) : Int)) (hOn : On S W sec n en f p) :
    Calls Tryz.prog 15 #[.pointer (some ⟨d, 0, none⟩), .pointer (some ⟨c, 0, none⟩), .string sec] w fun e w' => (∃ VB CB, e = .returned (.tuple #[.pointer (some ⟨VB, 0, none⟩), .nilIface]) ∧ Vlt w' VB d c sec (n : Int) en f (rootP p) CB 32 p false ∧ w.heap.size ≤ VB ∧ w.heap.size ≤ CB) ∧ Below w.heap.size w w' := by
  have hs' : (sec.size : Int) = 16 := by omega
  have z1 := st0_size
  have zt := zeroSt
  obtain ⟨Y, hY⟩ : ∃ Z, Hid (st0 = Z) := ⟨_, rfl⟩
  rw [hY.out] at z1 zt
  clear hY
  have HL := last_some d c O S W F v lf sec n x en f p w hD hC hW (by omega) hK hx hx' hOn
  clear hx hx' hOn
  go_enter Tryz.func15, Tryz.ntmps15
  go_wp2_with fail
  refine HL.mono ?_
  rintro e w1 ⟨⟨CB, rfl, hM1, hCB⟩, g1⟩
  have u0 := stA_size (n : Int) en f (rootP p) (.map (some CB))
  have u1 := stA_one (n : Int) en f (rootP p) (.map (some CB)) rfl
  have B1 : Hid (∀ w : World, _) := buildVa' d c sec (n : Int) en f (rootP p) CB
  obtain ⟨X, hX⟩ : ∃ X, Hid (stA (n : Int) en f (rootP p) (.map (some CB)) = X) := ⟨_, rfl⟩
  rw [hX.out] at u0 u1 B1
  rw [hX.out]
  obtain ⟨VA, hVA⟩ : ∃ V, Hid (vaA d c sec X false = V) := ⟨_, rfl⟩
  rw [hVA.out] at B1
  go_wp2_with (first
    | (refine Su.wpl_storeV rfl rfl 74 _ _ rfl 36 szSt w1.heap.size Y 74 X u1 rfl rfl (Blk.new w1 _ _) z1 u0 ?_; intro w2 hu2 j2)
    | (refine Su.wpl_loadV rfl 74 _ rfl Tryz.isAgg74 36 szSt w1.heap.size 0 X 74 rfl j2 (by omega) ?_; rw [Su.ext_all u0])
    | (refine wpl_bld rfl 76 _ rfl #[(0, .pointer (some ⟨d, 0, none⟩)), (1, .pointer (some ⟨c, 0, none⟩)), (2, .string sec), (3, .agg X)] (by kernel_rfl) (.agg VA) (B1.out _) ?_)
    | fail)
  go_ret2
  have s2 : Below w1.heap.size w1 w2 := below_upd (Pg.below_alloc w1 _) hu2 (Nat.le_refl _)
  have b2 := g1.trans (s2.mono g1.size)
  refine ⟨⟨w2.heap.size, CB, rfl, ⟨?_, ((hM1.below s2 hM1.lt).alloc _)⟩, b2.size, hCB⟩, b2.trans ((Pg.below_alloc w2 _).mono b2.size)⟩
  rw [hX.out, hVA.out]
  exact Blk.new w2 VA 76
set_option maxRecDepth 100000 in
set_option maxHeartbeats 400000 in
theorem open_spoilt (d c : Nat) (O : Nat → Prop) (S : Nat → Nat → UInt8) (W : List (Nat × (Nat → UInt8))) (F : Int) (v : Value) (lf : Int) (sec : ByteArray) (n : Nat) (x y : Option Int) (w : World) (hD : Dv.Dev w O d S W F v lf) (hC : Dv.Cnt w c (n : Int)) (hW : W.length ≤ 1000) (hsec : sec.size = 16) (hK : Sm.KB w) (hn0 : 1 ≤ n) (hn1 : n ≤ 1099511627776)
    (hx : SupAt S W sec ((n + 1) % 2) x) (hx' : x ≠ some ((n + 1 : Nat) : Int)) (hy : SupAt S W sec (n % 2) y) (hy' : y ≠ some (n : Int)) :
    Calls Tryz.prog 15 #[.pointer (some ⟨d, 0, none⟩), .pointer (some ⟨c, 0, none⟩), .string sec] w fun e w' => e = .returned (.tuple #[.pointer none, .iface 41 (.int .i64 15)]) ∧ Below w.heap.size w w' := by
  have hs' : (sec.size : Int) = 16 := by omega
  have z1 := st0_size
  have o1 := st0_one
  have zt := zeroSt
  have HL := last_spoilt d c O S W F v lf sec n x y w hD hC hW (by omega) hK hn0 hn1 hx hx' hy hy'
  clear hx hx' hy hy' hn0 hn1
  obtain ⟨Y, hY⟩ : ∃ Z, Hid (st0 = Z) := ⟨_, rfl⟩
  rw [hY.out] at z1 zt HL o1
  clear hY
  go_enter Tryz.func15, Tryz.ntmps15
  go_wp2_with fail
  refine HL.mono ?_
  rintro e w1 ⟨rfl, g1⟩
  go_wp2_with (first
    | (refine Su.wpl_storeV rfl rfl 74 _ _ rfl 36 szSt w1.heap.size Y 74 Y o1 rfl rfl (Blk.new w1 _ _) z1 z1 ?_; intro w2 hu2 j2)
    | fail)
  go_ret2
  have s2 : Below w1.heap.size w1 w2 := below_upd (Pg.below_alloc w1 _) hu2 (Nat.le_refl _)
  exact ⟨rfl, g1.trans (s2.mono g1.size)⟩
end Go.Proofs.YtkapkphhceknfaaGreatDoor.Vt
