/-
  Part of the proof: Open is walked where nothing stands on the device, and the counter is at 0.
  Part of the proof: plain facts: a text's parts, read at once or cut off first; a text with 0 behind it.
-/
import Derived.Test.YtkapkphhceknfaaGreatDoorB39
import Derived.Test.YtkapkphhceknfaaGreatDoorB20
namespace Go.Proofs.YtkapkphhceknfaaGreatDoor.Vt
open Go.RowKit
def zS : ByteArray := sb 256 (fun _ => 0)
theorem zS_size : zS.size = 256 := sb_size _ _
theorem zS_C : Su.fC zS = 0 := by kernel_rfl
theorem zS_ok (key : ByteArray) : Su.okP key zS = false := by
  unfold Su.okP Su.okW; rw [zS_C]; simp [Su.okN]
theorem par_zS {key : ByteArray} (hk : key.size = 32) : Su.parC key zS = 15 ∧ Su.parV key zS = Su.sup0 := by
  unfold Su.parC Su.parV; rw [if_pos hk, if_pos hk, zS_size, zS_ok]; exact ⟨rfl, rfl⟩
theorem parV_bad {key s : ByteArray} (h : Su.parC key s = 15) : Su.parV key s = Su.sup0 := by
  unfold Su.parC at h; unfold Su.parV
  split
  · rename_i h1; rw [if_pos h1] at h
    split
    · rfl
    · rename_i h2; rw [if_neg h2] at h
      split
      · rename_i h3; rw [if_pos h3] at h; exact absurd h (by decide)
      · rfl
  · rfl
set_option maxRecDepth 100000 in
set_option maxHeartbeats 400000 in
theorem readSuper_bad (d : Nat) (O : Nat → Prop) (S : Nat → Nat → UInt8) (W : List (Nat × (Nat → UInt8))) (F : Int) (v : Value) (lf : Int) (sec : ByteArray) (n : Nat) (w : World) (hD : Dv.Dev w O d S W F v lf) (hW : W.length ≤ 1000) (hsec : sec.size ≤ 300) (hn : n < 9007199254740992) (hK : Sm.KB w)
    (hz : Su.parC (supK sec) (sb 256 (Dv.readF S W (n % 2))) = 15) :
    Calls Tryz.prog 67 #[.pointer (some ⟨d, 0, none⟩), .string sec, .int .i64 (n : Int)] w fun e w' => e = .returned (.tuple #[.agg Su.sup0, .bool false]) ∧ Below w.heap.size w w' := by
  have z0 := Su.sup0_size
  have o0 := Su.sup0_one
  have zz := Su.zero93
  have bb := Su.build0
  have e15 : Su.errV 15 = .iface 41 (.int .i64 15) := rfl
  obtain ⟨Z, hZ⟩ : ∃ Z, Hid (Su.sup0 = Z) := ⟨_, rfl⟩
  rw [hZ.out] at z0 o0 zz bb
  rw [hZ.out]
  have hsz : (sb 256 (Dv.readF S W (n % 2))).size = 256 := sb_size _ _
  obtain ⟨T, hT⟩ : ∃ T, Hid (sb 256 (Dv.readF S W (n % 2)) = T) := ⟨_, rfl⟩
  rw [hT.out] at hz hsz
  have hpv := Su.supA_one
  go_enter Tryz.func67, Tryz.ntmps67
  go_wp2_with fail
  have g1 := Pg.below_alloc w (.cells Z 72)
  refine (superPlace_any n _ hn).mono ?_
  rintro e w1 ⟨rfl, rfl⟩
  go_wp2_with fail
  refine (Dv.read_ok d O S W F v lf (n % 2) _ (hD.below g1) (by omega) hW).mono ?_
  rintro e w2 ⟨rfl, g2⟩
  rw [hT.out]
  have b2 := g1.trans (g2.mono g1.size)
  have j2 := (Blk.new w Z 72).below g2 (by simp)
  go_wp2_with fail
  refine (superKey_any sec w2 hsec (hK.below b2)).mono ?_
  rintro e w3 ⟨rfl, g3⟩
  have b3 := b2.trans (g3.mono b2.size)
  have j3 := j2.below g3 j2.lt
  go_wp2_with fail
  refine (Su.parse_any (supK sec) T w3 (by omega) (hK.below b3)).mono ?_
  rintro e w4 ⟨rfl, g4⟩
  rw [hz, e15]
  have b4 := b3.trans (g4.mono b3.size)
  have j4 := j3.below g4 j3.lt
  rw [parV_bad hz, hZ.out]
  have j5 := j4.alloc (.cells Z 72)
  have b5 := b4.trans ((Pg.below_alloc w4 (.cells Z 72)).mono b4.size)
  have hlt4 : w.heap.size < w4.heap.size := j4.lt
  go_wp2_with (first
    | (refine Su.wpl_storeV rfl rfl 72 _ _ rfl 35 Su.sz93 w4.heap.size Z 72 Z o0 rfl rfl (Blk.new w4 _ _) z0 z0 ?_; intro w6 hu6 j6; have k6 := j5.upd hu6 (by omega))
    | (refine Su.wpl_storeV rfl rfl 72 _ _ rfl 35 Su.sz93 w.heap.size Z 72 Z o0 rfl rfl k6 z0 z0 ?_; intro w7 hu7 j7)
    | fail)
  exact Su.ret_cellV2 6 7 72 rfl Tryz.isAgg72 35 Su.sz93 w.heap.size Z 72 z0 _ rfl rfl j7 rfl ⟨rfl, below_upd (below_upd b5 hu6 (Nat.le_of_lt hlt4)) hu7 (Nat.le_refl _)⟩
set_option maxRecDepth 100000 in
set_option maxHeartbeats 400000 in
theorem whole_bad (d : Nat) (O : Nat → Prop) (S : Nat → Nat → UInt8) (W : List (Nat × (Nat → UInt8))) (F : Int) (v : Value) (lf : Int) (sec : ByteArray) (n : Nat) (w : World) (hD : Dv.Dev w O d S W F v lf) (hW : W.length ≤ 1000) (hsec : sec.size ≤ 300) (hn : n < 9007199254740992) (hK : Sm.KB w)
    (hz : Su.parC (supK sec) (sb 256 (Dv.readF S W (n % 2))) = 15) :
    Calls Tryz.prog 46 #[.pointer (some ⟨d, 0, none⟩), .string sec, .int .i64 (n : Int)] w fun e w' => e = .returned (.tuple #[.agg st0, .bool false]) ∧ Below w.heap.size w w' := by
  have z0 := Su.sup0_size
  have o0 := Su.sup0_one
  have zz := Su.zero93
  have z1 := st0_size
  have o1 := st0_one
  have zt := zeroSt
  have bt := buildSt0
  have hRS := fun w' (hb : Below w.heap.size w w') => readSuper_bad d O S W F v lf sec n w' (hD.below hb) hW hsec hn (hK.below hb) hz
  obtain ⟨Z, hZ⟩ : ∃ Z, Hid (Su.sup0 = Z) := ⟨_, rfl⟩
  rw [hZ.out] at z0 o0 zz hRS
  obtain ⟨Y, hY⟩ : ∃ Z, Hid (st0 = Z) := ⟨_, rfl⟩
  rw [hY.out] at z1 o1 zt bt
  rw [hY.out]
  have g1 := Pg.below_alloc w (.cells Y 74)
  go_enter Tryz.func46, Tryz.ntmps46
  go_wp2_with fail
  refine (hRS _ g1).mono ?_
  rintro e w2 ⟨rfl, g2⟩
  have b2 := g1.trans (g2.mono g1.size)
  have j2 := (Blk.new w Y 74).below g2 (by simp)
  have j3 := j2.alloc (.cells Z 72)
  have b3 := b2.trans ((Pg.below_alloc w2 (.cells Z 72)).mono b2.size)
  have hlt2 : w.heap.size < w2.heap.size := j2.lt
  clear hRS
  go_wp2_with (first
    | (refine Su.wpl_storeV rfl rfl 72 _ _ rfl 35 Su.sz93 w2.heap.size Z 72 Z o0 rfl rfl (Blk.new w2 _ _) z0 z0 ?_; intro w6 hu6 j6; have k6 := j3.upd hu6 (by omega))
    | (refine Su.wpl_storeV rfl rfl 74 _ _ rfl 36 szSt w.heap.size Y 74 Y o1 rfl rfl k6 z1 z1 ?_; intro w7 hu7 j7)
    | fail)
  exact Su.ret_cellV2 6 7 74 rfl Tryz.isAgg74 36 szSt w.heap.size Y 74 z1 _ rfl rfl j7 rfl ⟨rfl, below_upd (below_upd b3 hu6 (Nat.le_of_lt hlt2)) hu7 (Nat.le_refl _)⟩
theorem wpl_bld {P : Program} {ops : Array Oper} {Q : Exit → Act → World → Prop} {a : Act} {w : World} {rest : List Oper} {o : Oper} (hgd : o.guard = none) (t : TypeId) (parts : Array (Nat × Operand)) (ho : o.op = .build t parts) (vs : Array (Nat × Value)) (hp : (parts.map fun p => (p.1, a.eval p.2)) = vs) (v : Value) (hb : (Instr.build t vs).run P w = .ok v w)
    (h : wpList P ops Q rest (a.put o.dst v) w) : wpList P ops Q (o :: rest) a w := by
  refine wpList_plain hgd fun K hK => ?_
  unfold Oper.wp
  rw [Su.exec_build t parts ho v vs hp hb]
  exact hK _ _ h
theorem build1 (w : World) : (Instr.build 72 #[(1, .int .i64 1)]).run Tryz.prog w = .ok (.agg (Su.supA 0 1 (fun _ => false) ⟨#[]⟩)) w := run_build w 72 _ _ (by kernel_rfl)
set_option maxRecDepth 100000 in
set_option maxHeartbeats 400000 in
theorem last_0 (d c : Nat) (O : Nat → Prop) (S : Nat → Nat → UInt8) (W : List (Nat × (Nat → UInt8))) (F : Int) (v : Value) (lf : Int) (sec : ByteArray) (w : World) (hD : Dv.Dev w O d S W F v lf) (hC : Dv.Cnt w c 0) (hW : W.length ≤ 1000) (hsec : sec.size ≤ 300) (hK : Sm.KB w)
    (hz : Su.parC (supK sec) (sb 256 (Dv.readF S W 1)) = 15) :
    Calls Tryz.prog 32 #[.pointer (some ⟨d, 0, none⟩), .pointer (some ⟨c, 0, none⟩), .string sec] w fun e w' => (∃ CB, e = .returned (.tuple #[.agg (stA 0 1 (fun _ => false) ⟨#[]⟩ (.map (some CB))), .nilIface]) ∧ MapF Tryz.prog w' CB 0 (fun _ => none) ∧ w.heap.size ≤ CB) ∧ Below w.heap.size w w' := by
  have z1 := st0_size
  have o1 := st0_one
  have zt := zeroSt
  have hRS : ∀ w', Below w.heap.size w w' → Calls Tryz.prog 46 #[.pointer (some ⟨d, 0, none⟩), .string sec, .int .i64 1] w' fun e w'' => e = .returned (.tuple #[.agg st0, .bool false]) ∧ Below w'.heap.size w' w'' := fun w' hb => by
    have h := whole_bad d O S W F v lf sec 1 w' (hD.below hb) hW hsec (by decide) (hK.below hb) hz
    rw [show ((1 : Nat) : Int) = 1 from rfl] at h
    exact h
  obtain ⟨Y, hY⟩ : ∃ Z, Hid (st0 = Z) := ⟨_, rfl⟩
  rw [hY.out] at z1 o1 zt hRS
  have g1 := Pg.below_alloc w (.cells Y 74)
  have b1s := build1
  obtain ⟨U, hU⟩ : ∃ Z, Hid (Su.supA 0 1 (fun _ => false) ⟨#[]⟩ = Z) := ⟨_, rfl⟩
  rw [hU.out] at b1s
  have B1 : Hid (∀ w : World, (Instr.build 72 #[(1, .int .i64 1)]).run Tryz.prog w = .ok (.agg U) w) := b1s
  clear b1s
  have hbs : ∀ (m : Option Nat) (w : World), (Instr.build 74 #[(0, .agg U), (1, .map m)]).run Tryz.prog w = .ok (.agg (stA 0 1 (fun _ => false) ⟨#[]⟩ (.map m))) w := fun m w => by rw [← hU.out]; exact buildSt 0 1 _ _ m w
  have z2 : ∀ m : Option Nat, (stA 0 1 (fun _ => false) ⟨#[]⟩ (.map m)).size = 36 := fun m => stA_size _ _ _ _ _
  have o2 : ∀ m : Option Nat, ∀ v ∈ (stA 0 1 (fun _ => false) ⟨#[]⟩ (.map m)).toList, v.oneCell' = true := fun m => stA_one _ _ _ _ _ rfl
  obtain ⟨G, hG⟩ : ∃ G : Option Nat → Array Value, Hid (∀ m, stA 0 1 (fun _ => false) ⟨#[]⟩ (.map m) = G m) := ⟨_, fun _ => rfl⟩
  simp only [hG.out] at hbs z2 o2
  simp only [hG.out]
  have HG : Hid ((∀ (m : Option Nat) (w : World), (Instr.build 74 #[(0, .agg U), (1, .map m)]).run Tryz.prog w = .ok (.agg (G m)) w) ∧ (∀ m : Option Nat, (G m).size = 36) ∧ ∀ m : Option Nat, ∀ v ∈ (G m).toList, v.oneCell' = true) := ⟨hbs, z2, o2⟩
  clear hU hG hY hbs z2 o2
  go_enter Tryz.func32, Tryz.ntmps32
  go_wp2_with fail
  refine (Dv.get_any c 0 _ (hC.below g1 hC.lt)).mono ?_
  rintro e w1 ⟨rfl, hw1⟩
  obtain rfl := hw1
  go_wp2_with fail
  refine (hRS _ g1).mono ?_
  rintro e w2 ⟨rfl, g2⟩
  have b2 := g1.trans (g2.mono g1.size)
  have j2 := (Blk.new w Y 74).below g2 (by simp)
  have j3 := j2.alloc (.cells Y 74)
  have b3 := b2.trans ((Pg.below_alloc w2 (.cells Y 74)).mono b2.size)
  have hlt2 : w.heap.size < w2.heap.size := j2.lt
  clear hRS
  have hmk := mkMap
  go_wp2_with (first
    | (refine Su.wpl_storeV rfl rfl 74 _ _ rfl 36 szSt w2.heap.size Y 74 Y o1 rfl rfl (Blk.new w2 _ _) z1 z1 ?_; intro w6 hu6 j6; have k6 := j3.upd hu6 (by omega); have b6 := below_upd b3 hu6 (Nat.le_of_lt hlt2))
    | (refine Su.wpl_storeV rfl rfl 74 _ _ rfl 36 szSt w.heap.size Y 74 (G (some w6.heap.size)) (HG.out.2.2 _) rfl rfl (k6.alloc (.map #[] 0)) z1 (HG.out.2.1 _) ?_; intro w7 hu7 j7)
    | (refine wpl_bld rfl 72 _ rfl #[(1, .int .i64 1)] (by kernel_rfl) (.agg U) (B1.out _) ?_)
    | (refine wpl_bld rfl 74 _ rfl #[(0, .agg U), (1, .map (some w6.heap.size))] (by kernel_rfl) (.agg (G (some w6.heap.size))) (HG.out.1 (some w6.heap.size) _) ?_)
    | fail)
  have m6 := (mapF_made Tryz.prog w6).upd hu7 (by have := b6.size; have := k6.lt; omega)
  have b7 := b6.trans ((Pg.below_alloc w6 (.map #[] 0)).mono b6.size)
  exact Su.ret_cellV2 6 7 74 rfl Tryz.isAgg74 36 szSt w.heap.size _ 74 (HG.out.2.1 _) _ rfl rfl j7 rfl ⟨⟨w6.heap.size, rfl, m6, b6.size⟩, below_upd b7 hu7 (Nat.le_refl _)⟩
theorem buildVa (d c : Nat) (sec : ByteArray) (CB : Nat) (w : World) : (Instr.build 76 #[(0, .pointer (some ⟨d, 0, none⟩)), (1, .pointer (some ⟨c, 0, none⟩)), (2, .string sec), (3, .agg (stA 0 1 (fun _ => false) ⟨#[]⟩ (.map (some CB))))]).run Tryz.prog w = .ok (.agg (vaA d c sec (stA 0 1 (fun _ => false) ⟨#[]⟩ (.map (some CB))) false)) w := run_build w 76 _ _ (by kernel_rfl)
set_option maxRecDepth 100000 in
set_option maxHeartbeats 400000 in
theorem open_0 (d c : Nat) (O : Nat → Prop) (S : Nat → Nat → UInt8) (W : List (Nat × (Nat → UInt8))) (F : Int) (v : Value) (lf : Int) (sec : ByteArray) (w : World) (hD : Dv.Dev w O d S W F v lf) (hC : Dv.Cnt w c 0) (hW : W.length ≤ 1000) (hsec : sec.size = 16) (hK : Sm.KB w)
    (hz : Su.parC (supK sec) (sb 256 (Dv.readF S W 1)) = 15) :
    Calls Tryz.prog 15 #[.pointer (some ⟨d, 0, none⟩), .pointer (some ⟨c, 0, none⟩), .string sec] w fun e w' => (∃ VB CB, e = .returned (.tuple #[.pointer (some ⟨VB, 0, none⟩), .nilIface]) ∧ Vlt w' VB d c sec 0 1 (fun _ => false) ⟨#[]⟩ CB 0 (fun _ => none) false ∧ w.heap.size ≤ VB ∧ w.heap.size ≤ CB) ∧ Below w.heap.size w w' := by
  have hs' : (sec.size : Int) = 16 := by omega
  have z1 := st0_size
  have zt := zeroSt
  obtain ⟨Y, hY⟩ : ∃ Z, Hid (st0 = Z) := ⟨_, rfl⟩
  rw [hY.out] at z1 zt
  clear hY
  go_enter Tryz.func15, Tryz.ntmps15
  go_wp2_with fail
  refine (last_0 d c O S W F v lf sec w hD hC hW (by omega) hK hz).mono ?_
  rintro e w1 ⟨⟨CB, rfl, hM1, hCB⟩, g1⟩
  have u0 := stA_size 0 1 (fun _ => false) ⟨#[]⟩ (.map (some CB))
  have u1 := stA_one 0 1 (fun _ => false) ⟨#[]⟩ (.map (some CB)) rfl
  have B1 : Hid (∀ w : World, _) := buildVa d c sec CB
  obtain ⟨X, hX⟩ : ∃ X, Hid (stA 0 1 (fun _ => false) ⟨#[]⟩ (.map (some CB)) = X) := ⟨_, rfl⟩
  rw [hX.out] at u0 u1 B1
  rw [hX.out]
  obtain ⟨VA, hVA⟩ : ∃ V, Hid (vaA d c sec X false = V) := ⟨_, rfl⟩
  rw [hVA.out] at B1
  go_wp2_with (first
    | (refine Su.wpl_storeV rfl rfl 74 _ _ rfl 36 szSt w1.heap.size Y 74 X u1 rfl rfl (Blk.new w1 _ _) z1 u0 ?_; intro w2 hu2 j2)
    | (refine Su.wpl_loadV rfl 74 _ rfl Tryz.isAgg74 36 szSt w1.heap.size 0 X 74 rfl j2 (by omega) ?_; rw [Su.ext_all u0])
    | (refine wpl_bld rfl 76 _ rfl #[(0, .pointer (some ⟨d, 0, none⟩)), (1, .pointer (some ⟨c, 0, none⟩)), (2, .string sec), (3, .agg X)] (by kernel_rfl) (.agg VA) (B1.out _) ?_)
    | fail)
  go_ret2
  have s2 : Below w1.heap.size w1 w2 := below_upd (Pg.below_alloc w1 _) hu2 (Nat.le_refl _)
  have b2 := g1.trans (s2.mono g1.size)
  refine ⟨⟨w2.heap.size, CB, rfl, ⟨?_, ((hM1.below s2 hM1.lt).alloc _)⟩, b2.size, hCB⟩, b2.trans ((Pg.below_alloc w2 _).mono b2.size)⟩
  rw [hX.out, hVA.out]
  exact Blk.new w2 VA 76
end Go.Proofs.YtkapkphhceknfaaGreatDoor.Vt
namespace Go.Proofs.YtkapkphhceknfaaGreatDoor.Su
open Go.RowKit Pg
theorem bt_ext (s : ByteArray) (a b j : Nat) (h : a + j < b) (_hb : b ≤ s.size) : bt (s.extract a b) j = bt s (a + j) := by
  unfold bt
  rw [ByteArray.data_extract, Array.toList_extract, List.extract_eq_take_drop]
  rw [List.getD_eq_getElem?_getD, List.getD_eq_getElem?_getD, List.getElem?_take, if_pos (by omega), List.getElem?_drop]
theorem verF_congr (s t : ByteArray) : ∀ k, (∀ j, j < k → bt s j = bt t j) → verF s k = verF t k
  | 0, _ => rfl
  | k + 1, h => by unfold verF; rw [verF_congr s t k (fun j hj => h j (by omega)), h k (by omega)]
theorem verN_cut (s : ByteArray) (a b : Nat) (hb : b = a + 8) (hs : b ≤ s.size) : verN (s.extract a s.size) = verN (s.extract a b) := by
  unfold verN
  rw [verF_congr (s.extract a s.size) (s.extract a b) 8 fun j hj => by rw [bt_ext _ _ _ _ (by omega) (Nat.le_refl _), bt_ext _ _ _ _ (by omega) hs]]
theorem side_cut (s : ByteArray) (hs : 50 ≤ s.size) (j : Nat) (hj : j < 32) : sideF s 18 j = fF s j := by
  unfold fF sideF
  rw [Nat.zero_add, bt_ext _ _ _ _ (by omega) hs]
theorem blank_iff (s : ByteArray) (h : 82 ≤ s.size) : blank (s.extract 82 s.size) = true ↔ s.data.toList.drop 82 = List.replicate (s.size - 82) 0 := by
  have hl : s.data.toList.length = s.size := rfl
  unfold blank
  rw [decide_eq_true_eq]
  constructor
  · intro hz
    refine List.eq_replicate_iff.2 ⟨by rw [List.length_drop, hl], fun b hb => ?_⟩
    obtain ⟨i, hi, rfl⟩ := List.mem_iff_getElem.1 hb
    rw [List.length_drop, hl] at hi
    have := hz i (by rw [ByteArray.size_extract]; omega)
    rw [bt_ext _ _ _ _ (by omega) (Nat.le_refl _)] at this
    unfold bt at this
    rw [List.getD_eq_getElem?_getD, List.getElem?_eq_getElem (by omega), Option.getD_some] at this
    rw [List.getElem_drop]
    exact UInt8.toNat_inj.1 this
  · intro hd j hj
    rw [ByteArray.size_extract] at hj
    rw [bt_ext _ _ _ _ (by omega) (Nat.le_refl _)]
    unfold bt
    have e : s.data.toList[82 + j]? = some 0 := by
      rw [← List.getElem?_drop, hd, List.getElem?_replicate, if_pos (by omega)]
    rw [List.getD_eq_getElem?_getD, e]; rfl
/-- A text is another one with 0 behind it. -/
theorem tail_eq (s A : ByteArray) (h : 82 ≤ s.size) (hA : A.size = 82) : (s.toList == (A ++ zs (s.size - 82)).toList) = (((s.extract 0 82).toList == A.toList) && blank (s.extract 82 s.size)) := by
  have hl : s.data.toList.length = s.size := rfl
  have ha : A.data.toList.length = 82 := hA
  rw [Bool.eq_iff_iff, Bool.and_eq_true, beq_iff_eq, beq_iff_eq, blank_iff s h, ByteArray.toList_eq, ByteArray.toList_eq, ByteArray.toList_eq, ByteArray.toList_eq]
  have e1 : (A ++ zs (s.size - 82)).data.toList = A.data.toList ++ List.replicate (s.size - 82) 0 := by
    rw [ByteArray.data_append, Array.toList_append]; rfl
  have e2 : (s.extract 0 82).data.toList = s.data.toList.take 82 := by
    rw [ByteArray.data_extract, Array.toList_extract, List.extract_eq_take_drop]; rfl
  rw [e1, e2]
  constructor
  · intro he
    rw [he]
    exact ⟨by rw [List.take_append_of_le_length (by omega), List.take_of_length_le (by omega)], by rw [List.drop_append_of_le_length (by omega), List.drop_of_length_le (by omega), List.nil_append]⟩
  · rintro ⟨h1, h2⟩
    rw [← List.take_append_drop 82 s.data.toList, h1, h2]
/-- Whether a text was written so, asked at once. -/
theorem okP_eq (key s : ByteArray) (h : 82 ≤ s.size) : okP key s = (okW key (fC s) (fE s) (fR s) && (s.toList == (allT key (fC s) (fE s) (fF s) (fR s) ++ zs (s.size - 82)).toList)) := by
  unfold okP
  cases ho : okW key (fC s) (fE s) (fR s) with
  | false => rw [Bool.false_and, Bool.false_and, Bool.false_and]
  | true =>
    have hz : (allT key (fC s) (fE s) (fF s) (fR s)).size = 82 := by rw [allT_size, (okW_parts ho).2.2.2]
    generalize allT key (fC s) (fE s) (fF s) (fR s) = A at *
    rw [tail_eq s A h hz, Bool.true_and, Bool.true_and]
end Go.Proofs.YtkapkphhceknfaaGreatDoor.Su
