/-
  Part of the proof: the code's fields and Parse of what tells of all are walked.
  Part of the proof: a device's cells, by plain functions.
-/
import Derived.Test.YtkapkphhceknfaaGreatDoorB19
import Derived.Laws.Tables
import Derived.Test.YtkapkphhceknfaaGreatDoorB09
import Derived.Test.YtkapkphhceknfaaGreatDoorB03
namespace Go.Proofs.YtkapkphhceknfaaGreatDoor.Su
open Go.RowKit Pg
theorem build4 (c e : Int) (f : Nat → Bool) (r : ByteArray) (w : World) : (Instr.build 72 #[(0, .int .i64 c), (1, .int .i64 e), (2, .agg (bl 32 f)), (3, .string r)]).run Tryz.prog w = .ok (.agg (supA c e f r)) w := run_build w 72 _ _ (by kernel_rfl)
theorem build3 (c e : Int) (r : ByteArray) (w : World) : (Instr.build 72 #[(0, .int .i64 c), (1, .int .i64 e), (3, .string r)]).run Tryz.prog w = .ok (.agg (supA c e (fun _ => false) r)) w := run_build w 72 _ _ (by kernel_rfl)
theorem build0 (w : World) : (Instr.build 72 #[]).run Tryz.prog w = .ok (.agg sup0) w := run_build w 72 _ _ (by kernel_rfl)
section
variable {P : Program} {Q : Exit → Act → World → Prop} {K : Act → World → Prop} {a : Act} {w : World} {o : Oper}
theorem op_storeV (hdn : o.dst = none) (t : TypeId) (x y : Operand) (ho : o.op = .store t x y) (n : Nat) (hi0 : (P.info? t).map (·.size) = some n)
    (b : Nat) (arr : Array Value) (T : TypeId) (vs : Array Value) (hone : ∀ v ∈ vs.toList, v.oneCell' = true) (hx : a.eval x = .pointer (some ⟨b, 0, none⟩)) (hy : a.eval y = .agg vs) (hb : Blk w b arr T) (hn : arr.size = n) (hv : vs.size = n)
    (h : ∀ w', Upd w w' b → Blk w' b vs T → K a w') : o.wp P a w K Q := by
  unfold Oper.wp execOp
  simp only [ho, hx, hy, Instr.storeAt, Instr.sureAddr, Sem.run_bind, Sem.run_pure, Result.andThen_ok, storeVar_run t n hi0 b arr vs T hone hb hn hv]
  simp only [Oper.upon_skip, hdn, Act.put]
  exact h _ (putBlk_upd _ _ _) (putBlk_blk hb)
end
theorem exec_build {P : Program} {a : Act} {o : Oper} {w : World} (t : TypeId) (parts : Array (Nat × Operand)) (ho : o.op = .build t parts) (v : Value) (vs : Array (Nat × Value)) (hp : (parts.map fun p => (p.1, a.eval p.2)) = vs) (hb : (Instr.build t vs).run P w = .ok v w) : (execOp a.eval o).run P w = .ok (.value v) w := by
  subst hp
  unfold execOp
  simp only [ho, Sem.run_bind, Sem.run_pure]
  rw [show (parts.map fun x => (x.1, a.eval x.2)) = (parts.map fun (x : Nat × Operand) => match x with | (i, p) => (i, a.eval p)) from rfl] at hb
  rw [hb]
  rfl
theorem sup0_size : sup0.size = 35 := supA_size _ _ _ _
/-- What stands at a text's places. -/
def fC (s : ByteArray) : Int := verN (s.extract 2 10)
def fE (s : ByteArray) : Int := verN (s.extract 10 18)
def fF (s : ByteArray) : Nat → Bool := sideF (s.extract 18 50) 0
def fR (s : ByteArray) : ByteArray := s.extract 50 66
set_option maxRecDepth 100000 in
set_option maxHeartbeats 2000000 in
theorem fields_any (s : ByteArray) (w : World) (h82 : 82 ≤ s.size) (hs : s.size ≤ 10000) :
    Calls Tryz.prog 100 #[.string s] w fun e w' => e = .returned (.agg (supA (fC s) (fE s) (fF s) (fR s))) ∧ Below w.heap.size w w' := by
  have z93 := zero93
  have x1 : (s.extract 2 10).size = 8 := by rw [ByteArray.size_extract]; omega
  have x2 : (s.extract 10 18).size = 8 := by rw [ByteArray.size_extract]; omega
  have x3 : (s.extract 18 50).size = 32 := by rw [ByteArray.size_extract]; omega
  have x4 : (s.extract 50 66).size = 16 := by rw [ByteArray.size_extract]; omega
  have h82' : (82 : Int) ≤ (s.size : Int) := by omega
  go_enter Tryz.func100, Tryz.ntmps100
  go_wp2_with fail
  have g0 := below_alloc w (.cells sup0 72)
  have j0 := Blk.new w sup0 72
  generalize hw1 : w.alloc (.cells sup0 72) = w1 at *
  have HW : Hid (w.heap.size < w1.heap.size) := by unfold Hid; rw [← hw1]; simp
  clear hw1 z93
  refine regS_in 14 (fun _ => True) mixed rfl ?_
  refine regS_take 0 3 (.string s) rfl rfl (by kernel_rfl) (fun _ _ _ h => h) rfl (fun w _ => by go_simp) trivial ?_
  refine regS_take 1 4 (.string (s.extract 2 10)) rfl rfl (by kernel_rfl) (fun _ _ _ h => h) rfl (fun w _ => by go_simp; intro h; exfalso; omega) trivial ?_
  refine regS_take 3 6 (.string s) rfl rfl (by kernel_rfl) (fun _ _ _ h => h) rfl (fun w _ => by go_simp) trivial ?_
  refine regS_take 4 7 (.string (s.extract 10 18)) rfl rfl (by kernel_rfl) (fun _ _ _ h => h) rfl (fun w _ => by go_simp; intro h; exfalso; omega) trivial ?_
  refine regS_take 6 9 (.string s) rfl rfl (by kernel_rfl) (fun _ _ _ h => h) rfl (fun w _ => by go_simp) trivial ?_
  refine regS_take 7 10 (.string (s.extract 18 50)) rfl rfl (by kernel_rfl) (fun _ _ _ h => h) rfl (fun w _ => by go_simp; intro h; exfalso; omega) trivial ?_
  refine regS_take 9 12 (.string s) rfl rfl (by kernel_rfl) (fun _ _ _ h => h) rfl (fun w _ => by go_simp) trivial ?_
  refine regS_take 10 13 (.string (s.extract 50 66)) rfl rfl (by kernel_rfl) (fun _ _ _ h => h) rfl (fun w _ => by go_simp; intro h; exfalso; omega) trivial ?_
  simp only [Act.put, List.setIfInBounds_toArray, List.set_cons_succ, List.set_cons_zero]
  clear h82' h82 hs
  refine regS_one 2 rfl (by kernel_rfl) rfl (fun K hK' => ?_)
  go_wp2_with fail
  refine (snumber_any _ _ (by omega) (by omega)).mono ?_
  rintro e' w2 ⟨rfl, rfl⟩
  refine hK' _ _ trivial ?_
  clear hK' K
  refine regS_one 5 rfl (by kernel_rfl) rfl (fun K hK' => ?_)
  go_wp2_with fail
  refine (snumber_any _ _ (by omega) (by omega)).mono ?_
  rintro e' w2 ⟨rfl, rfl⟩
  refine hK' _ _ trivial ?_
  clear hK' K
  refine regS_one 8 rfl (by kernel_rfl) rfl (fun K hK' => ?_)
  go_wp2_with fail
  refine (sides_any _ _ x3).mono ?_
  rintro e' w2 ⟨rfl, g2⟩
  refine hK' _ _ trivial ?_
  clear hK' K
  refine regS_one 11 rfl (by kernel_rfl) rfl (fun K hK' => ?_)
  go_wp2_with fail
  refine (clone_any _ _ (by omega)).mono ?_
  rintro e' w3 ⟨rfl, g3⟩
  refine hK' _ _ trivial ?_
  clear hK' K
  have b1 : Below w1.heap.size w1 w3 := ((below_drewN (Below.refl _ _) 1).trans g2).trans (g3.mono g2.size)
  have j3 := j0.below b1 HW.out
  have b3 := g0.trans (b1.mono g0.size)
  refine regS_take 12 15 (.agg (supA (fC s) (fE s) (fF s) (fR s))) rfl rfl (by kernel_rfl) (fun _ _ _ h => h) rfl (fun w _ => exec_build 72 #[(0, .tmp 5), (1, .tmp 8), (2, .tmp 11), (3, .tmp 14)] rfl _ #[(0, .int .i64 (fC s)), (1, .int .i64 (fE s)), (2, .agg (bl 32 (fF s))), (3, .string (fR s))] (by kernel_rfl) (build4 (fC s) (fE s) (fF s) (fR s) w)) trivial ?_
  simp only [Act.put, List.setIfInBounds_toArray, List.set_cons_succ, List.set_cons_zero]
  have hn := supA_size (fC s) (fE s) (fF s) (fR s)
  have h1 := supA_one (fC s) (fE s) (fF s) (fR s)
  obtain ⟨V, hV⟩ : ∃ V, Hid (supA (fC s) (fE s) (fF s) (fR s) = V) := ⟨_, rfl⟩
  rw [hV.out] at hn h1
  rw [hV.out]
  refine regS_last 13 rfl (by kernel_rfl) rfl (fun K hK' => ?_)
  refine op_storeV rfl 72 (.tmp 2) (.tmp 15) rfl 35 sz93 w.heap.size sup0 72 V h1 rfl rfl j3 sup0_size hn ?_
  intro w4 hu4 j4
  refine hK' _ _ trivial ?_
  clear hK' K
  go_wp2_with fail
  exact ret_cellV 2 72 rfl Tryz.isAgg72 35 sz93 w.heap.size V 72 hn rfl j4 rfl ⟨by rw [hV.out], below_upd b3 hu4 (Nat.le_refl _)⟩
/-- Whether a text, long enough, was written so. -/
def okP (key s : ByteArray) : Bool := okW key (fC s) (fE s) (fR s) && ((s.extract 0 82).toList == (allT key (fC s) (fE s) (fF s) (fR s)).toList) && blank (s.extract 82 s.size)
/-- What Parse tells. -/
def parC (key s : ByteArray) : Int := if key.size = 32 then if s.size < 82 then 15 else if okP key s then 0 else 15 else 1
def parV (key s : ByteArray) : Array Value := if key.size = 32 then if s.size < 82 then sup0 else if okP key s then supA (fC s) (fE s) (fF s) (fR s) else sup0 else sup0
theorem sup0_one : ∀ v ∈ sup0.toList, v.oneCell' = true := supA_one _ _ _ _
set_option maxRecDepth 100000 in
set_option maxHeartbeats 2000000 in
theorem parse_short (key s : ByteArray) (w : World) (h : key.size = 32 → s.size < 82) :
    Calls Tryz.prog 87 #[.string key, .string s] w fun e w' => e = .returned (.tuple #[.agg sup0, .iface 41 (.int .i64 (if key.size = 32 then 15 else 1))]) ∧ Below w.heap.size w w' := by
  have z93 := zero93
  have hb := build0
  have hn := sup0_size
  have h1 := sup0_one
  obtain ⟨V, hV⟩ : ∃ V, Hid (sup0 = V) := ⟨_, rfl⟩
  rw [hV.out] at hn h1
  simp only [hV.out] at z93 hb
  rw [hV.out]
  have j0 := Blk.new w V 72
  have g0 := below_alloc w (.cells V 72)
  by_cases c1 : key.size = 32
  · have c1' : (key.size : Int) = 32 := by omega
    have c2 := h c1
    have c2' : (s.size : Int) < 82 := by omega
    rw [if_pos c1]
    go_enter Tryz.func87, Tryz.ntmps87
    go_wp2_with (refine wpl_storeV rfl rfl 72 _ _ rfl 35 sz93 w.heap.size V 72 V h1 rfl rfl j0 hn hn ?_; intro w1 hu1 j1)
    exact ret_cellV2 4 5 72 rfl Tryz.isAgg72 35 sz93 w.heap.size V 72 hn _ rfl rfl j1 rfl ⟨rfl, below_upd g0 hu1 (Nat.le_refl _)⟩
  · have c1' : ¬ ((key.size : Int) = 32) := by omega
    rw [if_neg c1]
    go_enter Tryz.func87, Tryz.ntmps87
    go_wp2_with (refine wpl_storeV rfl rfl 72 _ _ rfl 35 sz93 w.heap.size V 72 V h1 rfl rfl j0 hn hn ?_; intro w1 hu1 j1)
    exact ret_cellV2 4 5 72 rfl Tryz.isAgg72 35 sz93 w.heap.size V 72 hn _ rfl rfl j1 rfl ⟨rfl, below_upd g0 hu1 (Nat.le_refl _)⟩
theorem ext_all {vs : Array Value} {n : Nat} (h : vs.size = n) : vs.extract 0 (0 + n) = vs := by
  subst h; rw [Nat.zero_add]; exact Array.extract_size
set_option maxRecDepth 100000 in
set_option maxHeartbeats 2000000 in
theorem parse_long (key s : ByteArray) (w : World) (hk : key.size = 32) (h82 : 82 ≤ s.size) (hs : s.size ≤ 10000) (hK : Sm.KB w) (X : Array Value) (Y : Value)
    (hg : okP key s = true → X = supA (fC s) (fE s) (fF s) (fR s) ∧ Y = .nilIface) (hf : okP key s = false → X = sup0 ∧ Y = .iface 41 (.int .i64 15)) :
    Calls Tryz.prog 87 #[.string key, .string s] w fun e w' => e = .returned (.tuple #[.agg X, Y]) ∧ Below w.heap.size w w' := by
  have HG : Hid (okP key s = true → X = supA (fC s) (fE s) (fF s) (fR s) ∧ Y = .nilIface) := hg
  have HB : Hid (okP key s = false → X = sup0 ∧ Y = .iface 41 (.int .i64 15)) := hf
  clear hg hf
  have z93 := zero93
  have hb := build0
  have zn := sup0_size
  have z1 := sup0_one
  obtain ⟨Z, hZ⟩ : ∃ Z, Hid (sup0 = Z) := ⟨_, rfl⟩
  rw [hZ.out] at zn z1
  simp only [hZ.out] at z93 hb
  have hn := supA_size (fC s) (fE s) (fF s) (fR s)
  have h1 := supA_one (fC s) (fE s) (fF s) (fR s)
  have HW := fun (w0 : World) (k0 : Sm.KB w0) => write_any key (fC s) (fE s) (fF s) (fR s) w0 k0
  have HF := fun (w0 : World) => fields_any s w0 h82 hs
  obtain ⟨V, hV⟩ : ∃ V, Hid (supA (fC s) (fE s) (fF s) (fR s) = V) := ⟨_, rfl⟩
  rw [hV.out] at hn h1
  simp only [hV.out] at HW HF
  have k1 : (key.size : Int) = 32 := by omega
  have k2 : ¬ ((s.size : Int) < 82) := by omega
  have x1 : (s.extract 82 s.size).size ≤ 10000 := by rw [ByteArray.size_extract]; omega
  have j0 := Blk.new w Z 72
  have g0 := below_alloc w (.cells Z 72)
  go_enter Tryz.func87, Tryz.ntmps87
  go_wp2_with fail
  generalize hw1 : w.alloc (.cells Z 72) = w1 at *
  have HL : Hid (w.heap.size < w1.heap.size) := by unfold Hid; rw [← hw1]; simp
  clear hw1
  refine (HF _).mono ?_
  rintro e' w2 ⟨rfl, g2⟩
  have j2 := j0.below g2 HL.out
  have b2 := g0.trans (g2.mono g0.size)
  go_wp2_with (first
    | (refine wpl_storeV rfl rfl 72 _ _ rfl 35 sz93 w2.heap.size Z 72 V h1 rfl rfl (Blk.new w2 Z 72) zn hn ?_; intro w3 hu3 i3)
    | (refine wpl_loadV rfl 72 _ rfl Tryz.isAgg72 35 sz93 w2.heap.size 0 V 72 rfl i3 (by omega) ?_; rw [ext_all hn])
    | fail)
  have b3 := below_upd (b2.alloc b2.size (.cells Z 72)) hu3 b2.size
  have j3 := (j2.alloc (.cells Z 72)).upd hu3 (by have := j2.lt; omega)
  clear g2 b2 j2 g0 j0
  refine (HW _ (hK.below b3)).mono ?_
  rintro e' w4 ⟨rfl, g4⟩
  have b4 := b3.trans (g4.mono b3.size)
  have j4 := j3.below g4 j3.lt
  have i4 := i3.below g4 i3.lt
  clear b3 j3 i3 hu3 g4 HW HF
  cases ho : okW key (fC s) (fE s) (fR s) with
  | false =>
    obtain ⟨hX, hY⟩ := HB.out (by unfold okP; rw [ho]; rfl)
    rw [hZ.out] at hX
    have hT : wrT key (fC s) (fE s) (fF s) (fR s) = ⟨#[]⟩ := by unfold wrT; rw [ho]; rfl
    have hC : errV (wrC key (fC s) (fE s) (fR s)) = .iface 41 (.int .i64 1) := by unfold wrC errV; rw [ho]; rfl
    rw [hT, hC]
    clear HG HB hT hC
    go_wp2_with (refine wpl_storeV rfl rfl 72 _ _ rfl 35 sz93 w.heap.size Z 72 Z z1 rfl rfl j4 zn zn ?_; intro w5 hu5 j5)
    exact ret_cellV2 4 5 72 rfl Tryz.isAgg72 35 sz93 w.heap.size Z 72 zn _ rfl rfl j5 rfl ⟨by rw [hX, hY]; rfl, below_upd b4 hu5 (Nat.le_refl _)⟩
  | true =>
    have hC : errV (wrC key (fC s) (fE s) (fR s)) = .nilIface := by unfold wrC errV; rw [ho]; rfl
    have hT : wrT key (fC s) (fE s) (fF s) (fR s) = allT key (fC s) (fE s) (fF s) (fR s) := by unfold wrT; rw [ho]; rfl
    have hO : okP key s = (((s.extract 0 82).toList == (allT key (fC s) (fE s) (fF s) (fR s)).toList) && blank (s.extract 82 s.size)) := by unfold okP; rw [ho, Bool.true_and]
    rw [hT, hC]
    clear hT hC
    generalize allT key (fC s) (fE s) (fF s) (fR s) = A at *
    cases c1 : ((s.extract 0 82).toList == A.toList) with
    | false =>
      obtain ⟨hX, hY⟩ := HB.out (by rw [hO, c1]; rfl)
      rw [hZ.out] at hX
      clear HG HB hO
      go_wp2_with (refine wpl_storeV rfl rfl 72 _ _ rfl 35 sz93 w.heap.size Z 72 Z z1 rfl rfl j4 zn zn ?_; intro w5 hu5 j5)
      exact ret_cellV2 4 5 72 rfl Tryz.isAgg72 35 sz93 w.heap.size Z 72 zn _ rfl rfl j5 rfl ⟨by rw [hX, hY]; rfl, below_upd b4 hu5 (Nat.le_refl _)⟩
    | true =>
      cases c2 : blank (s.extract 82 s.size) with
      | false =>
        obtain ⟨hX, hY⟩ := HB.out (by rw [hO, c1, c2]; rfl)
        rw [hZ.out] at hX
        clear HG HB hO
        go_wp2_with (first
          | (go_at_call 101; refine (isBlank_any _ _ x1).mono ?_; rintro e' w' ⟨rfl, rfl⟩; rw [c2])
          | (refine wpl_storeV rfl rfl 72 _ _ rfl 35 sz93 w.heap.size Z 72 Z z1 rfl rfl j4 zn zn ?_; intro w5 hu5 j5)
          | fail)
        exact ret_cellV2 4 5 72 rfl Tryz.isAgg72 35 sz93 w.heap.size Z 72 zn _ rfl rfl j5 rfl ⟨by rw [hX, hY]; rfl, below_upd b4 hu5 (Nat.le_refl _)⟩
      | true =>
        obtain ⟨hX, hY⟩ := HG.out (by rw [hO, c1, c2]; rfl)
        rw [hV.out] at hX
        clear HG HB hO
        go_wp2_with (first
          | (go_at_call 101; refine (isBlank_any _ _ x1).mono ?_; rintro e' w' ⟨rfl, rfl⟩; rw [c2])
          | (refine wpl_storeV rfl rfl 72 _ _ rfl 35 sz93 w.heap.size Z 72 V h1 rfl rfl j4 zn hn ?_; intro w5 hu5 j5)
          | (refine wpl_loadV rfl 72 _ rfl Tryz.isAgg72 35 sz93 w2.heap.size 0 V 72 rfl i4 (by omega) ?_; rw [ext_all hn])
          | fail)
        exact ret_cellV2 4 5 72 rfl Tryz.isAgg72 35 sz93 w.heap.size V 72 hn _ rfl rfl j5 rfl ⟨by rw [hX, hY]; rfl, below_upd b4 hu5 (Nat.le_refl _)⟩
theorem parse_any (key s : ByteArray) (w : World) (hs : s.size ≤ 10000) (hK : Sm.KB w) :
    Calls Tryz.prog 87 #[.string key, .string s] w fun e w' => e = .returned (.tuple #[.agg (parV key s), errV (parC key s)]) ∧ Below w.heap.size w w' := by
  by_cases c1 : key.size = 32
  · by_cases c2 : s.size < 82
    · have := parse_short key s w (fun _ => c2)
      unfold parV parC errV
      simpa [c1, c2] using this
    · refine parse_long key s w c1 (by omega) hs hK _ _ (fun h => ?_) (fun h => ?_)
      · unfold parV parC errV; simp [c1, c2, h]
      · unfold parV parC errV; simp [c1, c2, h]
  · have := parse_short key s w (fun h => absurd h c1)
    unfold parV parC errV
    simpa [c1] using this
end Go.Proofs.YtkapkphhceknfaaGreatDoor.Su
namespace Go.Proofs.YtkapkphhceknfaaGreatDoor.Dv
open Go.RowKit
/-- Byte j of a text, 0 behind it. -/
def bAt (s : ByteArray) (j : Nat) : UInt8 := s.data.toList.getD j 0
/-- Blocks of 256 bytes, one behind the other. -/
def flat (S : Nat → Nat → UInt8) (j : Nat) : UInt8 := S (j / 256) (j % 256)
def putS (S : Nat → Nat → UInt8) (k : Nat) (g : Nat → UInt8) (i : Nat) : Nat → UInt8 := if i = k then g else S i
/-- A device's cells: its blocks, the writes that are not sure, whether it has a fuse, what is left of it. -/
def devA (S : Nat → Nat → UInt8) (v : Value) (fu : Bool) (lf : Int) : Array Value := tb 16896 (flat S) ++ #[v, .bool fu, .int .i64 lf]
section
variable (S : Nat → Nat → UInt8) (v : Value) (fu : Bool) (lf : Int)
theorem devA_size : (devA S v fu lf).size = 16899 := by simp [devA, tb_size]
theorem devA_0 : (devA S v fu lf)[16896]? = some v := by
  unfold devA; rw [Array.getElem?_append_right (by simp [tb_size])]; simp [tb_size]
theorem devA_1 : (devA S v fu lf)[16897]? = some (.bool fu) := by
  unfold devA; rw [Array.getElem?_append_right (by simp [tb_size])]; simp [tb_size]
theorem devA_2 : (devA S v fu lf)[16898]? = some (.int .i64 lf) := by
  unfold devA; rw [Array.getElem?_append_right (by simp [tb_size])]; simp [tb_size]
theorem devA_set0 (v' : Value) : (devA S v fu lf).setIfInBounds 16896 v' = devA S v' fu lf := by
  unfold devA; rw [Array.setIfInBounds_append_right (by simp [tb_size])]; simp [tb_size]
theorem devA_set1 (f' : Bool) : (devA S v fu lf).setIfInBounds 16897 (.bool f') = devA S v f' lf := by
  unfold devA; rw [Array.setIfInBounds_append_right (by simp [tb_size])]; simp [tb_size]
theorem devA_set2 (l' : Int) : (devA S v fu lf).setIfInBounds 16898 (.int .i64 l') = devA S v fu l' := by
  unfold devA; rw [Array.setIfInBounds_append_right (by simp [tb_size])]; simp [tb_size]
theorem devA_byte (j : Nat) (h : j < 16896) : (devA S v fu lf)[j]? = some (.int .u8 ((flat S j).toNat : Int)) := by
  unfold devA; rw [Array.getElem?_append_left (by simpa [tb_size] using h), tb_get _ _ _ h]
theorem devA_ext (k : Nat) (hk : k < 66) : (devA S v fu lf).extract (k * 256) (k * 256 + 256) = tb 256 (S k) := by
  apply Array.ext_getElem?; intro i
  by_cases hi : i < 256
  · rw [tb_get _ _ _ hi, Array.getElem?_extract, if_pos (by rw [devA_size]; omega), devA_byte _ _ _ _ _ (by omega)]
    unfold flat
    rw [show (k * 256 + i) / 256 = k from by omega, show (k * 256 + i) % 256 = i from by omega]
  · rw [Array.getElem?_eq_none (by rw [Array.size_extract, devA_size]; omega), Array.getElem?_eq_none (by rw [tb_size]; omega)]
end
theorem foldset_get (vs : List Value) : ∀ (c : Array Value) (i j : Nat), i + vs.length ≤ c.size → (foldset c i vs)[j]? = if i ≤ j ∧ j < i + vs.length then vs[j - i]? else c[j]? := by
  induction vs with
  | nil => intro c i j _; simp [foldset]; intro h1 h2; omega
  | cons v vs ih =>
    intro c i j h
    simp only [List.length_cons] at h
    simp only [foldset]
    rw [ih _ _ _ (by simp; omega), Array.getElem?_setIfInBounds]
    by_cases e : j = i
    · subst e
      rw [if_neg (by omega), if_pos rfl, if_pos (by omega), if_pos (by simp)]
      simp
    · by_cases e2 : i ≤ j ∧ j < i + (vs.length + 1)
      · rw [if_pos (by omega), if_pos (by simpa using e2)]
        obtain ⟨d, hd⟩ : ∃ d, j - i = d + 1 := ⟨j - i - 1, by omega⟩
        rw [hd, List.getElem?_cons_succ]; congr 1; omega
      · rw [if_neg (by omega), if_neg (Ne.symm e), if_neg (by simpa using e2)]
theorem devA_put (S : Nat → Nat → UInt8) (v : Value) (fu : Bool) (lf : Int) (k : Nat) (hk : k < 66) (g : Nat → UInt8) : foldset (devA S v fu lf) (k * 256) (tb 256 g).toList = devA (putS S k g) v fu lf := by
  apply Array.ext_getElem?; intro j
  rw [foldset_get _ _ _ _ (by simp [tb_size, devA_size]; omega)]
  by_cases hj : j < 16896
  · rw [devA_byte (putS S k g) _ _ _ _ hj]
    by_cases e : k * 256 ≤ j ∧ j < k * 256 + 256
    · rw [if_pos (by simpa [tb_size] using e)]
      have := tb_get 256 g (j - k * 256) (by omega)
      rw [← Array.getElem?_toList] at this
      rw [this]
      unfold flat putS
      rw [if_pos (by omega)]
      rw [show j % 256 = j - k * 256 from by omega]
    · rw [if_neg (by simpa [tb_size] using e), devA_byte _ _ _ _ _ hj]
      unfold flat putS
      rw [if_neg (by omega)]
  · rw [if_neg (by simp [tb_size]; omega)]
    unfold devA
    rw [Array.getElem?_append_right (by simp [tb_size]; omega), Array.getElem?_append_right (by simp [tb_size]; omega)]
    simp [tb_size]
theorem putS_S (S : Nat → Nat → UInt8) (k : Nat) : putS S k (S k) = S := by
  funext i; unfold putS; by_cases h : i = k
  · rw [if_pos h, h]
  · rw [if_neg h]
/-- A new device's cells. -/
def isZ : Value → Bool
  | .int .u8 0 => true
  | _ => false
theorem isZ_eq {v : Value} (h : isZ v = true) : v = .int .u8 0 := by
  unfold isZ at h; split at h
  · rfl
  · cases h
def FZ (l : List Value) : Prop := l.all isZ = true
def GZ (l : List Value) : Prop := ∃ a, a.all isZ = true ∧ l = a ++ [.slice none 0 0, .bool false, .int .i64 0]
theorem FZ.leaf {l : List Value} (h : l.all isZ = true) : FZ l := h
theorem FZ.app {a b : List Value} (ha : FZ a) (hb : FZ b) : FZ (a.append b) := by
  unfold FZ at *; show (a ++ b).all isZ = true; rw [List.all_append, ha, hb]; rfl
theorem GZ.app {a b : List Value} (ha : FZ a) (hb : GZ b) : GZ (a.append b) := by
  obtain ⟨c, hc, rfl⟩ := hb
  exact ⟨a ++ c, by rw [List.all_append]; unfold FZ at ha; rw [ha, hc]; rfl, by show a ++ _ = _; simp⟩
theorem GZ.leaf {l : List Value} (h : (l.take (l.length - 3)).all isZ = true) (h2 : l.drop (l.length - 3) = [.slice none 0 0, .bool false, .int .i64 0]) : GZ l :=
  ⟨_, h, by rw [← h2, List.take_append_drop]⟩
theorem zeroDev_g : GZ Tryz.zeroCells65.toList := by
  unfold Tryz.zeroCells65
  show GZ (List.append _ _)
  repeat' (first | refine GZ.app ?_ ?_ | refine FZ.app ?_ ?_ | exact GZ.leaf (by kernel_rfl) (by kernel_rfl) | exact FZ.leaf (by kernel_rfl))
theorem zeroDev : Tryz.zeroCells65 = devA (fun _ _ => 0) (.slice none 0 0) false 0 := by
  obtain ⟨a, ha, hl⟩ := zeroDev_g
  have hs := Tryz.zeroCells65_size
  have hla : a.length = 16896 := by
    have : Tryz.zeroCells65.toList.length = 16899 := hs
    rw [hl] at this; simp at this; omega
  have hr : a = List.replicate 16896 (.int .u8 0) := List.eq_replicate_iff.2 ⟨hla, fun b hb => isZ_eq (List.all_eq_true.1 ha b hb)⟩
  apply Array.toList_inj.1
  rw [hl, hr]
  have e : (tb 16896 (flat fun _ _ => 0)).toList = List.replicate 16896 (.int .u8 0) := by
    refine List.eq_replicate_iff.2 ⟨by rw [Array.length_toList, tb_size], fun b hb => ?_⟩
    unfold tb at hb
    simp only [List.mem_map] at hb
    obtain ⟨j, _, rfl⟩ := hb
    rfl
  unfold devA
  rw [Array.toList_append, e]
theorem zeroBlk : Tryz.zeroCells61 = tb 256 (fun _ => 0) := by kernel_rfl
end Go.Proofs.YtkapkphhceknfaaGreatDoor.Dv
