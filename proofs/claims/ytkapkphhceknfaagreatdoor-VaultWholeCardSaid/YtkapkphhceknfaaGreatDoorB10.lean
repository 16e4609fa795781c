/-
  Part of the proof: the bytes of a block of the stream are walked.
  Part of the proof of the statement: where the library's functions lie in this program.
  Part of the proof: Block and Xor of the code are walked, and Hex.
  Part of the proof: a builder that has been written, beside other blocks of the same call: WriteByte touches none of them.
-/
import Derived.Test.YtkapkphhceknfaaGreatDoorB08
import Derived.Test.YtkapkphhceknfaaGreatDoorB09
import Derived.Shelf.Strings.Builder1
import Derived.Shelf.Strings.Builder2
import Derived.Test.YtkapkphhceknfaaGreatDoorProg
import Derived.Test.YtkapkphhceknfaaGreatDoorB03
namespace Go.Proofs.YtkapkphhceknfaaGreatDoor
open Go.RowKit
attribute [local go_sem] I_addm
theorem szU : (Tryz.prog.info? 155).map (·.size) = some 1 := by kernel_rfl
theorem quarter_q (a b c d : BitVec 32) (w : World) :
    Calls Tryz.prog 109 #[.int .u32 (I a), .int .u32 (I b), .int .u32 (I c), .int .u32 (I d)] w fun e w' => e = .returned (.tuple #[.int .u32 (I (qr a b c d).a), .int .u32 (I (qr a b c d).b), .int .u32 (I (qr a b c d).c), .int .u32 (I (qr a b c d).d)]) ∧ ∃ n, w' = w.drewN n :=
  (quarter_any a b c d w).mono fun _ _ ⟨h1, h2⟩ => ⟨h1, 0, h2⟩
theorem tab_qat (f : Nat → BitVec 32) (i j k l : Nat) : ((((tab 16 f).setIfInBounds i (.int .u32 (I (qr (f i) (f j) (f k) (f l)).a))).setIfInBounds j (.int .u32 (I (qr (f i) (f j) (f k) (f l)).b))).setIfInBounds k (.int .u32 (I (qr (f i) (f j) (f k) (f l)).c))).setIfInBounds l (.int .u32 (I (qr (f i) (f j) (f k) (f l)).d)) = tab 16 (qat f i j k l) := by
  rw [tab_set, tab_set, tab_set, tab_set]; rfl
set_option maxRecDepth 100000 in
set_option maxHeartbeats 1000000 in
theorem bytes_any (f : Nat → BitVec 32) (w : World) :
    Calls Tryz.prog 94 #[.agg (tab 16 f)] w fun e w' => e = .returned (.agg (tb 64 (blkB f))) ∧ Below w.heap.size w w' := by
  go_enter Tryz.func94, Tryz.ntmps94
  go_wp2_with (first
    | (refine wpl_load rfl 166 _ rfl 16 155 Tryz.underlying166 szS _ _ _ _ rfl ((Blk.new w (tab 16 f) 166).alloc _) (by simp [tab_size]) ?_; rw [tab_all _ _ _ (Nat.zero_add _)])
    | (refine wpl_store_u rfl rfl 166 _ _ rfl 16 szS _ _ _ f rfl rfl (Blk.new' _ _ _ (by simp)) rfl ?_; intro w1 hu1 j1)
    | fail)
  have j0 : Blk w1 w.heap.size (tab 16 f) 166 := (((Blk.new w (tab 16 f) 166).alloc _).alloc _).upd hu1 (by omega)
  have jz : Blk w1 (w.heap.size + 1) (tb 64 (fun _ => 0)) 168 := ((Blk.new' _ (tb 64 (fun _ => 0)) 168 (by simp)).alloc _).upd hu1 (by omega)
  have jb : Below w.heap.size w w1 := below_upd ((((Below.refl _ _).alloc (Nat.le_refl _) _).alloc (by simp) _).alloc (by simp; omega) _) hu1 (by omega)
  clear hu1
  go_loopw [16] (fun i wr => ∃ r : Nat, r ≤ 10 ∧ i = .int .i64 r ∧ Blk wr (w.heap.size + 1 + 1) (tab 16 (dbl f r)) 166 ∧ Blk wr w.heap.size (tab 16 f) 166 ∧ Blk wr (w.heap.size + 1) (tb 64 (fun _ => 0)) 168 ∧ Below w.heap.size w wr) (fun i _ => 10 - (intOf i).toNat)
  case atStart => exact ⟨0, by omega, rfl, j1, j0, jz, jb⟩
  case round =>
    clear j1 j0 jz jb
    obtain ⟨r, hr, rfl, j1, j0, jz, jb⟩ := hrel
    by_cases hlt : r < 10
    · go_wp2_with fail
      go_loopw [18] (fun i wr => ∃ m : Nat, m ≤ 4 ∧ i = .int .i64 m ∧ Blk wr (w.heap.size + 1 + 1) (tab 16 (col (dbl f r) m)) 166 ∧ Blk wr w.heap.size (tab 16 f) 166 ∧ Blk wr (w.heap.size + 1) (tb 64 (fun _ => 0)) 168 ∧ Below w.heap.size w wr) (fun i _ => 4 - (intOf i).toNat)
      case atStart => exact ⟨0, by omega, rfl, j1, j0, jz, jb⟩
      case round =>
        clear j1 j0 jz jb
        obtain ⟨m, hm, rfl, j1, j0, jz, jb⟩ := hrel
        by_cases hlm : m < 4
        · have c0 := j1.tcell m (by omega)
          have c1 := j1.tcell (4 + m) (by omega)
          have c2 := j1.tcell (8 + m) (by omega)
          have c3 := j1.tcell (12 + m) (by omega)
          go_wp2_with fail
          refine region_h 4 18 22 (fun w' => ∃ n, w' = wr.drewN n) mixed (by kernel_rfl) (fun _ _ _ _ _ h => h) ⟨1, rfl⟩ ?_
          simp only [List.take_succ_cons, List.take_zero, List.drop_succ_cons, List.drop_zero, Nat.reduceSub]
          repeat (refine wpPure_cons _ rfl rfl _ (fun w' => by go_simp; rfl) ?_)
          refine wpPure_nil ?_
          simp only [Act.put, List.setIfInBounds_toArray, List.set_cons_succ, List.set_cons_zero]
          repeat (go_big_quiet_step ((go_at_call 109; refine Calls.quiet_of (quarter_q _ _ _ _ _))))
          refine wpQuiet_nil ?_
          rintro w' ⟨n2, rfl⟩
          repeat (refine wpPure_cons _ rfl rfl _ (fun w' => by go_simp; rfl) ?_)
          refine wpPure_nil ?_
          simp only [Act.put, List.setIfInBounds_toArray, List.set_cons_succ, List.set_cons_zero]
          have hu := Upd.refl (wr.drewN n2) (w.heap.size + 1 + 1)
          have jj := j1.drewN n2
          clear j1 c0 c1 c2 c3
          go_wp2_with (refine wpl_putU rfl rfl 155 _ _ rfl szU _ _ _ _ _ _ rfl rfl jj (by simp [tab_size]; omega) hu ?_; clear hu jj; intro w' hu jj)
          go_roundw
          case rel =>
            rw [tab_qat] at jj
            exact ⟨m + 1, by omega, by go_num, jj, (j0.drewN n2).upd hu (by omega), (jz.drewN n2).upd hu (by omega), below_upd (below_drewN jb n2) hu (by omega)⟩
          case measure => simp [intOf]; omega
        · have hm' : m = 4 := by omega
          subst hm'
          go_wp2_with fail
          rw [show (((4 : Nat) : Int)) = 4 from rfl]
          go_loopw [54] (fun i wr => ∃ m : Nat, m ≤ 4 ∧ i = .int .i64 m ∧ Blk wr (w.heap.size + 1 + 1) (tab 16 (dia (col (dbl f r) 4) m)) 166 ∧ Blk wr w.heap.size (tab 16 f) 166 ∧ Blk wr (w.heap.size + 1) (tb 64 (fun _ => 0)) 168 ∧ Below w.heap.size w wr) (fun i _ => 4 - (intOf i).toNat)
          case atStart => exact ⟨0, by omega, rfl, j1, j0, jz, jb⟩
          case round =>
            clear j1 j0 jz jb
            obtain ⟨m, hm, rfl, j1, j0, jz, jb⟩ := hrel
            by_cases hlm : m < 4
            · have c0 := fun j (hj : j < 16) => j1.tcell j hj
              have EM : Hid (dia (col (dbl f r) 4) (m + 1) = qat (dia (col (dbl f r) 4) m) m (4 + (m + 1) % 4) (8 + (m + 2) % 4) (12 + (m + 3) % 4)) := rfl
              obtain ⟨m1, em1⟩ : ∃ m1, Hid (m1 = m + 1) := ⟨_, rfl⟩
              generalize dia (col (dbl f r) 4) m = g at *
              obtain rfl | rfl | rfl | rfl : m = 0 ∨ m = 1 ∨ m = 2 ∨ m = 3 := by omega
              all_goals
                go_wp2_with fail
                refine region_h 4 18 22 (fun w' => ∃ n, w' = wr.drewN n) mixed (by kernel_rfl) (fun _ _ _ _ _ h => h) ⟨1, rfl⟩ ?_
                simp only [List.take_succ_cons, List.take_zero, List.drop_succ_cons, List.drop_zero, Nat.reduceSub]
                repeat (refine wpPure_cons _ rfl rfl _ (fun w' => by go_simp; rfl) ?_)
                refine wpPure_nil ?_
                simp only [Act.put, List.setIfInBounds_toArray, List.set_cons_succ, List.set_cons_zero]
                repeat (go_big_quiet_step ((go_at_call 109; refine Calls.quiet_of (quarter_q _ _ _ _ _))))
                refine wpQuiet_nil ?_
                rintro w' ⟨n2, rfl⟩
                repeat (refine wpPure_cons _ rfl rfl _ (fun w' => by go_simp; rfl) ?_)
                refine wpPure_nil ?_
                simp only [Act.put, List.setIfInBounds_toArray, List.set_cons_succ, List.set_cons_zero]
                have hu := Upd.refl (wr.drewN n2) (w.heap.size + 1 + 1)
                have jj := j1.drewN n2
                clear j1 c0
                go_wp2_with (refine wpl_putU rfl rfl 155 _ _ rfl szU _ _ _ _ _ _ rfl rfl jj (by simp [tab_size]) hu ?_; clear hu jj; intro w' hu jj)
                go_light
                rw [tab_qat] at jj
                refine ⟨⟨m1, by rw [em1.out]; omega, by rw [em1.out]; go_num, by rw [em1.out, EM.out]; exact jj, (j0.drewN n2).upd hu (by omega), (jz.drewN n2).upd hu (by omega), below_upd (below_drewN jb n2) hu (by omega)⟩, by simp [intOf]⟩
            · have hm' : m = 4 := by omega
              subst hm'
              go_wp2_with fail
              go_light
              exact ⟨⟨r + 1, by omega, by go_num, j1, j0, jz, jb⟩, by simp [intOf]; omega⟩
    · have hr' : r = 10 := by omega
      subst hr'
      go_wp2_with fail
      rw [show (((10 : Nat) : Int)) = 10 from rfl]
      have l1 := j1.lt
      have k1 := j1.alloc (.cells (tb 64 (uptoB (blkB f) 0)) 168)
      have k0 := j0.alloc (.cells (tb 64 (uptoB (blkB f) 0)) 168)
      have kz := jz.alloc (.cells (tb 64 (uptoB (blkB f) 0)) 168)
      have kb := jb.alloc (by omega) (.cells (tb 64 (uptoB (blkB f) 0)) 168)
      have kn := Blk.new wr (tb 64 (uptoB (blkB f) 0)) 168
      obtain ⟨B, hB⟩ : ∃ B, Hid (B = wr.heap.size) := ⟨_, rfl⟩
      rw [← hB.out] at kn l1
      rw [← hB.out]
      clear j1 j0 jz jb
      go_loopw [97] (fun i wr => ∃ k : Nat, k ≤ 64 ∧ i = .int .i64 k ∧ Blk wr B (tb 64 (uptoB (blkB f) k)) 168 ∧ Blk wr (w.heap.size + 1 + 1) (tab 16 (dbl f 10)) 166 ∧ Blk wr w.heap.size (tab 16 f) 166 ∧ Blk wr (w.heap.size + 1) (tb 64 (fun _ => 0)) 168 ∧ Below w.heap.size w wr) (fun i _ => 64 - (intOf i).toNat)
      case atStart => exact ⟨0, by omega, rfl, kn, k1, k0, kz, kb⟩
      case round =>
        clear kn k1 k0 kz kb
        obtain ⟨k, hk, rfl, kn, k1, k0, kz, kb⟩ := hrel
        by_cases hlk : k < 64
        · have c1 := fun j (hj : j < 16) => k1.tcell j hj
          have c0 := fun j (hj : j < 16) => k0.tcell j hj
          have b0 : (k : Int) / 4 < 16 := by omega
          have b2 : k / 4 < 16 := by omega
          have b1 : 0 ≤ 8 * ((k : Int) % 4) := by omega
          go_wp2_with fail
          go_quiet (fail)
          have jj := kn.drewN nq
          clear c1 c0
          have hc := fun j (hj : j < 64) => jj.bcell j hj
          have hf := fun j => jj.frozen j
          go_wp2
          go_roundw
          case rel =>
            refine ⟨k + 1, by omega, by go_num, ?_, (k1.drewN nq).setOther _ (by simp; omega) _, (k0.drewN nq).setOther _ (by simp; omega) _, (kz.drewN nq).setOther _ (by simp; omega) _, (below_drewN kb nq).setCell (by simp; omega) _⟩
            rw [← blkB_eq f k]
            have := jj.set k (.int .u8 ((blkB f k).toNat : Int))
            rw [tb_upto_succ _ _ _ _ rfl] at this
            exact this
          case measure => simp [intOf]; omega
        · have hk' : k = 64 := by omega
          subst hk'
          rw [tb_full] at kn
          go_wp2_with (first
            | (refine wpl_load rfl 168 _ rfl 64 5 Tryz.underlying168 szB _ _ _ _ rfl kn (by simp [tb_size]) ?_; rw [tb_all _ _ _ (Nat.zero_add _)])
            | (refine wpl_storeB rfl rfl 168 _ _ rfl 64 szB _ _ _ _ rfl rfl kz (by simp [tb_size]) ?_; intro w3 hu3 j5))
          refine ret_cellB 2 168 rfl 64 5 Tryz.underlying168 szB _ _ _ rfl j5 rfl ⟨rfl, below_upd kb hu3 (by omega)⟩
end Go.Proofs.YtkapkphhceknfaaGreatDoor
namespace Go.Proofs.YtkapkphhceknfaaGreatDoor
open Go.Shelf Go.RowKit
def lr : Go.Shelf.Ren := ⟨fun | 165 => 76 | 169 => 79 | 240 => 96 | 241 => 97 | 276 => 112 | 277 => 113 | 167 => 77 | n => n, fun | 72 => 150 | 70 => 148 | 37 => 87 | 75 => 36 | 127 => 171 | 164 => 98 | 80 => 154 | n => n, fun | n => n⟩
theorem lays167 : Go.Proofs.Lays.n167 Tryz.prog lr := {
  mixed := by kernel_rfl
  f167 := Tryz.func77.trans (congrArg some (by kernel_rfl))
  f240 := Tryz.func96.trans (congrArg some (by kernel_rfl))
  f276 := Tryz.func112.trans (congrArg some (by kernel_rfl))
  t0 := Tryz.underlying0
  a0 := Tryz.isAgg0
  z0 := Tryz.sizeOf0
  v0 := Tryz.zeroValue0
  t4 := Tryz.underlying4
  a4 := Tryz.isAgg4
  z4 := Tryz.sizeOf4
  v4 := Tryz.zeroValue4
  t5 := Tryz.underlying5
  a5 := Tryz.isAgg5
  z5 := Tryz.sizeOf5
  v5 := Tryz.zeroValue5
  t9 := Tryz.underlying9
  a9 := Tryz.isAgg9
  z9 := Tryz.sizeOf9
  v9 := Tryz.zeroValue9
  t20 := Tryz.underlying20
  a20 := Tryz.isAgg20
  z20 := Tryz.sizeOf20
  v20 := Tryz.zeroValue20
  t37 := Tryz.underlying87
  a37 := Tryz.isAgg87
  z37 := Tryz.sizeOf87
  v37 := Tryz.zeroValue87
  t70 := Tryz.underlying148
  a70 := Tryz.isAgg148
  z70 := Tryz.sizeOf148
  v70 := Tryz.zeroValue148
  t72 := Tryz.underlying150
  a72 := Tryz.isAgg150
  z72 := Tryz.sizeOf150
  v72 := Tryz.zeroValue150
  t75 := Tryz.underlying36
  a75 := Tryz.isAgg36
  z75 := Tryz.sizeOf36
  v75 := Tryz.zeroValue36
  t164 := Tryz.underlying98
  a164 := Tryz.isAgg98
  z164 := Tryz.sizeOf98
  v164 := Tryz.zeroValue98 }
theorem lays165 : Go.Proofs.Lays.n165 Tryz.prog lr := {
  mixed := by kernel_rfl
  f165 := Tryz.func76.trans (congrArg some (by kernel_rfl))
  f240 := Tryz.func96.trans (congrArg some (by kernel_rfl))
  f241 := Tryz.func97.trans (congrArg some (by kernel_rfl))
  f276 := Tryz.func112.trans (congrArg some (by kernel_rfl))
  f277 := Tryz.func113.trans (congrArg some (by kernel_rfl))
  t0 := Tryz.underlying0
  a0 := Tryz.isAgg0
  z0 := Tryz.sizeOf0
  v0 := Tryz.zeroValue0
  t3 := Tryz.underlying3
  a3 := Tryz.isAgg3
  z3 := Tryz.sizeOf3
  v3 := Tryz.zeroValue3
  t4 := Tryz.underlying4
  a4 := Tryz.isAgg4
  z4 := Tryz.sizeOf4
  v4 := Tryz.zeroValue4
  t9 := Tryz.underlying9
  a9 := Tryz.isAgg9
  z9 := Tryz.sizeOf9
  v9 := Tryz.zeroValue9
  t20 := Tryz.underlying20
  a20 := Tryz.isAgg20
  z20 := Tryz.sizeOf20
  v20 := Tryz.zeroValue20
  t37 := Tryz.underlying87
  a37 := Tryz.isAgg87
  z37 := Tryz.sizeOf87
  v37 := Tryz.zeroValue87
  t70 := Tryz.underlying148
  a70 := Tryz.isAgg148
  z70 := Tryz.sizeOf148
  v70 := Tryz.zeroValue148
  t72 := Tryz.underlying150
  a72 := Tryz.isAgg150
  z72 := Tryz.sizeOf150
  v72 := Tryz.zeroValue150
  t164 := Tryz.underlying98
  a164 := Tryz.isAgg98
  z164 := Tryz.sizeOf98
  v164 := Tryz.zeroValue98 }
theorem lays169 : Go.Proofs.Lays.n169 Tryz.prog lr := {
  mixed := by kernel_rfl
  f169 := Tryz.func79.trans (congrArg some (by kernel_rfl))
  t0 := Tryz.underlying0
  a0 := Tryz.isAgg0
  z0 := Tryz.sizeOf0
  v0 := Tryz.zeroValue0
  t3 := Tryz.underlying3
  a3 := Tryz.isAgg3
  z3 := Tryz.sizeOf3
  v3 := Tryz.zeroValue3
  t9 := Tryz.underlying9
  a9 := Tryz.isAgg9
  z9 := Tryz.sizeOf9
  v9 := Tryz.zeroValue9
  t37 := Tryz.underlying87
  a37 := Tryz.isAgg87
  z37 := Tryz.sizeOf87
  v37 := Tryz.zeroValue87
  t70 := Tryz.underlying148
  a70 := Tryz.isAgg148
  z70 := Tryz.sizeOf148
  v70 := Tryz.zeroValue148
  t72 := Tryz.underlying150
  a72 := Tryz.isAgg150
  z72 := Tryz.sizeOf150
  v72 := Tryz.zeroValue150
  t127 := Tryz.underlying171
  a127 := Tryz.isAgg171
  z127 := Tryz.sizeOf171
  v127 := Tryz.zeroValue171 }
theorem extra : Builder.Extra Tryz.prog lr := {
  sizeBuilder := by kernel_rfl
  liesBuilder := by kernel_rfl
  t5 := Tryz.underlying5
  a5 := Tryz.isAgg5
  z5 := Tryz.sizeOf5
  v5 := Tryz.zeroValue5
  infoByte := by kernel_rfl
  cellsByte := by kernel_rfl
  sizeByte := by kernel_rfl
  neB5 := by decide }
theorem c_grow (B b n : Nat) (w : World) (hB : B ≤ b) (hbk : w.heap[b]? = some (.cells #[.pointer none, .slice none 0 0] 150 (0, 0))) (hBw : B ≤ w.heap.size) (hn : n ≤ 281474976710656) :
    Calls Tryz.prog 76 #[.pointer (some ⟨b, 0, none⟩), .int .i64 n] w fun e w' => e = .returned (.tuple #[]) ∧ (Lib.BuilderAt 150 5 B b (.pointer (some ⟨b, 0, none⟩)) [] w' ∧ Below B w w') := Any.Builder_Grow_fresh lays165 extra B b n w hB hbk hBw hn
theorem c_writeByte (B b : Nat) (bs : List Value) (c : Int) (w : World) (h : Lib.IsBuilder 150 5 B b bs w) (hlen : bs.length + 1 ≤ 140737488355328) (hBw : B ≤ w.heap.size) :
    Calls Tryz.prog 77 #[.pointer (some ⟨b, 0, none⟩), .int .u8 c] w fun e w' => e = .returned .nilIface ∧ (Lib.BuilderAt 150 5 B b (.pointer (some ⟨b, 0, none⟩)) (bs ++ [.int .u8 c]) w' ∧ Below B w w') := Any.Builder_WriteByte lays167 extra B b bs c w h hlen hBw
theorem c_string (B b : Nat) (l : List UInt8) (w : World) (h : Lib.IsBuilder 150 5 B b (Lib.byteCells l) w) (hBw : B ≤ w.heap.size) :
    Calls Tryz.prog 79 #[.pointer (some ⟨b, 0, none⟩)] w fun e w' => e = .returned (.string ⟨l.toArray⟩) ∧ Below B w w' := Any.Builder_String_any lays169 extra B b l w h hBw
end Go.Proofs.YtkapkphhceknfaaGreatDoor
namespace Go.Proofs.YtkapkphhceknfaaGreatDoor
open Go.RowKit
set_option maxHeartbeats 400000 in
theorem holds_any (key nonce : ByteArray) (w : World) (_h1 : key.size ≤ 10000) (_h2 : nonce.size ≤ 10000) :
    Calls Tryz.prog 92 #[.string key, .string nonce] w fun e w' => e = .returned (.bool (decide (key.size = 32 ∧ nonce.size = 12))) ∧ w' = w := by
  by_cases c1 : key.size = 32
  · by_cases c2 : nonce.size = 12
    · go_enter Tryz.func92, Tryz.ntmps92
      go_wp2
      go_ret
      simp [c1, c2]
    · have d2 : decide ((nonce.size : Int) = 12) = false := by simp; omega
      go_enter Tryz.func92, Tryz.ntmps92
      go_wp2
      go_ret
      simp [c1, c2]; omega
  · have d1 : decide ((key.size : Int) = 32) = false := by simp; omega
    go_enter Tryz.func92, Tryz.ntmps92
    go_wp2
    go_ret
    simp [c1]
/-- What is told where a size is not as it must be. -/
def errArg : Value := .tuple #[.string ByteArray.empty, .iface 41 (.int .i64 1)]
theorem start_any' (key : ByteArray) (z : Int) (n : BitVec 32) (nonce : ByteArray) (w : World) (hz : z = I n) (hk : key.size = 32) (hn : nonce.size = 12) :
    Calls Tryz.prog 93 #[.string key, .int .u32 z, .string nonce] w fun e w' => e = .returned (.agg (tab 16 (stW key n nonce))) ∧ Below w.heap.size w w' := by
  subst hz; exact start_any key n nonce w hk hn
/-- What Block answers. -/
def blockV (key : ByteArray) (n : Int) (nonce : ByteArray) : Value :=
  if key.size = 32 ∧ nonce.size = 12 ∧ 0 ≤ n ∧ n ≤ 4294967295 then .tuple #[.string (sb 64 (blkB (stW key (BitVec.ofNat 32 n.toNat) nonce))), .nilIface] else errArg
end Go.Proofs.YtkapkphhceknfaaGreatDoor
namespace Go.Proofs.YtkapkphhceknfaaGreatDoor
open Go.RowKit
theorem info5 : (Tryz.prog.info? 5).map (fun i => (i.zero, i.size, i.bytes)) = some (some (.int .u8 0), 1, 1) := by kernel_rfl
/-- A builder at block b, its row the slice v. -/
structure BW (B b : Nat) (v : Value) (bs : List Value) (w : World) : Prop where
  ge : B ≤ b
  blk : w.heap[b]? = some (.cells #[.pointer (some ⟨b, 0, none⟩), v] 150 (0, 0))
  own : Row w B 5 v bs
  ne : v.ownBlock ≠ some b
theorem BW.of {B b : Nat} {bs : List Value} {w : World} (h : Lib.BuilderAt 150 5 B b (.pointer (some ⟨b, 0, none⟩)) bs w) : ∃ v, BW B b v bs w := by
  obtain ⟨h1, v, h2, h3, h4⟩ := h
  exact ⟨v, h1, h2, h3, h4⟩
theorem BW.to {B b : Nat} {v : Value} {bs : List Value} {w : World} (h : BW B b v bs w) : Lib.BuilderAt 150 5 B b (.pointer (some ⟨b, 0, none⟩)) bs w := ⟨h.ge, v, h.blk, h.own, h.ne⟩
theorem BW.lt {B b : Nat} {v : Value} {bs : List Value} {w : World} (h : BW B b v bs w) : b < w.heap.size := by
  rcases Nat.lt_or_ge b w.heap.size with h' | h'
  · exact h'
  · have := h.blk; simp [Array.getElem?_eq_none h'] at this
theorem Row.own_lt {B : Nat} {e : TypeId} {v : Value} {xs : List Value} {w : World} (h : Row w B e v xs) (k : Nat) (hk : v.ownBlock = some k) : B ≤ k ∧ k < w.heap.size := by
  rcases h.form with ⟨e1, _⟩ | ⟨g, cap, e1, h1, h2⟩
  · rw [e1] at hk; cases hk
  · rw [e1] at hk; simp only [Value.ownBlock, Option.some.injEq] at hk; subst hk; exact ⟨h1, h2⟩
/-- Where the blocks that it uses are as they were it is as it was. -/
theorem BW.keep {B b : Nat} {v : Value} {bs : List Value} {w w' : World} (h : BW B b v bs w) (h1 : w'.heap[b]? = w.heap[b]?) (h2 : ∀ k, v.ownBlock = some k → w'.heap[k]? = w.heap[k]?) : BW B b v bs w' := by
  refine ⟨h.ge, by rw [h1]; exact h.blk, ?_, h.ne⟩
  obtain ⟨g1, g2⟩ := h.own
  refine ⟨g1, ?_⟩
  rcases g2 with g2 | ⟨g, cap, cur, hv, hg, hh, r⟩
  · exact Or.inl g2
  · exact Or.inr ⟨g, cap, cur, hv, hg, by rw [h2 g (by rw [hv]; rfl)]; exact hh, r⟩
theorem BW.below {B b : Nat} {v : Value} {bs : List Value} {w w' : World} (h : BW B b v bs w) (hb : Below w.heap.size w w') : BW B b v bs w' :=
  h.keep (hb.block _ h.lt) fun k hk => hb.block _ (h.own.own_lt k hk).2
theorem BW.upd {B b c : Nat} {v : Value} {bs : List Value} {w w' : World} (h : BW B b v bs w) (hu : Upd w w' c) (h1 : b ≠ c) (h2 : v.ownBlock ≠ some c) : BW B b v bs w' :=
  h.keep (hu.block _ h1) fun _ hk => hu.block _ fun e => h2 (e ▸ hk)
set_option maxRecDepth 100000 in
set_option maxHeartbeats 400000 in
theorem writeByte_w (B b : Nat) (v : Value) (bs : List Value) (c : Int) (w : World) (h : BW B b v bs w) (hlen : bs.length < 100000) (hBw : B ≤ w.heap.size) :
    Calls Tryz.prog 77 #[.pointer (some ⟨b, 0, none⟩), .int .u8 c] w fun e w' => e = .returned .nilIface ∧ ∃ v', BW B b v' (bs ++ [.int .u8 c]) w' ∧ (v'.ownBlock = v.ownBlock ∨ ∀ k, v'.ownBlock = some k → w.heap.size ≤ k) ∧ Below B w w' ∧ ∀ k, k < w.heap.size → k ≠ b → v.ownBlock ≠ some k → w'.heap[k]? = w.heap[k]? := by
  have hlt := h.lt
  obtain ⟨hB, hbk, hown, hne⟩ := h
  have c0 : w.cell? ⟨b, 0, none⟩ = some (.pointer (some ⟨b, 0, none⟩)) := by rw [Lib.cell_of_heap hbk]; rfl
  have c1 : w.cell? ⟨b, 1, none⟩ = some v := by rw [Lib.cell_of_heap hbk]; rfl
  go_enter Tryz.func77, Tryz.ntmps77
  go_wp2_with (first
    | (go_at_call 96; refine (Any.Builder_copyCheck_used { lays167 with } extra.toX72 b _ c0).mono ?_; rintro e w1 ⟨rfl, rfl⟩)
    | (refine wpl_push rfl _ _ 87 rfl B 5 (.int .u8 0) 1 Tryz.underlying87 info5 rfl v bs rfl (hown.below ((Below.refl _ _).alloc (Nat.le_refl _) _)) _ _ (.int .u8 c) rfl ?c1 rfl hlen (by decide) (by simp; omega) ?_)
    | fail)
  case c1 => exact (Blk.new w1 #[Value.int .u8 c] 5).cell 0
  intro g cap w2 hrow hgrow hg hgl
  have hbg : b ≠ g := by
    rcases hg with hg | hg
    · intro e; subst e; exact hne hg
    · omega
  have hb2 : w2.heap[b]? = some (.cells #[.pointer (some ⟨b, 0, none⟩), v] 150 (0, 0)) := by
    rw [hgrow.block b (by simp; omega) (fun e => hne e.symm), Lib.alloc_old w1 _ b hlt]; exact hbk
  have d1 : w2.cell? ⟨b, 1, none⟩ = some v := by rw [Lib.cell_of_heap hb2]; rfl
  have f1 : w2.frozen? ⟨b, 1, none⟩ = false := Lib.frozen_of_heap hb2 1
  go_wp2
  go_ret
  refine ⟨rfl, .slice (some ⟨g, 0, none⟩) (bs.length + 1) cap, ⟨hB, ?_, ?_, ?_⟩, ?_, ?_, ?_⟩
  · exact Blk.set (arr := #[.pointer (some ⟨b, 0, none⟩), v]) hb2 1 (.slice (some ⟨g, 0, none⟩) (bs.length + 1) cap)
  · obtain ⟨g1, g2⟩ := hrow
    refine ⟨g1, ?_⟩
    rcases g2 with g2 | ⟨g', cap', cur, hv, hgB, hh, r⟩
    · exact Or.inl g2
    · have eg : g = g' := by injection hv with a1; injection a1 with a2; injection a2
      exact Or.inr ⟨g', cap', cur, hv, hgB, by rw [Below.heap_setCell _ _ _ _ (by simp; omega)]; exact hh, r⟩
  · intro e; injection e with e; exact hbg e.symm
  · rcases hg with hg | hg
    · exact Or.inl hg.symm
    · refine Or.inr fun k hk => ?_
      have hk' : g = k := by simpa [Value.ownBlock] using hk
      omega
  · exact (((Below.refl B w1).alloc hBw _).grown hgrow (by simp; omega) (fun k hk => (hown.own_lt k hk).1)).setCell (p := ⟨b, 1, none⟩) hB _
  · intro k hk hkb hkv
    rw [Below.heap_setCell _ _ _ _ (by simp; exact hkb), hgrow.block k (by simp; omega) (fun e => hkv e.symm), Lib.alloc_old w1 _ k hk]
end Go.Proofs.YtkapkphhceknfaaGreatDoor
