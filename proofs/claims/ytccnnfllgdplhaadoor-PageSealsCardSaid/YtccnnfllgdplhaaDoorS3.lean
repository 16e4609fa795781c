/-
  Part of the proof: the bytes of a block of the stream are walked.
-/
import Derived.Test.YtccnnfllgdplhaaDoorS2
import Derived.Test.YtccnnfllgdplhaaDoorQB
namespace Go.Proofs.YtccnnfllgdplhaaDoor
open Go.RowKit
attribute [local go_sem] I_addm
theorem szU : (Tryd.prog.info? 83).map (·.size) = some 1 := by kernel_rfl
theorem quarter_q (a b c d : BitVec 32) (w : World) :
    Calls Tryd.prog 105 #[.int .u32 (I a), .int .u32 (I b), .int .u32 (I c), .int .u32 (I d)] w fun e w' => e = .returned (.tuple #[.int .u32 (I (qr a b c d).a), .int .u32 (I (qr a b c d).b), .int .u32 (I (qr a b c d).c), .int .u32 (I (qr a b c d).d)]) ∧ ∃ n, w' = w.drewN n :=
  (quarter_any a b c d w).mono fun _ _ ⟨h1, h2⟩ => ⟨h1, 0, h2⟩
theorem tab_qat (f : Nat → BitVec 32) (i j k l : Nat) : ((((tab 16 f).setIfInBounds i (.int .u32 (I (qr (f i) (f j) (f k) (f l)).a))).setIfInBounds j (.int .u32 (I (qr (f i) (f j) (f k) (f l)).b))).setIfInBounds k (.int .u32 (I (qr (f i) (f j) (f k) (f l)).c))).setIfInBounds l (.int .u32 (I (qr (f i) (f j) (f k) (f l)).d)) = tab 16 (qat f i j k l) := by
  rw [tab_set, tab_set, tab_set, tab_set]; rfl
set_option maxRecDepth 100000 in
set_option maxHeartbeats 1000000 in
theorem bytes_any (f : Nat → BitVec 32) (w : World) :
    Calls Tryd.prog 75 #[.agg (tab 16 f)] w fun e w' => e = .returned (.agg (tb 64 (blkB f))) ∧ Below w.heap.size w w' := by
  go_enter Tryd.func75, Tryd.ntmps75
  go_wp2_with (first
    | (refine wpl_load rfl 113 _ rfl 16 83 Tryd.underlying113 szS _ _ _ _ rfl ((Blk.new w (tab 16 f) 113).alloc _) (by simp [tab_size]) ?_; rw [tab_all _ _ _ (Nat.zero_add _)])
    | (refine wpl_store_u rfl rfl 113 _ _ rfl 16 szS _ _ _ f rfl rfl (Blk.new' _ _ _ (by simp)) rfl ?_; intro w1 hu1 j1)
    | fail)
  have j0 : Blk w1 w.heap.size (tab 16 f) 113 := (((Blk.new w (tab 16 f) 113).alloc _).alloc _).upd hu1 (by omega)
  have jz : Blk w1 (w.heap.size + 1) (tb 64 (fun _ => 0)) 111 := ((Blk.new' _ (tb 64 (fun _ => 0)) 111 (by simp)).alloc _).upd hu1 (by omega)
  have jb : Below w.heap.size w w1 := below_upd ((((Below.refl _ _).alloc (Nat.le_refl _) _).alloc (by simp) _).alloc (by simp; omega) _) hu1 (by omega)
  clear hu1
  go_loopw [16] (fun i wr => ∃ r : Nat, r ≤ 10 ∧ i = .int .i64 r ∧ Blk wr (w.heap.size + 1 + 1) (tab 16 (dbl f r)) 113 ∧ Blk wr w.heap.size (tab 16 f) 113 ∧ Blk wr (w.heap.size + 1) (tb 64 (fun _ => 0)) 111 ∧ Below w.heap.size w wr) (fun i _ => 10 - (intOf i).toNat)
  case atStart => exact ⟨0, by omega, rfl, j1, j0, jz, jb⟩
  case round =>
    clear j1 j0 jz jb
    obtain ⟨r, hr, rfl, j1, j0, jz, jb⟩ := hrel
    by_cases hlt : r < 10
    · go_wp2_with fail
      go_loopw [18] (fun i wr => ∃ m : Nat, m ≤ 4 ∧ i = .int .i64 m ∧ Blk wr (w.heap.size + 1 + 1) (tab 16 (col (dbl f r) m)) 113 ∧ Blk wr w.heap.size (tab 16 f) 113 ∧ Blk wr (w.heap.size + 1) (tb 64 (fun _ => 0)) 111 ∧ Below w.heap.size w wr) (fun i _ => 4 - (intOf i).toNat)
      case atStart => exact ⟨0, by omega, rfl, j1, j0, jz, jb⟩
      case round =>
        clear j1 j0 jz jb
        obtain ⟨m, hm, rfl, j1, j0, jz, jb⟩ := hrel
        by_cases hlm : m < 4
        · have c0 := j1.tcell m (by omega)
          have c1 := j1.tcell (4 + m) (by omega)
          have c2 := j1.tcell (8 + m) (by omega)
          have c3 := j1.tcell (12 + m) (by omega)
          go_wp2_with fail
          refine region_h 4 18 22 (fun w' => ∃ n, w' = wr.drewN n) mixed (by kernel_rfl) (fun _ _ _ _ _ h => h) ⟨1, rfl⟩ ?_
          simp only [List.take_succ_cons, List.take_zero, List.drop_succ_cons, List.drop_zero, Nat.reduceSub]
          repeat (refine wpPure_cons _ rfl rfl _ (fun w' => by go_simp; rfl) ?_)
          refine wpPure_nil ?_
          simp only [Act.put, List.setIfInBounds_toArray, List.set_cons_succ, List.set_cons_zero]
          repeat (go_big_quiet_step ((go_at_call 105; refine Calls.quiet_of (quarter_q _ _ _ _ _))))
          refine wpQuiet_nil ?_
          rintro w' ⟨n2, rfl⟩
          repeat (refine wpPure_cons _ rfl rfl _ (fun w' => by go_simp; rfl) ?_)
          refine wpPure_nil ?_
          simp only [Act.put, List.setIfInBounds_toArray, List.set_cons_succ, List.set_cons_zero]
          have hu := Upd.refl (wr.drewN n2) (w.heap.size + 1 + 1)
          have jj := j1.drewN n2
          clear j1 c0 c1 c2 c3
          go_wp2_with (refine wpl_putU rfl rfl 83 _ _ rfl szU _ _ _ _ _ _ rfl rfl jj (by simp [tab_size]; omega) hu ?_; clear hu jj; intro w' hu jj)
          go_roundw
          case rel =>
            rw [tab_qat] at jj
            exact ⟨m + 1, by omega, by go_num, jj, (j0.drewN n2).upd hu (by omega), (jz.drewN n2).upd hu (by omega), below_upd (below_drewN jb n2) hu (by omega)⟩
          case measure => simp [intOf]; omega
        · have hm' : m = 4 := by omega
          subst hm'
          go_wp2_with fail
          rw [show (((4 : Nat) : Int)) = 4 from rfl]
          go_loopw [54] (fun i wr => ∃ m : Nat, m ≤ 4 ∧ i = .int .i64 m ∧ Blk wr (w.heap.size + 1 + 1) (tab 16 (dia (col (dbl f r) 4) m)) 113 ∧ Blk wr w.heap.size (tab 16 f) 113 ∧ Blk wr (w.heap.size + 1) (tb 64 (fun _ => 0)) 111 ∧ Below w.heap.size w wr) (fun i _ => 4 - (intOf i).toNat)
          case atStart => exact ⟨0, by omega, rfl, j1, j0, jz, jb⟩
          case round =>
            clear j1 j0 jz jb
            obtain ⟨m, hm, rfl, j1, j0, jz, jb⟩ := hrel
            by_cases hlm : m < 4
            · have c0 := fun j (hj : j < 16) => j1.tcell j hj
              have EM : Hid (dia (col (dbl f r) 4) (m + 1) = qat (dia (col (dbl f r) 4) m) m (4 + (m + 1) % 4) (8 + (m + 2) % 4) (12 + (m + 3) % 4)) := rfl
              obtain ⟨m1, em1⟩ : ∃ m1, Hid (m1 = m + 1) := ⟨_, rfl⟩
              generalize dia (col (dbl f r) 4) m = g at *
              obtain rfl | rfl | rfl | rfl : m = 0 ∨ m = 1 ∨ m = 2 ∨ m = 3 := by omega
              all_goals
                go_wp2_with fail
                refine region_h 4 18 22 (fun w' => ∃ n, w' = wr.drewN n) mixed (by kernel_rfl) (fun _ _ _ _ _ h => h) ⟨1, rfl⟩ ?_
                simp only [List.take_succ_cons, List.take_zero, List.drop_succ_cons, List.drop_zero, Nat.reduceSub]
                repeat (refine wpPure_cons _ rfl rfl _ (fun w' => by go_simp; rfl) ?_)
                refine wpPure_nil ?_
                simp only [Act.put, List.setIfInBounds_toArray, List.set_cons_succ, List.set_cons_zero]
                repeat (go_big_quiet_step ((go_at_call 105; refine Calls.quiet_of (quarter_q _ _ _ _ _))))
                refine wpQuiet_nil ?_
                rintro w' ⟨n2, rfl⟩
                repeat (refine wpPure_cons _ rfl rfl _ (fun w' => by go_simp; rfl) ?_)
                refine wpPure_nil ?_
                simp only [Act.put, List.setIfInBounds_toArray, List.set_cons_succ, List.set_cons_zero]
                have hu := Upd.refl (wr.drewN n2) (w.heap.size + 1 + 1)
                have jj := j1.drewN n2
                clear j1 c0
                go_wp2_with (refine wpl_putU rfl rfl 83 _ _ rfl szU _ _ _ _ _ _ rfl rfl jj (by simp [tab_size]) hu ?_; clear hu jj; intro w' hu jj)
                go_light
                rw [tab_qat] at jj
                refine ⟨⟨m1, by rw [em1.out]; omega, by rw [em1.out]; go_num, by rw [em1.out, EM.out]; exact jj, (j0.drewN n2).upd hu (by omega), (jz.drewN n2).upd hu (by omega), below_upd (below_drewN jb n2) hu (by omega)⟩, by simp [intOf]⟩
            · have hm' : m = 4 := by omega
              subst hm'
              go_wp2_with fail
              go_light
              exact ⟨⟨r + 1, by omega, by go_num, j1, j0, jz, jb⟩, by simp [intOf]; omega⟩
    · have hr' : r = 10 := by omega
      subst hr'
      go_wp2_with fail
      rw [show (((10 : Nat) : Int)) = 10 from rfl]
      have l1 := j1.lt
      have k1 := j1.alloc (.cells (tb 64 (uptoB (blkB f) 0)) 111)
      have k0 := j0.alloc (.cells (tb 64 (uptoB (blkB f) 0)) 111)
      have kz := jz.alloc (.cells (tb 64 (uptoB (blkB f) 0)) 111)
      have kb := jb.alloc (by omega) (.cells (tb 64 (uptoB (blkB f) 0)) 111)
      have kn := Blk.new wr (tb 64 (uptoB (blkB f) 0)) 111
      obtain ⟨B, hB⟩ : ∃ B, Hid (B = wr.heap.size) := ⟨_, rfl⟩
      rw [← hB.out] at kn l1
      rw [← hB.out]
      clear j1 j0 jz jb
      go_loopw [97] (fun i wr => ∃ k : Nat, k ≤ 64 ∧ i = .int .i64 k ∧ Blk wr B (tb 64 (uptoB (blkB f) k)) 111 ∧ Blk wr (w.heap.size + 1 + 1) (tab 16 (dbl f 10)) 113 ∧ Blk wr w.heap.size (tab 16 f) 113 ∧ Blk wr (w.heap.size + 1) (tb 64 (fun _ => 0)) 111 ∧ Below w.heap.size w wr) (fun i _ => 64 - (intOf i).toNat)
      case atStart => exact ⟨0, by omega, rfl, kn, k1, k0, kz, kb⟩
      case round =>
        clear kn k1 k0 kz kb
        obtain ⟨k, hk, rfl, kn, k1, k0, kz, kb⟩ := hrel
        by_cases hlk : k < 64
        · have c1 := fun j (hj : j < 16) => k1.tcell j hj
          have c0 := fun j (hj : j < 16) => k0.tcell j hj
          have b0 : (k : Int) / 4 < 16 := by omega
          have b2 : k / 4 < 16 := by omega
          have b1 : 0 ≤ 8 * ((k : Int) % 4) := by omega
          go_wp2_with fail
          go_quiet (fail)
          have jj := kn.drewN nq
          clear c1 c0
          have hc := fun j (hj : j < 64) => jj.bcell j hj
          have hf := fun j => jj.frozen j
          go_wp2
          go_roundw
          case rel =>
            refine ⟨k + 1, by omega, by go_num, ?_, (k1.drewN nq).setOther _ (by simp; omega) _, (k0.drewN nq).setOther _ (by simp; omega) _, (kz.drewN nq).setOther _ (by simp; omega) _, (below_drewN kb nq).setCell (by simp; omega) _⟩
            rw [← blkB_eq f k]
            have := jj.set k (.int .u8 ((blkB f k).toNat : Int))
            rw [tb_upto_succ _ _ _ _ rfl] at this
            exact this
          case measure => simp [intOf]; omega
        · have hk' : k = 64 := by omega
          subst hk'
          rw [tb_full] at kn
          go_wp2_with (first
            | (refine wpl_load rfl 111 _ rfl 64 5 Tryd.underlying111 szB _ _ _ _ rfl kn (by simp [tb_size]) ?_; rw [tb_all _ _ _ (Nat.zero_add _)])
            | (refine wpl_storeB rfl rfl 111 _ _ rfl 64 szB _ _ _ _ rfl rfl kz (by simp [tb_size]) ?_; intro w3 hu3 j5))
          refine ret_cellB 2 111 rfl 64 5 Tryd.underlying111 szB _ _ _ rfl j5 rfl ⟨rfl, below_upd kb hu3 (by omega)⟩
end Go.Proofs.YtccnnfllgdplhaaDoor
