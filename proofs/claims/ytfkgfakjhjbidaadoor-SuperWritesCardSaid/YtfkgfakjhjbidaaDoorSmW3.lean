/-
  Part of the proof of SumTells: all blocks stirred by the code's sum.
-/
import Derived.Test.YtfkgfakjhjbidaaDoorSmW2
namespace Go.Proofs.YtfkgfakjhjbidaaDoor.Sm
open Go.RowKit
theorem mixed : Tryd.prog.follows .mixedOrders = true := by kernel_rfl
/-- The state behind the first k chunks of a text. -/
def chunks (f : Nat → BitVec 32) (s : ByteArray) : Nat → Nat → BitVec 32
  | 0 => f
  | k + 1 => stirF (chunks f s k) (mOf (s.extract (k * 64) ((k + 1) * 64)))
set_option maxRecDepth 100000 in
set_option maxHeartbeats 1000000 in
theorem stirAll_any (f : Nat → BitVec 32) (s : ByteArray) (w : World) (h0 : s.size < 1000000) (hK : KB w) :
    Calls Tryd.prog 73 #[.agg (tab 8 f), .string s] w fun e w' => e = .returned (.agg (tab 8 (chunks f s (s.size / 64)))) ∧ Below w.heap.size w w' := by
  go_enter Tryd.func73, Tryd.ntmps73
  go_wp2_with fail
  go_loopw [9] (fun i wr => ∃ k : Nat, k ≤ s.size / 64 ∧ i = .int .i64 k ∧ Blk wr w.heap.size (tab 8 (chunks f s k)) 102 ∧ Blk wr (w.heap.size + 1) (tab 8 (fun _ => 0)) 102 ∧ Below w.heap.size w wr) (fun i _ => s.size / 64 - (intOf i).toNat)
  case atStart =>
    refine ⟨0, by omega, rfl, (Blk.new w (tab 8 f) 102).alloc _, Blk.new' _ (tab 8 (fun _ => 0)) 102 (by simp), ((Below.refl _ _).alloc (Nat.le_refl _) _).alloc (by simp) _⟩
  case round =>
    obtain ⟨k, hk, rfl, hb1, hb0, hbel⟩ := hrel
    by_cases hlt : k < s.size / 64
    · have b1 : ((k : Int) + 1) * 64 ≤ (s.size : Int) := by omega
      have b2 : (k : Int) * 64 ≤ ((k : Int) + 1) * 64 := by omega
      have b3 : (k : Int) * 64 ≤ (s.size : Int) := by omega
      have b4 : 0 ≤ (k : Int) * 64 := by omega
      have b5 : 0 ≤ ((k : Int) + 1) * 64 := by omega
      have b6 : (k : Int) ≤ (k : Int) + 1 := by omega
      go_wp2_with fail
      refine region_tail 8 mixed (by kernel_rfl) ?_
      simp only [List.take_succ_cons, List.take_zero, List.drop_succ_cons, List.drop_zero]
      repeat (first | (refine still_load rfl 102 _ rfl 8 101 Tryd.underlying102 sz31 _ _ _ rfl (Blk.drew hb1) ?_) | (refine wpStill_step (fun K hK => ?_); go_simp; (try go_bits); refine hK _ ?_; clear hK K))
      refine wpStill_nil ?_
      go_wp2_with fail
      refine (stir_any _ _ _ (by simp; omega) (KB.below hK (Below.drew hbel))).mono ?_
      rintro e w1 ⟨rfl, hb1'⟩
      have hd : wr.drew.heap.size = wr.heap.size := rfl
      have l1 := hb1.lt; have l0 := hb0.lt
      have m1 := Blk.below (Blk.drew hb1) hb1' (by omega)
      have m0 := Blk.below (Blk.drew hb0) hb1' (by omega)
      have m2 := (Below.drew hbel).trans (hb1'.mono (by omega))
      clear hb1' hd
      go_wp2_with (first | (refine wpl_store_u rfl rfl 102 _ _ rfl 8 sz31 _ _ _ _ rfl rfl m1 rfl ?_; intro w3 hu3 j5) | fail)
      go_roundw
      case rel => exact ⟨k + 1, by omega, by go_num, j5, m0.upd hu3 (by omega), below_upd m2 hu3 (Nat.le_refl _)⟩
      case measure => simp [intOf]; omega
    · have hk' : k = s.size / 64 := by omega
      subst hk'
      go_wp2_with (first
        | (refine wpl_load rfl 102 _ rfl 8 101 Tryd.underlying102 sz31 _ _ _ _ rfl hb1 (by simp [tab_size]) ?_; rw [tab_all _ _ _ (Nat.zero_add _)])
        | (refine wpl_store_u rfl rfl 102 _ _ rfl 8 sz31 _ _ _ _ rfl rfl hb0 (by simp [tab_size]) ?_; intro w3 hu3 j5))
      refine ret_cell 4 102 rfl 8 101 Tryd.underlying102 sz31 _ _ _ rfl j5 rfl ⟨rfl, below_upd hbel hu3 (by omega)⟩
end Go.Proofs.YtfkgfakjhjbidaaDoor.Sm
