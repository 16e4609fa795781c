/-
  Part of the proof of SumTells: a number's eight bytes and the state's text in the code's sum are walked.
-/
import Derived.Test.YtfkgfakjhjbidaaDoorTxt
namespace Go.Proofs.YtfkgfakjhjbidaaDoor.Sm
open Go.RowKit
/-- Byte j of the eight of a number, the greatest first. -/
def numB (N j : Nat) : UInt8 := UInt8.ofNat (N / 256 ^ (7 - j))
theorem numB_eq (N j : Nat) (hj : j < 8) : ((numB N j).toNat : Int) = (N : Int) / 2 ^ (56 - 8 * j) % 256 := by
  have e : (2 : Nat) ^ (56 - 8 * j) = 256 ^ (7 - j) := by
    rw [show (256 : Nat) = 2 ^ 8 from rfl, ← Nat.pow_mul]; congr 1; omega
  unfold numB
  rw [UInt8.toNat_ofNat', ← e]
  simp
set_option maxRecDepth 100000 in
set_option maxHeartbeats 400000 in
theorem wide_any (N : Nat) (w : World) :
    Calls Tryd.prog 81 #[.int .u64 (N : Int)] w fun e w' => e = .returned (.string (sb 8 (numB N))) ∧ Below w.heap.size w w' := by
  go_enter Tryd.func81, Tryd.ntmps81
  go_wp2_with fail
  go_loopw [5] (fun i wr => ∃ k : Nat, k ≤ 8 ∧ i = .int .i64 k ∧ Blk wr w.heap.size (tb 8 (uptoB (numB N) k)) 167 ∧ Below w.heap.size w wr) (fun i _ => 8 - (intOf i).toNat)
  case atStart => exact ⟨0, by omega, rfl, Blk.new w (tb 8 (uptoB (numB N) 0)) 167, (Below.refl _ _).alloc (Nat.le_refl _) _⟩
  case round =>
    obtain ⟨k, hk, rfl, hb1, hbel⟩ := hrel
    by_cases hlt : k < 8
    · have hc := fun j (hj : j < 8) => hb1.bcell j hj
      have hf := fun j => hb1.frozen j
      have b1 : 0 ≤ 56 - 8 * (k : Int) := by omega
      go_wp2
      go_roundw
      case rel =>
        refine ⟨k + 1, by omega, by go_num, ?_, hbel.setCell (Nat.le_refl _) _⟩
        rw [← numB_eq N k hlt]
        have := hb1.set k (.int .u8 ((numB N k).toNat : Int))
        rw [tb_upto_succ _ _ _ _ rfl] at this
        exact this
      case measure => simp [intOf]; omega
    · have hk' : k = 8 := by omega
      subst hk'
      rw [tb_full] at hb1
      go_wp2_with (refine wpl_string rfl 112 9 5 _ rfl Tryd.underlying112 Tryd.underlying5 Tryd.underlying9 _ _ _ _ _ _ rfl hb1 (by simp [tb_size]) _ (tb_bytes _ _ _ rfl) ?_)
      go_ret
      exact ⟨rfl, hbel⟩
/-- Byte j of a state's text. -/
def stB (f : Nat → BitVec 32) (j : Nat) : UInt8 := UInt8.ofNat ((f (j / 4)).toNat / 256 ^ (3 - j % 4))
theorem stB_eq (f : Nat → BitVec 32) (j : Nat) : ((stB f j).toNat : Int) = I (f (j / 4)) / 2 ^ (24 - 8 * (j % 4)) % 256 := by
  have e : (2 : Nat) ^ (24 - 8 * (j % 4)) = 256 ^ (3 - j % 4) := by
    rw [show (256 : Nat) = 2 ^ 8 from rfl, ← Nat.pow_mul]; congr 1; omega
  unfold stB I
  rw [UInt8.toNat_ofNat', ← e]
  simp
set_option maxRecDepth 100000 in
set_option maxHeartbeats 400000 in
theorem stText_any (f : Nat → BitVec 32) (w : World) :
    Calls Tryd.prog 75 #[.agg (tab 8 f)] w fun e w' => e = .returned (.string (sb 32 (stB f))) ∧ Below w.heap.size w w' := by
  go_enter Tryd.func75, Tryd.ntmps75
  go_wp2_with fail
  go_loopw [5] (fun i wr => ∃ k : Nat, k ≤ 32 ∧ i = .int .i64 k ∧ Blk wr w.heap.size (tab 8 f) 102 ∧ Blk wr (w.heap.size + 1) (tb 32 (uptoB (stB f) k)) 165 ∧ Below w.heap.size w wr) (fun i _ => 32 - (intOf i).toNat)
  case atStart => exact ⟨0, by omega, rfl, (Blk.new w (tab 8 f) 102).alloc _, Blk.new' _ (tb 32 (uptoB (stB f) 0)) 165 (by simp), ((Below.refl _ _).alloc (Nat.le_refl _) _).alloc (by simp) _⟩
  case round =>
    obtain ⟨k, hk, rfl, hb0, hb1, hbel⟩ := hrel
    by_cases hlt : k < 32
    · have hc := fun j (hj : j < 32) => hb1.bcell j hj
      have hf := fun j => hb1.frozen j
      have h0 := fun j (hj : j < 8) => hb0.tcell j hj
      have b0 : (k : Int) / 4 < 8 := by omega
      have b2 : k / 4 < 8 := by omega
      have b1 : 0 ≤ 24 - 8 * ((k : Int) % 4) := by omega
      go_wp2
      go_roundw
      case rel =>
        refine ⟨k + 1, by omega, by go_num, hb0.setOther _ (by simp) _, ?_, hbel.setCell (by simp) _⟩
        rw [← stB_eq f k]
        have := hb1.set k (.int .u8 ((stB f k).toNat : Int))
        rw [tb_upto_succ _ _ _ _ rfl] at this
        exact this
      case measure => simp [intOf]; omega
    · have hk' : k = 32 := by omega
      subst hk'
      rw [tb_full] at hb1
      go_wp2_with (refine wpl_string rfl 112 9 5 _ rfl Tryd.underlying112 Tryd.underlying5 Tryd.underlying9 _ _ _ _ _ _ rfl hb1 (by simp [tb_size]) _ (tb_bytes _ _ _ rfl) ?_)
      go_ret
      exact ⟨rfl, hbel⟩
end Go.Proofs.YtfkgfakjhjbidaaDoor.Sm
