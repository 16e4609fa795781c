/-
  Part of the proof of SumTells: the reference's rotation is walked.
-/
import Derived.Test.YtfkgfakjhjbidaaDoorSmM
import Derived.Test.YtfkgfakjhjbidaaDoorSmV6
namespace Go.Proofs.YtfkgfakjhjbidaaDoor.Sm
open Go.RowKit
theorem rot_add (x : BitVec 32) (n : Nat) (h0 : 1 ≤ n) (h1 : n ≤ 31) : x >>> n + x <<< (32 - n) = x.rotateRight n := by
  rw [← rot_eq x n h0 h1, BitVec.or_comm, BitVec.add_eq_or_of_and_eq_zero]
  ext i hi
  simp
  intro h
  have := BitVec.getLsbD_of_ge x (n + i)
  by_cases h2 : 32 - n ≤ i
  · rw [BitVec.getLsbD_of_ge x (n + i) (by omega)] at h; cases h
  · intro h3; omega
theorem rotr_eq (x : BitVec 32) (n : Int) (h0 : 1 ≤ n) (h1 : n ≤ 31) : (I x / 2 ^ n.toNat + I x * 2 ^ (32 - n).toNat % 4294967296) % 4294967296 = I (x.rotateRight n.toNat) := by
  rw [I_shr, I_shlm, I_addm, ← rot_add x n.toNat (by omega) (by omega)]
  rw [show (32 - n).toNat = 32 - n.toNat from by omega]
set_option maxHeartbeats 400000 in
theorem rrot_any (x : BitVec 32) (n : Int) (w : World) (h0 : 1 ≤ n) (h1 : n ≤ 31) :
    Calls Tryd.prog 76 #[.int .u32 (I x), .int .i64 n] w fun e w' => e = .returned (.int .u32 (I (x.rotateRight n.toNat))) ∧ ∃ m, w' = w.drewN m := by
  have b1 : 0 ≤ 32 - n := by omega
  have b2 : n ≤ 32 := by omega
  have b3 : 32 - n ≤ 32 := by omega
  have b4 : 0 ≤ n := by omega
  have q1 : IntKind.i64.wrap (32 - n) = 32 - n := IntWalk.i64_in _ (by omega)
  go_enter Tryd.func76, Tryd.ntmps76
  go_wp2_with fail
  go_quiet (fail)
  go_wp2
  go_ret
  exact ⟨ret_int (rotr_eq x n h0 h1), _, rfl⟩
end Go.Proofs.YtfkgfakjhjbidaaDoor.Sm
