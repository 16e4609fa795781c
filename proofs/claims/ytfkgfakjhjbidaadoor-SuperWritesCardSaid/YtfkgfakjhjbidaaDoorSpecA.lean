/-
  Part of the proof: plain facts on 32-bit numbers and their integers.
-/
import Derived.WalkKit
namespace Go.Proofs.YtfkgfakjhjbidaaDoor
open Go.RowKit
/-- A word's number. -/
def I (v : BitVec 32) : Int := (v.toNat : Int)
theorem I_lt (v : BitVec 32) : 0 ≤ I v ∧ I v < 4294967296 := by
  unfold I; have := v.isLt; omega
theorem I_xor (x y : BitVec 32) : bits .xor .u32 (I x) (I y) = I (x ^^^ y) := by
  have hx := x.isLt; have hy := y.isLt
  unfold I; rw [u32_xor_nat _ _ (by omega) (by omega)]; simp
theorem I_and (x y : BitVec 32) : bits .and .u32 (I x) (I y) = I (x &&& y) := by
  have hx := x.isLt; have hy := y.isLt
  unfold I; rw [u32_and_nat _ _ (by omega) (by omega)]; simp
theorem I_or (x y : BitVec 32) : bits .or .u32 (I x) (I y) = I (x ||| y) := by
  have hx := x.isLt; have hy := y.isLt
  unfold I; rw [u32_or_nat _ _ (by omega) (by omega)]; simp
theorem I_add (x y : BitVec 32) : IntKind.u32.wrap (I x + I y) = I (x + y) := by
  unfold I; rw [IntKind.wrap_u32]; simp
theorem I_shl (x : BitVec 32) (n : Nat) : IntKind.u32.wrap (I x * 2 ^ n) = I (x <<< n) := by
  unfold I; rw [IntKind.wrap_u32, BitVec.toNat_shiftLeft, Nat.shiftLeft_eq]; simp
theorem I_shr (x : BitVec 32) (n : Nat) : I x / 2 ^ n = I (x >>> n) := by
  unfold I; rw [BitVec.toNat_ushiftRight, Nat.shiftRight_eq_div_pow]; simp
theorem I_addm (x y : BitVec 32) : (I x + I y) % 4294967296 = I (x + y) := by
  unfold I; simp
theorem I_shlm (x : BitVec 32) (n : Nat) : I x * 2 ^ n % 4294967296 = I (x <<< n) := by
  unfold I; rw [BitVec.toNat_shiftLeft, Nat.shiftLeft_eq]; simp
theorem I_not (x : BitVec 32) : bits .xor .u32 IntKind.u32.max (I x) = I (~~~x) := by
  have h : I (BitVec.allOnes 32) = IntKind.u32.max := rfl
  rw [← h, I_xor, BitVec.allOnes_xor]
theorem and31 (k : Int) (h0 : -31 ≤ k) (h1 : k ≤ -1) : bits .and .u64 (IntKind.u64.wrap k) 31 = 32 + k := by
  have e : IntKind.u64.wrap k = ((k + 18446744073709551616).toNat : Int) := by
    simp [IntKind.wrap, IntKind.bits, IntKind.signed]; omega
  rw [e, show (31 : Int) = ((31 : Nat) : Int) from rfl, bits_and_u64_nat _ _ (by omega) (by omega)]
  rw [show (31:Nat) = 2 ^ 5 - 1 from rfl, Nat.and_two_pow_sub_one_eq_mod]; omega
theorem rot_eq (x : BitVec 32) (n : Nat) (h0 : 1 ≤ n) (h1 : n ≤ 31) : (x <<< (32 - n)) ||| (x >>> n) = x.rotateRight n := by
  rw [BitVec.rotateRight_def, Nat.mod_eq_of_lt (by omega), BitVec.or_comm]
theorem ret_int {k : IntKind} {a b : Int} (h : a = b) : Ending.returned (.int k a) = .returned (.int k b) := by rw [h]
theorem I_shr3 (x : BitVec 32) : I x / (8 : Int) = I (x >>> 3) := I_shr x 3
theorem I_shr10 (x : BitVec 32) : I x / (1024 : Int) = I (x >>> 10) := I_shr x 10
theorem I_add3 (x y z : BitVec 32) : (I x + I y + I z) % 4294967296 = I (x + y + z) := by
  rw [← I_addm, ← I_addm]; omega
theorem I_add4 (x y z u : BitVec 32) : (I x + I y + I z + I u) % 4294967296 = I (x + y + z + u) := by
  rw [← I_addm, ← I_add3]; omega
theorem I_add5 (x y z u v : BitVec 32) : (I x + I y + I z + I u + I v) % 4294967296 = I (x + y + z + u + v) := by
  rw [← I_addm, ← I_add4]; omega
end Go.Proofs.YtfkgfakjhjbidaaDoor
