/-
  Part of the proof of SumTells: the two functions that give a number's eight bytes answer the same text.
-/
import Derived.Test.YtfkgfakjhjbidaaDoorSmW5
namespace Go.Proofs.YtfkgfakjhjbidaaDoor.Sm
open Go.RowKit
/-- A number's eight bytes. -/
def numN (n : Int) : Nat := (n % 18446744073709551616).toNat
theorem u64_wrap (n : Int) : IntKind.u64.wrap n = (numN n : Int) := by
  simp [IntKind.wrap, IntKind.bits, IntKind.signed, numN]; omega
theorem numN_lt (n : Int) : numN n < 18446744073709551616 := by unfold numN; omega
set_option maxHeartbeats 400000 in
theorem num_any (n : Int) (w : World) : Calls Tryd.prog 18 #[.int .i64 n] w fun e w' => e = .returned (.string (sb 8 (numB (numN n)))) ∧ Below w.heap.size w w' := by
  have hu := u64_wrap n
  go_enter Tryd.func18, Tryd.ntmps18
  go_wp2_with fail
  refine (c_wide _ (numN n) _ (by omega)).mono ?_
  rintro e w1 ⟨rfl, h1⟩
  go_wp2
  go_ret
  exact ⟨rfl, h1⟩
/-- The last k bytes of a number. -/
def lastB (N k : Nat) : ByteArray := ⟨((List.range k).map fun i => numB N (8 - k + i)).toArray⟩
set_option maxHeartbeats 400000 in
theorem refnum_any (n : Int) (w : World) : Calls Tryd.prog 19 #[.int .i64 n] w fun e w' => e = .returned (.string (sb 8 (numB (numN n)))) ∧ Below w.heap.size w w' := by
  have hu := u64_wrap n
  have hlt := numN_lt n
  generalize numN n = N at *
  go_enter Tryd.func19, Tryd.ntmps19
  go_wp2_with fail
  go_loopw [3, 4, 7] (fun s u i wr => ∃ k : Nat, k ≤ 8 ∧ i = .int .i64 k ∧ u = .int .u64 ((N / 256 ^ k : Nat) : Int) ∧ s = .string (lastB N k) ∧ Below w.heap.size w wr) (fun _ _ i _ => 8 - (intOf i).toNat)
  case atStart => exact ⟨0, by omega, rfl, by simp, rfl, Below.refl _ _⟩
  case round =>
    obtain ⟨k, hk, rfl, rfl, rfl, hbel⟩ := hrel
    by_cases hlt8 : k < 8
    · have hsz : (lastB N k).size = k := by simp [lastB, ByteArray.size]
      obtain ⟨q, hq⟩ : ∃ q, Hid (q = N / 256 ^ k) := ⟨_, rfl⟩
      rw [← hq.out]
      have hql : q < 18446744073709551616 := by rw [hq.out]; exact Nat.lt_of_le_of_lt (Nat.div_le_self _ _) hlt
      have hl1 : (#[Value.int .u8 ((q : Int) % 256)]).extract 0 (0 + 1) = (Lib.byteCells [UInt8.ofNat q]).toArray := by simp [Lib.byteCells]
      go_wp2_with (refine wpl_string rfl 112 9 5 _ rfl Tryd.underlying112 Tryd.underlying5 Tryd.underlying9 _ _ _ _ _ _ rfl (Blk.new wr _ 5) (by simp) [UInt8.ofNat q] hl1 ?_)
      go_roundw
      case rel =>
        refine ⟨k + 1, by omega, by go_num, ?_, ?_, hbel.alloc hbel.size _⟩
        · rw [hq.out, Nat.pow_succ, ← Nat.div_div_eq_div_mul]; simp
        · refine congrArg Value.string (ba_ext ?_)
          rw [hq.out]
          have e : (List.range (k + 1)).map (fun i => numB N (8 - (k + 1) + i)) = UInt8.ofNat (N / 256 ^ k) :: (List.range k).map (fun i => numB N (8 - k + i)) := by
            rw [List.range_succ_eq_map, List.map_cons, List.map_map]
            congr 1
            · unfold numB; congr 3; omega
            · apply List.map_congr_left; intro i _; simp only [Function.comp]; congr 1; omega
          simp only [lastB, e]
          simp
      case measure => simp [intOf]; omega
    · have hk' : k = 8 := by omega
      subst hk'
      go_wp2
      go_ret
      exact ⟨by simp [lastB, sb], hbel⟩
end Go.Proofs.YtfkgfakjhjbidaaDoor.Sm
