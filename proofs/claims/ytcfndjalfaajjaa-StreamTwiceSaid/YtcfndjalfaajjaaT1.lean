/-
  Part of the proof: the known block of 'streamed', and 'pick', are walked.
-/
import Derived.Test.YtcfndjalfaajjaaS5
import Derived.Test.YtcfndjalfaajjaaH
import Derived.Test.YtcfndjalfaajjaaK1
namespace Go.Proofs.Ytcfndjalfaajjaa
open Go.RowKit
theorem ba_ext {a b : ByteArray} (h : a.data.toList = b.data.toList) : a = b := by
  cases a; cases b; simp at h; subst h; rfl
def rfcBlock : ByteArray := ⟨#[16, 241, 231, 228, 209, 59, 89, 21, 80, 15, 221, 31, 163, 32, 113, 196, 199, 209, 244, 199, 51, 192, 104, 3, 4, 34, 170, 154, 195, 212, 108, 78, 210, 130, 100, 70, 7, 159, 170, 9, 20, 194, 215, 5, 217, 139, 2, 162, 181, 18, 156, 209, 222, 22, 78, 185, 203, 208, 131, 232, 162, 80, 60, 78]⟩
theorem rfc_block : blockV rfcKey 1 rfcNonce = .tuple #[.string rfcBlock, .nilIface] := by
  have e : blockV rfcKey 1 rfcNonce = .tuple #[.string (sb 64 (blkB (stW rfcKey (1#32) rfcNonce))), .nilIface] := if_pos ⟨rfl, rfl, by decide, by decide⟩
  rw [e, show sb 64 (blkB (stW rfcKey (1#32) rfcNonce)) = rfcBlock from ba_ext rfc_bytes]
theorem rfc_h1 : (⟨(hexL (rfcBlock.extract 0 16).data.toList).toArray⟩ : ByteArray) = ⟨#[49, 48, 102, 49, 101, 55, 101, 52, 100, 49, 51, 98, 53, 57, 49, 53, 53, 48, 48, 102, 100, 100, 49, 102, 97, 51, 50, 48, 55, 49, 99, 52]⟩ := by decide +kernel
theorem rfc_h2 : (⟨(hexL (rfcBlock.extract 60 64).data.toList).toArray⟩ : ByteArray) = ⟨#[97, 50, 53, 48, 51, 99, 52, 101]⟩ := by decide +kernel
theorem pick_any (a : Int) (n : Nat) (w : World) (h0 : 0 < n) (h1 : n ≤ 10000) :
    Calls Try.prog 6 #[.int .i64 a, .int .i64 (n : Int)] w fun e w' => ∃ j : Nat, e = .returned (.int .i64 (j : Int)) ∧ j < n ∧ w' = w := by
  obtain ⟨u, hu⟩ : ∃ u : Nat, IntKind.u64.wrap a = (u : Int) := ⟨(a % 18446744073709551616).toNat, by simp [IntKind.wrap, IntKind.bits, IntKind.signed]; omega⟩
  obtain ⟨j, hj, hjn⟩ : ∃ j : Nat, (u : Int) % (n : Int) = (j : Int) ∧ j < n := ⟨u % n, by simp, Nat.mod_lt _ h0⟩
  go_enter Try.func6, Try.ntmps6
  go_wp2
  go_ret
  exact ⟨j, rfl, hjn, rfl⟩
set_option maxRecDepth 100000 in
set_option maxHeartbeats 1000000 in
theorem streamed_any (w : World) : Calls Try.prog 4 #[] w fun e w' => e = .returned (.bool true) ∧ Below w.heap.size w w' := by
  go_enter Try.func4, Try.ntmps4
  go_wp2_with fail
  go_loopw [1, 5] (fun kv i wr => ∃ k : Nat, k ≤ 32 ∧ i = .int .i64 k ∧ kv = .string (sb k (fun i => UInt8.ofNat i)) ∧ Below w.heap.size w wr) (fun _ i _ => 32 - (intOf i).toNat)
  case atStart => exact ⟨0, by omega, rfl, rfl, Below.refl _ _⟩
  case round =>
    obtain ⟨k, hk, rfl, rfl, hb⟩ := hrel
    by_cases hlt : k < 32
    · have hz := sb_size k (fun i => UInt8.ofNat i)
      have hl1 : (#[Value.int .u8 ((k : Int) % 256)]).extract 0 (0 + 1) = (Lib.byteCells [UInt8.ofNat k]).toArray := by simp [Lib.byteCells]
      have hl2 : (#[Value.int .u8 (k : Int)]).extract 0 (0 + 1) = (Lib.byteCells [UInt8.ofNat k]).toArray := by rw [← hl1, show (k : Int) % 256 = k from by omega]
      go_wp2_with (first | (refine wpl_string rfl 29 9 5 _ rfl Try.underlying29 Try.underlying5 Try.underlying9 _ _ _ _ _ _ rfl (Blk.new wr _ 5) (by simp) [UInt8.ofNat k] hl1 ?_) | (refine wpl_string rfl 29 9 5 _ rfl Try.underlying29 Try.underlying5 Try.underlying9 _ _ _ _ _ _ rfl (Blk.new wr _ 5) (by simp) [UInt8.ofNat k] hl2 ?_))
      go_light
      refine ⟨⟨k + 1, by omega, by go_num, ?_, hb.alloc hb.size _⟩, by simp [intOf]; omega⟩
      refine congrArg Value.string (ba_ext ?_)
      simp [sb, List.range_succ]
    · have hk' : k = 32 := by omega
      subst hk'
      go_wp2_with fail
      refine (block_any rfcKey 1 rfcNonce _ (by decide) (by decide)).mono ?_
      rintro e w1 ⟨rfl, g1⟩
      rw [rfc_block]
      have hz : rfcBlock.size = 64 := rfl
      generalize hB : rfcBlock = B at *
      have r1 := rfc_h1
      have r2 := rfc_h2
      rw [hB] at r1 r2
      have b1 := hb.trans (g1.mono hb.size)
      go_wp2_with fail
      refine (hex_any _ _ (by simp; omega)).mono ?_
      rintro e w2 ⟨rfl, g2⟩
      rw [r1]
      have b2 := b1.trans (g2.mono b1.size)
      go_wp2_with fail
      refine (hex_any _ _ (by simp; omega)).mono ?_
      rintro e w3 ⟨rfl, g3⟩
      rw [r2]
      have b3 := b2.trans (g3.mono b2.size)
      go_wp2
      go_ret
      exact ⟨rfl, b3⟩
end Go.Proofs.Ytcfndjalfaajjaa
