/-
  Part of the proof: Block and Xor of the code are walked, and Hex.
-/
import Derived.Test.YtccnnfllgdplhaaDoorS3
import Derived.Test.YtccnnfllgdplhaaDoorShelf
namespace Go.Proofs.YtccnnfllgdplhaaDoor
open Go.RowKit
set_option maxHeartbeats 400000 in
theorem holds_any (key nonce : ByteArray) (w : World) (_h1 : key.size ≤ 10000) (_h2 : nonce.size ≤ 10000) :
    Calls Tryd.prog 74 #[.string key, .string nonce] w fun e w' => e = .returned (.bool (decide (key.size = 32 ∧ nonce.size = 12))) ∧ w' = w := by
  by_cases c1 : key.size = 32
  · by_cases c2 : nonce.size = 12
    · go_enter Tryd.func74, Tryd.ntmps74
      go_wp2
      go_ret
      simp [c1, c2]
    · have d2 : decide ((nonce.size : Int) = 12) = false := by simp; omega
      go_enter Tryd.func74, Tryd.ntmps74
      go_wp2
      go_ret
      simp [c1, c2]; omega
  · have d1 : decide ((key.size : Int) = 32) = false := by simp; omega
    go_enter Tryd.func74, Tryd.ntmps74
    go_wp2
    go_ret
    simp [c1]
/-- What is told where a size is not as it must be. -/
def errArg : Value := .tuple #[.string ByteArray.empty, .iface 30 (.int .i64 1)]
theorem start_any' (key : ByteArray) (z : Int) (n : BitVec 32) (nonce : ByteArray) (w : World) (hz : z = I n) (hk : key.size = 32) (hn : nonce.size = 12) :
    Calls Tryd.prog 76 #[.string key, .int .u32 z, .string nonce] w fun e w' => e = .returned (.agg (tab 16 (stW key n nonce))) ∧ Below w.heap.size w w' := by
  subst hz; exact start_any key n nonce w hk hn
/-- What Block answers. -/
def blockV (key : ByteArray) (n : Int) (nonce : ByteArray) : Value :=
  if key.size = 32 ∧ nonce.size = 12 ∧ 0 ≤ n ∧ n ≤ 4294967295 then .tuple #[.string (sb 64 (blkB (stW key (BitVec.ofNat 32 n.toNat) nonce))), .nilIface] else errArg
set_option maxRecDepth 100000 in
set_option maxHeartbeats 1000000 in
theorem block_any (key : ByteArray) (n : Int) (nonce : ByteArray) (w : World) (hk : key.size ≤ 10000) (hn : nonce.size ≤ 10000) :
    Calls Tryd.prog 21 #[.string key, .int .i64 n, .string nonce] w fun e w' => e = .returned (blockV key n nonce) ∧ Below w.heap.size w w' := by
  by_cases c : key.size = 32 ∧ nonce.size = 12
  · by_cases c1 : n < 0
    · rw [show blockV key n nonce = errArg from if_neg (by omega)]
      go_enter Tryd.func21, Tryd.ntmps21
      go_wp2_with (go_at_call 74; refine (holds_any _ _ _ hk hn).mono ?_; rintro e w' ⟨rfl, rfl⟩)
      go_ret2
      exact ⟨rfl, Below.refl _ _⟩
    by_cases c2 : 4294967295 < n
    · rw [show blockV key n nonce = errArg from if_neg (by omega)]
      go_enter Tryd.func21, Tryd.ntmps21
      go_wp2_with (go_at_call 74; refine (holds_any _ _ _ hk hn).mono ?_; rintro e w' ⟨rfl, rfl⟩)
      go_ret2
      exact ⟨rfl, Below.refl _ _⟩
    rw [show blockV key n nonce = _ from if_pos (by omega)]
    have hI : n = I (BitVec.ofNat 32 n.toNat) := by unfold I; rw [BitVec.toNat_ofNat, Nat.mod_eq_of_lt (by omega)]; omega
    have HI : Hid (n = I (BitVec.ofNat 32 n.toNat)) := hI
    clear hI
    have r0 : 0 ≤ n := by omega
    have r1 : n ≤ 4294967295 := by omega
    obtain ⟨k1, k2⟩ := c
    generalize hst : stW key (BitVec.ofNat 32 n.toNat) nonce = st at *
    have HST : Hid (stW key (BitVec.ofNat 32 n.toNat) nonce = st) := hst
    clear hst
    go_enter Tryd.func21, Tryd.ntmps21
    go_wp2_with (go_at_call 74; refine (holds_any _ _ _ hk hn).mono ?_; rintro e w' ⟨rfl, rfl⟩)
    refine (start_any' key n (BitVec.ofNat 32 n.toNat) nonce _ HI.out k1 k2).mono ?_
    rintro e w1 ⟨rfl, g1⟩
    rw [HST.out]
    go_wp2_with fail
    refine (bytes_any st _).mono ?_
    rintro e w2 ⟨rfl, g2⟩
    have b2 := g1.trans (g2.mono g1.size)
    clear g1 g2
    go_wp2_with (first
      | (refine wpl_storeB rfl rfl 111 _ _ rfl 64 szB _ _ _ _ rfl rfl (Blk.new _ _ _) rfl ?_; intro w3 hu3 j5)
      | (refine wpl_string rfl 94 9 5 _ rfl Tryd.underlying94 Tryd.underlying5 Tryd.underlying9 _ _ _ _ _ _ rfl j5 (by simp [tb_size]) _ (tb_bytes _ _ _ rfl) ?_))
    go_ret2
    exact ⟨rfl, below_upd (b2.alloc b2.size _) hu3 b2.size⟩
  · rw [show blockV key n nonce = errArg from if_neg (by omega)]
    have cf : decide (key.size = 32 ∧ nonce.size = 12) = false := by simp only [decide_eq_false_iff_not]; exact c
    go_enter Tryd.func21, Tryd.ntmps21
    go_wp2_with (go_at_call 74; refine (holds_any _ _ _ hk hn).mono ?_; rintro e w' ⟨rfl, rfl⟩)
    go_ret2
    exact ⟨rfl, Below.refl _ _⟩
end Go.Proofs.YtccnnfllgdplhaaDoor
