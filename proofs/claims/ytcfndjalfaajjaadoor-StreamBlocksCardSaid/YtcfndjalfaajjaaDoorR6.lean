/-
  Part of the proof: a call of StreamBlocks returns true, whatever the input, where the variable that it reads lies as laid.
-/
import Derived.Test.YtcfndjalfaajjaaDoorR5
import Derived.Test.YtcfndjalfaajjaaDoorA3
namespace Go.Proofs.YtcfndjalfaajjaaDoor
open Go.RowKit
theorem long_any (s : ByteArray) (w : World) (h : s.size ≤ 9223372036854775807) : Calls Tryd.prog 5 #[.string s] w fun e w' => e = .returned (.bool (decide (60 < s.size))) ∧ w' = w := by
  go_enter Tryd.func5, Tryd.ntmps5
  go_wp2
  go_ret
  refine ⟨?_, rfl⟩
  simp
  omega
set_option maxRecDepth 100000 in
set_option maxHeartbeats 1000000 in
theorem law_any (key : ByteArray) (n : Int) (nonce s : ByteArray) (w : World) (h1 : key.size ≤ maxLen) (h2 : nonce.size ≤ maxLen) (h3 : s.size ≤ maxLen) (hE : EB w) :
    Calls Tryd.prog 4 #[.string key, .int .i64 n, .string nonce, .string s] w fun e w' => e = .returned (.bool true) ∧ Below w.heap.size w w' := by
  unfold maxLen at h1 h2 h3
  by_cases c1 : 60 < key.size
  · have d1 : decide (60 < key.size) = true := decide_eq_true c1
    go_enter Tryd.func4, Tryd.ntmps4
    go_wp2_with (go_at_call 5; refine (long_any _ _ (by omega)).mono ?_; rintro e w' ⟨rfl, rfl⟩; rw [d1])
    go_ret
    exact ⟨rfl, Below.refl _ _⟩
  have d1 : decide (60 < key.size) = false := decide_eq_false c1
  by_cases c2 : 60 < nonce.size
  · have d2 : decide (60 < nonce.size) = true := decide_eq_true c2
    go_enter Tryd.func4, Tryd.ntmps4
    go_wp2_with (go_at_call 5; refine (long_any _ _ (by omega)).mono ?_; rintro e w' ⟨rfl, rfl⟩; first | rw [d1] | rw [d2])
    go_ret
    exact ⟨rfl, Below.refl _ _⟩
  have d2 : decide (60 < nonce.size) = false := decide_eq_false c2
  by_cases c3 : 300 < s.size
  · go_enter Tryd.func4, Tryd.ntmps4
    go_wp2_with (go_at_call 5; refine (long_any _ _ (by omega)).mono ?_; rintro e w' ⟨rfl, rfl⟩; first | rw [d1] | rw [d2])
    go_ret
    exact ⟨rfl, Below.refl _ _⟩
  have c3' : ¬ ((300 : Int) < s.size) := by omega
  by_cases c : key.size = 32 ∧ nonce.size = 12
  · obtain ⟨k1, k2⟩ := c
    have eX : xorV key nonce s = .tuple #[.string (sb s.size (xorF key nonce s)), .nilIface] := if_pos ⟨k1, k2⟩
    by_cases cn : 0 ≤ n ∧ n ≤ 4294967295
    · obtain ⟨r0, r1⟩ := cn
      have eB : blockV key n nonce = .tuple #[.string (sb 64 (blkB (stW key (BitVec.ofNat 32 n.toNat) nonce))), .nilIface] := if_pos ⟨k1, k2, r0, r1⟩
      have HR := fun w0 => rblock_good key n nonce w0 k1 k2 r0 r1
      have HX := fun w0 => rxor_good key nonce s w0 k1 k2 (by omega)
      generalize sb 64 (blkB (stW key (BitVec.ofNat 32 n.toNat) nonce)) = S at *
      generalize sb s.size (xorF key nonce s) = X at *
      go_enter Tryd.func4, Tryd.ntmps4
      go_wp2_with (go_at_call 5; refine (long_any _ _ (by omega)).mono ?_; rintro e w' ⟨rfl, rfl⟩; first | rw [d1] | rw [d2])
      refine (HR _).mono ?_
      rintro e w1 ⟨rfl, g1⟩
      go_wp2_with fail
      refine (block_any key n nonce _ (by omega) (by omega)).mono ?_
      rintro e w2 ⟨rfl, g2⟩
      rw [eB]
      have b2 := g1.trans (g2.mono g1.size)
      go_wp2_with fail
      refine (bare_nil _).mono ?_
      rintro e w3 ⟨rfl, rfl⟩
      go_wp2_with fail
      refine (HX _).mono ?_
      rintro e w4 ⟨rfl, g4⟩
      have b4 := b2.trans (g4.mono b2.size)
      go_wp2_with fail
      refine (xor_any key nonce s _ (by omega) (by omega) (by omega)).mono ?_
      rintro e w5 ⟨rfl, g5⟩
      rw [eX]
      have b5 := b4.trans (g5.mono b4.size)
      go_wp2_with fail
      refine (bare_nil _).mono ?_
      rintro e w6 ⟨rfl, rfl⟩
      go_wp2
      go_ret
      exact ⟨rfl, b5⟩
    · have cb : ¬ (key.size = 32 ∧ nonce.size = 12 ∧ 0 ≤ n ∧ n ≤ 4294967295) := fun h => cn ⟨h.2.2.1, h.2.2.2⟩
      have eB : blockV key n nonce = .tuple #[.string ByteArray.empty, .iface 30 (.int .i64 1)] := if_neg cb
      have HX := fun w0 => rxor_good key nonce s w0 k1 k2 (by omega)
      generalize sb s.size (xorF key nonce s) = X at *
      go_enter Tryd.func4, Tryd.ntmps4
      go_wp2_with (go_at_call 5; refine (long_any _ _ (by omega)).mono ?_; rintro e w' ⟨rfl, rfl⟩; first | rw [d1] | rw [d2])
      refine (rblock_bad key n nonce _ (by omega) (by omega) cb).mono ?_
      rintro e w1 ⟨rfl, rfl⟩
      go_wp2_with fail
      refine (block_any key n nonce _ (by omega) (by omega)).mono ?_
      rintro e w2 ⟨rfl, b2⟩
      rw [eB]
      go_wp2_with fail
      refine (bare_some _ 1 (hE.below b2)).mono ?_
      rintro e w3 ⟨rfl, g3⟩
      have b3 := b2.trans (g3.mono b2.size)
      go_wp2_with fail
      refine (HX _).mono ?_
      rintro e w4 ⟨rfl, g4⟩
      have b4 := b3.trans (g4.mono b3.size)
      go_wp2_with fail
      refine (xor_any key nonce s _ (by omega) (by omega) (by omega)).mono ?_
      rintro e w5 ⟨rfl, g5⟩
      rw [eX]
      have b5 := b4.trans (g5.mono b4.size)
      go_wp2_with fail
      refine (bare_nil _).mono ?_
      rintro e w6 ⟨rfl, rfl⟩
      go_wp2
      go_ret
      exact ⟨rfl, b5⟩
  · have cb : ¬ (key.size = 32 ∧ nonce.size = 12 ∧ 0 ≤ n ∧ n ≤ 4294967295) := fun h => c ⟨h.1, h.2.1⟩
    have eB : blockV key n nonce = .tuple #[.string ByteArray.empty, .iface 30 (.int .i64 1)] := if_neg cb
    have eX : xorV key nonce s = .tuple #[.string ByteArray.empty, .iface 30 (.int .i64 1)] := if_neg c
    go_enter Tryd.func4, Tryd.ntmps4
    go_wp2_with (go_at_call 5; refine (long_any _ _ (by omega)).mono ?_; rintro e w' ⟨rfl, rfl⟩; first | rw [d1] | rw [d2])
    refine (rblock_bad key n nonce _ (by omega) (by omega) cb).mono ?_
    rintro e w1 ⟨rfl, rfl⟩
    go_wp2_with fail
    refine (block_any key n nonce _ (by omega) (by omega)).mono ?_
    rintro e w2 ⟨rfl, b2⟩
    rw [eB]
    go_wp2_with fail
    refine (bare_some _ 1 (hE.below b2)).mono ?_
    rintro e w3 ⟨rfl, g3⟩
    have b3 := b2.trans (g3.mono b2.size)
    go_wp2_with fail
    refine (rxor_bad key nonce s _ (by omega) (by omega) (by omega) c).mono ?_
    rintro e w4 ⟨rfl, rfl⟩
    go_wp2_with fail
    refine (xor_any key nonce s _ (by omega) (by omega) (by omega)).mono ?_
    rintro e w5 ⟨rfl, g5⟩
    rw [eX]
    have b5 := b3.trans (g5.mono b3.size)
    go_wp2_with fail
    refine (bare_some _ 1 (hE.below b5)).mono ?_
    rintro e w6 ⟨rfl, g6⟩
    have b6 := b5.trans (g6.mono b5.size)
    go_wp2
    go_ret
    exact ⟨rfl, b6⟩
end Go.Proofs.YtcfndjalfaajjaaDoor
