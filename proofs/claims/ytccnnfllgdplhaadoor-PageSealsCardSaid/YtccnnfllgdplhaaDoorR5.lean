/-
  Part of the proof: the reference's Xor is walked.
-/
import Derived.Test.YtccnnfllgdplhaaDoorR4
import Derived.Test.YtccnnfllgdplhaaDoorMB
import Derived.Test.YtccnnfllgdplhaaDoorS5
namespace Go.Proofs.YtccnnfllgdplhaaDoor
open Go.RowKit
theorem sb_add (a b : Nat) (f : Nat → UInt8) : sb (a + b) f = sb a f ++ sb b (fun j => f (a + j)) := by
  refine ba_ext ?_
  simp [sb, List.range_add]
theorem ks_next (key nonce : ByteArray) (q : Nat) : sb (64 * (q + 1)) (ksB key nonce) = sb (64 * q) (ksB key nonce) ++ sb 64 (blkB (stW key (BitVec.ofNat 32 (q + 1)) nonce)) := by
  rw [show 64 * (q + 1) = 64 * q + 64 from by omega, sb_add]
  have e : sb 64 (fun j => ksB key nonce (64 * q + j)) = sb 64 (blkB (stW key (BitVec.ofNat 32 (q + 1)) nonce)) := by
    apply sb_congr; intro j hj
    unfold ksB
    rw [show (64 * q + j) / 64 = q from by omega, show (64 * q + j) % 64 = j from by omega, Nat.add_comm 1 q]
  rw [e]
set_option maxRecDepth 100000 in
set_option maxHeartbeats 1000000 in
theorem rxor_bad (key nonce s : ByteArray) (w : World) (hk : key.size ≤ 10000) (hn : nonce.size ≤ 10000) (hs : s.size ≤ 10000) (c : ¬ (key.size = 32 ∧ nonce.size = 12)) :
    Calls Tryd.prog 23 #[.string key, .string nonce, .string s] w fun e w' => e = .returned (.tuple #[.string ByteArray.empty, .int .i64 1]) ∧ w' = w := by
  have c' : ¬ (key.size = 32 ∧ nonce.size = 12 ∧ (0 : Int) ≤ 1 ∧ (1 : Int) ≤ 4294967295) := fun h => c ⟨h.1, h.2.1⟩
  by_cases h0 : 0 < s.size
  · have h0' : (0 : Int) < s.size := by omega
    go_enter Tryd.func23, Tryd.ntmps23
    go_wp2_with fail
    refine wp_loop_rounds 1 ?_
    rw [rounds_succ]
    go_wp2_with (go_at_call 20; refine (rblock_bad key 1 nonce _ hk hn c').mono ?_; rintro e w' ⟨rfl, rfl⟩)
    go_ret2
    exact ⟨rfl, rfl⟩
  · have h0' : decide ((0 : Int) < s.size) = false := decide_eq_false (by omega)
    go_enter Tryd.func23, Tryd.ntmps23
    go_wp2_with fail
    refine wp_loop_rounds 1 ?_
    rw [rounds_succ]
    go_wp2_with (go_at_call 20; refine (rblock_bad key 1 nonce _ hk hn c').mono ?_; rintro e w' ⟨rfl, rfl⟩)
    go_ret2
    exact ⟨rfl, rfl⟩
/-- The bytes of a text of which the first k are taken together with the key's. -/
def mixL (key nonce s : ByteArray) (k : Nat) : List UInt8 := (List.range s.size).map fun i => if i < k then xorF key nonce s i else s.data.toList.getD i 0
theorem mixL_length (key nonce s : ByteArray) (k : Nat) : (mixL key nonce s k).length = s.size := by simp [mixL]
theorem mixL_zero (key nonce s : ByteArray) : mixL key nonce s 0 = s.data.toList := by
  apply List.ext_getElem (by simp [mixL]); intro i h1 h2
  simp [mixL]
  rw [Array.getElem?_eq_getElem (by simpa using h2)]; rfl
theorem mixL_get (key nonce s : ByteArray) (k : Nat) (h : k < s.size) : (mixL key nonce s k)[k]? = some s[k] := by
  have h' : k < s.data.toList.length := by simpa using h
  simp only [mixL, List.getElem?_map, List.getElem?_range h, Option.map_some, Nat.lt_irrefl, if_false]
  rw [List.getD_eq_getElem?_getD, List.getElem?_eq_getElem h']; rfl
theorem mixL_set (key nonce s : ByteArray) (k : Nat) : (mixL key nonce s k).set k (xorF key nonce s k) = mixL key nonce s (k + 1) := by
  apply List.ext_getElem (by simp [mixL]); intro i h1 h2
  rw [List.getElem_set]
  by_cases e : k = i
  · subst e; simp [mixL]
  · rw [if_neg e]
    simp only [mixL, List.getElem_map, List.getElem_range]
    by_cases h3 : i < k
    · rw [if_pos h3, if_pos (by omega)]
    · rw [if_neg h3, if_neg (by omega)]
theorem mixL_full (key nonce s : ByteArray) : mixL key nonce s s.size = (List.range s.size).map (xorF key nonce s) := by
  unfold mixL; apply List.map_congr_left; intro i hi; rw [if_pos (by simpa using hi)]
set_option maxRecDepth 100000 in
set_option maxHeartbeats 1000000 in
theorem rxor_good (key nonce s : ByteArray) (w : World) (k1 : key.size = 32) (k2 : nonce.size = 12) (hs : s.size ≤ 10000) :
    Calls Tryd.prog 23 #[.string key, .string nonce, .string s] w fun e w' => e = .returned (.tuple #[.string (sb s.size (xorF key nonce s)), .int .i64 0]) ∧ Below w.heap.size w w' := by
  go_enter Tryd.func23, Tryd.ntmps23
  go_wp2_with fail
  go_loopw [8, 9] (fun o i wr => ∃ q : Nat, q ≤ 1000 ∧ i = .int .i64 ((q + 1 : Nat) : Int) ∧ o = .string (sb (64 * q) (ksB key nonce)) ∧ Below w.heap.size w wr) (fun _ i _ => 2000 - (intOf i).toNat)
  case atStart => exact ⟨0, by omega, rfl, rfl, Below.refl _ _⟩
  case round =>
    obtain ⟨q, hq, rfl, rfl, hb⟩ := hrel
    have hz := sb_size (64 * q) (ksB key nonce)
    have hz2 := sb_size 64 (blkB (stW key (BitVec.ofNat 32 (q + 1)) nonce))
    by_cases more : 64 * q < s.size ∨ q = 0
    · have hq2 : q + 1 ≤ 1000 := by omega
      have HN : Hid (sb (64 * (q + 1)) (ksB key nonce) = sb (64 * q) (ksB key nonce) ++ sb 64 (blkB (stW key (BitVec.ofNat 32 (q + 1)) nonce))) := ks_next key nonce q
      have HB := fun w0 => rblock_good key ((q : Int) + 1) nonce w0 k1 k2 (by omega) (by omega)
      rw [show ((q : Int) + 1).toNat = q + 1 from by omega] at HB
      generalize sb 64 (blkB (stW key (BitVec.ofNat 32 (q + 1)) nonce)) = Z at *
      generalize sb (64 * q) (ksB key nonce) = Y at *
      by_cases m1 : 64 * q < s.size
      · have m1' : (Y.size : Int) < (s.size : Int) := by omega
        go_wp2_with fail
        refine (HB _).mono ?_
        rintro e w2 ⟨rfl, g2⟩
        go_wp2
        go_light
        exact ⟨⟨q + 1, by omega, by go_num, by rw [HN.out], hb.trans (g2.mono hb.size)⟩, by simp [intOf]; omega⟩
      · have q0 : q = 0 := by omega
        subst q0
        have m1' : decide ((Y.size : Int) < (s.size : Int)) = false := decide_eq_false (by omega)
        have m2' : decide ((0 : Int) < (s.size : Int)) = false := decide_eq_false (by omega)
        go_wp2_with fail
        refine (HB _).mono ?_
        rintro e w2 ⟨rfl, g2⟩
        go_wp2
        go_light
        exact ⟨⟨0 + 1, by omega, by go_num, by rw [HN.out], hb.trans (g2.mono hb.size)⟩, by simp [intOf]⟩
    · have m1' : decide (((sb (64 * q) (ksB key nonce)).size : Int) < (s.size : Int)) = false := decide_eq_false (by omega)
      have m2' : decide (64 * (q : Int) < (s.size : Int)) = false := decide_eq_false (by omega)
      have m3' : decide ((q : Int) + 1 = 1) = false := decide_eq_false (by omega)
      have HG : Hid (∀ i, (h : i < (sb (64 * q) (ksB key nonce)).size) → (sb (64 * q) (ksB key nonce))[i] = ksB key nonce i) := fun i h => by
        have : (sb (64 * q) (ksB key nonce)).data[i] = ksB key nonce i := by simp [sb]
        exact this
      have hge : s.size ≤ (sb (64 * q) (ksB key nonce)).size := by omega
      generalize sb (64 * q) (ksB key nonce) = Y at *
      go_wp2_with (refine wpl_mbytes rfl _ rfl s rfl ?_; intro cap w3 M3 g3)
      have b3 := hb.trans (g3.mono hb.size)
      have hG : w.heap.size ≤ wr.heap.size := hb.size
      rw [← mixL_zero key nonce s] at M3
      obtain ⟨G, hGe⟩ : ∃ G, Hid (G = wr.heap.size) := ⟨_, rfl⟩
      rw [← hGe.out] at M3 hG
      rw [← hGe.out]
      clear g3 hb
      go_loopw [42] (fun i w4 => ∃ k : Nat, k ≤ s.size ∧ i = .int .i64 k ∧ MRow w4 G G cap (mixL key nonce s k) ∧ Below w.heap.size w w4) (fun i _ => s.size - (intOf i).toNat)
      case atStart => exact ⟨0, by omega, rfl, M3, b3⟩
      case round =>
        clear M3 b3
        obtain ⟨k, hk, rfl, M, b4⟩ := hrel
        by_cases hlt : k < s.size
        · have hY : k < Y.size := by omega
          have hlt' : (k : Int) < (s.size : Int) := by omega
          have hY64 : (k : Int) < 64 * (q : Int) := by omega
          have c0 := M.cell k s[k] (mixL_get key nonce s k hlt)
          have eX : Hid (xorF key nonce s k = s[k] ^^^ Y[k]) := by
            unfold Hid xorF
            rw [HG.out k hY, List.getD_eq_getElem?_getD, List.getElem?_eq_getElem (by simpa using hlt)]; rfl
          go_wp2_with fail
          refine region_qtail 8 (fun w' => ∃ n, w' = wr.drewN n) mixed (by kernel_rfl) ⟨1, rfl⟩ ?_
          simp only [List.take_succ_cons, List.take_zero, List.drop_succ_cons, List.drop_zero]
          repeat (go_big_quiet_step (fail))
          refine wpQuiet_nil ?_
          rintro w' ⟨n2, rfl⟩
          have M2 := M.drewN n2
          have f2 := M2.frozen k (by rw [mixL_length]; exact hlt)
          go_wp2
          go_light
          refine ⟨⟨k + 1, by omega, by go_num, ?_, (below_drewN b4 n2).setCell hG _⟩, by simp [intOf]; omega⟩
          rw [B_xor, ← eX.out, ← mixL_set]
          exact M2.set k _ (by rw [mixL_length]; exact hlt)
        · have hk' : k = s.size := by omega
          subst hk'
          go_wp2_with (refine wpl_mstring rfl _ rfl G G cap (mixL key nonce s s.size) (by rw [mixL_length]; rfl) M ?_)
          go_ret2
          refine ⟨?_, b4⟩
          rw [mixL_full]
          rfl
end Go.Proofs.YtccnnfllgdplhaaDoor
