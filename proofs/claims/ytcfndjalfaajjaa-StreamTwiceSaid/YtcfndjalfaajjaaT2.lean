/-
  Part of the proof: a call of StreamTwice returns true, whatever the input.
-/
import Derived.Test.YtcfndjalfaajjaaT1
namespace Go.Proofs.Ytcfndjalfaajjaa
open Go.RowKit
theorem sb_get (n : Nat) (f : Nat → UInt8) (i : Nat) (h : i < (sb n f).size) : (sb n f)[i] = f i := by
  have : (sb n f).data[i] = f i := by simp [sb]
  exact this
theorem getD_byte (s : ByteArray) (i : Nat) (h : i < s.size) : s.data.toList.getD i 0 = s[i] := by
  rw [List.getD_eq_getElem?_getD, List.getElem?_eq_getElem (by simpa using h)]; rfl
theorem sb_self (s : ByteArray) (f : Nat → UInt8) (h : ∀ i, (hi : i < s.size) → f i = s[i]) : sb s.size f = s := by
  refine ba_ext (List.ext_getElem (by simp [sb]) fun i h1 h2 => ?_)
  have : i < s.size := by simpa using h2
  simp only [sb, List.getElem_map, List.getElem_range]
  rw [h i this]; rfl
theorem u8_twice (a b : UInt8) : a ^^^ b ^^^ b = a := by
  rw [UInt8.xor_assoc, UInt8.xor_self, UInt8.xor_zero]
theorem xx_twice (key nonce s : ByteArray) : sb (sb s.size (xorF key nonce s)).size (xorF key nonce (sb s.size (xorF key nonce s))) = s := by
  rw [sb_size]
  refine sb_self s _ fun i hi => ?_
  have hi' : i < (sb s.size (xorF key nonce s)).size := by rw [sb_size]; exact hi
  rw [xorF, getD_byte _ i hi', sb_get, xorF, getD_byte s i hi, u8_twice]
theorem xx_cut (key nonce s : ByteArray) (j : Nat) (hj : j ≤ s.size) : sb (s.extract 0 j).size (xorF key nonce (s.extract 0 j)) = (sb s.size (xorF key nonce s)).extract 0 j := by
  have hz : (s.extract 0 j).size = j := by simp; omega
  rw [hz]
  refine ba_ext (List.ext_getElem (by simp [sb]; omega) fun i h1 h2 => ?_)
  have hi : i < j := by simpa [sb] using h1
  simp only [sb, List.getElem_map, List.getElem_range, ByteArray.data_extract, Array.toList_extract, List.extract_eq_take_drop, List.getElem_take, List.getElem_drop, Nat.zero_add]
  unfold xorF
  congr 1
  simp only [ByteArray.data_extract, Array.toList_extract, List.extract_eq_take_drop, List.getD_eq_getElem?_getD, List.getElem?_take, List.getElem?_drop, Nat.zero_add]
  rw [if_pos (by omega)]
theorem u8_differ (a b x : UInt8) : (a ^^^ x) ^^^ (b ^^^ x) = a ^^^ b := by
  rw [UInt8.xor_assoc, UInt8.xor_comm x, UInt8.xor_assoc, UInt8.xor_self, UInt8.xor_zero]
theorem pick_any' (a z : Int) (n : Nat) (w : World) (hz : z = (n : Int)) (h0 : 0 < n) (h1 : n ≤ 10000) :
    Calls Try.prog 6 #[.int .i64 a, .int .i64 z] w fun e w' => ∃ j : Nat, e = .returned (.int .i64 (j : Int)) ∧ j < n ∧ w' = w := by
  subst hz; exact pick_any a n w h0 h1
attribute [local go_sem] B_xor
set_option maxRecDepth 100000 in
set_option maxHeartbeats 1000000 in
theorem law_any (key nonce s t : ByteArray) (cut : Int) (w : World) (h1 : key.size ≤ maxLen) (h2 : nonce.size ≤ maxLen) (h3 : s.size ≤ maxLen) (h4 : t.size ≤ maxLen) :
    Calls Try.prog 3 #[.string key, .string nonce, .string s, .string t, .int .i64 cut] w fun e w' => e = .returned (.bool true) ∧ Below w.heap.size w w' := by
  unfold maxLen at h1 h2 h3 h4
  by_cases c1 : 40 < key.size
  · go_enter Try.func3, Try.ntmps3
    go_wp2
    go_ret
    exact ⟨rfl, Below.refl _ _⟩
  by_cases c2 : 40 < nonce.size
  · go_enter Try.func3, Try.ntmps3
    go_wp2
    go_ret
    exact ⟨rfl, Below.refl _ _⟩
  by_cases c3 : 300 < s.size
  · go_enter Try.func3, Try.ntmps3
    go_wp2
    go_ret
    exact ⟨rfl, Below.refl _ _⟩
  by_cases c4 : 300 < t.size
  · go_enter Try.func3, Try.ntmps3
    go_wp2
    go_ret
    exact ⟨rfl, Below.refl _ _⟩
  by_cases c : key.size = 32 ∧ nonce.size = 12
  · have e1 : ∀ x, xorV key nonce x = .tuple #[.string (sb x.size (xorF key nonce x)), .nilIface] := fun x => if_pos c
    have z1 := sb_size s.size (xorF key nonce s)
    have z2 := sb_size t.size (xorF key nonce t)
    go_enter Try.func3, Try.ntmps3
    go_wp2_with fail
    refine (streamed_any _).mono ?_
    rintro e w1 ⟨rfl, g1⟩
    go_wp2_with fail
    refine (xor_any key nonce s _ (by omega) (by omega) (by omega)).mono ?_
    rintro e w2 ⟨rfl, g2⟩
    have b2 := g1.trans (g2.mono g1.size)
    rw [e1]
    go_wp2_with fail
    refine (xor_any key nonce t _ (by omega) (by omega) (by omega)).mono ?_
    rintro e w3 ⟨rfl, g3⟩
    have b3 := b2.trans (g3.mono b2.size)
    rw [e1]
    go_wp2_with fail
    refine (xor_any key nonce _ _ (by omega) (by omega) (by omega)).mono ?_
    rintro e w4 ⟨rfl, g4⟩
    have b4 := b3.trans (g4.mono b3.size)
    rw [e1, xx_twice]
    have HX : Hid (∀ j, j ≤ s.size → sb (s.extract 0 j).size (xorF key nonce (s.extract 0 j)) = (sb s.size (xorF key nonce s)).extract 0 j) := fun j hj => xx_cut key nonce s j hj
    have HA : Hid (∀ i, (h : i < (sb s.size (xorF key nonce s)).size) → (sb s.size (xorF key nonce s))[i] = xorF key nonce s i) := fun i h => sb_get _ _ i h
    have HB : Hid (∀ i, (h : i < (sb t.size (xorF key nonce t)).size) → (sb t.size (xorF key nonce t))[i] = xorF key nonce t i) := fun i h => sb_get _ _ i h
    generalize sb s.size (xorF key nonce s) = A at *
    generalize sb t.size (xorF key nonce t) = B at *
    clear g1 g2 g3 g4 b2 b3
    go_wp2_with fail
    go_loopw [17] (fun i wr => ∃ (k n : Nat), k ≤ s.size ∧ k ≤ t.size ∧ i = .int .i64 k ∧ wr = w4.drewN n) (fun i _ => s.size - (intOf i).toNat)
    case atStart => exact ⟨0, 0, by omega, by omega, rfl, rfl⟩
    case round =>
      obtain ⟨k, n, hk1, hk2, rfl, rfl⟩ := hrel
      by_cases hlt : k < s.size
      · by_cases hlt2 : k < t.size
        · have l1 : k < A.size := by omega
          have l2 : k < B.size := by omega
          have hx : A[k] ^^^ B[k] = s[k] ^^^ t[k] := by
            rw [HA.out k l1, HB.out k l2, xorF, xorF, getD_byte s k hlt, getD_byte t k hlt2, u8_differ]
          go_wp2_with fail
          go_quiet (fail)
          go_wp2
          go_light
          exact ⟨⟨k + 1, n + nq, by omega, by omega, by go_num, rfl⟩, by simp [intOf]; omega⟩
        · have hlt3 : ¬ ((k : Int) < (t.size : Int)) := by omega
          have hd2 : decide ((k : Int) < (t.size : Int)) = false := by simp only [decide_eq_false_iff_not]; exact hlt3
          go_wp2_with fail
          refine (pick_any' cut _ (s.size + 1) _ (by omega) (by omega) (by omega)).mono ?_
          rintro e w5 ⟨j, rfl, hj, rfl⟩
          have hjs : j ≤ s.size := by omega
          have hjA : j ≤ A.size := by omega
          have hxj := HX.out j hjs
          have hzj : (s.extract 0 j).size ≤ 10000 := by simp; omega
          go_wp2_with fail
          refine (xor_any key nonce _ _ (by omega) (by omega) hzj).mono ?_
          rintro e w6 ⟨rfl, g6⟩
          rw [e1, hxj]
          go_wp2
          go_ret
          exact ⟨rfl, (below_drewN b4 n).trans (g6.mono (below_drewN b4 n).size)⟩
      · have hd2 : decide ((k : Int) < (s.size : Int)) = false := by simp only [decide_eq_false_iff_not]; omega
        go_wp2_with fail
        refine (pick_any' cut _ (s.size + 1) _ (by omega) (by omega) (by omega)).mono ?_
        rintro e w5 ⟨j, rfl, hj, rfl⟩
        have hjs : j ≤ s.size := by omega
        have hjA : j ≤ A.size := by omega
        have hxj := HX.out j hjs
        have hzj : (s.extract 0 j).size ≤ 10000 := by simp; omega
        go_wp2_with fail
        refine (xor_any key nonce _ _ (by omega) (by omega) hzj).mono ?_
        rintro e w6 ⟨rfl, g6⟩
        rw [e1, hxj]
        go_wp2
        go_ret
        exact ⟨rfl, (below_drewN b4 n).trans (g6.mono (below_drewN b4 n).size)⟩
  · have e1 : ∀ x, xorV key nonce x = errArg := fun x => if_neg c
    go_enter Try.func3, Try.ntmps3
    go_wp2_with fail
    refine (streamed_any _).mono ?_
    rintro e w1 ⟨rfl, g1⟩
    go_wp2_with fail
    refine (xor_any key nonce s _ (by omega) (by omega) (by omega)).mono ?_
    rintro e w2 ⟨rfl, g2⟩
    have b2 := g1.trans (g2.mono g1.size)
    rw [e1]
    unfold errArg
    go_wp2_with fail
    refine (xor_any key nonce t _ (by omega) (by omega) (by omega)).mono ?_
    rintro e w3 ⟨rfl, g3⟩
    have b3 := b2.trans (g3.mono b2.size)
    rw [e1]
    unfold errArg
    by_cases k1 : key.size = 32
    · have k2 : nonce.size ≠ 12 := fun h => c ⟨k1, h⟩
      go_wp2
      go_ret
      refine ⟨?_, b3⟩
      simp; omega
    · go_wp2
      go_ret
      refine ⟨?_, b3⟩
      simp
end Go.Proofs.Ytcfndjalfaajjaa
