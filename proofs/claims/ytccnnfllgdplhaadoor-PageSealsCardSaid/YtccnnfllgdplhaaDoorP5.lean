/-
  Part of the proof: the reference's Seal is walked.
-/
import Derived.Test.YtccnnfllgdplhaaDoorP3
import Derived.Test.YtccnnfllgdplhaaDoorR5
namespace Go.Proofs.YtccnnfllgdplhaaDoor.Pg
open Go.RowKit
set_option maxRecDepth 100000 in
set_option maxHeartbeats 1000000 in
theorem rseal_limit (rb : Nat) (key : ByteArray) (id v : Int) (s : ByteArray) (w : World) (hk : key.size = 32) (h0 : 0 ≤ id) (h1 : id ≤ 31) (h2 : 1 ≤ v) (h3 : v ≤ 1099511627776) (hs : 200 < s.size) (hm : s.size ≤ 300) :
    Calls Tryd.prog 53 #[.pointer (some ⟨rb, 0, none⟩), .string key, .int .i64 id, .int .i64 v, .string s] w fun e w' => e = .returned (.tuple #[.string ⟨#[]⟩, .int .i64 4]) ∧ w' = w := by
  have c1 : decide (0 ≤ id) = true := decide_eq_true (by omega)
  have c2 : decide (id ≤ 31) = true := decide_eq_true (by omega)
  have c3 : decide (1 ≤ v) = true := decide_eq_true (by omega)
  have c4 : decide (v ≤ 1099511627776) = true := decide_eq_true (by omega)
  have d5 : decide ((200 : Int) < (s.size : Int)) = true := decide_eq_true (by omega)
  clear h0 h1 h2 h3
  go_enter Tryd.func53, Tryd.ntmps53
  go_wp2_with (go_at_call 71; refine (in_any _ _ _ _).mono ?_; rintro e w' ⟨rfl, rfl⟩; first | rw [c1, c2] | rw [c3, c4])
  go_ret2
  exact ⟨rfl, rfl⟩
set_option maxRecDepth 100000 in
set_option maxHeartbeats 1000000 in
theorem rseal_arg (rb : Nat) (key : ByteArray) (id v : Int) (s : ByteArray) (w : World) (_hz : key.size ≤ 60) (h : ¬ sealOk key id v) :
    Calls Tryd.prog 53 #[.pointer (some ⟨rb, 0, none⟩), .string key, .int .i64 id, .int .i64 v, .string s] w fun e w' => e = .returned (.tuple #[.string ⟨#[]⟩, .int .i64 1]) ∧ w' = w := by
  unfold sealOk at h
  by_cases hk : key.size = 32
  · by_cases h1 : 0 ≤ id ∧ id ≤ 31
    · have c1 : decide (0 ≤ id) = true := decide_eq_true h1.1
      have c2 : decide (id ≤ 31) = true := decide_eq_true h1.2
      have c5 : (decide (1 ≤ v) && decide (v ≤ 1099511627776)) = false := by
        rw [Bool.and_eq_false_iff, decide_eq_false_iff_not, decide_eq_false_iff_not]; omega
      clear h h1
      go_enter Tryd.func53, Tryd.ntmps53
      go_wp2_with (go_at_call 71; refine (in_any _ _ _ _).mono ?_; rintro e w' ⟨rfl, rfl⟩; first | rw [c1, c2] | rw [c5])
      go_ret2
      exact ⟨rfl, rfl⟩
    · have c5 : (decide (0 ≤ id) && decide (id ≤ 31)) = false := by
        rw [Bool.and_eq_false_iff, decide_eq_false_iff_not, decide_eq_false_iff_not]; omega
      clear h h1
      go_enter Tryd.func53, Tryd.ntmps53
      go_wp2_with (go_at_call 71; refine (in_any _ _ _ _).mono ?_; rintro e w' ⟨rfl, rfl⟩; rw [c5])
      go_ret2
      exact ⟨rfl, rfl⟩
  · have d0 : decide ((key.size : Int) = 32) = false := decide_eq_false (by omega)
    go_enter Tryd.func53, Tryd.ntmps53
    go_wp2
    go_ret2
    exact ⟨rfl, rfl⟩
set_option maxRecDepth 100000 in
set_option maxHeartbeats 4000000 in
theorem rseal_ok (rb : Nat) (key : ByteArray) (id v : Int) (s : ByteArray) (w : World) (hR : RB w rb) (hk : key.size = 32) (h0 : 0 ≤ id) (h1 : id ≤ 31) (h2 : 1 ≤ v) (h3 : v ≤ 1099511627776) (hs : s.size ≤ 200) :
    Calls Tryd.prog 53 #[.pointer (some ⟨rb, 0, none⟩), .string key, .int .i64 id, .int .i64 v, .string s] w fun e w' => e = .returned (.tuple #[.string (sealT key id v s), .int .i64 0]) ∧ Below w.heap.size w w' := by
  have c1 : decide (0 ≤ id) = true := decide_eq_true (by omega)
  have c2 : decide (id ≤ 31) = true := decide_eq_true (by omega)
  have c3 : decide (1 ≤ v) = true := decide_eq_true (by omega)
  have c4 : decide (v ≤ 1099511627776) = true := decide_eq_true (by omega)
  have d5 : decide ((200 : Int) < (s.size : Int)) = false := decide_eq_false (by omega)
  have hn := numS_size id
  have hv := numS_size v
  have eN : Hid ((mk 110 [key, numS id, numS v, s]).extract 0 12 = nonceT key id v s) := by unfold Hid nonceT; rfl
  have HX : Hid (∀ w0, Calls Tryd.prog 23 #[.string key, .string (nonceT key id v s), .string (padT s)] w0 fun e w' => e = .returned (.tuple #[.string (sb 201 (xorF key (nonceT key id v s) (padT s))), .int .i64 0]) ∧ Below w0.heap.size w0 w') := by
    intro w0
    have := rxor_good key (nonceT key id v s) (padT s) w0 hk (nonceT_size _ _ _ _) (by rw [padT_size s hs]; decide)
    rw [padT_size s hs] at this
    exact this
  have eA : Hid (numS v ++ nonceT key id v s ++ sb 201 (xorF key (nonceT key id v s) (padT s)) = aheadT key id v s) := rfl
  have eS : Hid (aheadT key id v s ++ mk 103 [key, numS id, aheadT key id v s] = sealT key id v s) := rfl
  have zN := nonceT_size key id v s
  have zP := padT_size s hs
  have zX := sb_size 201 (xorF key (nonceT key id v s) (padT s))
  have zA := aheadT_size key id v s
  have zM := mk_size 110 [key, numS id, numS v, s]
  have zG := mk_size 103 [key, numS id, aheadT key id v s]
  generalize sealT key id v s = T at *
  generalize aheadT key id v s = A at *
  generalize nonceT key id v s = N at *
  generalize sb 201 (xorF key N (padT s)) = X at *
  obtain ⟨nn, hnn⟩ : ∃ nn, Hid (nn = 200 - s.size) := ⟨_, rfl⟩
  have hnI : (200 : Int) - (s.size : Int) = (nn : Int) := by rw [hnn.out]; omega
  have hn1 : nn ≤ 200 := by rw [hnn.out]; omega
  have hwn : IntKind.i64.wrap (nn : Int) = (nn : Int) := by rw [IntKind.wrap_i64]; omega
  have hwb : IntKind.u8.wrap (s.size : Int) = (s.size : Int) := by simp [IntKind.wrap, IntKind.bits, IntKind.signed]; omega
  have hlB := lenB s hs
  have HF : Hid ((⟨[UInt8.ofNat s.size].toArray⟩ : ByteArray) ++ s ++ zs nn = padT s) := by unfold Hid padT; rw [hnn.out]
  have hz1 : (⟨[UInt8.ofNat s.size].toArray⟩ : ByteArray).size = 1 := rfl
  have hz2 := zs_size nn
  obtain ⟨B1, hB1⟩ : ∃ B1 : ByteArray, Hid (B1 = ⟨[UInt8.ofNat s.size].toArray⟩) := ⟨_, rfl⟩
  rw [← hB1.out] at HF hz1
  have hz3 : (B1 ++ s).size = 1 + s.size := by rw [ByteArray.size_append, hz1]
  have zA1 : (numS v ++ N).size = 20 := by rw [ByteArray.size_append]; omega
  generalize padT s = PT at *
  clear h0 h1 h2 h3
  go_enter Tryd.func53, Tryd.ntmps53
  go_wp2_with (go_at_call 71; refine (in_any _ _ _ _).mono ?_; rintro e w' ⟨rfl, rfl⟩; first | rw [c1, c2] | rw [c3, c4])
  refine (rnum_s id _).mono ?_
  rintro e w1 ⟨rfl, g1⟩
  go_wp2_with fail
  refine (rnum_s v _).mono ?_
  rintro e w2 ⟨rfl, g2⟩
  have g2' := g1.trans (g2.mono g1.size)
  go_wp2_with fail
  have g3 := below_alloc w2 (.cells #[.string key, .string (numS id), .string (numS v), .string s] 9)
  have g3' := g2'.trans (g3.mono g2'.size)
  refine (rmark4 rb 110 _ rfl (hR.below g3') (Blk.new w2 _ 9) (by omega) (by omega) (by omega) (by omega)).mono ?_
  rintro e w3 ⟨rfl, g4⟩
  have g4' := g3'.trans (g4.mono g3'.size)
  clear g1 g2 g2' g3 g3' g4 c1 c2 c3 c4 d5
  go_wp2_with fail
  rw [eN.out]
  have g0 : Below w3.heap.size w3 w3.drew := below_drewN (Below.refl _ _) 1
  refine reg_in 20 mixed rfl ?_
  refine reg_take 0 43 (.string key) rfl rfl (by kernel_rfl) (fun _ _ _ h => h) (by kernel_rfl) (fun w => by go_simp) ?_
  refine reg_take 1 44 (.string N) rfl rfl (by kernel_rfl) (fun _ _ _ h => h) (by kernel_rfl) (fun w => by go_simp) ?_
  refine reg_take 2 45 (.string s) rfl rfl (by kernel_rfl) (fun _ _ _ h => h) (by kernel_rfl) (fun w => by go_simp) ?_
  refine reg_take 3 46 (.int .i64 s.size) rfl rfl (by kernel_rfl) (fun _ _ _ h => h) (by kernel_rfl) (fun w => by go_simp) ?_
  refine reg_take 4 47 (.int .u8 s.size) rfl rfl (by kernel_rfl) (fun _ _ _ h => h) (by kernel_rfl) (fun w => by go_simp) ?_
  refine reg_take 7 50 (.string s) rfl rfl (by kernel_rfl) (fun _ _ _ h => h) (by kernel_rfl) (fun w => by go_simp) ?_
  refine reg_take 9 52 (.string s) rfl rfl (by kernel_rfl) (fun _ _ _ h => h) (by kernel_rfl) (fun w => by go_simp) ?_
  refine reg_take 10 53 (.int .i64 s.size) rfl rfl (by kernel_rfl) (fun _ _ _ h => h) (by kernel_rfl) (fun w => by go_simp) ?_
  refine reg_take 11 54 (.int .i64 nn) rfl rfl (by kernel_rfl) (fun _ _ _ h => h) (by kernel_rfl) (fun w => by go_simp) ?_
  simp only [Act.put, List.setIfInBounds_toArray, List.set_cons_succ, List.set_cons_zero]
  clear hnI hwn hwb
  refine reg_two 5 12 rfl rfl (by kernel_rfl) (by kernel_rfl) (by kernel_rfl) (fun K hK => ?_) (fun K hK => ?_)
  · go_wp2_with fail
    have b1 : Blk (w3.alloc (.cells #[.int .u8 (s.size : Int)] 5)).drew w3.heap.size #[.int .u8 (s.size : Int)] 5 := (Blk.new w3 _ 5).drew
    have g1 : Below w3.heap.size w3 (w3.alloc (.cells #[.int .u8 (s.size : Int)] 5)).drew := below_drewN ((Below.refl w3.heap.size w3).alloc (Nat.le_refl _) _) 1
    generalize (w3.alloc (.cells #[.int .u8 (s.size : Int)] 5)).drew = w4 at *
    refine reg_two 6 12 rfl rfl (by kernel_rfl) (by kernel_rfl) (by kernel_rfl) (fun K hK => ?_) (fun K hK => ?_)
    · refine op_string 94 9 5 _ rfl Tryd.underlying94 Tryd.underlying5 Tryd.underlying9 _ 1 1 _ 5 rfl b1 (by simp) _ hlB ?_
      refine hK _ _ ?_
      clear hK K
      rw [← hB1.out]
      refine reg_take 8 51 (.string (B1 ++ s)) rfl rfl (by kernel_rfl) (fun _ _ _ h => h) (by kernel_rfl) (fun w => by go_simp; omega) ?_
      simp only [Act.put, List.setIfInBounds_toArray, List.set_cons_succ, List.set_cons_zero]
      refine reg_one 12 rfl (by kernel_rfl) (by kernel_rfl) (fun K hK => ?_)
      go_wp2_with (go_at_call 79; refine (zeros_any nn _ _ rfl (by omega)).mono ?_; rintro e w5 ⟨rfl, g5⟩)
      have g6 := g1.trans (g5.mono g1.size)
      refine reg_take 13 56 (.string (B1 ++ s ++ zs nn)) rfl rfl (by kernel_rfl) (fun _ _ _ h => h) (by kernel_rfl) (fun w => by go_simp; omega) ?_
      simp only [Act.put, List.setIfInBounds_toArray, List.set_cons_succ, List.set_cons_zero]
      rw [HF.out]
      refine reg_one 14 rfl (by kernel_rfl) (by kernel_rfl) (fun K hK => ?_)
      go_wp2_with (go_at_call 23; refine (HX.out _).mono ?_; rintro e w7 ⟨rfl, g7⟩)
      have g7n := g6.trans (g7.mono g6.size)
      refine reg_take 15 42 (.tuple #[.string X, .int .i64 0]) rfl rfl (by kernel_rfl) (fun _ _ _ h => h) (by kernel_rfl) (fun w => by go_simp) ?_
      refine reg_take 16 58 (.string X) rfl rfl (by kernel_rfl) (fun _ _ _ h => h) (by kernel_rfl) (fun w => by go_simp) ?_
      refine reg_take 17 59 (.int .i64 0) rfl rfl (by kernel_rfl) (fun _ _ _ h => h) (by kernel_rfl) (fun w => by go_simp) ?_
      refine reg_take 18 13 (.string X) rfl rfl (by kernel_rfl) (fun _ _ _ h => h) (by kernel_rfl) (fun w => by go_simp) ?_
      refine reg_take 19 14 (.int .i64 0) rfl rfl (by kernel_rfl) (fun _ _ _ h => h) (by kernel_rfl) (fun w => by go_simp) ?_
      refine reg_end (by kernel_rfl) ?_
      simp only [Act.put, List.setIfInBounds_toArray, List.set_cons_succ, List.set_cons_zero]
      have g7m := g4'.trans (g7n.mono g4'.size)
      clear g7n g7 g6 g0
      go_wp2_with fail
      refine (rnum_s v _).mono ?_
      rintro e w8 ⟨rfl, g8⟩
      have g8n := g7m.trans (g8.mono g7m.size)
      go_wp2_with fail
      rw [eA.out]
      refine (rnum_s id _).mono ?_
      rintro e w9 ⟨rfl, g9⟩
      have g9n := g8n.trans (g9.mono g8n.size)
      go_wp2_with fail
      have gA := below_alloc w9 (.cells #[.string key, .string (numS id), .string A] 9)
      have gAn := g9n.trans (gA.mono g9n.size)
      refine (rmark3 rb 103 _ rfl (hR.below gAn) (Blk.new w9 _ 9) (by omega) (by omega) (by omega)).mono ?_
      rintro e wB ⟨rfl, gB⟩
      have gBn := gAn.trans (gB.mono gAn.size)
      go_wp2_with fail
      go_ret2
      rw [eS.out]
      exact ⟨rfl, gBn⟩
    · go_wp2_with (go_at_call 79; refine (zeros_any nn _ _ rfl (by omega)).mono ?_; rintro e w5 ⟨rfl, g5⟩)
      have b2 := b1.below g5 b1.lt
      have g6 := g1.trans (g5.mono g1.size)
      refine reg_one 6 rfl (by kernel_rfl) (by kernel_rfl) (fun K hK => ?_)
      refine op_string 94 9 5 _ rfl Tryd.underlying94 Tryd.underlying5 Tryd.underlying9 _ 1 1 _ 5 rfl b2 (by simp) _ hlB ?_
      refine hK _ _ ?_
      clear hK K
      rw [← hB1.out]
      refine reg_take 8 51 (.string (B1 ++ s)) rfl rfl (by kernel_rfl) (fun _ _ _ h => h) (by kernel_rfl) (fun w => by go_simp; omega) ?_
      simp only [Act.put, List.setIfInBounds_toArray, List.set_cons_succ, List.set_cons_zero]
      refine reg_take 13 56 (.string (B1 ++ s ++ zs nn)) rfl rfl (by kernel_rfl) (fun _ _ _ h => h) (by kernel_rfl) (fun w => by go_simp; omega) ?_
      simp only [Act.put, List.setIfInBounds_toArray, List.set_cons_succ, List.set_cons_zero]
      rw [HF.out]
      refine reg_one 14 rfl (by kernel_rfl) (by kernel_rfl) (fun K hK => ?_)
      go_wp2_with (go_at_call 23; refine (HX.out _).mono ?_; rintro e w7 ⟨rfl, g7⟩)
      have g7n := g6.trans (g7.mono g6.size)
      refine reg_take 15 42 (.tuple #[.string X, .int .i64 0]) rfl rfl (by kernel_rfl) (fun _ _ _ h => h) (by kernel_rfl) (fun w => by go_simp) ?_
      refine reg_take 16 58 (.string X) rfl rfl (by kernel_rfl) (fun _ _ _ h => h) (by kernel_rfl) (fun w => by go_simp) ?_
      refine reg_take 17 59 (.int .i64 0) rfl rfl (by kernel_rfl) (fun _ _ _ h => h) (by kernel_rfl) (fun w => by go_simp) ?_
      refine reg_take 18 13 (.string X) rfl rfl (by kernel_rfl) (fun _ _ _ h => h) (by kernel_rfl) (fun w => by go_simp) ?_
      refine reg_take 19 14 (.int .i64 0) rfl rfl (by kernel_rfl) (fun _ _ _ h => h) (by kernel_rfl) (fun w => by go_simp) ?_
      refine reg_end (by kernel_rfl) ?_
      simp only [Act.put, List.setIfInBounds_toArray, List.set_cons_succ, List.set_cons_zero]
      have g7m := g4'.trans (g7n.mono g4'.size)
      clear g7n g7 g6 g0
      go_wp2_with fail
      refine (rnum_s v _).mono ?_
      rintro e w8 ⟨rfl, g8⟩
      have g8n := g7m.trans (g8.mono g7m.size)
      go_wp2_with fail
      rw [eA.out]
      refine (rnum_s id _).mono ?_
      rintro e w9 ⟨rfl, g9⟩
      have g9n := g8n.trans (g9.mono g8n.size)
      go_wp2_with fail
      have gA := below_alloc w9 (.cells #[.string key, .string (numS id), .string A] 9)
      have gAn := g9n.trans (gA.mono g9n.size)
      refine (rmark3 rb 103 _ rfl (hR.below gAn) (Blk.new w9 _ 9) (by omega) (by omega) (by omega)).mono ?_
      rintro e wB ⟨rfl, gB⟩
      have gBn := gAn.trans (gB.mono gAn.size)
      go_wp2_with fail
      go_ret2
      rw [eS.out]
      exact ⟨rfl, gBn⟩
  · go_wp2_with (go_at_call 79; refine (zeros_any nn _ _ rfl (by omega)).mono ?_; rintro e w5 ⟨rfl, g5⟩)
    have g5n := g0.trans g5
    refine reg_one 5 rfl (by kernel_rfl) (by kernel_rfl) (fun K hK => ?_)
    go_wp2_with fail
    have b4 := Blk.new w5 #[.int .u8 (s.size : Int)] 5
    have g6 := g5n.alloc g5n.size (.cells #[.int .u8 (s.size : Int)] 5)
    refine reg_one 6 rfl (by kernel_rfl) (by kernel_rfl) (fun K hK => ?_)
    refine op_string 94 9 5 _ rfl Tryd.underlying94 Tryd.underlying5 Tryd.underlying9 _ 1 1 _ 5 rfl b4 (by simp) _ hlB ?_
    refine hK _ _ ?_
    clear hK K
    rw [← hB1.out]
    refine reg_take 8 51 (.string (B1 ++ s)) rfl rfl (by kernel_rfl) (fun _ _ _ h => h) (by kernel_rfl) (fun w => by go_simp; omega) ?_
    simp only [Act.put, List.setIfInBounds_toArray, List.set_cons_succ, List.set_cons_zero]
    refine reg_take 13 56 (.string (B1 ++ s ++ zs nn)) rfl rfl (by kernel_rfl) (fun _ _ _ h => h) (by kernel_rfl) (fun w => by go_simp; omega) ?_
    simp only [Act.put, List.setIfInBounds_toArray, List.set_cons_succ, List.set_cons_zero]
    rw [HF.out]
    refine reg_one 14 rfl (by kernel_rfl) (by kernel_rfl) (fun K hK => ?_)
    go_wp2_with (go_at_call 23; refine (HX.out _).mono ?_; rintro e w7 ⟨rfl, g7⟩)
    have g7n := g6.trans (g7.mono g6.size)
    refine reg_take 15 42 (.tuple #[.string X, .int .i64 0]) rfl rfl (by kernel_rfl) (fun _ _ _ h => h) (by kernel_rfl) (fun w => by go_simp) ?_
    refine reg_take 16 58 (.string X) rfl rfl (by kernel_rfl) (fun _ _ _ h => h) (by kernel_rfl) (fun w => by go_simp) ?_
    refine reg_take 17 59 (.int .i64 0) rfl rfl (by kernel_rfl) (fun _ _ _ h => h) (by kernel_rfl) (fun w => by go_simp) ?_
    refine reg_take 18 13 (.string X) rfl rfl (by kernel_rfl) (fun _ _ _ h => h) (by kernel_rfl) (fun w => by go_simp) ?_
    refine reg_take 19 14 (.int .i64 0) rfl rfl (by kernel_rfl) (fun _ _ _ h => h) (by kernel_rfl) (fun w => by go_simp) ?_
    refine reg_end (by kernel_rfl) ?_
    simp only [Act.put, List.setIfInBounds_toArray, List.set_cons_succ, List.set_cons_zero]
    have g7m := g4'.trans (g7n.mono g4'.size)
    clear g7n g7 g6 g0
    go_wp2_with fail
    refine (rnum_s v _).mono ?_
    rintro e w8 ⟨rfl, g8⟩
    have g8n := g7m.trans (g8.mono g7m.size)
    go_wp2_with fail
    rw [eA.out]
    refine (rnum_s id _).mono ?_
    rintro e w9 ⟨rfl, g9⟩
    have g9n := g8n.trans (g9.mono g8n.size)
    go_wp2_with fail
    have gA := below_alloc w9 (.cells #[.string key, .string (numS id), .string A] 9)
    have gAn := g9n.trans (gA.mono g9n.size)
    refine (rmark3 rb 103 _ rfl (hR.below gAn) (Blk.new w9 _ 9) (by omega) (by omega) (by omega)).mono ?_
    rintro e wB ⟨rfl, gB⟩
    have gBn := gAn.trans (gB.mono gAn.size)
    go_wp2_with fail
    go_ret2
    rw [eS.out]
    exact ⟨rfl, gBn⟩
theorem rseal_any (rb : Nat) (key : ByteArray) (id v : Int) (s : ByteArray) (w : World) (hR : RB w rb) (hk : key.size ≤ 60) (hs : s.size ≤ 300) :
    Calls Tryd.prog 53 #[.pointer (some ⟨rb, 0, none⟩), .string key, .int .i64 id, .int .i64 v, .string s] w fun e w' => e = .returned (.tuple #[.string (sealV key id v s), .int .i64 (sealC key id v s)]) ∧ Below w.heap.size w w' := by
  unfold sealV sealC
  by_cases h : sealOk key id v
  · obtain ⟨h1, h2, h3, h4, h5⟩ := h
    have h : sealOk key id v := ⟨h1, h2, h3, h4, h5⟩
    by_cases hz : s.size ≤ 200
    · simp only [h, hz, and_self, if_true]
      exact rseal_ok rb key id v s w hR h1 h2 h3 h4 h5 hz
    · simp only [h, hz, and_false, if_true, if_false]
      exact (rseal_limit rb key id v s w h1 h2 h3 h4 h5 (by omega) hs).mono fun e w' ⟨he, hw⟩ => ⟨he, by rw [hw]; exact Below.refl _ _⟩
  · simp only [h, false_and, if_false]
    exact (rseal_arg rb key id v s w hk h).mono fun e w' ⟨he, hw⟩ => ⟨he, by rw [hw]; exact Below.refl _ _⟩
end Go.Proofs.YtccnnfllgdplhaaDoor.Pg
