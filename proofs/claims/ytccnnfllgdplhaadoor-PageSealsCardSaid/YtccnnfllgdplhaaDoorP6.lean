/-
  Part of the proof: the reference's Unseal is walked.
-/
import Derived.Test.YtccnnfllgdplhaaDoorP4
import Derived.Test.YtccnnfllgdplhaaDoorP5
namespace Go.Proofs.YtccnnfllgdplhaaDoor.Pg
open Go.RowKit
set_option maxRecDepth 100000 in
set_option maxHeartbeats 1000000 in
theorem ropen_arg (rb : Nat) (key : ByteArray) (id : Int) (s : ByteArray) (w : World) (_hk : key.size ≤ 60) (h : ¬ key.size = 32) :
    Calls Tryd.prog 57 #[.pointer (some ⟨rb, 0, none⟩), .string key, .int .i64 id, .string s] w fun e w' => e = .returned (.tuple #[.int .i64 0, .string ⟨#[]⟩, .int .i64 1]) ∧ w' = w := by
  have d0 : decide ((key.size : Int) = 32) = false := decide_eq_false (by omega)
  go_enter Tryd.func57, Tryd.ntmps57
  go_wp2
  go_ret3
  exact ⟨rfl, rfl⟩
set_option maxRecDepth 100000 in
set_option maxHeartbeats 1000000 in
theorem ropen_short (rb : Nat) (key : ByteArray) (id : Int) (s : ByteArray) (w : World) (hk : key.size = 32) (hs : s.size < 237) :
    Calls Tryd.prog 57 #[.pointer (some ⟨rb, 0, none⟩), .string key, .int .i64 id, .string s] w fun e w' => e = .returned (.tuple #[.int .i64 0, .string ⟨#[]⟩, .int .i64 15]) ∧ Below w.heap.size w w' := by
  have d0 : decide ((s.size : Int) < 237) = true := decide_eq_true (by omega)
  have g0 : Below w.heap.size w w.drew := below_drewN (Below.refl _ _) 1
  go_enter Tryd.func57, Tryd.ntmps57
  go_wp2_with fail
  refine reg_in 16 mixed rfl ?_
  refine reg_take 0 17 (.string s) rfl rfl (by kernel_rfl) (fun _ _ _ h => h) (by kernel_rfl) (fun w => by go_simp) ?_
  refine reg_take 1 18 (.int .i64 s.size) rfl rfl (by kernel_rfl) (fun _ _ _ h => h) (by kernel_rfl) (fun w => by go_simp) ?_
  refine reg_take 2 19 (.bool true) rfl rfl (by kernel_rfl) (fun _ _ _ h => h) (by kernel_rfl) (fun w => by go_simp) ?_
  refine reg_take 3 20 (.bool true) rfl rfl (by kernel_rfl) (fun _ _ _ h => h) (by kernel_rfl) (fun w => by go_simp) ?_
  refine reg_skip 4 21 rfl rfl (by kernel_rfl) (fun _ _ _ h => h) (by kernel_rfl) ?_
  refine reg_skip 5 22 rfl rfl (by kernel_rfl) (fun _ _ _ h => h) (by kernel_rfl) ?_
  refine reg_skip 6 23 rfl rfl (by kernel_rfl) (fun _ _ _ h => h) (by kernel_rfl) ?_
  refine reg_skip 7 24 rfl rfl (by kernel_rfl) (fun _ _ _ h => h) (by kernel_rfl) ?_
  refine reg_skip 8 25 rfl rfl (by kernel_rfl) (fun _ _ _ h => h) (by kernel_rfl) ?_
  refine reg_skip 9 26 rfl rfl (by kernel_rfl) (fun _ _ _ h => h) (by kernel_rfl) ?_
  refine reg_skip 10 27 rfl rfl (by kernel_rfl) (fun _ _ _ h => h) (by kernel_rfl) ?_
  refine reg_skip 11 28 rfl rfl (by kernel_rfl) (fun _ _ _ h => h) (by kernel_rfl) ?_
  refine reg_skip 12 29 rfl rfl (by kernel_rfl) (fun _ _ _ h => h) (by kernel_rfl) ?_
  refine reg_skip 13 30 rfl rfl (by kernel_rfl) (fun _ _ _ h => h) (by kernel_rfl) ?_
  refine reg_skip 14 31 rfl rfl (by kernel_rfl) (fun _ _ _ h => h) (by kernel_rfl) ?_
  refine reg_take 15 32 (.bool true) rfl rfl (by kernel_rfl) (fun _ _ _ h => h) (by kernel_rfl) (fun w => by go_simp) ?_
  refine reg_end (by kernel_rfl) ?_
  simp only [Act.put, List.setIfInBounds_toArray, List.set_cons_succ, List.set_cons_zero]
  go_wp2_with fail
  go_ret3
  exact ⟨rfl, g0⟩
set_option maxRecDepth 100000 in
set_option maxHeartbeats 1000000 in
theorem ropen_spoilt (rb : Nat) (key : ByteArray) (id : Int) (s : ByteArray) (w : World) (hR : RB w rb) (hk : key.size = 32) (hs : 237 ≤ s.size) (hz : s.size ≤ 300) (hne : ¬ (s.extract 221 237).toList = (mk 103 [key, numS id, s.extract 0 221]).toList) :
    Calls Tryd.prog 57 #[.pointer (some ⟨rb, 0, none⟩), .string key, .int .i64 id, .string s] w fun e w' => e = .returned (.tuple #[.int .i64 0, .string ⟨#[]⟩, .int .i64 15]) ∧ Below w.heap.size w w' := by
  have hs' : (237 : Int) ≤ (s.size : Int) := by omega
  have hs1 : (221 : Int) ≤ (s.size : Int) := by omega
  have hs2 : (20 : Int) ≤ (s.size : Int) := by omega
  have d0 : decide ((s.size : Int) < 237) = false := decide_eq_false (by omega)
  have g0 : Below w.heap.size w w.drew := below_drewN (Below.refl _ _) 1
  have hn := numS_size id
  have z1 : (s.extract 0 221).size = 221 := by rw [ByteArray.size_extract]; omega
  obtain ⟨H, hH⟩ : ∃ H, Hid (H = s.extract 0 221) := ⟨_, rfl⟩
  obtain ⟨E, hE⟩ : ∃ E, Hid (E = s.extract 221 237) := ⟨_, rfl⟩
  have eH : s.extract 0 221 = H := hH.out.symm
  have eE : s.extract 221 237 = E := hE.out.symm
  rw [eH] at z1
  have zH : H.size ≤ 300 := by omega
  obtain ⟨M, hM⟩ : ∃ M, Hid (M = mk 103 [key, numS id, H]) := ⟨_, rfl⟩
  have d1 : ¬ M.toList = E.toList := by rw [hE.out, hM.out, hH.out]; exact fun e => hne e.symm
  clear hne
  go_enter Tryd.func57, Tryd.ntmps57
  go_wp2_with fail
  refine reg_in 16 mixed rfl ?_
  refine reg_take 0 17 (.string s) rfl rfl (by kernel_rfl) (fun _ _ _ h => h) (by kernel_rfl) (fun w => by go_simp) ?_
  refine reg_take 1 18 (.int .i64 s.size) rfl rfl (by kernel_rfl) (fun _ _ _ h => h) (by kernel_rfl) (fun w => by go_simp) ?_
  refine reg_take 2 19 (.bool false) rfl rfl (by kernel_rfl) (fun _ _ _ h => h) (by kernel_rfl) (fun w => by go_simp) ?_
  refine reg_take 3 20 (.bool false) rfl rfl (by kernel_rfl) (fun _ _ _ h => h) (by kernel_rfl) (fun w => by go_simp) ?_
  refine reg_take 4 21 (.pointer (some ⟨rb, 0, none⟩)) rfl rfl (by kernel_rfl) (fun _ _ _ h => h) (by kernel_rfl) (fun w => by go_simp) ?_
  refine reg_take 5 22 (.string key) rfl rfl (by kernel_rfl) (fun _ _ _ h => h) (by kernel_rfl) (fun w => by go_simp) ?_
  refine reg_take 6 23 (.int .i64 id) rfl rfl (by kernel_rfl) (fun _ _ _ h => h) (by kernel_rfl) (fun w => by go_simp) ?_
  refine reg_take 8 25 (.string s) rfl rfl (by kernel_rfl) (fun _ _ _ h => h) (by kernel_rfl) (fun w => by go_simp) ?_
  refine reg_take 9 26 (.string H) rfl rfl (by kernel_rfl) (fun _ _ _ h => h) (by kernel_rfl) (fun w => by go_simp) ?_
  refine reg_take 12 29 (.string s) rfl rfl (by kernel_rfl) (fun _ _ _ h => h) (by kernel_rfl) (fun w => by go_simp) ?_
  refine reg_take 13 30 (.string E) rfl rfl (by kernel_rfl) (fun _ _ _ h => h) (by kernel_rfl) (fun w => by go_simp) ?_
  simp only [Act.put, List.setIfInBounds_toArray, List.set_cons_succ, List.set_cons_zero]
  refine reg_one 7 rfl (by kernel_rfl) (by kernel_rfl) (fun K hK => ?_)
  go_wp2_with (go_at_call 17; refine (rnum_s id _).mono ?_; rintro e w1 ⟨rfl, g1⟩)
  have g1n := g0.trans (g1.mono g0.size)
  refine reg_one 10 rfl (by kernel_rfl) (by kernel_rfl) (fun K hK => ?_)
  go_wp2_with fail
  have g2 := below_alloc w1 (.cells #[.string key, .string (numS id), .string H] 9)
  have g2n := g1n.trans (g2.mono g1n.size)
  refine reg_one 11 rfl (by kernel_rfl) (by kernel_rfl) (fun K hK => ?_)
  go_wp2_with (go_at_call 19; refine (rmark3 rb 103 _ rfl (hR.below g2n) (Blk.new w1 _ 9) (by omega) (by omega) zH).mono ?_; rintro e w3 ⟨rfl, g3⟩)
  have g3n := g2n.trans (g3.mono g2n.size)
  clear g1 g1n g2 g2n g3 g0
  rw [← hM.out]
  refine reg_take 14 31 (.bool true) rfl rfl (by kernel_rfl) (fun _ _ _ h => h) (by kernel_rfl) (fun w => by go_simp) ?_
  refine reg_take 15 32 (.bool true) rfl rfl (by kernel_rfl) (fun _ _ _ h => h) (by kernel_rfl) (fun w => by go_simp) ?_
  refine reg_end (by kernel_rfl) ?_
  simp only [Act.put, List.setIfInBounds_toArray, List.set_cons_succ, List.set_cons_zero]
  go_wp2_with fail
  go_ret3
  exact ⟨rfl, g3n⟩
set_option maxRecDepth 100000 in
set_option maxHeartbeats 2000000 in
theorem ropen_ok (rb : Nat) (key : ByteArray) (id : Int) (s : ByteArray) (w : World) (hR : RB w rb) (hk : key.size = 32) (hs : 237 ≤ s.size) (hz : s.size ≤ 300) (heq : (s.extract 221 237).toList = (mk 103 [key, numS id, s.extract 0 221]).toList) :
    Calls Tryd.prog 57 #[.pointer (some ⟨rb, 0, none⟩), .string key, .int .i64 id, .string s] w fun e w' => e = .returned (.tuple #[.int .i64 (verN s), .string (cutT (shownT key s)), .int .i64 0]) ∧ Below w.heap.size w w' := by
  have hs' : (237 : Int) ≤ (s.size : Int) := by omega
  have hs1 : (221 : Int) ≤ (s.size : Int) := by omega
  have hs2 : (20 : Int) ≤ (s.size : Int) := by omega
  have d0 : decide ((s.size : Int) < 237) = false := decide_eq_false (by omega)
  have g0 : Below w.heap.size w w.drew := below_drewN (Below.refl _ _) 1
  have hn := numS_size id
  have z1 : (s.extract 0 221).size = 221 := by rw [ByteArray.size_extract]; omega
  obtain ⟨H, hH⟩ : ∃ H, Hid (H = s.extract 0 221) := ⟨_, rfl⟩
  obtain ⟨E, hE⟩ : ∃ E, Hid (E = s.extract 221 237) := ⟨_, rfl⟩
  have eH : s.extract 0 221 = H := hH.out.symm
  have eE : s.extract 221 237 = E := hE.out.symm
  rw [eH] at z1
  have zH : H.size ≤ 300 := by omega
  obtain ⟨M, hM⟩ : ∃ M, Hid (M = mk 103 [key, numS id, H]) := ⟨_, rfl⟩
  have d1 : M.toList = E.toList := by rw [hE.out, hM.out, hH.out]; exact heq.symm
  clear heq
  obtain ⟨N, hN⟩ : ∃ N, Hid (N = s.extract 8 20) := ⟨_, rfl⟩
  obtain ⟨X, hX⟩ : ∃ X, Hid (X = s.extract 20 221) := ⟨_, rfl⟩
  have eN : s.extract 8 20 = N := hN.out.symm
  have eX : s.extract 20 221 = X := hX.out.symm
  have zN : N.size = 12 := by rw [hN.out, ByteArray.size_extract]; omega
  have zX : X.size = 201 := by rw [hX.out, ByteArray.size_extract]; omega
  have HX : Hid (∀ w0, Calls Tryd.prog 23 #[.string key, .string N, .string X] w0 fun e w' => e = .returned (.tuple #[.string (shownT key s), .int .i64 0]) ∧ Below w0.heap.size w0 w') := by
    intro w0
    have := rxor_good key N X w0 hk zN (by omega)
    rw [zX] at this
    unfold shownT
    rw [← hN.out, ← hX.out]
    exact this
  have zS := shownT_size key s
  generalize shownT key s = Y at *
  have hb := bt_lt Y 0
  have hY0 : 0 < Y.size := by omega
  have hbe := bt_eq Y 0 hY0
  have hc := cutN_le Y
  obtain ⟨kk, hkk⟩ : ∃ kk, Hid (kk = cutN Y) := ⟨_, rfl⟩
  have eC : Hid (Y.extract 1 (1 + kk) = cutT Y) := by unfold Hid cutT; rw [hkk.out]
  rw [← hkk.out] at hc
  have hc1 : (1 : Int) + (kk : Int) ≤ 201 := by omega
  have hc2 : ((1 : Int) + (kk : Int)).toNat = 1 + kk := by omega
  have hc3 : IntKind.i64.wrap (1 + (kk : Int)) = 1 + (kk : Int) := by rw [IntKind.wrap_i64]; omega
  have hc4 : (0 : Int) ≤ 1 + (kk : Int) := by omega
  have hc5 : (1 : Int) ≤ 1 + (kk : Int) := by omega
  go_enter Tryd.func57, Tryd.ntmps57
  go_wp2_with fail
  refine reg_in 16 mixed rfl ?_
  refine reg_take 0 17 (.string s) rfl rfl (by kernel_rfl) (fun _ _ _ h => h) (by kernel_rfl) (fun w => by go_simp) ?_
  refine reg_take 1 18 (.int .i64 s.size) rfl rfl (by kernel_rfl) (fun _ _ _ h => h) (by kernel_rfl) (fun w => by go_simp) ?_
  refine reg_take 2 19 (.bool false) rfl rfl (by kernel_rfl) (fun _ _ _ h => h) (by kernel_rfl) (fun w => by go_simp) ?_
  refine reg_take 3 20 (.bool false) rfl rfl (by kernel_rfl) (fun _ _ _ h => h) (by kernel_rfl) (fun w => by go_simp) ?_
  refine reg_take 4 21 (.pointer (some ⟨rb, 0, none⟩)) rfl rfl (by kernel_rfl) (fun _ _ _ h => h) (by kernel_rfl) (fun w => by go_simp) ?_
  refine reg_take 5 22 (.string key) rfl rfl (by kernel_rfl) (fun _ _ _ h => h) (by kernel_rfl) (fun w => by go_simp) ?_
  refine reg_take 6 23 (.int .i64 id) rfl rfl (by kernel_rfl) (fun _ _ _ h => h) (by kernel_rfl) (fun w => by go_simp) ?_
  refine reg_take 8 25 (.string s) rfl rfl (by kernel_rfl) (fun _ _ _ h => h) (by kernel_rfl) (fun w => by go_simp) ?_
  refine reg_take 9 26 (.string H) rfl rfl (by kernel_rfl) (fun _ _ _ h => h) (by kernel_rfl) (fun w => by go_simp) ?_
  refine reg_take 12 29 (.string s) rfl rfl (by kernel_rfl) (fun _ _ _ h => h) (by kernel_rfl) (fun w => by go_simp) ?_
  refine reg_take 13 30 (.string E) rfl rfl (by kernel_rfl) (fun _ _ _ h => h) (by kernel_rfl) (fun w => by go_simp) ?_
  simp only [Act.put, List.setIfInBounds_toArray, List.set_cons_succ, List.set_cons_zero]
  refine reg_one 7 rfl (by kernel_rfl) (by kernel_rfl) (fun K hK => ?_)
  go_wp2_with (go_at_call 17; refine (rnum_s id _).mono ?_; rintro e w1 ⟨rfl, g1⟩)
  have g1n := g0.trans (g1.mono g0.size)
  refine reg_one 10 rfl (by kernel_rfl) (by kernel_rfl) (fun K hK => ?_)
  go_wp2_with fail
  have g2 := below_alloc w1 (.cells #[.string key, .string (numS id), .string H] 9)
  have g2n := g1n.trans (g2.mono g1n.size)
  refine reg_one 11 rfl (by kernel_rfl) (by kernel_rfl) (fun K hK => ?_)
  go_wp2_with (go_at_call 19; refine (rmark3 rb 103 _ rfl (hR.below g2n) (Blk.new w1 _ 9) (by omega) (by omega) zH).mono ?_; rintro e w3 ⟨rfl, g3⟩)
  have g3n := g2n.trans (g3.mono g2n.size)
  clear g1 g1n g2 g2n g3 g0
  rw [← hM.out]
  refine reg_take 14 31 (.bool false) rfl rfl (by kernel_rfl) (fun _ _ _ h => h) (by kernel_rfl) (fun w => by go_simp) ?_
  refine reg_take 15 32 (.bool false) rfl rfl (by kernel_rfl) (fun _ _ _ h => h) (by kernel_rfl) (fun w => by go_simp) ?_
  refine reg_end (by kernel_rfl) ?_
  simp only [Act.put, List.setIfInBounds_toArray, List.set_cons_succ, List.set_cons_zero]
  clear d0 d1
  go_wp2_with fail
  have g4 : Below w.heap.size w w3.drew := below_drewN g3n 1
  refine reg_in 11 mixed rfl ?_
  refine reg_take 0 34 (.string key) rfl rfl (by kernel_rfl) (fun _ _ _ h => h) (by kernel_rfl) (fun w => by go_simp) ?_
  refine reg_take 1 35 (.string s) rfl rfl (by kernel_rfl) (fun _ _ _ h => h) (by kernel_rfl) (fun w => by go_simp) ?_
  refine reg_take 2 36 (.string N) rfl rfl (by kernel_rfl) (fun _ _ _ h => h) (by kernel_rfl) (fun w => by go_simp) ?_
  refine reg_take 3 37 (.string s) rfl rfl (by kernel_rfl) (fun _ _ _ h => h) (by kernel_rfl) (fun w => by go_simp) ?_
  refine reg_take 4 38 (.string X) rfl rfl (by kernel_rfl) (fun _ _ _ h => h) (by kernel_rfl) (fun w => by go_simp) ?_
  simp only [Act.put, List.setIfInBounds_toArray, List.set_cons_succ, List.set_cons_zero]
  refine reg_one 5 rfl (by kernel_rfl) (by kernel_rfl) (fun K hK => ?_)
  go_wp2_with (go_at_call 23; refine (HX.out _).mono ?_; rintro e w5 ⟨rfl, g5⟩)
  have g5n := g4.trans (g5.mono g4.size)
  refine reg_take 6 33 (.tuple #[.string Y, .int .i64 0]) rfl rfl (by kernel_rfl) (fun _ _ _ h => h) (by kernel_rfl) (fun w => by go_simp) ?_
  refine reg_take 7 40 (.string Y) rfl rfl (by kernel_rfl) (fun _ _ _ h => h) (by kernel_rfl) (fun w => by go_simp) ?_
  refine reg_take 8 41 (.int .i64 0) rfl rfl (by kernel_rfl) (fun _ _ _ h => h) (by kernel_rfl) (fun w => by go_simp) ?_
  refine reg_take 9 11 (.string Y) rfl rfl (by kernel_rfl) (fun _ _ _ h => h) (by kernel_rfl) (fun w => by go_simp) ?_
  refine reg_take 10 12 (.int .i64 0) rfl rfl (by kernel_rfl) (fun _ _ _ h => h) (by kernel_rfl) (fun w => by go_simp) ?_
  refine reg_end (by kernel_rfl) ?_
  simp only [Act.put, List.setIfInBounds_toArray, List.set_cons_succ, List.set_cons_zero]
  clear g5 g4 g3n
  by_cases hgt : 200 < bt Y 0
  · have ek : cutN Y = 200 := by unfold cutN; rw [if_neg (by omega)]
    have hk2 : kk = 200 := by rw [hkk.out, ek]
    have hw2 : IntKind.i64.wrap 201 = 201 := rfl
    have hgt' : decide ((200 : Int) < (bt Y 0 : Int)) = true := decide_eq_true (by omega)
    subst hk2
    go_wp2_with fail
    refine reg_in 9 mixed rfl ?_
    refine reg_take 0 47 (.string s) rfl rfl (by kernel_rfl) (fun _ _ _ h => h) (by kernel_rfl) (fun w => by go_simp) ?_
    refine reg_take 2 49 (.string Y) rfl rfl (by kernel_rfl) (fun _ _ _ h => h) (by kernel_rfl) (fun w => by go_simp) ?_
    refine reg_take 3 50 (.int .i64 200) rfl rfl (by kernel_rfl) (fun _ _ _ h => h) (by kernel_rfl) (fun w => by go_simp) ?_
    refine reg_take 4 51 (.int .i64 (1 + 200)) rfl rfl (by kernel_rfl) (fun _ _ _ h => h) (by kernel_rfl) (fun w => by go_simp) ?_
    refine reg_take 5 52 (.string (Y.extract 1 (1 + 200))) rfl rfl (by kernel_rfl) (fun _ _ _ h => h) (by kernel_rfl) (fun w => by go_simp) ?_
    simp only [Act.put, List.setIfInBounds_toArray, List.set_cons_succ, List.set_cons_zero]
    refine reg_one 1 rfl (by kernel_rfl) (by kernel_rfl) (fun K hK => ?_)
    go_wp2_with (go_at_call 96; refine (number_any s _ (by omega) (by omega)).mono ?_; rintro e wv ⟨rfl, hwv⟩; subst hwv)
    refine reg_take 6 8 (.int .i64 (verN s)) rfl rfl (by kernel_rfl) (fun _ _ _ h => h) (by kernel_rfl) (fun w => by go_simp) ?_
    refine reg_take 7 9 (.string (Y.extract 1 (1 + 200))) rfl rfl (by kernel_rfl) (fun _ _ _ h => h) (by kernel_rfl) (fun w => by go_simp) ?_
    refine reg_take 8 10 (.int .i64 0) rfl rfl (by kernel_rfl) (fun _ _ _ h => h) (by kernel_rfl) (fun w => by go_simp) ?_
    refine reg_end (by kernel_rfl) ?_
    simp only [Act.put, List.setIfInBounds_toArray, List.set_cons_succ, List.set_cons_zero]
    go_wp2_with fail
    go_ret3
    rw [eC.out]
    exact ⟨rfl, below_drewN g5n 1⟩
  · have ek : cutN Y = bt Y 0 := by unfold cutN; split <;> omega
    have hk2 : bt Y 0 = kk := by rw [hkk.out, ek]
    have hgt' : decide ((200 : Int) < (bt Y 0 : Int)) = false := decide_eq_false (by omega)
    rw [hk2] at hbe hgt'
    go_wp2_with fail
    refine reg_in 9 mixed rfl ?_
    refine reg_take 0 47 (.string s) rfl rfl (by kernel_rfl) (fun _ _ _ h => h) (by kernel_rfl) (fun w => by go_simp) ?_
    refine reg_take 2 49 (.string Y) rfl rfl (by kernel_rfl) (fun _ _ _ h => h) (by kernel_rfl) (fun w => by go_simp) ?_
    refine reg_take 3 50 (.int .i64 (kk : Int)) rfl rfl (by kernel_rfl) (fun _ _ _ h => h) (by kernel_rfl) (fun w => by go_simp) ?_
    refine reg_take 4 51 (.int .i64 (1 + (kk : Int))) rfl rfl (by kernel_rfl) (fun _ _ _ h => h) (by kernel_rfl) (fun w => by go_simp) ?_
    refine reg_take 5 52 (.string (Y.extract 1 (1 + kk))) rfl rfl (by kernel_rfl) (fun _ _ _ h => h) (by kernel_rfl) (fun w => by go_simp) ?_
    simp only [Act.put, List.setIfInBounds_toArray, List.set_cons_succ, List.set_cons_zero]
    refine reg_one 1 rfl (by kernel_rfl) (by kernel_rfl) (fun K hK => ?_)
    go_wp2_with (go_at_call 96; refine (number_any s _ (by omega) (by omega)).mono ?_; rintro e wv ⟨rfl, hwv⟩; subst hwv)
    refine reg_take 6 8 (.int .i64 (verN s)) rfl rfl (by kernel_rfl) (fun _ _ _ h => h) (by kernel_rfl) (fun w => by go_simp) ?_
    refine reg_take 7 9 (.string (Y.extract 1 (1 + kk))) rfl rfl (by kernel_rfl) (fun _ _ _ h => h) (by kernel_rfl) (fun w => by go_simp) ?_
    refine reg_take 8 10 (.int .i64 0) rfl rfl (by kernel_rfl) (fun _ _ _ h => h) (by kernel_rfl) (fun w => by go_simp) ?_
    refine reg_end (by kernel_rfl) ?_
    simp only [Act.put, List.setIfInBounds_toArray, List.set_cons_succ, List.set_cons_zero]
    go_wp2_with fail
    go_ret3
    rw [eC.out]
    exact ⟨rfl, below_drewN g5n 1⟩
theorem ropen_any (rb : Nat) (key : ByteArray) (id : Int) (s : ByteArray) (w : World) (hR : RB w rb) (hk : key.size ≤ 60) (hs : s.size ≤ 300) :
    Calls Tryd.prog 57 #[.pointer (some ⟨rb, 0, none⟩), .string key, .int .i64 id, .string s] w fun e w' => e = .returned (.tuple #[.int .i64 (openN key id s), .string (openT key id s), .int .i64 (openC key id s)]) ∧ Below w.heap.size w w' := by
  unfold openN openT openC
  by_cases h : key.size = 32
  · by_cases hz : sealed key id s
    · simp only [h, hz, and_self, if_true]
      exact ropen_ok rb key id s w hR h hz.1 hs hz.2
    · simp only [h, hz, and_false, if_true, if_false]
      by_cases h2 : 237 ≤ s.size
      · exact ropen_spoilt rb key id s w hR h h2 hs fun e => hz ⟨h2, e⟩
      · exact ropen_short rb key id s w h (by omega)
  · simp only [h, false_and, if_false]
    exact (ropen_arg rb key id s w hk h).mono fun e w' ⟨he, hw⟩ => ⟨he, by rw [hw]; exact Below.refl _ _⟩
end Go.Proofs.YtccnnfllgdplhaaDoor.Pg
