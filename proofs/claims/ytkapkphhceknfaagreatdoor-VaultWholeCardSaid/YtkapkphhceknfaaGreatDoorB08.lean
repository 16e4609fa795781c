/-
  Part of the proof: Open of the code is walked.
  Part of the proof of TreeBinds: the plain tree: a mark that binds two, its rows, its root, one's path, and what a path leads to.
-/
import Derived.Test.YtkapkphhceknfaaGreatDoorB07
import Derived.OwnWalk
import Derived.Test.YtkapkphhceknfaaGreatDoorB05
namespace Go.Proofs.YtkapkphhceknfaaGreatDoor.Pg
open Go.RowKit
/-- What stands within a page, shown. -/
def shownT (key s : ByteArray) : ByteArray := sb 201 (xorF key (s.extract 8 20) (s.extract 20 221))
theorem shownT_size (key s : ByteArray) : (shownT key s).size = 201 := sb_size _ _
/-- It is sealed so. -/
def sealed (key : ByteArray) (id : Int) (s : ByteArray) : Prop := 237 ≤ s.size ∧ (s.extract 221 237).toList = (mk 103 [key, numS id, s.extract 0 221]).toList
instance (key : ByteArray) (id : Int) (s : ByteArray) : Decidable (sealed key id s) := by unfold sealed; infer_instance
def openC (key : ByteArray) (id : Int) (s : ByteArray) : Int := if key.size = 32 then (if sealed key id s then 0 else 15) else 1
def openN (key : ByteArray) (id : Int) (s : ByteArray) : Int := if key.size = 32 ∧ sealed key id s then verN s else 0
def openT (key : ByteArray) (id : Int) (s : ByteArray) : ByteArray := if key.size = 32 ∧ sealed key id s then cutT (shownT key s) else ⟨#[]⟩
set_option maxRecDepth 100000 in
set_option maxHeartbeats 1000000 in
theorem open_arg (key : ByteArray) (id : Int) (s : ByteArray) (w : World) (_hk : key.size ≤ 60) (h : ¬ key.size = 32) :
    Calls Tryz.prog 89 #[.string key, .int .i64 id, .string s] w fun e w' => e = .returned (.tuple #[.int .i64 0, .string ⟨#[]⟩, .iface 41 (.int .i64 1)]) ∧ w' = w := by
  have d0 : decide ((key.size : Int) = 32) = false := decide_eq_false (by omega)
  go_enter Tryz.func89, Tryz.ntmps89
  go_wp2
  go_ret3
  exact ⟨rfl, rfl⟩
set_option maxRecDepth 100000 in
set_option maxHeartbeats 1000000 in
theorem open_short (key : ByteArray) (id : Int) (s : ByteArray) (w : World) (hk : key.size = 32) (hs : s.size < 237) :
    Calls Tryz.prog 89 #[.string key, .int .i64 id, .string s] w fun e w' => e = .returned (.tuple #[.int .i64 0, .string ⟨#[]⟩, .iface 41 (.int .i64 15)]) ∧ Below w.heap.size w w' := by
  have d0 : decide ((s.size : Int) < 237) = true := decide_eq_true (by omega)
  have g0 : Below w.heap.size w w.drew := below_drewN (Below.refl _ _) 1
  go_enter Tryz.func89, Tryz.ntmps89
  go_wp2_with fail
  refine reg_in 13 mixed rfl ?_
  refine reg_take 0 15 (.string s) rfl rfl (by kernel_rfl) (fun _ _ _ h => h) (by kernel_rfl) (fun w => by go_simp) ?_
  refine reg_take 1 16 (.int .i64 s.size) rfl rfl (by kernel_rfl) (fun _ _ _ h => h) (by kernel_rfl) (fun w => by go_simp) ?_
  refine reg_take 2 17 (.bool true) rfl rfl (by kernel_rfl) (fun _ _ _ h => h) (by kernel_rfl) (fun w => by go_simp) ?_
  refine reg_take 3 18 (.bool true) rfl rfl (by kernel_rfl) (fun _ _ _ h => h) (by kernel_rfl) (fun w => by go_simp) ?_
  refine reg_skip 4 19 rfl rfl (by kernel_rfl) (fun _ _ _ h => h) (by kernel_rfl) ?_
  refine reg_skip 5 20 rfl rfl (by kernel_rfl) (fun _ _ _ h => h) (by kernel_rfl) ?_
  refine reg_skip 6 21 rfl rfl (by kernel_rfl) (fun _ _ _ h => h) (by kernel_rfl) ?_
  refine reg_skip 7 22 rfl rfl (by kernel_rfl) (fun _ _ _ h => h) (by kernel_rfl) ?_
  refine reg_skip 8 23 rfl rfl (by kernel_rfl) (fun _ _ _ h => h) (by kernel_rfl) ?_
  refine reg_skip 9 24 rfl rfl (by kernel_rfl) (fun _ _ _ h => h) (by kernel_rfl) ?_
  refine reg_skip 10 25 rfl rfl (by kernel_rfl) (fun _ _ _ h => h) (by kernel_rfl) ?_
  refine reg_skip 11 26 rfl rfl (by kernel_rfl) (fun _ _ _ h => h) (by kernel_rfl) ?_
  refine reg_take 12 27 (.bool true) rfl rfl (by kernel_rfl) (fun _ _ _ h => h) (by kernel_rfl) (fun w => by go_simp) ?_
  refine reg_end (by kernel_rfl) ?_
  simp only [Act.put, List.setIfInBounds_toArray, List.set_cons_succ, List.set_cons_zero]
  go_wp2_with fail
  go_ret3
  exact ⟨rfl, g0⟩
set_option maxRecDepth 100000 in
set_option maxHeartbeats 1000000 in
theorem open_spoilt (key : ByteArray) (id : Int) (s : ByteArray) (w : World) (hk : key.size = 32) (hs : 237 ≤ s.size) (hz : s.size ≤ 300) (hK1 : Sm.KB w) (hne : ¬ (s.extract 221 237).toList = (mk 103 [key, numS id, s.extract 0 221]).toList) :
    Calls Tryz.prog 89 #[.string key, .int .i64 id, .string s] w fun e w' => e = .returned (.tuple #[.int .i64 0, .string ⟨#[]⟩, .iface 41 (.int .i64 15)]) ∧ Below w.heap.size w w' := by
  have hs' : (237 : Int) ≤ (s.size : Int) := by omega
  have hs1 : (221 : Int) ≤ (s.size : Int) := by omega
  have hs2 : (20 : Int) ≤ (s.size : Int) := by omega
  have d0 : decide ((s.size : Int) < 237) = false := decide_eq_false (by omega)
  have g0 : Below w.heap.size w w.drew := below_drewN (Below.refl _ _) 1
  have z1 : (s.extract 0 221).size = 221 := by rw [ByteArray.size_extract]; omega
  obtain ⟨H, hH⟩ : ∃ H, Hid (H = s.extract 0 221) := ⟨_, rfl⟩
  obtain ⟨E, hE⟩ : ∃ E, Hid (E = s.extract 221 237) := ⟨_, rfl⟩
  have eH : s.extract 0 221 = H := hH.out.symm
  have eE : s.extract 221 237 = E := hE.out.symm
  rw [eH] at z1
  have zH : H.size ≤ 300 := by omega
  obtain ⟨M, hM⟩ : ∃ M, Hid (M = mk 103 [key, numS id, H]) := ⟨_, rfl⟩
  have d1 : ¬ E.toList = M.toList := by rw [hE.out, hM.out, hH.out]; exact hne
  go_enter Tryz.func89, Tryz.ntmps89
  go_wp2_with fail
  refine reg_in 13 mixed rfl ?_
  refine reg_take 0 15 (.string s) rfl rfl (by kernel_rfl) (fun _ _ _ h => h) (by kernel_rfl) (fun w => by go_simp) ?_
  refine reg_take 1 16 (.int .i64 s.size) rfl rfl (by kernel_rfl) (fun _ _ _ h => h) (by kernel_rfl) (fun w => by go_simp) ?_
  refine reg_take 2 17 (.bool false) rfl rfl (by kernel_rfl) (fun _ _ _ h => h) (by kernel_rfl) (fun w => by go_simp) ?_
  refine reg_take 3 18 (.bool false) rfl rfl (by kernel_rfl) (fun _ _ _ h => h) (by kernel_rfl) (fun w => by go_simp) ?_
  refine reg_take 4 19 (.string s) rfl rfl (by kernel_rfl) (fun _ _ _ h => h) (by kernel_rfl) (fun w => by go_simp) ?_
  refine reg_take 5 20 (.string E) rfl rfl (by kernel_rfl) (fun _ _ _ h => h) (by kernel_rfl) (fun w => by go_simp) ?_
  refine reg_take 6 21 (.string key) rfl rfl (by kernel_rfl) (fun _ _ _ h => h) (by kernel_rfl) (fun w => by go_simp) ?_
  refine reg_take 7 22 (.int .i64 id) rfl rfl (by kernel_rfl) (fun _ _ _ h => h) (by kernel_rfl) (fun w => by go_simp) ?_
  refine reg_take 8 23 (.string s) rfl rfl (by kernel_rfl) (fun _ _ _ h => h) (by kernel_rfl) (fun w => by go_simp) ?_
  refine reg_take 9 24 (.string H) rfl rfl (by kernel_rfl) (fun _ _ _ h => h) (by kernel_rfl) (fun w => by go_simp) ?_
  simp only [Act.put, List.setIfInBounds_toArray, List.set_cons_succ, List.set_cons_zero]
  refine reg_one 10 rfl (by kernel_rfl) (by kernel_rfl) (fun K hK => ?_)
  go_wp2_with (go_at_call 74; refine (pseal_any key id H _ (by omega) zH (hK1.below g0)).mono ?_; rintro e w1 ⟨rfl, g1⟩)
  rw [← hM.out]
  refine reg_take 11 26 (.bool true) rfl rfl (by kernel_rfl) (fun _ _ _ h => h) (by kernel_rfl) (fun w => by go_simp) ?_
  refine reg_take 12 27 (.bool true) rfl rfl (by kernel_rfl) (fun _ _ _ h => h) (by kernel_rfl) (fun w => by go_simp) ?_
  refine reg_end (by kernel_rfl) ?_
  simp only [Act.put, List.setIfInBounds_toArray, List.set_cons_succ, List.set_cons_zero]
  go_wp2_with fail
  go_ret3
  exact ⟨rfl, g0.trans (g1.mono g0.size)⟩
set_option maxRecDepth 100000 in
set_option maxHeartbeats 1000000 in
theorem open_ok (key : ByteArray) (id : Int) (s : ByteArray) (w : World) (hk : key.size = 32) (hs : 237 ≤ s.size) (hz : s.size ≤ 300) (hK1 : Sm.KB w) (heq : (s.extract 221 237).toList = (mk 103 [key, numS id, s.extract 0 221]).toList) :
    Calls Tryz.prog 89 #[.string key, .int .i64 id, .string s] w fun e w' => e = .returned (.tuple #[.int .i64 (verN s), .string (cutT (shownT key s)), .nilIface]) ∧ Below w.heap.size w w' := by
  have hs' : (237 : Int) ≤ (s.size : Int) := by omega
  have hs1 : (221 : Int) ≤ (s.size : Int) := by omega
  have hs2 : (20 : Int) ≤ (s.size : Int) := by omega
  have d0 : decide ((s.size : Int) < 237) = false := decide_eq_false (by omega)
  have g0 : Below w.heap.size w w.drew := below_drewN (Below.refl _ _) 1
  have z1 : (s.extract 0 221).size = 221 := by rw [ByteArray.size_extract]; omega
  obtain ⟨H, hH⟩ : ∃ H, Hid (H = s.extract 0 221) := ⟨_, rfl⟩
  obtain ⟨E, hE⟩ : ∃ E, Hid (E = s.extract 221 237) := ⟨_, rfl⟩
  have eH : s.extract 0 221 = H := hH.out.symm
  have eE : s.extract 221 237 = E := hE.out.symm
  rw [eH] at z1
  have zH : H.size ≤ 300 := by omega
  obtain ⟨M, hM⟩ : ∃ M, Hid (M = mk 103 [key, numS id, H]) := ⟨_, rfl⟩
  have d1 : E.toList = M.toList := by rw [hE.out, hM.out, hH.out]; exact heq
  obtain ⟨N, hN⟩ : ∃ N, Hid (N = s.extract 8 20) := ⟨_, rfl⟩
  obtain ⟨X, hX⟩ : ∃ X, Hid (X = s.extract 20 221) := ⟨_, rfl⟩
  have eN : s.extract 8 20 = N := hN.out.symm
  have eX : s.extract 20 221 = X := hX.out.symm
  have zN : N.size = 12 := by rw [hN.out, ByteArray.size_extract]; omega
  have zX : X.size = 201 := by rw [hX.out, ByteArray.size_extract]; omega
  have eV : Hid (xorV key N X = .tuple #[.string (shownT key s), .nilIface]) := by
    unfold Hid xorV shownT; rw [if_pos ⟨hk, zN⟩, zX, hN.out, hX.out]
  have zS := shownT_size key s
  generalize shownT key s = Y at *
  clear heq
  go_enter Tryz.func89, Tryz.ntmps89
  go_wp2_with fail
  refine reg_in 13 mixed rfl ?_
  refine reg_take 0 15 (.string s) rfl rfl (by kernel_rfl) (fun _ _ _ h => h) (by kernel_rfl) (fun w => by go_simp) ?_
  refine reg_take 1 16 (.int .i64 s.size) rfl rfl (by kernel_rfl) (fun _ _ _ h => h) (by kernel_rfl) (fun w => by go_simp) ?_
  refine reg_take 2 17 (.bool false) rfl rfl (by kernel_rfl) (fun _ _ _ h => h) (by kernel_rfl) (fun w => by go_simp) ?_
  refine reg_take 3 18 (.bool false) rfl rfl (by kernel_rfl) (fun _ _ _ h => h) (by kernel_rfl) (fun w => by go_simp) ?_
  refine reg_take 4 19 (.string s) rfl rfl (by kernel_rfl) (fun _ _ _ h => h) (by kernel_rfl) (fun w => by go_simp) ?_
  refine reg_take 5 20 (.string E) rfl rfl (by kernel_rfl) (fun _ _ _ h => h) (by kernel_rfl) (fun w => by go_simp) ?_
  refine reg_take 6 21 (.string key) rfl rfl (by kernel_rfl) (fun _ _ _ h => h) (by kernel_rfl) (fun w => by go_simp) ?_
  refine reg_take 7 22 (.int .i64 id) rfl rfl (by kernel_rfl) (fun _ _ _ h => h) (by kernel_rfl) (fun w => by go_simp) ?_
  refine reg_take 8 23 (.string s) rfl rfl (by kernel_rfl) (fun _ _ _ h => h) (by kernel_rfl) (fun w => by go_simp) ?_
  refine reg_take 9 24 (.string H) rfl rfl (by kernel_rfl) (fun _ _ _ h => h) (by kernel_rfl) (fun w => by go_simp) ?_
  simp only [Act.put, List.setIfInBounds_toArray, List.set_cons_succ, List.set_cons_zero]
  refine reg_one 10 rfl (by kernel_rfl) (by kernel_rfl) (fun K hK => ?_)
  go_wp2_with (go_at_call 74; refine (pseal_any key id H _ (by omega) zH (hK1.below g0)).mono ?_; rintro e w1 ⟨rfl, g1⟩)
  rw [← hM.out]
  have g1n := g0.trans (g1.mono g0.size)
  clear g1 g0
  refine reg_take 11 26 (.bool false) rfl rfl (by kernel_rfl) (fun _ _ _ h => h) (by kernel_rfl) (fun w => by go_simp) ?_
  refine reg_take 12 27 (.bool false) rfl rfl (by kernel_rfl) (fun _ _ _ h => h) (by kernel_rfl) (fun w => by go_simp) ?_
  refine reg_end (by kernel_rfl) ?_
  simp only [Act.put, List.setIfInBounds_toArray, List.set_cons_succ, List.set_cons_zero]
  clear d0 d1
  go_wp2_with fail
  have g2 : Below w.heap.size w w1.drew := below_drewN g1n 1
  refine reg_in 11 mixed rfl ?_
  refine reg_take 0 30 (.string key) rfl rfl (by kernel_rfl) (fun _ _ _ h => h) (by kernel_rfl) (fun w => by go_simp) ?_
  refine reg_take 1 31 (.string s) rfl rfl (by kernel_rfl) (fun _ _ _ h => h) (by kernel_rfl) (fun w => by go_simp) ?_
  refine reg_take 2 32 (.string N) rfl rfl (by kernel_rfl) (fun _ _ _ h => h) (by kernel_rfl) (fun w => by go_simp) ?_
  refine reg_take 3 33 (.string s) rfl rfl (by kernel_rfl) (fun _ _ _ h => h) (by kernel_rfl) (fun w => by go_simp) ?_
  refine reg_take 4 34 (.string X) rfl rfl (by kernel_rfl) (fun _ _ _ h => h) (by kernel_rfl) (fun w => by go_simp) ?_
  simp only [Act.put, List.setIfInBounds_toArray, List.set_cons_succ, List.set_cons_zero]
  refine reg_one 5 rfl (by kernel_rfl) (by kernel_rfl) (fun K hK => ?_)
  go_wp2_with (go_at_call 72; refine (xor_any key N X _ (by omega) (by omega) (by omega)).mono ?_; rintro e w3 ⟨rfl, g3⟩)
  rw [eV.out]
  have g3n := g2.trans (g3.mono g2.size)
  refine reg_take 6 29 (.tuple #[.string Y, .nilIface]) rfl rfl (by kernel_rfl) (fun _ _ _ h => h) (by kernel_rfl) (fun w => by go_simp) ?_
  refine reg_take 7 36 (.string Y) rfl rfl (by kernel_rfl) (fun _ _ _ h => h) (by kernel_rfl) (fun w => by go_simp) ?_
  refine reg_take 8 37 (.nilIface) rfl rfl (by kernel_rfl) (fun _ _ _ h => h) (by kernel_rfl) (fun w => by go_simp) ?_
  refine reg_take 9 9 (.string Y) rfl rfl (by kernel_rfl) (fun _ _ _ h => h) (by kernel_rfl) (fun w => by go_simp) ?_
  refine reg_take 10 10 (.nilIface) rfl rfl (by kernel_rfl) (fun _ _ _ h => h) (by kernel_rfl) (fun w => by go_simp) ?_
  refine reg_end (by kernel_rfl) ?_
  simp only [Act.put, List.setIfInBounds_toArray, List.set_cons_succ, List.set_cons_zero]
  go_wp2_with fail
  refine (versionOf_any s _ (by omega) (by omega)).mono ?_
  rintro e wv ⟨rfl, hwv⟩
  subst hwv
  go_wp2_with fail
  refine (unpadded_any Y _ zS).mono ?_
  rintro e wu ⟨rfl, hwu⟩
  subst hwu
  go_wp2_with fail
  go_ret3
  exact ⟨rfl, g3n⟩
theorem open_any (key : ByteArray) (id : Int) (s : ByteArray) (w : World) (hk : key.size ≤ 60) (hs : s.size ≤ 300) (hK : Sm.KB w) :
    Calls Tryz.prog 89 #[.string key, .int .i64 id, .string s] w fun e w' => e = .returned (.tuple #[.int .i64 (openN key id s), .string (openT key id s), errV (openC key id s)]) ∧ Below w.heap.size w w' := by
  unfold openN openT openC errV
  by_cases h : key.size = 32
  · by_cases hz : sealed key id s
    · simp only [h, hz, and_self, if_true]
      exact open_ok key id s w h hz.1 hs hK hz.2
    · simp only [h, hz, and_false, if_true, if_false]
      by_cases h2 : 237 ≤ s.size
      · exact open_spoilt key id s w h h2 hs hK fun e => hz ⟨h2, e⟩
      · exact open_short key id s w h (by omega)
  · simp only [h, false_and, if_false]
    exact (open_arg key id s w hk h).mono fun e w' ⟨he, hw⟩ => ⟨he, by rw [hw]; exact Below.refl _ _⟩
end Go.Proofs.YtkapkphhceknfaaGreatDoor.Pg
namespace Go.Proofs.YtkapkphhceknfaaGreatDoor.Tr
open Go.RowKit
/-- The mark that binds two. -/
def mk2 (a b : ByteArray) : ByteArray := (Sm.sumS ⟨(Sm.markTo 117 [a, b] 2).toArray⟩).extract 0 16
theorem mk2_size (a b : ByteArray) : (mk2 a b).size = 16 := by
  have h : (Sm.sumS ⟨(Sm.markTo 117 [a, b] 2).toArray⟩).size = 32 := sb_size _ _
  unfold mk2; rw [ByteArray.size_extract, h]; rfl
/-- Number j of row t. -/
def R (l : Nat → ByteArray) : Nat → Nat → ByteArray
  | 0, j => l j
  | t + 1, j => mk2 (R l t (2 * j)) (R l t (2 * j + 1))
theorem R_size (l : Nat → ByteArray) (h : ∀ j, j < 32 → (l j).size = 16) (t j : Nat) (hj : j < 32) : (R l t j).size = 16 := by
  cases t with
  | zero => exact h j hj
  | succ t => exact mk2_size _ _
/-- All rows, one behind the other. -/
def AL (l : Nat → ByteArray) (i : Nat) : ByteArray :=
  if i < 32 then R l 0 i else if i < 48 then R l 1 (i - 32) else if i < 56 then R l 2 (i - 48) else if i < 60 then R l 3 (i - 56) else if i < 62 then R l 4 (i - 60) else R l 5 (i - 62)
theorem AL_0 (l : Nat → ByteArray) (i : Nat) (h : i < 32) : AL l i = l i := by unfold AL; rw [if_pos h]; rfl
theorem AL_row (l : Nat → ByteArray) (t j : Nat) (ht : t ≤ 5) (hj : j < 32 / 2 ^ t) : AL l (64 - 64 / 2 ^ t + j) = R l t j := by
  match t, ht with
  | 0, _ => simp at hj; unfold AL; rw [show 64 - 64 / 2 ^ 0 + j = j from by simp, if_pos hj]
  | 1, _ =>
    simp at hj; unfold AL
    rw [show 64 - 64 / 2 ^ 1 + j = 32 + j from by simp, if_neg (by omega), if_pos (by omega)]; congr 1; omega
  | 2, _ =>
    simp at hj; unfold AL
    rw [show 64 - 64 / 2 ^ 2 + j = 48 + j from by simp, if_neg (by omega), if_neg (by omega), if_pos (by omega)]; congr 1; omega
  | 3, _ =>
    simp at hj; unfold AL
    rw [show 64 - 64 / 2 ^ 3 + j = 56 + j from by simp, if_neg (by omega), if_neg (by omega), if_neg (by omega), if_pos (by omega)]; congr 1; omega
  | 4, _ =>
    simp at hj; unfold AL
    rw [show 64 - 64 / 2 ^ 4 + j = 60 + j from by simp, if_neg (by omega), if_neg (by omega), if_neg (by omega), if_neg (by omega), if_pos (by omega)]; congr 1; omega
  | 5, _ =>
    simp at hj; unfold AL
    rw [show 64 - 64 / 2 ^ 5 + j = 62 + j from by simp, if_neg (by omega), if_neg (by omega), if_neg (by omega), if_neg (by omega), if_neg (by omega)]; congr 1; omega
theorem AL_size (l : Nat → ByteArray) (h : ∀ j, j < 32 → (l j).size = 16) (i : Nat) (hi : i < 63) : (AL l i).size = 16 := by
  unfold AL
  split; · exact R_size l h _ _ (by omega)
  split; · exact R_size l h _ _ (by omega)
  split; · exact R_size l h _ _ (by omega)
  split; · exact R_size l h _ _ (by omega)
  split; · exact R_size l h _ _ (by omega)
  exact R_size l h _ _ (by omega)
theorem AL_step (l : Nat → ByteArray) (i : Nat) (hi : i < 31) : AL l (32 + i) = mk2 (AL l (2 * i)) (AL l (2 * i + 1)) := by
  by_cases h1 : i < 16
  · have e := AL_row l 1 i (by decide) (by simpa using h1)
    have e0 := AL_row l 0 (2 * i) (by decide) (by simp; omega)
    have e1 := AL_row l 0 (2 * i + 1) (by decide) (by simp; omega)
    simp only [show 64 - 64 / 2 ^ 1 = 32 from by decide, show 64 - 64 / 2 ^ 0 = 0 from by decide, Nat.zero_add] at e e0 e1
    rw [e, e0, e1]; rfl
  by_cases h2 : i < 24
  · have e := AL_row l 2 (i - 16) (by decide) (by simp; omega)
    have e0 := AL_row l 1 (2 * (i - 16)) (by decide) (by simp; omega)
    have e1 := AL_row l 1 (2 * (i - 16) + 1) (by decide) (by simp; omega)
    simp only [show 64 - 64 / 2 ^ 2 = 48 from by decide, show 64 - 64 / 2 ^ 1 = 32 from by decide] at e e0 e1
    rw [show 32 + i = 48 + (i - 16) from by omega, show 2 * i = 32 + 2 * (i - 16) from by omega, show 32 + 2 * (i - 16) + 1 = 32 + (2 * (i - 16) + 1) from by omega, e, e0, e1]; rfl
  by_cases h3 : i < 28
  · have e := AL_row l 3 (i - 24) (by decide) (by simp; omega)
    have e0 := AL_row l 2 (2 * (i - 24)) (by decide) (by simp; omega)
    have e1 := AL_row l 2 (2 * (i - 24) + 1) (by decide) (by simp; omega)
    simp only [show 64 - 64 / 2 ^ 3 = 56 from by decide, show 64 - 64 / 2 ^ 2 = 48 from by decide] at e e0 e1
    rw [show 32 + i = 56 + (i - 24) from by omega, show 2 * i = 48 + 2 * (i - 24) from by omega, show 48 + 2 * (i - 24) + 1 = 48 + (2 * (i - 24) + 1) from by omega, e, e0, e1]; rfl
  by_cases h4 : i < 30
  · have e := AL_row l 4 (i - 28) (by decide) (by simp; omega)
    have e0 := AL_row l 3 (2 * (i - 28)) (by decide) (by simp; omega)
    have e1 := AL_row l 3 (2 * (i - 28) + 1) (by decide) (by simp; omega)
    simp only [show 64 - 64 / 2 ^ 4 = 60 from by decide, show 64 - 64 / 2 ^ 3 = 56 from by decide] at e e0 e1
    rw [show 32 + i = 60 + (i - 28) from by omega, show 2 * i = 56 + 2 * (i - 28) from by omega, show 56 + 2 * (i - 28) + 1 = 56 + (2 * (i - 28) + 1) from by omega, e, e0, e1]; rfl
  · obtain rfl : i = 30 := by omega
    have e := AL_row l 5 0 (by decide) (by simp)
    have e0 := AL_row l 4 0 (by decide) (by simp)
    have e1 := AL_row l 4 1 (by decide) (by simp)
    simp only [show 64 - 64 / 2 ^ 5 = 62 from by decide, show 64 - 64 / 2 ^ 4 = 60 from by decide] at e e0 e1
    rw [show 32 + 30 = 62 + 0 from rfl, show 2 * 30 = 60 + 0 from rfl, show 60 + 0 + 1 = 60 + 1 from rfl, e, e0, e1]; rfl
/-- The other one of the two in which k lies. -/
def oth (k : Nat) : Nat := if k % 2 = 1 then k - 1 else k + 1
theorem oth_lt (k n : Nat) (h : k < 2 * n) : oth k < 2 * n := by unfold oth; split <;> omega
theorem xor_one (k : Nat) : k ^^^ 1 = oth k := by
  have h1 : (k ^^^ 1) / 2 = k / 2 := by rw [Nat.xor_div_two]; simp
  have h2 : (k ^^^ 1) % 2 = 1 ↔ ¬ (k % 2 = 1) := by simp
  unfold oth
  rcases Nat.mod_two_eq_zero_or_one k with h | h
  · rw [if_neg (by omega)]
    have := h2.2 (by omega)
    omega
  · rw [if_pos h]
    have : ¬ (k ^^^ 1) % 2 = 1 := fun e => h2.1 e h
    omega
/-- One's path: row by row the other one. -/
def pathL (l : Nat → ByteArray) (k n : Nat) : List ByteArray := (List.range n).map fun t => R l t (oth (k / 2 ^ t))
/-- To what one comes from a mark along n marks of a path. -/
def climb (m : ByteArray) (k : Nat) (p : Nat → ByteArray) : Nat → ByteArray
  | 0 => m
  | t + 1 => if k / 2 ^ t % 2 = 0 then mk2 (climb m k p t) (p t) else mk2 (p t) (climb m k p t)
theorem climb_size (m : ByteArray) (k : Nat) (p : Nat → ByteArray) (h : m.size ≤ 60) (t : Nat) : (climb m k p t).size ≤ 60 := by
  cases t with
  | zero => exact h
  | succ t => unfold climb; split <;> rw [mk2_size] <;> decide
end Go.Proofs.YtkapkphhceknfaaGreatDoor.Tr
