/-
  Part of the proof: Seal of the code is walked.
-/
import Derived.Test.YtmfbfhkhfhphfabGreatDoorB09
import Derived.Test.YtmfbfhkhfhphfabGreatDoorB12
namespace Go.Proofs.YtmfbfhkhfhphfabGreatDoor.Pg
open Go.RowKit
/-- An error without a place; 0: none. -/
def errV (n : Int) : Value := if n = 0 then .nilIface else .iface 42 (.int .i64 n)
/-- The nonce of a page. -/
def nonceT (key : ByteArray) (id v : Int) (s : ByteArray) : ByteArray := (mk 110 [key, numS id, numS v, s]).extract 0 12
theorem nonceT_size (key : ByteArray) (id v : Int) (s : ByteArray) : (nonceT key id v s).size = 12 := by
  unfold nonceT; rw [ByteArray.size_extract, mk_size]; rfl
/-- All that stands ahead of the seal. -/
def aheadT (key : ByteArray) (id v : Int) (s : ByteArray) : ByteArray := numS v ++ nonceT key id v s ++ sb 201 (xorF key (nonceT key id v s) (padT s))
theorem aheadT_size (key : ByteArray) (id v : Int) (s : ByteArray) : (aheadT key id v s).size = 221 := by
  unfold aheadT; rw [ByteArray.size_append, ByteArray.size_append, numS_size, nonceT_size, sb_size]
/-- A sealed text. -/
def sealT (key : ByteArray) (id v : Int) (s : ByteArray) : ByteArray := aheadT key id v s ++ mk 103 [key, numS id, aheadT key id v s]
theorem sealT_size (key : ByteArray) (id v : Int) (s : ByteArray) : (sealT key id v s).size = 237 := by
  unfold sealT; rw [ByteArray.size_append, aheadT_size, mk_size]
def sealOk (key : ByteArray) (id v : Int) : Prop := key.size = 32 ∧ 0 ≤ id ∧ id ≤ 31 ∧ 1 ≤ v ∧ v ≤ 1099511627776
instance (key : ByteArray) (id v : Int) : Decidable (sealOk key id v) := by unfold sealOk; infer_instance
def sealC (key : ByteArray) (id v : Int) (s : ByteArray) : Int := if sealOk key id v then (if s.size ≤ 200 then 0 else 4) else 1
def sealV (key : ByteArray) (id v : Int) (s : ByteArray) : ByteArray := if sealOk key id v ∧ s.size ≤ 200 then sealT key id v s else ⟨#[]⟩
theorem sealV_size (key : ByteArray) (id v : Int) (s : ByteArray) : (sealV key id v s).size ≤ 237 := by
  unfold sealV; split
  · rw [sealT_size]; exact Nat.le_refl _
  · exact Nat.zero_le _
set_option maxRecDepth 100000 in
set_option maxHeartbeats 1000000 in
theorem seal_ok (key : ByteArray) (id v : Int) (s : ByteArray) (w : World) (hk : key.size = 32) (h0 : 0 ≤ id) (h1 : id ≤ 31) (h2 : 1 ≤ v) (h3 : v ≤ 1099511627776) (hs : s.size ≤ 200) (hK : Sm.KB w) :
    Calls Tryz.prog 98 #[.string key, .int .i64 id, .int .i64 v, .string s] w fun e w' => e = .returned (.tuple #[.string (sealT key id v s), .nilIface]) ∧ Below w.heap.size w w' := by
  have hn := numS_size id
  have hv := numS_size v
  have hs' : (s.size : Int) ≤ 200 := by omega
  have eN : Hid ((mk 110 [key, numS id, numS v, s]).extract 0 12 = nonceT key id v s) := by unfold Hid nonceT; rfl
  have eX : Hid (xorV key (nonceT key id v s) (padT s) = .tuple #[.string (sb 201 (xorF key (nonceT key id v s) (padT s))), .nilIface]) := by
    unfold Hid xorV; rw [if_pos ⟨hk, nonceT_size _ _ _ _⟩, padT_size s hs]
  have eA : Hid (numS v ++ nonceT key id v s ++ sb 201 (xorF key (nonceT key id v s) (padT s)) = aheadT key id v s) := rfl
  have eS : Hid (aheadT key id v s ++ mk 103 [key, numS id, aheadT key id v s] = sealT key id v s) := rfl
  have zN := nonceT_size key id v s
  have zP := padT_size s hs
  have zX := sb_size 201 (xorF key (nonceT key id v s) (padT s))
  have zA := aheadT_size key id v s
  have zM := mk_size 110 [key, numS id, numS v, s]
  have zG := mk_size 103 [key, numS id, aheadT key id v s]
  generalize sealT key id v s = T at *
  generalize aheadT key id v s = A at *
  generalize nonceT key id v s = N at *
  generalize sb 201 (xorF key N (padT s)) = X at *
  have d1 : decide (id < 0) = false := decide_eq_false (by omega)
  have d2 : decide (32 ≤ id) = false := decide_eq_false (by omega)
  have d3 : decide (v < 1) = false := decide_eq_false (by omega)
  have d4 : decide (1099511627776 < v) = false := decide_eq_false (by omega)
  have d5 : decide ((200 : Int) < (s.size : Int)) = false := decide_eq_false (by omega)
  clear hs' h0 h1 h2 h3
  go_enter Tryz.func98, Tryz.ntmps98
  go_wp2_with fail
  refine (num_s id _).mono ?_
  rintro e w1 ⟨rfl, g1⟩
  go_wp2_with fail
  refine (num_s v _).mono ?_
  rintro e w2 ⟨rfl, g2⟩
  have g2' := g1.trans (g2.mono g1.size)
  go_wp2_with fail
  have g3 := below_alloc w2 (.cells #[.string key, .string (numS id), .string (numS v), .string s] 9)
  have g3' := g2'.trans (g3.mono g2'.size)
  refine (mark4 110 _ rfl (Blk.new w2 _ 9) (by omega) (by omega) (by omega) (by omega) (hK.below g3')).mono ?_
  rintro e w3 ⟨rfl, g4⟩
  have g4' := g3'.trans (g4.mono g3'.size)
  clear g1 g2 g2' g3 g3' g4
  go_wp2_with fail
  rw [eN.out]
  refine (padded_any s _ hs).mono ?_
  rintro e w4 ⟨rfl, g5⟩
  have g5' := g4'.trans (g5.mono g4'.size)
  go_wp2_with fail
  refine (xor_any key N (padT s) _ (by omega) (by omega) (by omega)).mono ?_
  rintro e w5 ⟨rfl, g6⟩
  have g6' := g5'.trans (g6.mono g5'.size)
  rw [eX.out]
  clear g4' g5 g5' g6
  go_wp2_with fail
  refine (num_s v _).mono ?_
  rintro e w6 ⟨rfl, g7⟩
  have g7' := g6'.trans (g7.mono g6'.size)
  have zA1 : (numS v ++ N).size = 20 := by rw [ByteArray.size_append]; omega
  go_wp2_with fail
  rw [eA.out]
  refine (pseal_any key id A _ (by omega) (by omega) (hK.below g7')).mono ?_
  rintro e w7 ⟨rfl, g8⟩
  have g8' := g7'.trans (g8.mono g7'.size)
  go_wp2
  go_ret2
  rw [eS.out]
  exact ⟨rfl, g8'⟩
set_option maxRecDepth 100000 in
set_option maxHeartbeats 1000000 in
theorem seal_limit (key : ByteArray) (id v : Int) (s : ByteArray) (w : World) (hk : key.size = 32) (h0 : 0 ≤ id) (h1 : id ≤ 31) (h2 : 1 ≤ v) (h3 : v ≤ 1099511627776) (hs : 200 < s.size) (hm : s.size ≤ 300) :
    Calls Tryz.prog 98 #[.string key, .int .i64 id, .int .i64 v, .string s] w fun e w' => e = .returned (.tuple #[.string ⟨#[]⟩, .iface 42 (.int .i64 4)]) ∧ w' = w := by
  have d1 : decide (id < 0) = false := decide_eq_false (by omega)
  have d2 : decide (32 ≤ id) = false := decide_eq_false (by omega)
  have d3 : decide (v < 1) = false := decide_eq_false (by omega)
  have d4 : decide (1099511627776 < v) = false := decide_eq_false (by omega)
  have d5 : decide ((200 : Int) < (s.size : Int)) = true := decide_eq_true (by omega)
  clear h0 h1 h2 h3
  go_enter Tryz.func98, Tryz.ntmps98
  go_wp2
  go_ret2
  exact ⟨rfl, rfl⟩
set_option maxRecDepth 100000 in
set_option maxHeartbeats 1000000 in
theorem seal_arg (key : ByteArray) (id v : Int) (s : ByteArray) (w : World) (_hz : key.size ≤ 60) (h : ¬ sealOk key id v) :
    Calls Tryz.prog 98 #[.string key, .int .i64 id, .int .i64 v, .string s] w fun e w' => e = .returned (.tuple #[.string ⟨#[]⟩, .iface 42 (.int .i64 1)]) ∧ w' = w := by
  unfold sealOk at h
  by_cases hk : key.size = 32
  · by_cases h1 : id < 0
    · have d1 : decide (id < 0) = true := decide_eq_true h1
      go_enter Tryz.func98, Tryz.ntmps98
      go_wp2
      go_ret2
      exact ⟨rfl, rfl⟩
    have d1 : decide (id < 0) = false := decide_eq_false h1
    by_cases h2 : 32 ≤ id
    · have d2 : decide (32 ≤ id) = true := decide_eq_true h2
      go_enter Tryz.func98, Tryz.ntmps98
      go_wp2
      go_ret2
      exact ⟨rfl, rfl⟩
    have d2 : decide (32 ≤ id) = false := decide_eq_false h2
    by_cases h3 : v < 1
    · have d3 : decide (v < 1) = true := decide_eq_true h3
      go_enter Tryz.func98, Tryz.ntmps98
      go_wp2
      go_ret2
      exact ⟨rfl, rfl⟩
    have d3 : decide (v < 1) = false := decide_eq_false h3
    have d4 : decide (1099511627776 < v) = true := decide_eq_true (by omega)
    clear h h1 h2 h3
    go_enter Tryz.func98, Tryz.ntmps98
    go_wp2
    go_ret2
    exact ⟨rfl, rfl⟩
  · have d0 : decide ((key.size : Int) = 32) = false := decide_eq_false (by omega)
    go_enter Tryz.func98, Tryz.ntmps98
    go_wp2
    go_ret2
    exact ⟨rfl, rfl⟩
theorem seal_any (key : ByteArray) (id v : Int) (s : ByteArray) (w : World) (hk : key.size ≤ 60) (hs : s.size ≤ 300) (hK : Sm.KB w) :
    Calls Tryz.prog 98 #[.string key, .int .i64 id, .int .i64 v, .string s] w fun e w' => e = .returned (.tuple #[.string (sealV key id v s), errV (sealC key id v s)]) ∧ Below w.heap.size w w' := by
  unfold sealV sealC errV
  by_cases h : sealOk key id v
  · obtain ⟨h1, h2, h3, h4, h5⟩ := h
    have h : sealOk key id v := ⟨h1, h2, h3, h4, h5⟩
    by_cases hz : s.size ≤ 200
    · simp only [h, hz, and_self, if_true]
      exact seal_ok key id v s w h1 h2 h3 h4 h5 hz hK
    · simp only [h, hz, and_false, if_true, if_false]
      exact (seal_limit key id v s w h1 h2 h3 h4 h5 (by omega) hs).mono fun e w' ⟨he, hw⟩ => ⟨he, by rw [hw]; exact Below.refl _ _⟩
  · simp only [h, false_and, if_false]
    exact (seal_arg key id v s w hk h).mono fun e w' ⟨he, hw⟩ => ⟨he, by rw [hw]; exact Below.refl _ _⟩
end Go.Proofs.YtmfbfhkhfhphfabGreatDoor.Pg
