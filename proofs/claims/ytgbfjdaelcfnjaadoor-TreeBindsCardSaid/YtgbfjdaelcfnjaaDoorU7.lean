/-
  Part of the proof of TreeBinds: the code's Verify is walked.
-/
import Derived.Test.YtgbfjdaelcfnjaaDoorU6
namespace Go.Proofs.YtgbfjdaelcfnjaaDoor.Tr
open Go.RowKit Go.Shelf
/-- What Verify says. -/
def verP (m : ByteArray) (k : Int) (p : Nat → ByteArray) (n : Nat) : Bool := decide (m.size = 16) && (decide (0 ≤ k ∧ k < 32) && (decide (n = 5) && marksB p n))
def verB (root m : ByteArray) (k : Int) (p : Nat → ByteArray) (n : Nat) : Bool := verP m k p n && ((climb m k.toNat p 5).toList == root.toList)
theorem climb_len (m : ByteArray) (k : Nat) (p : Nat → ByteArray) (h : m.size = 16) (t : Nat) : (climb m k p t).size = 16 := by
  cases t with
  | zero => exact h
  | succ t => unfold climb; split <;> exact mk2_size _ _
theorem climb_even (m : ByteArray) (k : Nat) (p : Nat → ByteArray) (t : Nat) (h : k / 2 ^ t % 2 = 0) : mk2 (climb m k p t) (p t) = climb m k p (t + 1) := by
  show _ = if k / 2 ^ t % 2 = 0 then _ else _
  rw [if_pos h]
theorem climb_odd (m : ByteArray) (k : Nat) (p : Nat → ByteArray) (t : Nat) (h : ¬ k / 2 ^ t % 2 = 0) : mk2 (p t) (climb m k p t) = climb m k p (t + 1) := by
  show _ = if k / 2 ^ t % 2 = 0 then _ else _
  rw [if_neg h]
set_option maxRecDepth 100000 in
set_option maxHeartbeats 1000000 in
theorem verify_any (root m : ByteArray) (k : Int) (a : Option Addr) (n c : Nat) (p : Nat → ByteArray) (w : World) (hT : Tx w a p n) (hn : n ≤ 40) (hs : ∀ i, i < n → (p i).size ≤ 60) (hK : Sm.KB w) :
    Calls Tryd.prog 64 #[.string root, .string m, .int .i64 k, .slice a n c] w fun e w' => e = .returned (.bool (verB root m k p n)) ∧ Below w.heap.size w w' := by
  have ha := are_any a n c p 5 w hT hn hs (by decide)
  have hp := isPlace_any k w
  by_cases h1 : ¬ m.size = 16
  · have e1 : verB root m k p n = false := by unfold verB verP; simp [h1]
    have d1 : ((m.size : Int) == 16) = false := by simp; omega
    rw [e1]
    go_enter Tryd.func64, Tryd.ntmps64
    go_wp2_with fail
    go_ret
    exact ⟨rfl, Below.refl _ _⟩
  have h1 := Classical.not_not.1 h1
  have d1 : ((m.size : Int) == 16) = true := by simp; omega
  by_cases h2 : ¬ (0 ≤ k ∧ k < 32)
  · have e1 : verB root m k p n = false := by unfold verB verP; rw [decide_eq_false h2]; simp
    rw [decide_eq_false h2] at hp
    rw [e1]
    go_enter Tryd.func64, Tryd.ntmps64
    go_wp2_with (go_at_call 110; refine hp.mono ?_; clear hp; rintro e _ ⟨rfl, hw'⟩; rw [hw']; clear hw')
    go_ret
    exact ⟨rfl, Below.refl _ _⟩
  have h2 := Classical.not_not.1 h2
  rw [decide_eq_true h2] at hp
  cases h3 : decide (n = 5) && marksB p n with
  | false =>
    have e1 : verB root m k p n = false := by unfold verB verP; rw [h3]; simp
    rw [h3] at ha
    rw [e1]
    go_enter Tryd.func64, Tryd.ntmps64
    go_wp2_with first
      | (go_at_call 110; refine hp.mono ?_; clear hp; rintro e _ ⟨rfl, hw'⟩; rw [hw']; clear hw')
      | (go_at_call 108; refine ha.mono ?_; clear ha; rintro e _ ⟨rfl, hw'⟩; rw [hw']; clear hw')
    go_ret
    exact ⟨rfl, Below.refl _ _⟩
  | true =>
    rw [h3] at ha
    have e1 : Hid (verB root m k p n = ((climb m k.toNat p 5).toList == root.toList)) := by unfold Hid verB verP; rw [h3, decide_eq_true h1, decide_eq_true h2]; rfl
    obtain ⟨q, rfl⟩ : ∃ q : Nat, k = (q : Int) := ⟨k.toNat, by omega⟩
    rw [Int.toNat_natCast] at e1
    have hq : q < 32 := by omega
    simp only [Bool.and_eq_true, decide_eq_true_eq] at h3
    obtain ⟨rfl, hmk⟩ := h3
    have hmk' := marksB_spec.1 hmk
    clear hmk hs h2 hn
    go_enter Tryd.func64, Tryd.ntmps64
    go_wp2_with first
      | (go_at_call 110; refine hp.mono ?_; clear hp; rintro e _ ⟨rfl, hw'⟩; rw [hw']; clear hw')
      | (go_at_call 108; refine ha.mono ?_; clear ha; rintro e _ ⟨rfl, hw'⟩; rw [hw']; clear hw')
    go_loopw [2, 9, 28] (fun kv ov iv wr => ∃ t : Nat, t ≤ 5 ∧ kv = .int .i64 ((q / 2 ^ t : Nat) : Int) ∧ ov = .string (climb m q p t) ∧ iv = .int .i64 (t : Int) ∧ Below w.heap.size w wr) (fun _ _ iv _ => 5 - (intOf iv).toNat)
    case atStart => exact ⟨0, by decide, by simp, rfl, rfl, Below.refl _ _⟩
    case round =>
      obtain ⟨t, ht, rfl, rfl, rfl, gr⟩ := hrel
      by_cases h5 : t < 5
      · have h5' : (t : Int) < 5 := by omega
        have ht0 : (0 : Int) ≤ (t : Int) := by omega
        obtain ⟨g, o, rfl, hg, hc⟩ := (hT.below gr) t h5
        have hkk := div_le q t
        have hd2 : Hid (q / 2 ^ t / 2 = q / 2 ^ (t + 1)) := div_pow q t
        have sx : (p t).size ≤ 300 := by rw [hmk' t h5]; decide
        have sc : (climb m q p t).size ≤ 300 := by rw [climb_len m q p h1 t]; decide
        by_cases hev : q / 2 ^ t % 2 = 0
        · have hcl : Hid (mk2 (climb m q p t) (p t) = climb m q p (t + 1)) := climb_even m q p t hev
          generalize climb m q p t = x at *
          generalize p t = y at *
          generalize q / 2 ^ t = kk at *
          obtain ⟨k2, hk2⟩ : ∃ k2 : Nat, k2 = kk / 2 := ⟨_, rfl⟩
          rw [← hk2] at hd2
          have hq1 : (kk : Int).tdiv 2 = (k2 : Int) := by rw [Int.tdiv_eq_ediv_of_nonneg (by omega)]; omega
          have hq2 : (kk : Int) / 2 = (k2 : Int) := by omega
          have hr1 : (kk : Int).tmod 2 = 0 := by rw [Int.tmod_eq_emod_of_nonneg (by omega)]; omega
          have hr2 : (kk : Int) % 2 = 0 := by omega
          clear hk2 hev
          go_wp2_with (go_at_call 111; refine (bind_any _ _ _ sc sx (hK.below gr)).mono ?_; rintro e w1 ⟨rfl, g1⟩)
          go_light
          exact ⟨⟨t + 1, by omega, by rw [hd2.out], by rw [hcl.out], by go_num, gr.trans (g1.mono gr.size)⟩, by simp [intOf]; omega⟩
        · have hcl : Hid (mk2 (p t) (climb m q p t) = climb m q p (t + 1)) := climb_odd m q p t hev
          generalize climb m q p t = x at *
          generalize p t = y at *
          generalize q / 2 ^ t = kk at *
          obtain ⟨k2, hk2⟩ : ∃ k2 : Nat, k2 = kk / 2 := ⟨_, rfl⟩
          rw [← hk2] at hd2
          have hq1 : (kk : Int).tdiv 2 = (k2 : Int) := by rw [Int.tdiv_eq_ediv_of_nonneg (by omega)]; omega
          have hq2 : (kk : Int) / 2 = (k2 : Int) := by omega
          have hr1 : (kk : Int).tmod 2 = 1 := by rw [Int.tmod_eq_emod_of_nonneg (by omega)]; omega
          have hr2 : (kk : Int) % 2 = 1 := by omega
          clear hk2 hev
          go_wp2_with (go_at_call 111; refine (bind_any _ _ _ sx sc (hK.below gr)).mono ?_; rintro e w1 ⟨rfl, g1⟩)
          go_light
          exact ⟨⟨t + 1, by omega, by rw [hd2.out], by rw [hcl.out], by go_num, gr.trans (g1.mono gr.size)⟩, by simp [intOf]; omega⟩
      · obtain rfl : t = 5 := by omega
        generalize climb m q p 5 = x at *
        generalize q / 2 ^ 5 = kk at *
        go_wp2_with fail
        go_ret
        refine ⟨?_, gr⟩
        rw [e1.out]
        rfl
end Go.Proofs.YtgbfjdaelcfnjaaDoor.Tr
