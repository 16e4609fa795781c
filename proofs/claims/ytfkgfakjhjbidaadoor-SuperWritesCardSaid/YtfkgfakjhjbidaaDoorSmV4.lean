/-
  Part of the proof of SumTells: the reference's root is walked.
-/
import Derived.Test.YtfkgfakjhjbidaaDoorSmV3
namespace Go.Proofs.YtfkgfakjhjbidaaDoor.Sm
open Go.RowKit
theorem root_unique (k a b N : Nat) (h1 : a ^ k ≤ N) (h2 : N < (a + 1) ^ k) (h3 : b ^ k ≤ N) (h4 : N < (b + 1) ^ k) : a = b := by
  rcases Nat.lt_trichotomy a b with h | h | h
  · have := Nat.pow_le_pow_left (show a + 1 ≤ b from h) k; omega
  · exact h
  · have := Nat.pow_le_pow_left (show b + 1 ≤ a from h) k; omega
/-- What above says of a power. -/
def AboveSaid (k : Nat) : Prop := ∀ (x p : Nat) (w : World), x < 4398046511104 → p < 65536 → Calls Tryd.prog 122 #[.int .u64 (x : Int), .int .i64 (k : Int), .int .u64 (p : Int)] w fun e w' => e = .returned (.bool (decide (p * 2 ^ (32 * k) < x ^ k))) ∧ Below w.heap.size w w'
theorem above2' : AboveSaid 2 := fun x p w hx hp => above2 x p w hx hp
theorem above3' : AboveSaid 3 := fun x p w hx hp => above3 x p w hx hp
set_option maxRecDepth 100000 in
set_option maxHeartbeats 1000000 in
theorem root_any (k p r : Nat) (w : World) (hk : 0 < k) (H : AboveSaid k) (hp : p < 65536) (hN : p * 2 ^ (32 * k) < 1099511627776 ^ k) (h1 : r ^ k ≤ p * 2 ^ (32 * k)) (h2 : p * 2 ^ (32 * k) < (r + 1) ^ k) :
    Calls Tryd.prog 72 #[.int .u64 (p : Int), .int .i64 (k : Int)] w fun e w' => e = .returned (.int .u32 ((r % 4294967296 : Nat) : Int)) ∧ Below w.heap.size w w' := by
  have HN : Hid (p * 2 ^ (32 * k) < 1099511627776 ^ k) := hN
  have HR : Hid (r ^ k ≤ p * 2 ^ (32 * k) ∧ p * 2 ^ (32 * k) < (r + 1) ^ k) := ⟨h1, h2⟩
  clear hN h1 h2
  go_enter Tryd.func72, Tryd.ntmps72
  go_wp2_with fail
  go_loopw [5, 6] (fun l h wr => ∃ lo hi : Nat, l = .int .u64 (lo : Int) ∧ h = .int .u64 (hi : Int) ∧ lo < hi ∧ hi ≤ 1099511627776 ∧ Hid (lo ^ k ≤ p * 2 ^ (32 * k) ∧ p * 2 ^ (32 * k) < hi ^ k) ∧ Below w.heap.size w wr) (fun l h _ => (intOf h - intOf l).toNat)
  case atStart => exact ⟨0, 1099511627776, rfl, rfl, by omega, by omega, ⟨by rw [Nat.zero_pow hk]; omega, HN.out⟩, Below.refl _ _⟩
  case round =>
    obtain ⟨lo, hi, rfl, rfl, hlh, hhi, hin, hbel⟩ := hrel
    by_cases hlt : lo + 1 < hi
    · obtain ⟨m, em⟩ : ∃ m, Hid (m = (lo + hi) / 2) := ⟨_, rfl⟩
      have hm : ((lo : Int) + (hi : Int)) / 2 = (m : Int) := by rw [em.out]; omega
      have m1 : lo < m := by rw [em.out]; omega
      have m2 : m < hi := by rw [em.out]; omega
      go_wp2_with fail
      refine (H m p _ (by omega) hp).mono ?_
      rintro e w1 ⟨rfl, h1⟩
      have hb1 := hbel.trans (h1.mono hbel.size)
      clear em
      by_cases hab : p * 2 ^ (32 * k) < m ^ k
      · have hd : decide (p * 2 ^ (32 * k) < m ^ k) = true := by simp [hab]
        rw [hd]
        have HB : Hid (p * 2 ^ (32 * k) < m ^ k) := hab
        clear hab hd
        go_wp2
        exact ⟨⟨lo, m, rfl, rfl, m1, by omega, ⟨hin.out.1, HB.out⟩, hb1⟩, by simp [intOf]; omega⟩
      · have hd : decide (p * 2 ^ (32 * k) < m ^ k) = false := by simp; omega
        rw [hd]
        have HB : Hid (m ^ k ≤ p * 2 ^ (32 * k)) := by rw [Hid]; omega
        clear hab hd
        go_wp2
        exact ⟨⟨m, hi, rfl, rfl, m2, hhi, ⟨HB.out, hin.out.2⟩, hb1⟩, by simp [intOf]; omega⟩
    · have e1 : hi = lo + 1 := by omega
      have e2 : lo = r := root_unique k lo r _ hin.out.1 (by rw [← e1]; exact hin.out.2) HR.out.1 HR.out.2
      subst e2
      subst e1
      go_wp2
      go_ret
      exact ⟨ret_int (by simp), hbel⟩
end Go.Proofs.YtfkgfakjhjbidaaDoor.Sm
