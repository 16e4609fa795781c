/-
  Part of the proof of TreeBinds: the plain tree: a mark that binds two, its rows, its root, one's path, and what a path leads to.
-/
import Derived.Test.YtgbfjdaelcfnjaaDoorSmX3
namespace Go.Proofs.YtgbfjdaelcfnjaaDoor.Tr
open Go.RowKit
/-- The mark that binds two. -/
def mk2 (a b : ByteArray) : ByteArray := (Sm.sumS ⟨(Sm.markTo 117 [a, b] 2).toArray⟩).extract 0 16
theorem mk2_size (a b : ByteArray) : (mk2 a b).size = 16 := by
  have h : (Sm.sumS ⟨(Sm.markTo 117 [a, b] 2).toArray⟩).size = 32 := sb_size _ _
  unfold mk2; rw [ByteArray.size_extract, h]; rfl
/-- Number j of row t. -/
def R (l : Nat → ByteArray) : Nat → Nat → ByteArray
  | 0, j => l j
  | t + 1, j => mk2 (R l t (2 * j)) (R l t (2 * j + 1))
theorem R_size (l : Nat → ByteArray) (h : ∀ j, j < 32 → (l j).size = 16) (t j : Nat) (hj : j < 32) : (R l t j).size = 16 := by
  cases t with
  | zero => exact h j hj
  | succ t => exact mk2_size _ _
/-- All rows, one behind the other. -/
def AL (l : Nat → ByteArray) (i : Nat) : ByteArray :=
  if i < 32 then R l 0 i else if i < 48 then R l 1 (i - 32) else if i < 56 then R l 2 (i - 48) else if i < 60 then R l 3 (i - 56) else if i < 62 then R l 4 (i - 60) else R l 5 (i - 62)
theorem AL_0 (l : Nat → ByteArray) (i : Nat) (h : i < 32) : AL l i = l i := by unfold AL; rw [if_pos h]; rfl
theorem AL_row (l : Nat → ByteArray) (t j : Nat) (ht : t ≤ 5) (hj : j < 32 / 2 ^ t) : AL l (64 - 64 / 2 ^ t + j) = R l t j := by
  match t, ht with
  | 0, _ => simp at hj; unfold AL; rw [show 64 - 64 / 2 ^ 0 + j = j from by simp, if_pos hj]
  | 1, _ =>
    simp at hj; unfold AL
    rw [show 64 - 64 / 2 ^ 1 + j = 32 + j from by simp, if_neg (by omega), if_pos (by omega)]; congr 1; omega
  | 2, _ =>
    simp at hj; unfold AL
    rw [show 64 - 64 / 2 ^ 2 + j = 48 + j from by simp, if_neg (by omega), if_neg (by omega), if_pos (by omega)]; congr 1; omega
  | 3, _ =>
    simp at hj; unfold AL
    rw [show 64 - 64 / 2 ^ 3 + j = 56 + j from by simp, if_neg (by omega), if_neg (by omega), if_neg (by omega), if_pos (by omega)]; congr 1; omega
  | 4, _ =>
    simp at hj; unfold AL
    rw [show 64 - 64 / 2 ^ 4 + j = 60 + j from by simp, if_neg (by omega), if_neg (by omega), if_neg (by omega), if_neg (by omega), if_pos (by omega)]; congr 1; omega
  | 5, _ =>
    simp at hj; unfold AL
    rw [show 64 - 64 / 2 ^ 5 + j = 62 + j from by simp, if_neg (by omega), if_neg (by omega), if_neg (by omega), if_neg (by omega), if_neg (by omega)]; congr 1; omega
theorem AL_size (l : Nat → ByteArray) (h : ∀ j, j < 32 → (l j).size = 16) (i : Nat) (hi : i < 63) : (AL l i).size = 16 := by
  unfold AL
  split; · exact R_size l h _ _ (by omega)
  split; · exact R_size l h _ _ (by omega)
  split; · exact R_size l h _ _ (by omega)
  split; · exact R_size l h _ _ (by omega)
  split; · exact R_size l h _ _ (by omega)
  exact R_size l h _ _ (by omega)
theorem AL_step (l : Nat → ByteArray) (i : Nat) (hi : i < 31) : AL l (32 + i) = mk2 (AL l (2 * i)) (AL l (2 * i + 1)) := by
  by_cases h1 : i < 16
  · have e := AL_row l 1 i (by decide) (by simpa using h1)
    have e0 := AL_row l 0 (2 * i) (by decide) (by simp; omega)
    have e1 := AL_row l 0 (2 * i + 1) (by decide) (by simp; omega)
    simp only [show 64 - 64 / 2 ^ 1 = 32 from by decide, show 64 - 64 / 2 ^ 0 = 0 from by decide, Nat.zero_add] at e e0 e1
    rw [e, e0, e1]; rfl
  by_cases h2 : i < 24
  · have e := AL_row l 2 (i - 16) (by decide) (by simp; omega)
    have e0 := AL_row l 1 (2 * (i - 16)) (by decide) (by simp; omega)
    have e1 := AL_row l 1 (2 * (i - 16) + 1) (by decide) (by simp; omega)
    simp only [show 64 - 64 / 2 ^ 2 = 48 from by decide, show 64 - 64 / 2 ^ 1 = 32 from by decide] at e e0 e1
    rw [show 32 + i = 48 + (i - 16) from by omega, show 2 * i = 32 + 2 * (i - 16) from by omega, show 32 + 2 * (i - 16) + 1 = 32 + (2 * (i - 16) + 1) from by omega, e, e0, e1]; rfl
  by_cases h3 : i < 28
  · have e := AL_row l 3 (i - 24) (by decide) (by simp; omega)
    have e0 := AL_row l 2 (2 * (i - 24)) (by decide) (by simp; omega)
    have e1 := AL_row l 2 (2 * (i - 24) + 1) (by decide) (by simp; omega)
    simp only [show 64 - 64 / 2 ^ 3 = 56 from by decide, show 64 - 64 / 2 ^ 2 = 48 from by decide] at e e0 e1
    rw [show 32 + i = 56 + (i - 24) from by omega, show 2 * i = 48 + 2 * (i - 24) from by omega, show 48 + 2 * (i - 24) + 1 = 48 + (2 * (i - 24) + 1) from by omega, e, e0, e1]; rfl
  by_cases h4 : i < 30
  · have e := AL_row l 4 (i - 28) (by decide) (by simp; omega)
    have e0 := AL_row l 3 (2 * (i - 28)) (by decide) (by simp; omega)
    have e1 := AL_row l 3 (2 * (i - 28) + 1) (by decide) (by simp; omega)
    simp only [show 64 - 64 / 2 ^ 4 = 60 from by decide, show 64 - 64 / 2 ^ 3 = 56 from by decide] at e e0 e1
    rw [show 32 + i = 60 + (i - 28) from by omega, show 2 * i = 56 + 2 * (i - 28) from by omega, show 56 + 2 * (i - 28) + 1 = 56 + (2 * (i - 28) + 1) from by omega, e, e0, e1]; rfl
  · obtain rfl : i = 30 := by omega
    have e := AL_row l 5 0 (by decide) (by simp)
    have e0 := AL_row l 4 0 (by decide) (by simp)
    have e1 := AL_row l 4 1 (by decide) (by simp)
    simp only [show 64 - 64 / 2 ^ 5 = 62 from by decide, show 64 - 64 / 2 ^ 4 = 60 from by decide] at e e0 e1
    rw [show 32 + 30 = 62 + 0 from rfl, show 2 * 30 = 60 + 0 from rfl, show 60 + 0 + 1 = 60 + 1 from rfl, e, e0, e1]; rfl
/-- The other one of the two in which k lies. -/
def oth (k : Nat) : Nat := if k % 2 = 1 then k - 1 else k + 1
theorem oth_lt (k n : Nat) (h : k < 2 * n) : oth k < 2 * n := by unfold oth; split <;> omega
theorem xor_one (k : Nat) : k ^^^ 1 = oth k := by
  have h1 : (k ^^^ 1) / 2 = k / 2 := by rw [Nat.xor_div_two]; simp
  have h2 : (k ^^^ 1) % 2 = 1 ↔ ¬ (k % 2 = 1) := by simp
  unfold oth
  rcases Nat.mod_two_eq_zero_or_one k with h | h
  · rw [if_neg (by omega)]
    have := h2.2 (by omega)
    omega
  · rw [if_pos h]
    have : ¬ (k ^^^ 1) % 2 = 1 := fun e => h2.1 e h
    omega
/-- One's path: row by row the other one. -/
def pathL (l : Nat → ByteArray) (k n : Nat) : List ByteArray := (List.range n).map fun t => R l t (oth (k / 2 ^ t))
/-- To what one comes from a mark along n marks of a path. -/
def climb (m : ByteArray) (k : Nat) (p : Nat → ByteArray) : Nat → ByteArray
  | 0 => m
  | t + 1 => if k / 2 ^ t % 2 = 0 then mk2 (climb m k p t) (p t) else mk2 (p t) (climb m k p t)
theorem climb_size (m : ByteArray) (k : Nat) (p : Nat → ByteArray) (h : m.size ≤ 60) (t : Nat) : (climb m k p t).size ≤ 60 := by
  cases t with
  | zero => exact h
  | succ t => unfold climb; split <;> rw [mk2_size] <;> decide
end Go.Proofs.YtgbfjdaelcfnjaaDoor.Tr
