/-
  Part of the proof of SumTells: a padded text's plain sum, block by block, read as one list of bytes, is the plain sum of the text.
-/
import Derived.Test.YtfkgfakjhjbidaaDoorSmW5
namespace Go.Proofs.YtfkgfakjhjbidaaDoor.Sm
theorem sw_congr (m m' : Nat → BitVec 32) (h : ∀ t, t < 16 → m t = m' t) (t : Nat) : sw m t = sw m' t := by
  induction t using Nat.strongRecOn with
  | _ t ih =>
    by_cases ht : t < 16
    · rw [sw_lo _ _ ht, sw_lo _ _ ht, h t ht]
    · rw [sw_hi _ _ ht, sw_hi _ _ ht, ih (t - 16) (by omega), ih (t - 15) (by omega), ih (t - 7) (by omega), ih (t - 2) (by omega)]
theorem rounds_congr (s : St) (m m' : Nat → BitVec 32) (h : ∀ t, t < 16 → m t = m' t) (k : Nat) : s.rounds m k = s.rounds m' k := by
  induction k with
  | zero => rfl
  | succ k ih => simp only [St.rounds, ih, sw_congr m m' h]
theorem stirF_congr (f m m' : Nat → BitVec 32) (h : ∀ t, t < 16 → m t = m' t) : stirF f m = stirF f m' := by
  funext j; unfold stirF; rw [rounds_congr _ m m' h]
def bL (M : List UInt8) (i : Nat) : Nat := (M.getD i 0).toNat
/-- The words of chunk c of a text. -/
def mL (M : List UInt8) (c t : Nat) : BitVec 32 := wordN (bL M (64 * c + 4 * t)) (bL M (64 * c + 4 * t + 1)) (bL M (64 * c + 4 * t + 2)) (bL M (64 * c + 4 * t + 3))
/-- The state behind c chunks of a text. -/
def chM (M : List UInt8) : Nat → Nat → BitVec 32
  | 0 => hF
  | c + 1 => stirF (chM M c) (mL M c)
theorem chunks_eq (M : List UInt8) (f : Nat → BitVec 32) (s : ByteArray) (c0 : Nat) (hf : f = chM M c0) (k : Nat) (hs : ∀ i, i < 64 * k → byteAt s i = bL M (64 * c0 + i)) : chunks f s k = chM M (c0 + k) := by
  induction k with
  | zero => exact hf
  | succ k ih =>
    show stirF (chunks f s k) (mOf (s.extract (k * 64) ((k + 1) * 64))) = stirF (chM M (c0 + k)) (mL M (c0 + k))
    rw [ih fun i hi => hs i (by omega)]
    apply stirF_congr
    intro t ht
    unfold mOf mL
    rw [byteAt_extract _ _ _ _ (by omega), byteAt_extract _ _ _ _ (by omega), byteAt_extract _ _ _ _ (by omega), byteAt_extract _ _ _ _ (by omega),
      hs _ (by omega), hs _ (by omega), hs _ (by omega), hs _ (by omega)]
    congr 2 <;> omega
/-- The text of which whole chunks come. -/
def msgL (s : ByteArray) : List UInt8 := s.data.toList ++ padL s.size
theorem padL_length (n : Nat) : (padL n).length = 1 + ((119 - n % 64) % 64 + 8) := by simp [padL]; omega
theorem msgL_length (s : ByteArray) : (msgL s).length = s.size + (1 + ((119 - s.size % 64) % 64 + 8)) := by
  unfold msgL; rw [List.length_append, padL_length]; rfl
theorem msgL_mod (s : ByteArray) : (msgL s).length % 64 = 0 := by rw [msgL_length]; omega
/-- The document's way to a text's sum: chunk by chunk. -/
theorem sumS_eq (s : ByteArray) : sumS s = sb 32 (stB (chM (msgL s) ((msgL s).length / 64))) := by
  have hsz : s.data.toList.length = s.size := rfl
  unfold sumS
  have e1 : chunks hF (s.extract 0 (s.size - s.size % 64)) ((s.size - s.size % 64) / 64) = chM (msgL s) (0 + (s.size - s.size % 64) / 64) := by
    apply chunks_eq (msgL s) hF _ 0 rfl
    intro i hi
    rw [byteAt_extract _ _ _ _ (by omega)]
    unfold byteAt bL msgL
    rw [List.getD_eq_getElem?_getD, List.getD_eq_getElem?_getD, List.getElem?_append_left (by rw [hsz]; omega)]
  have e2 : chunks (chM (msgL s) (0 + (s.size - s.size % 64) / 64)) (s.extract (s.size - s.size % 64) s.size ++ ⟨(padL s.size).toArray⟩) ((s.size - (s.size - s.size % 64) + (padL s.size).length) / 64)
      = chM (msgL s) (0 + (s.size - s.size % 64) / 64 + (s.size - (s.size - s.size % 64) + (padL s.size).length) / 64) := by
    apply chunks_eq (msgL s) _ _ _ rfl
    intro i hi
    have hb : (s.extract (s.size - s.size % 64) s.size ++ ⟨(padL s.size).toArray⟩).data.toList = (msgL s).drop (s.size - s.size % 64) := by
      unfold msgL
      rw [List.drop_append_of_le_length (by rw [hsz]; omega)]
      simp
      rw [List.take_of_length_le (by simp)]
    unfold byteAt bL
    rw [hb, List.getD_eq_getElem?_getD, List.getD_eq_getElem?_getD, List.getElem?_drop]
    congr 3; omega
  simp only [e1, e2]
  congr 3
  rw [msgL_length, padL_length]; omega
theorem ch_eq (e f g : BitVec 32) : g ^^^ e &&& (f ^^^ g) = ch e f g := by
  unfold ch; ext i hi; simp; cases e[i] <;> cases f[i] <;> cases g[i] <;> rfl
theorem maj_eq (a b c : BitVec 32) : a &&& b ||| c &&& (a ||| b) = maj a b c := by
  unfold maj; ext i hi; simp; cases a[i] <;> cases b[i] <;> cases c[i] <;> rfl
theorem sg_comm (a b c d : BitVec 32) : d + c + b + a = a + b + c + d := by ac_rfl
end Go.Proofs.YtfkgfakjhjbidaaDoor.Sm
