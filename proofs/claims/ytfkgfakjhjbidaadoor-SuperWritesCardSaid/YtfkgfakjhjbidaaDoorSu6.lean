/-
  Part of the proof: plain facts: a text's parts, read at once or cut off first; a text with 0 behind it.
-/
import Derived.Test.YtfkgfakjhjbidaaDoorSu4
namespace Go.Proofs.YtfkgfakjhjbidaaDoor.Su
open Go.RowKit Pg
theorem bt_ext (s : ByteArray) (a b j : Nat) (h : a + j < b) (_hb : b ≤ s.size) : bt (s.extract a b) j = bt s (a + j) := by
  unfold bt
  rw [ByteArray.data_extract, Array.toList_extract, List.extract_eq_take_drop]
  rw [List.getD_eq_getElem?_getD, List.getD_eq_getElem?_getD, List.getElem?_take, if_pos (by omega), List.getElem?_drop]
theorem verF_congr (s t : ByteArray) : ∀ k, (∀ j, j < k → bt s j = bt t j) → verF s k = verF t k
  | 0, _ => rfl
  | k + 1, h => by unfold verF; rw [verF_congr s t k (fun j hj => h j (by omega)), h k (by omega)]
theorem verN_cut (s : ByteArray) (a b : Nat) (hb : b = a + 8) (hs : b ≤ s.size) : verN (s.extract a s.size) = verN (s.extract a b) := by
  unfold verN
  rw [verF_congr (s.extract a s.size) (s.extract a b) 8 fun j hj => by rw [bt_ext _ _ _ _ (by omega) (Nat.le_refl _), bt_ext _ _ _ _ (by omega) hs]]
theorem side_cut (s : ByteArray) (hs : 50 ≤ s.size) (j : Nat) (hj : j < 32) : sideF s 18 j = fF s j := by
  unfold fF sideF
  rw [Nat.zero_add, bt_ext _ _ _ _ (by omega) hs]
theorem blank_iff (s : ByteArray) (h : 82 ≤ s.size) : blank (s.extract 82 s.size) = true ↔ s.data.toList.drop 82 = List.replicate (s.size - 82) 0 := by
  have hl : s.data.toList.length = s.size := rfl
  unfold blank
  rw [decide_eq_true_eq]
  constructor
  · intro hz
    refine List.eq_replicate_iff.2 ⟨by rw [List.length_drop, hl], fun b hb => ?_⟩
    obtain ⟨i, hi, rfl⟩ := List.mem_iff_getElem.1 hb
    rw [List.length_drop, hl] at hi
    have := hz i (by rw [ByteArray.size_extract]; omega)
    rw [bt_ext _ _ _ _ (by omega) (Nat.le_refl _)] at this
    unfold bt at this
    rw [List.getD_eq_getElem?_getD, List.getElem?_eq_getElem (by omega), Option.getD_some] at this
    rw [List.getElem_drop]
    exact UInt8.toNat_inj.1 this
  · intro hd j hj
    rw [ByteArray.size_extract] at hj
    rw [bt_ext _ _ _ _ (by omega) (Nat.le_refl _)]
    unfold bt
    have e : s.data.toList[82 + j]? = some 0 := by
      rw [← List.getElem?_drop, hd, List.getElem?_replicate, if_pos (by omega)]
    rw [List.getD_eq_getElem?_getD, e]; rfl
/-- A text is another one with 0 behind it. -/
theorem tail_eq (s A : ByteArray) (h : 82 ≤ s.size) (hA : A.size = 82) : (s.toList == (A ++ zs (s.size - 82)).toList) = (((s.extract 0 82).toList == A.toList) && blank (s.extract 82 s.size)) := by
  have hl : s.data.toList.length = s.size := rfl
  have ha : A.data.toList.length = 82 := hA
  rw [Bool.eq_iff_iff, Bool.and_eq_true, beq_iff_eq, beq_iff_eq, blank_iff s h, ByteArray.toList_eq, ByteArray.toList_eq, ByteArray.toList_eq, ByteArray.toList_eq]
  have e1 : (A ++ zs (s.size - 82)).data.toList = A.data.toList ++ List.replicate (s.size - 82) 0 := by
    rw [ByteArray.data_append, Array.toList_append]; rfl
  have e2 : (s.extract 0 82).data.toList = s.data.toList.take 82 := by
    rw [ByteArray.data_extract, Array.toList_extract, List.extract_eq_take_drop]; rfl
  rw [e1, e2]
  constructor
  · intro he
    rw [he]
    exact ⟨by rw [List.take_append_of_le_length (by omega), List.take_of_length_le (by omega)], by rw [List.drop_append_of_le_length (by omega), List.drop_of_length_le (by omega), List.nil_append]⟩
  · rintro ⟨h1, h2⟩
    rw [← List.take_append_drop 82 s.data.toList, h1, h2]
/-- Whether a text was written so, asked at once. -/
theorem okP_eq (key s : ByteArray) (h : 82 ≤ s.size) : okP key s = (okW key (fC s) (fE s) (fR s) && (s.toList == (allT key (fC s) (fE s) (fF s) (fR s) ++ zs (s.size - 82)).toList)) := by
  unfold okP
  cases ho : okW key (fC s) (fE s) (fR s) with
  | false => rw [Bool.false_and, Bool.false_and, Bool.false_and]
  | true =>
    have hz : (allT key (fC s) (fE s) (fF s) (fR s)).size = 82 := by rw [allT_size, (okW_parts ho).2.2.2]
    generalize allT key (fC s) (fE s) (fF s) (fR s) = A at *
    rw [tail_eq s A h hz, Bool.true_and, Bool.true_and]
end Go.Proofs.YtfkgfakjhjbidaaDoor.Su
