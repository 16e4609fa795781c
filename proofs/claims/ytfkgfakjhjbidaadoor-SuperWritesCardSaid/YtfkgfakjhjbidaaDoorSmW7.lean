/-
  Part of the proof of SumTells: the code's Hex answers the plain hex text (texts of at most 10000 bytes).
-/
import Derived.Test.YtfkgfakjhjbidaaDoorSmW6
namespace Go.Proofs.YtfkgfakjhjbidaaDoor.Sm
open Go.RowKit
/-- A digit of sixteen. -/
def hd (n : Nat) : UInt8 := ([48, 49, 50, 51, 52, 53, 54, 55, 56, 57, 97, 98, 99, 100, 101, 102] : List UInt8).getD n 0
/-- Two digits a byte. -/
def hexL (l : List UInt8) : List UInt8 := l.flatMap fun b => [hd (b.toNat / 16), hd (b.toNat % 16)]
theorem hexL_length (l : List UInt8) : (hexL l).length = 2 * l.length := by
  induction l with
  | nil => rfl
  | cons b l ih => simp [hexL] at ih ⊢; omega
theorem take_snoc (s : ByteArray) (k : Nat) (h : k < s.size) : s.data.toList.take (k + 1) = s.data.toList.take k ++ [s[k]] := by
  rw [List.take_succ_eq_append_getElem (by simpa using h)]; rfl
theorem hexL_snoc (l : List UInt8) (b : UInt8) : hexL (l ++ [b]) = hexL l ++ [hd (b.toNat / 16)] ++ [hd (b.toNat % 16)] := by simp [hexL]
theorem byteCells_snoc (l : List UInt8) (b : UInt8) : Lib.byteCells (l ++ [b]) = Lib.byteCells l ++ [.int .u8 (b.toNat : Int)] := by simp [Lib.byteCells]
theorem dig16 (i : Nat) (h : i < (⟨#[48, 49, 50, 51, 52, 53, 54, 55, 56, 57, 97, 98, 99, 100, 101, 102]⟩ : ByteArray).size) : (⟨#[48, 49, 50, 51, 52, 53, 54, 55, 56, 57, 97, 98, 99, 100, 101, 102]⟩ : ByteArray)[i] = hd i := by
  have h' : i < 16 := h
  have : ∀ j : Fin 16, (⟨#[48, 49, 50, 51, 52, 53, 54, 55, 56, 57, 97, 98, 99, 100, 101, 102]⟩ : ByteArray)[j.1]'(j.2) = hd j.1 := by decide
  exact this ⟨i, h'⟩
set_option maxHeartbeats 400000 in
theorem hex_any (s : ByteArray) (w : World) (hs : s.size ≤ 10000) : Calls Tryd.prog 16 #[.string s] w fun e w' => e = .returned (.string ⟨(hexL s.data.toList).toArray⟩) ∧ Below w.heap.size w w' := by
  go_enter Tryd.func16, Tryd.ntmps16
  go_wp2_with fail
  refine (c_grow w.heap.size w.heap.size (2 * s.size) _ (Nat.le_refl _) ?_ (by simp) (by omega)).mono ?_
  · exact Blk.new w _ 116
  rintro e w1 ⟨rfl, hB, h1⟩
  have hbel := ((Below.refl w.heap.size w).alloc (Nat.le_refl _) (.cells #[.pointer none, .slice none 0 0] 116)).trans h1
  clear h1
  go_wp2_with fail
  go_loopw [11] (fun i wr => ∃ k : Nat, k ≤ s.size ∧ i = .int .i64 k ∧ Lib.BuilderAt 116 5 w.heap.size w.heap.size (.pointer (some ⟨w.heap.size, 0, none⟩)) (Lib.byteCells (hexL (s.data.toList.take k))) wr ∧ Below w.heap.size w wr) (fun i _ => s.size - (intOf i).toNat)
  case atStart => exact ⟨0, by omega, rfl, hB, hbel⟩
  case round =>
    obtain ⟨k, hk, rfl, hB2, hbel2⟩ := hrel
    by_cases hlt : k < s.size
    · have d1 : s[k].toNat < 256 := s[k].toNat_lt
      have d2 : (s[k].toNat : Int) / 16 < 16 := by omega
      have hl := hexL_length (s.data.toList.take k)
      have ht : (s.data.toList.take k).length ≤ k := List.length_take_le _ _
      have hbc : (Lib.byteCells (hexL (s.data.toList.take k))).length = (hexL (s.data.toList.take k)).length := by simp [Lib.byteCells]
      have HL : Hid ((Lib.byteCells (hexL (s.data.toList.take k))).length ≤ 20000) := by rw [Hid, hbc, hl]; omega
      clear hbc hl ht
      go_wp2_with fail
      refine (c_writeByte w.heap.size w.heap.size _ _ _ (Or.inr hB2) (by have := HL.out; omega) hbel2.size).mono ?_
      rintro e w2 ⟨rfl, hB3, h2⟩
      rw [dig16] at hB3
      go_wp2_with fail
      refine (c_writeByte w.heap.size w.heap.size _ _ _ (Or.inr hB3) (by have := HL.out; simp; omega) (hbel2.trans h2).size).mono ?_
      rintro e w3 ⟨rfl, hB4, h3⟩
      rw [dig16] at hB4
      go_wp2
      go_roundw
      case rel =>
        refine ⟨k + 1, by omega, by go_num, ?_, (hbel2.trans h2).trans h3⟩
        rw [take_snoc s k hlt, hexL_snoc, byteCells_snoc, byteCells_snoc]
        exact hB4
      case measure => simp [intOf]; omega
    · have hk' : k = s.size := by omega
      subst hk'
      rw [List.take_of_length_le (by simp)] at hB2
      go_wp2_with (go_at_call 79; refine (c_string w.heap.size w.heap.size _ _ (Or.inr hB2) hbel2.size).mono ?_; rintro e w2 ⟨rfl, h2⟩)
      go_ret
      exact ⟨rfl, hbel2.trans h2⟩
end Go.Proofs.YtfkgfakjhjbidaaDoor.Sm
