/-
  Part of the proof: texts with 0 behind them.
-/
import Derived.Test.YtccnnfllgdplhaaDoorE1
import Derived.Test.YtccnnfllgdplhaaDoorSmShelf
namespace Go.Proofs.YtccnnfllgdplhaaDoor
open Go.RowKit
theorem repeat_zero (n : Nat) : Lib.repeatL [(0 : UInt8)] n = List.replicate n 0 := by
  induction n with
  | zero => rfl
  | succ n ih => simp [Lib.repeatL, ih, List.replicate_succ]
/-- So many bytes of 0. -/
def zs (n : Nat) : ByteArray := ⟨(List.replicate n 0).toArray⟩
theorem zs_size (n : Nat) : (zs n).size = n := by simp [zs, ByteArray.size]
theorem repeat_any (n : Nat) (c : Int) (w : World) (hc : c = (n : Int)) (hn : n ≤ 10000) : Calls Tryd.prog 51 #[.string ⟨#[0]⟩, .int .i64 c] w fun e w' => e = .returned (.string (zs n)) ∧ Below w.heap.size w w' := by
  subst hc
  have := Sm.c_repeat ⟨#[0]⟩ n w (by omega) (by have : ByteArray.size ⟨#[0]⟩ = 1 := rfl; rw [this]; omega)
  refine this.mono fun e w' ⟨he, hb⟩ => ⟨?_, hb⟩
  rw [he]
  have : (⟨#[0]⟩ : ByteArray).data.toList = [0] := rfl
  rw [this, repeat_zero]
  rfl
theorem full_eq (s : ByteArray) (n : Nat) (h : 256 ≤ s.size + n) : (s ++ zs n).extract 0 256 = sb 256 (bAt s) := by
  have e : ((s ++ zs n).extract 0 256).data.toList = (sb 256 (bAt s)).data.toList := by
    apply List.ext_getElem?
    intro i
    rw [ByteArray.data_extract, ByteArray.data_append]
    have hsd : s.data.size = s.size := rfl
    by_cases hi : i < 256
    · simp only [sb, Array.toList_extract, List.extract_eq_take_drop, List.drop_zero, List.getElem?_take, Array.toList_append, zs]
      rw [if_pos (by omega)]
      have : (List.map (bAt s) (List.range 256))[i]? = some (bAt s i) := by simp [hi]
      rw [this]
      unfold bAt
      rw [List.getD_eq_getElem?_getD]
      by_cases his : i < s.size
      · rw [List.getElem?_append_left (by simpa using his), List.getElem?_eq_getElem (by simpa using his)]; rfl
      · rw [List.getElem?_append_right (by simp; omega), List.getElem?_eq_none (l := s.data.toList) (by simp; omega)]
        rw [List.getElem?_replicate, if_pos (by simp; omega)]; rfl
    · rw [List.getElem?_eq_none, List.getElem?_eq_none]
      · simp [sb]; omega
      · simp; omega
  generalize (s ++ zs n).extract 0 256 = x at *
  generalize sb 256 (bAt s) = y at *
  cases x; cases y; simp at e; subst e; rfl
theorem pad_eq (s : ByteArray) (h : s.size ≤ 256) : s ++ zs (256 - s.size) = sb 256 (bAt s) := by
  rw [← full_eq s (256 - s.size) (by omega)]
  have hz : (s ++ zs (256 - s.size)).size = 256 := by rw [ByteArray.size_append, zs_size]; omega
  have := ByteArray.extract_zero_size (b := s ++ zs (256 - s.size))
  rw [hz] at this
  exact this.symm
theorem full_any (s : ByteArray) (w : World) (hs : s.size ≤ 256) : Calls Tryd.prog 50 #[.string s] w fun e w' => e = .returned (.string (sb 256 (bAt s))) ∧ Below w.heap.size w w' := by
  have hz := zs_size 256
  have hx := full_eq s 256 (by omega)
  have hsz : (s ++ zs 256).size = s.size + 256 := by rw [ByteArray.size_append, zs_size]
  go_enter Tryd.func50, Tryd.ntmps50
  go_wp2_with (go_at_call 51; refine (repeat_any 256 _ _ rfl (by decide)).mono ?_; rintro e w1 ⟨rfl, g1⟩)
  go_ret
  exact ⟨rfl, g1⟩
end Go.Proofs.YtccnnfllgdplhaaDoor
