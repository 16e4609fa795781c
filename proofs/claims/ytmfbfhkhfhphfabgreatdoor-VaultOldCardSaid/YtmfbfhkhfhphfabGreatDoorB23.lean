/-
  Part of the proof: a device's cells, by plain functions.
-/
import Derived.Test.YtmfbfhkhfhphfabGreatDoorB10
import Derived.Test.YtmfbfhkhfhphfabGreatDoorB04
namespace Go.Proofs.YtmfbfhkhfhphfabGreatDoor.Dv
open Go.RowKit
/-- Byte j of a text, 0 behind it. -/
def bAt (s : ByteArray) (j : Nat) : UInt8 := s.data.toList.getD j 0
/-- Blocks of 256 bytes, one behind the other. -/
def flat (S : Nat → Nat → UInt8) (j : Nat) : UInt8 := S (j / 256) (j % 256)
def putS (S : Nat → Nat → UInt8) (k : Nat) (g : Nat → UInt8) (i : Nat) : Nat → UInt8 := if i = k then g else S i
/-- A device's cells: its blocks, the writes that are not sure, whether it has a fuse, what is left of it. -/
def devA (S : Nat → Nat → UInt8) (v : Value) (fu : Bool) (lf : Int) : Array Value := tb 16896 (flat S) ++ #[v, .bool fu, .int .i64 lf]
section
variable (S : Nat → Nat → UInt8) (v : Value) (fu : Bool) (lf : Int)
theorem devA_size : (devA S v fu lf).size = 16899 := by simp [devA, tb_size]
theorem devA_0 : (devA S v fu lf)[16896]? = some v := by
  unfold devA; rw [Array.getElem?_append_right (by simp [tb_size])]; simp [tb_size]
theorem devA_1 : (devA S v fu lf)[16897]? = some (.bool fu) := by
  unfold devA; rw [Array.getElem?_append_right (by simp [tb_size])]; simp [tb_size]
theorem devA_2 : (devA S v fu lf)[16898]? = some (.int .i64 lf) := by
  unfold devA; rw [Array.getElem?_append_right (by simp [tb_size])]; simp [tb_size]
theorem devA_set0 (v' : Value) : (devA S v fu lf).setIfInBounds 16896 v' = devA S v' fu lf := by
  unfold devA; rw [Array.setIfInBounds_append_right (by simp [tb_size])]; simp [tb_size]
theorem devA_set1 (f' : Bool) : (devA S v fu lf).setIfInBounds 16897 (.bool f') = devA S v f' lf := by
  unfold devA; rw [Array.setIfInBounds_append_right (by simp [tb_size])]; simp [tb_size]
theorem devA_set2 (l' : Int) : (devA S v fu lf).setIfInBounds 16898 (.int .i64 l') = devA S v fu l' := by
  unfold devA; rw [Array.setIfInBounds_append_right (by simp [tb_size])]; simp [tb_size]
theorem devA_byte (j : Nat) (h : j < 16896) : (devA S v fu lf)[j]? = some (.int .u8 ((flat S j).toNat : Int)) := by
  unfold devA; rw [Array.getElem?_append_left (by simpa [tb_size] using h), tb_get _ _ _ h]
theorem devA_ext (k : Nat) (hk : k < 66) : (devA S v fu lf).extract (k * 256) (k * 256 + 256) = tb 256 (S k) := by
  apply Array.ext_getElem?; intro i
  by_cases hi : i < 256
  · rw [tb_get _ _ _ hi, Array.getElem?_extract, if_pos (by rw [devA_size]; omega), devA_byte _ _ _ _ _ (by omega)]
    unfold flat
    rw [show (k * 256 + i) / 256 = k from by omega, show (k * 256 + i) % 256 = i from by omega]
  · rw [Array.getElem?_eq_none (by rw [Array.size_extract, devA_size]; omega), Array.getElem?_eq_none (by rw [tb_size]; omega)]
end
theorem foldset_get (vs : List Value) : ∀ (c : Array Value) (i j : Nat), i + vs.length ≤ c.size → (foldset c i vs)[j]? = if i ≤ j ∧ j < i + vs.length then vs[j - i]? else c[j]? := by
  induction vs with
  | nil => intro c i j _; simp [foldset]; intro h1 h2; omega
  | cons v vs ih =>
    intro c i j h
    simp only [List.length_cons] at h
    simp only [foldset]
    rw [ih _ _ _ (by simp; omega), Array.getElem?_setIfInBounds]
    by_cases e : j = i
    · subst e
      rw [if_neg (by omega), if_pos rfl, if_pos (by omega), if_pos (by simp)]
      simp
    · by_cases e2 : i ≤ j ∧ j < i + (vs.length + 1)
      · rw [if_pos (by omega), if_pos (by simpa using e2)]
        obtain ⟨d, hd⟩ : ∃ d, j - i = d + 1 := ⟨j - i - 1, by omega⟩
        rw [hd, List.getElem?_cons_succ]; congr 1; omega
      · rw [if_neg (by omega), if_neg (Ne.symm e), if_neg (by simpa using e2)]
theorem devA_put (S : Nat → Nat → UInt8) (v : Value) (fu : Bool) (lf : Int) (k : Nat) (hk : k < 66) (g : Nat → UInt8) : foldset (devA S v fu lf) (k * 256) (tb 256 g).toList = devA (putS S k g) v fu lf := by
  apply Array.ext_getElem?; intro j
  rw [foldset_get _ _ _ _ (by simp [tb_size, devA_size]; omega)]
  by_cases hj : j < 16896
  · rw [devA_byte (putS S k g) _ _ _ _ hj]
    by_cases e : k * 256 ≤ j ∧ j < k * 256 + 256
    · rw [if_pos (by simpa [tb_size] using e)]
      have := tb_get 256 g (j - k * 256) (by omega)
      rw [← Array.getElem?_toList] at this
      rw [this]
      unfold flat putS
      rw [if_pos (by omega)]
      rw [show j % 256 = j - k * 256 from by omega]
    · rw [if_neg (by simpa [tb_size] using e), devA_byte _ _ _ _ _ hj]
      unfold flat putS
      rw [if_neg (by omega)]
  · rw [if_neg (by simp [tb_size]; omega)]
    unfold devA
    rw [Array.getElem?_append_right (by simp [tb_size]; omega), Array.getElem?_append_right (by simp [tb_size]; omega)]
    simp [tb_size]
theorem putS_S (S : Nat → Nat → UInt8) (k : Nat) : putS S k (S k) = S := by
  funext i; unfold putS; by_cases h : i = k
  · rw [if_pos h, h]
  · rw [if_neg h]
/-- A new device's cells. -/
def isZ : Value → Bool
  | .int .u8 0 => true
  | _ => false
theorem isZ_eq {v : Value} (h : isZ v = true) : v = .int .u8 0 := by
  unfold isZ at h; split at h
  · rfl
  · cases h
def FZ (l : List Value) : Prop := l.all isZ = true
def GZ (l : List Value) : Prop := ∃ a, a.all isZ = true ∧ l = a ++ [.slice none 0 0, .bool false, .int .i64 0]
theorem FZ.leaf {l : List Value} (h : l.all isZ = true) : FZ l := h
theorem FZ.app {a b : List Value} (ha : FZ a) (hb : FZ b) : FZ (a.append b) := by
  unfold FZ at *; show (a ++ b).all isZ = true; rw [List.all_append, ha, hb]; rfl
theorem GZ.app {a b : List Value} (ha : FZ a) (hb : GZ b) : GZ (a.append b) := by
  obtain ⟨c, hc, rfl⟩ := hb
  exact ⟨a ++ c, by rw [List.all_append]; unfold FZ at ha; rw [ha, hc]; rfl, by show a ++ _ = _; simp⟩
theorem GZ.leaf {l : List Value} (h : (l.take (l.length - 3)).all isZ = true) (h2 : l.drop (l.length - 3) = [.slice none 0 0, .bool false, .int .i64 0]) : GZ l :=
  ⟨_, h, by rw [← h2, List.take_append_drop]⟩
theorem zeroDev_g : GZ Tryz.zeroCells97.toList := by
  unfold Tryz.zeroCells97
  show GZ (List.append _ _)
  repeat' (first | refine GZ.app ?_ ?_ | refine FZ.app ?_ ?_ | exact GZ.leaf (by kernel_rfl) (by kernel_rfl) | exact FZ.leaf (by kernel_rfl))
theorem zeroDev : Tryz.zeroCells97 = devA (fun _ _ => 0) (.slice none 0 0) false 0 := by
  obtain ⟨a, ha, hl⟩ := zeroDev_g
  have hs := Tryz.zeroCells97_size
  have hla : a.length = 16896 := by
    have : Tryz.zeroCells97.toList.length = 16899 := hs
    rw [hl] at this; simp at this; omega
  have hr : a = List.replicate 16896 (.int .u8 0) := List.eq_replicate_iff.2 ⟨hla, fun b hb => isZ_eq (List.all_eq_true.1 ha b hb)⟩
  apply Array.toList_inj.1
  rw [hl, hr]
  have e : (tb 16896 (flat fun _ _ => 0)).toList = List.replicate 16896 (.int .u8 0) := by
    refine List.eq_replicate_iff.2 ⟨by rw [Array.length_toList, tb_size], fun b hb => ?_⟩
    unfold tb at hb
    simp only [List.mem_map] at hb
    obtain ⟨j, _, rfl⟩ := hb
    rfl
  unfold devA
  rw [Array.toList_append, e]
theorem zeroBlk : Tryz.zeroCells93 = tb 256 (fun _ => 0) := by kernel_rfl
end Go.Proofs.YtmfbfhkhfhphfabGreatDoor.Dv
