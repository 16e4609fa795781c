/-
  Part of the proof: texts as lists of bytes, and how a conversion reads them.
-/
import Derived.Test.YtfkgfakjhjbidaaDoorBlk
import Derived.Lib.UnsafeStr
namespace Go.Proofs.YtfkgfakjhjbidaaDoor
open Go.RowKit
/-- A row of bytes, by a function. -/
def tb (n : Nat) (f : Nat → UInt8) : Array Value := ((List.range n).map fun j => Value.int .u8 ((f j).toNat : Int)).toArray
def sb (n : Nat) (f : Nat → UInt8) : ByteArray := ⟨((List.range n).map f).toArray⟩
theorem sb_size (n : Nat) (f : Nat → UInt8) : (sb n f).size = n := by simp [sb, ByteArray.size]
theorem sb_congr (n : Nat) (f g : Nat → UInt8) (h : ∀ j, j < n → f j = g j) : sb n f = sb n g := by
  unfold sb; congr 2; apply List.map_congr_left; intro j hj; rw [h j (by simpa using hj)]
theorem tb_size (n : Nat) (f : Nat → UInt8) : (tb n f).size = n := by simp [tb]
theorem tb_get (n : Nat) (f : Nat → UInt8) (j : Nat) (h : j < n) : (tb n f)[j]? = some (.int .u8 ((f j).toNat : Int)) := by
  simp [tb, h]
theorem tb_congr (n : Nat) (f g : Nat → UInt8) (h : ∀ j, j < n → f j = g j) : tb n f = tb n g := by
  unfold tb; congr 1; apply List.map_congr_left; intro j hj; rw [h j (by simpa using hj)]
theorem tb_set (n : Nat) (f : Nat → UInt8) (k : Nat) (v : UInt8) : (tb n f).setIfInBounds k (.int .u8 (v.toNat : Int)) = tb n (fun j => if j = k then v else f j) := by
  apply Array.ext_getElem?; intro i
  rw [Array.getElem?_setIfInBounds]
  by_cases hi : i < n
  · rw [tb_get _ _ i hi, tb_get _ _ i hi, tb_size]
    by_cases hk : k = i
    · subst hk; simp [hi]
    · simp [hk, Ne.symm hk]
  · have e : ∀ g, (tb n g)[i]? = none := fun g => by rw [Array.getElem?_eq_none]; rw [tb_size]; omega
    rw [e, e, tb_size]; split <;> simp_all
def uptoB (f : Nat → UInt8) (k : Nat) (j : Nat) : UInt8 := if j < k then f j else 0
theorem tb_upto_succ (n k : Nat) (f : Nat → UInt8) (v : UInt8) (h : v = f k) : (tb n (uptoB f k)).setIfInBounds k (.int .u8 (v.toNat : Int)) = tb n (uptoB f (k + 1)) := by
  rw [tb_set, h]; apply tb_congr; intro j _; unfold uptoB
  by_cases e : j = k
  · subst e; simp
  · simp [e]; congr 1; apply propext; omega
theorem tb_full (n : Nat) (f : Nat → UInt8) : tb n (uptoB f n) = tb n f := tb_congr _ _ _ fun j hj => by unfold uptoB; rw [if_pos hj]
theorem Blk.bcell {w : World} {b : Nat} {T : TypeId} {n : Nat} {f : Nat → UInt8} (h : Blk w b (tb n f) T) (j : Nat) (hj : j < n) : w.cell? ⟨b, j, none⟩ = some (.int .u8 ((f j).toNat : Int)) := by
  rw [h.cell, tb_get _ _ _ hj]
theorem push_foldl (l : List UInt8) : ∀ s : ByteArray, (l.map fun b => (b.toNat : Int)).foldl (fun r n => r.push (UInt8.ofNat n.toNat)) s = ⟨(s.data.toList ++ l).toArray⟩ := by
  induction l with
  | nil => intro s; simp
  | cons b l ih =>
    intro s
    simp only [List.map_cons, List.foldl_cons]
    rw [ih]
    simp [ByteArray.push]
/-- A slice of bytes as a text. -/
theorem bytes_run (P : Program) (w : World) (b off n cap : Nat) (arr : Array Value) (T : TypeId) (hb : Blk w b arr T) (hn : off + n ≤ arr.size) (l : List UInt8) (hl : arr.extract off (off + n) = (Lib.byteCells l).toArray) :
    (Conv.bytesToString (.slice (some ⟨b, off, none⟩) n cap)).run P w = .ok (.string ⟨l.toArray⟩) w := by
  have h := loadCellsFrom_run P w b off arr T hb n 0 #[] (by omega)
  rw [Nat.add_zero, Array.empty_append, hl] at h
  have := run_bytesToString (P := P) w ⟨b, off, none⟩ n cap (l.map fun b => (b.toNat : Int)) (by rw [loadCells, h]; simp [Lib.byteCells])
  rw [this, push_foldl]; rfl
section
variable {P : Program} {ops : Array Oper} {Q : Exit → Act → World → Prop} {a : Act} {w : World} {rest : List Oper} {o : Oper}
theorem wpl_string (hgd : o.guard = none) (src dst e : TypeId) (x : Operand) (ho : o.op = .convert src dst x) (hs : P.underlying src = some (.slice e)) (he : P.underlying e = some (.int .u8)) (hd : P.underlying dst = some .string)
    (b off n cap : Nat) (arr : Array Value) (T : TypeId) (hx : a.eval x = .slice (some ⟨b, off, none⟩) n cap) (hb : Blk w b arr T) (hn : off + n ≤ arr.size) (l : List UInt8) (hl : arr.extract off (off + n) = (Lib.byteCells l).toArray)
    (h : wpList P ops Q rest (a.put o.dst (.string ⟨l.toArray⟩)) w) : wpList P ops Q (o :: rest) a w := by
  refine wpList_plain hgd fun K hK => ?_
  unfold Oper.wp execOp
  simp only [ho, hx, Sem.run_bind, Sem.run_pure, Result.andThen_ok, run_convert_bytes_string w src dst e _ _ _ hs he hd, bytes_run P w b off n cap arr T hb hn l hl]
  exact hK _ _ h
end
theorem tb_bytes (n m : Nat) (f : Nat → UInt8) (h : 0 + n = m) : (tb n f).extract 0 m = (Lib.byteCells ((List.range n).map f)).toArray := by
  subst h; rw [Nat.zero_add]
  have := Array.extract_size (xs := tb n f)
  rw [tb_size] at this; rw [this]; simp [tb, Lib.byteCells]
end Go.Proofs.YtfkgfakjhjbidaaDoor
