/-
  Part of the proof: a row of bytes made out of a text: read, written, and told as a text again.
-/
import Derived.Test.YtccnnfllgdplhaaDoorTxt
import Derived.Lib.ConvBytes
namespace Go.Proofs.YtccnnfllgdplhaaDoor
open Go.RowKit
/-- A slice of bytes that the call has made: of its row nothing is frozen within its length. -/
structure MRow (w : World) (B g cap : Nat) (l : List UInt8) : Prop where
  ge : B ≤ g
  le : l.length ≤ cap
  cur : ∃ (cur : Array Value) (fz : Nat × Nat), w.heap[g]? = some (.cells cur 5 fz) ∧ cur.size = cap ∧ (∀ j, j < cap → (decide (fz.1 ≤ j) && decide (j < fz.2)) = false) ∧ cur.toList.take l.length = Lib.byteCells l
theorem MRow.lt {w : World} {B g cap : Nat} {l : List UInt8} (h : MRow w B g cap l) : g < w.heap.size := by
  obtain ⟨cur, fz, hh, _⟩ := h.cur
  rcases Nat.lt_or_ge g w.heap.size with h' | h'
  · exact h'
  · simp [Array.getElem?_eq_none h'] at hh
theorem MRow.drewN {w : World} {B g cap : Nat} {l : List UInt8} (h : MRow w B g cap l) (n : Nat) : MRow (w.drewN n) B g cap l := ⟨h.ge, h.le, h.cur⟩
theorem MRow.cell {w : World} {B g cap : Nat} {l : List UInt8} (h : MRow w B g cap l) (j : Nat) (b : UInt8) (hj : l[j]? = some b) : w.cell? ⟨g, j, none⟩ = some (.int .u8 (b.toNat : Int)) := by
  obtain ⟨cur, fz, hh, _, _, ht⟩ := h.cur
  have hj' : (Lib.byteCells l)[j]? = some (.int .u8 (b.toNat : Int)) := by simp [Lib.byteCells, hj]
  rw [← ht, List.getElem?_take] at hj'
  simp only [World.cell?, hh]
  split at hj'
  · simpa using hj'
  · cases hj'
theorem MRow.frozen {w : World} {B g cap : Nat} {l : List UInt8} (h : MRow w B g cap l) (j : Nat) (hj : j < l.length) : w.frozen? ⟨g, j, none⟩ = false := by
  have hle := h.le
  obtain ⟨cur, fz, hh, _, hf, _⟩ := h.cur
  simp only [World.frozen?, hh]; exact hf j (by omega)
theorem MRow.set {w : World} {B g cap : Nat} {l : List UInt8} (h : MRow w B g cap l) (j : Nat) (b : UInt8) (hj : j < l.length) : MRow (w.setCell ⟨g, j, none⟩ (.int .u8 (b.toNat : Int))) B g cap (l.set j b) := by
  obtain ⟨cur, fz, hh, hc, hf, ht⟩ := h.cur
  refine ⟨h.ge, by simpa using h.le, cur.setIfInBounds j (.int .u8 (b.toNat : Int)), fz, ?_, by simpa using hc, hf, ?_⟩
  · simp [World.setCell, Array.getElem?_modify, hh]
  · rw [Array.toList_setIfInBounds, List.length_set]
    have e : (cur.toList.set j (.int .u8 (b.toNat : Int))).take l.length = (cur.toList.take l.length).set j (.int .u8 (b.toNat : Int)) := by
      apply List.ext_getElem?; intro i
      simp only [List.getElem?_take, List.getElem?_set, List.length_take]
      by_cases h1 : i < l.length
      · by_cases h2 : j = i
        · subst h2
          have hle := h.le
          simp [h1]
          rw [if_pos (by omega), if_pos (by omega)]
        · simp [h2, h1]
      · have h2 : ¬ (j = i) := by omega
        simp [h2, h1]
    rw [e, ht]
    simp [Lib.byteCells, List.map_set]
theorem loadCellsFrom_cells (P : Program) (w : World) (b : Nat) (vs : List Value) (h : ∀ (j : Nat) (u : Value), vs[j]? = some u → w.cell? ⟨b, j, none⟩ = some u) : ∀ (n i : Nat) (acc : Array Value), i + n ≤ vs.length →
    (loadCellsFrom ⟨b, 0, none⟩ i n acc).run P w = .ok (acc ++ ((vs.drop i).take n).toArray) w := by
  intro n
  induction n with
  | zero => intro i acc _; simp [loadCellsFrom]
  | succ n ih =>
    intro i acc hi
    simp only [loadCellsFrom, Sem.run_bind, run_load, addr_add]
    rw [h i vs[i] (List.getElem?_eq_getElem (by omega))]
    simp only [Result.andThen_ok]
    rw [ih _ _ (by omega)]
    congr 1
    apply Array.toList_inj.1
    simp only [Array.toList_append, Array.toList_push, List.append_assoc]
    congr 1
    have e := List.drop_eq_getElem_cons (l := vs) (i := i) (by omega)
    simp only [List.cons_append, List.nil_append]
    rw [e, List.take_succ_cons]
section
variable {ops : Array Oper} {Q : Exit → Act → World → Prop} {a : Act} {w : World} {rest : List Oper} {o : Oper}
theorem wpl_mbytes (hgd : o.guard = none) (x : Operand) (ho : o.op = .convert 9 94 x) (s : ByteArray) (hx : a.eval x = .string s)
    (hK : ∀ cap' w', MRow w' w.heap.size w.heap.size cap' s.data.toList → Below w.heap.size w w' → wpList Tryd.prog ops Q rest (a.put o.dst (.slice (some ⟨w.heap.size, 0, none⟩) s.size cap')) w') : wpList Tryd.prog ops Q (o :: rest) a w := by
  refine wpList_plain hgd fun K hK' => ?_
  have hr := Lib.run_convert_string_bytes (P := Tryd.prog) w 9 94 5 s Tryd.underlying9 Tryd.underlying94 Tryd.underlying5
  have hgc := grownCap_ge w s.size 0 5
  unfold Oper.wp execOp
  simp only [ho, hx, Sem.run_bind, Sem.run_pure, Result.andThen_ok, hr]
  refine hK' _ _ (hK _ _ ⟨Nat.le_refl _, by simpa using hgc, _, _, Lib.bytesWorld_at_new w 5 s, ?_, ?_, ?_⟩ ⟨rfl, rfl, rfl, by rw [Lib.bytesWorld_size]; omega, fun k hk => Lib.bytesWorld_at_old w 5 s k hk⟩)
  · simp [Lib.bytesCells]; have : s.data.size = s.size := rfl; omega
  · intro j hj; simp [Lib.bytesCells]; have : s.data.size = s.size := rfl; omega
  · simp [Lib.bytesCells, Lib.byteCells]
/-- A row of bytes told as a text. -/
theorem wpl_mstring (hgd : o.guard = none) (x : Operand) (ho : o.op = .convert 94 9 x) (B g cap : Nat) (l : List UInt8) (hx : a.eval x = .slice (some ⟨g, 0, none⟩) l.length cap) (hr : MRow w B g cap l)
    (h : wpList Tryd.prog ops Q rest (a.put o.dst (.string ⟨l.toArray⟩)) w) : wpList Tryd.prog ops Q (o :: rest) a w := by
  refine wpList_plain hgd fun K hK => ?_
  have hl := loadCellsFrom_cells Tryd.prog w g (Lib.byteCells l) (fun j u hj => by
    simp [Lib.byteCells] at hj
    obtain ⟨b, hb, rfl⟩ := hj
    exact hr.cell j b hb) l.length 0 #[] (by simp [Lib.byteCells])
  have := run_bytesToString (P := Tryd.prog) w ⟨g, 0, none⟩ l.length cap (l.map fun b => (b.toNat : Int)) (by rw [loadCells, hl]; simp [Lib.byteCells]; rw [List.take_of_length_le (by simp)]; rfl)
  rw [push_foldl] at this
  unfold Oper.wp execOp
  simp only [ho, hx, Sem.run_bind, Sem.run_pure, Result.andThen_ok, run_convert_bytes_string w 94 9 5 _ _ _ Tryd.underlying94 Tryd.underlying5 Tryd.underlying9, this]
  exact hK _ _ h
end
end Go.Proofs.YtccnnfllgdplhaaDoor
