/-
  Part of the proof of SumTells: a row of bytes made out of a text, and append to it.
-/
import Derived.Test.YtfkgfakjhjbidaaDoorTxt
import Derived.Test.YtfkgfakjhjbidaaDoorRow
import Derived.Lib.ConvBytes
namespace Go.Proofs.YtfkgfakjhjbidaaDoor.Sm
open Go.RowKit
/-- A slice of bytes that the call has made: of its row nothing is frozen within its length. -/
structure MRow (w : World) (B g cap : Nat) (l : List UInt8) : Prop where
  ge : B ≤ g
  le : l.length ≤ cap
  cur : ∃ (cur : Array Value) (fz : Nat × Nat), w.heap[g]? = some (.cells cur 5 fz) ∧ cur.size = cap ∧ (∀ j, j < cap → (decide (fz.1 ≤ j) && decide (j < fz.2)) = false) ∧ cur.toList.take l.length = Lib.byteCells l
theorem MRow.lt {w : World} {B g cap : Nat} {l : List UInt8} (h : MRow w B g cap l) : g < w.heap.size := by
  obtain ⟨cur, fz, hh, _⟩ := h.cur
  rcases Nat.lt_or_ge g w.heap.size with h' | h'
  · exact h'
  · simp [Array.getElem?_eq_none h'] at hh
theorem MRow.below {w w' : World} {B g cap : Nat} {l : List UInt8} (h : MRow w B g cap l) (hb : Below w.heap.size w w') : MRow w' B g cap l := by
  have lt := h.lt
  obtain ⟨cur, fz, hh, r⟩ := h.cur
  exact ⟨h.ge, h.le, cur, fz, by rw [hb.block _ lt]; exact hh, r⟩
theorem MRow.cell {w : World} {B g cap : Nat} {l : List UInt8} (h : MRow w B g cap l) (j : Nat) (b : UInt8) (hj : l[j]? = some b) : w.cell? ⟨g, j, none⟩ = some (.int .u8 (b.toNat : Int)) := by
  obtain ⟨cur, fz, hh, _, _, ht⟩ := h.cur
  have hj' : (Lib.byteCells l)[j]? = some (.int .u8 (b.toNat : Int)) := by simp [Lib.byteCells, hj]
  rw [← ht, List.getElem?_take] at hj'
  simp only [World.cell?, hh]
  split at hj'
  · simpa using hj'
  · cases hj'
theorem info5 : (Tryd.prog.info? 5).map (fun i => (i.zero, i.size, i.bytes)) = some (some (.int .u8 0), 1, 1) := by kernel_rfl
theorem mrow_append (w : World) (B g cap : Nat) (l : List UInt8) (h : MRow w B g cap l) (ty : TypeId) (sb c : Nat) (b : UInt8) (hu : w.cell? ⟨sb, 0, none⟩ = some (.int .u8 (b.toNat : Int))) (hl : l.length < 100000) (hB : B ≤ w.heap.size) :
    ∃ g' cap' w', (Builtin.append_ #[112, 112] ty #[.slice (some ⟨g, 0, none⟩) l.length cap, .slice (some ⟨sb, 0, none⟩) 1 c]).run Tryd.prog w = .ok (.slice (some ⟨g', 0, none⟩) (l.length + 1) cap') w' ∧ MRow w' B g' cap' (l ++ [b]) ∧ Below B w w' := by
  obtain ⟨i, hi, hp⟩ := Option.map_eq_some_iff.1 info5
  simp only [Prod.mk.injEq] at hp
  obtain ⟨p1, p2, p3⟩ := hp
  have hnews : ∀ (j : Nat) (u : Value), [Value.int .u8 (b.toNat : Int)][j]? = some u → w.cell? ((⟨sb, 0, none⟩ : Addr).add j) = some u := by
    intro j u hj
    match j with
    | 0 => simp only [List.getElem?_cons_zero, Option.some.injEq] at hj; subst hj; exact hu
    | j + 1 => simp at hj
  have hge := h.ge
  have hle := h.le
  have lt := h.lt
  obtain ⟨cur, fz, hh, hcs, hfz, ht⟩ := h.cur
  by_cases hr : l.length + 1 ≤ cap
  · have hcell : ∀ j, j < cap → (w.cell? ⟨g, j, none⟩).isSome = true := fun j hj => by
      simp only [World.cell?, hh]; simp; omega
    have hfro : ∀ j, j < cap → w.frozen? ⟨g, j, none⟩ = false := fun j hj => by
      simp only [World.frozen?, hh]; exact hfz j hj
    have hrun := run_append_room_cells (P := Tryd.prog) w 112 ty 5 i Tryd.underlying112 hi g 0 l.length cap ⟨sb, 0, none⟩ 1 c [.int .u8 (b.toNat : Int)] (by rw [p2]; rfl) hnews (by intro u hu'; simp at hu'; subst hu'; rfl) hr
      (fun j hj => hcell _ (by rw [p2]; simp at hj; omega)) (fun j hj => hfro _ (by rw [p2]; simp at hj; omega))
    rw [p2] at hrun
    refine ⟨g, cap, _, hrun, ⟨hge, by simpa using hr, cur.setIfInBounds l.length (.int .u8 (b.toNat : Int)), fz, ?_, by simpa using hcs, hfz, ?_⟩, ?_⟩
    · simp [World.setCells, World.setCell, Array.getElem?_modify, hh]
    · rw [Array.toList_setIfInBounds, List.length_append, List.length_singleton, List.take_add_one, List.take_set_of_le (Nat.le_refl _), ht, List.getElem?_set_self (by simp; omega)]
      simp [Lib.byteCells]
    · simpa [World.setCells] using (Below.refl B w).setCell (p := ⟨g, l.length, none⟩) hge (.int .u8 (b.toNat : Int))
  · have holds : ∀ (j : Nat) (v : Value), (Lib.byteCells l)[j]? = some v → w.cell? ((⟨g, 0, none⟩ : Addr).add j) = some v := by
      intro j v hj
      rw [addr_add]
      rw [← ht, List.getElem?_take] at hj
      simp only [World.cell?, hh]
      split at hj
      · simpa using hj
      · cases hj
    have hbl : (Lib.byteCells l).length = l.length := by simp [Lib.byteCells]
    have hrun := run_append_grow (P := Tryd.prog) w 112 ty 5 i (.int .u8 0) Tryd.underlying112 hi p1 ⟨g, 0, none⟩ l.length cap (Lib.byteCells l) (by rw [p2, hbl]; omega) holds ⟨sb, 0, none⟩ 1 c [.int .u8 (b.toNat : Int)] (by rw [p2]; rfl) hnews (by omega) (by omega)
      (growslice_fits (by omega) (by rw [p3]; omega))
    have hgc := grownCap_ge w (l.length + 1) cap 5
    refine ⟨w.heap.size, _, _, hrun, ⟨hB, by simpa using hgc, _, (0, 0), (Blk.new w.drew _ 5), ?_, by simp, ?_⟩, ?_⟩
    · simp [Builtin.zeroCells, Value.cells, hbl]; omega
    · simp only [Array.toList_append, List.append_assoc]
      rw [List.length_append, List.length_singleton, List.take_append, hbl]
      rw [List.take_of_length_le (by rw [hbl]; omega)]
      simp [Lib.byteCells]
    · exact (Below.refl B w).drew.alloc hB _
section
variable {ops : Array Oper} {Q : Exit → Act → World → Prop} {a : Act} {w : World} {rest : List Oper} {o : Oper}
theorem wpl_mpush (hgd : o.guard = none) (s x : Operand) (ho : o.op = .call { callee := .builtin .append, args := #[s, x], argTypes := #[112, 112] })
    (B g cap : Nat) (l : List UInt8) (hs : a.eval s = .slice (some ⟨g, 0, none⟩) l.length cap) (h : MRow w B g cap l) (sb c : Nat) (b : UInt8) (hx : a.eval x = .slice (some ⟨sb, 0, none⟩) 1 c)
    (hu : w.cell? ⟨sb, 0, none⟩ = some (.int .u8 (b.toNat : Int))) (hl : l.length < 100000) (hB : B ≤ w.heap.size)
    (hK : ∀ g' cap' w', MRow w' B g' cap' (l ++ [b]) → Below B w w' → wpList Tryd.prog ops Q rest (a.put o.dst (.slice (some ⟨g', 0, none⟩) (l.length + 1) cap')) w') : wpList Tryd.prog ops Q (o :: rest) a w := by
  refine wpList_plain hgd fun K hK' => ?_
  obtain ⟨g', cap', w', hr, h2, h3⟩ := mrow_append w B g cap l h o.type sb c b hu hl hB
  unfold Oper.wp execOp
  simp only [ho, resolve, invoke, builtin, Sem.run_bind, Sem.run_pure, Result.andThen_ok, List.map_toArray, List.map_cons, List.map_nil, hs, hx, hr]
  exact hK' _ _ (hK g' cap' w' h2 h3)
theorem wpl_mbytes (hgd : o.guard = none) (x : Operand) (ho : o.op = .convert 9 112 x) (s : ByteArray) (hx : a.eval x = .string s)
    (hK : ∀ cap' w', MRow w' w.heap.size w.heap.size cap' s.data.toList → Below w.heap.size w w' → wpList Tryd.prog ops Q rest (a.put o.dst (.slice (some ⟨w.heap.size, 0, none⟩) s.size cap')) w') : wpList Tryd.prog ops Q (o :: rest) a w := by
  refine wpList_plain hgd fun K hK' => ?_
  have hr := Lib.run_convert_string_bytes (P := Tryd.prog) w 9 112 5 s Tryd.underlying9 Tryd.underlying112 Tryd.underlying5
  have hgc := grownCap_ge w s.size 0 5
  unfold Oper.wp execOp
  simp only [ho, hx, Sem.run_bind, Sem.run_pure, Result.andThen_ok, hr]
  refine hK' _ _ (hK _ _ ⟨Nat.le_refl _, by simpa using hgc, _, _, Lib.bytesWorld_at_new w 5 s, ?_, ?_, ?_⟩ ⟨rfl, rfl, rfl, by rw [Lib.bytesWorld_size]; omega, fun k hk => Lib.bytesWorld_at_old w 5 s k hk⟩)
  · simp [Lib.bytesCells]; have : s.data.size = s.size := rfl; omega
  · intro j hj; simp [Lib.bytesCells]; have : s.data.size = s.size := rfl; omega
  · simp [Lib.bytesCells, Lib.byteCells]
end
end Go.Proofs.YtfkgfakjhjbidaaDoor.Sm
