/-
  Part of the proof: what tells of all, as cells; its digits; loads, stores and comparisons of it.
-/
import Derived.Test.YtkapkphhceknfaaGreatDoorB09
import Derived.Laws.StructEq
import Derived.ChangeKeysEq
namespace Go.Proofs.YtkapkphhceknfaaGreatDoor.Su
open Go.RowKit
/-- A row of bools, by a function. -/
def bl (n : Nat) (f : Nat → Bool) : Array Value := ((List.range n).map fun j => Value.bool (f j)).toArray
theorem bl_size (n : Nat) (f : Nat → Bool) : (bl n f).size = n := by simp [bl]
theorem bl_get (n : Nat) (f : Nat → Bool) (j : Nat) (h : j < n) : (bl n f)[j]? = some (.bool (f j)) := by simp [bl, h]
theorem bl_congr (n : Nat) (f g : Nat → Bool) (h : ∀ j, j < n → f j = g j) : bl n f = bl n g := by
  unfold bl; congr 1; apply List.map_congr_left; intro j hj; rw [h j (by simpa using hj)]
theorem bl_one (n : Nat) (f : Nat → Bool) : ∀ v ∈ (bl n f).toList, v.oneCell' = true := by
  intro v hv; simp [bl] at hv; obtain ⟨j, _, rfl⟩ := hv; rfl
def putF (f : Nat → Bool) (k : Nat) (v : Bool) (j : Nat) : Bool := if j = k then v else f j
theorem bl_set (n : Nat) (f : Nat → Bool) (k : Nat) (v : Bool) : (bl n f).setIfInBounds k (.bool v) = bl n (putF f k v) := by
  apply Array.ext_getElem?; intro j
  rw [Array.getElem?_setIfInBounds]
  by_cases hj : j < n
  · rw [bl_get n (putF f k v) _ hj]
    by_cases e : k = j
    · subst e; simp [bl_size, hj, putF]
    · rw [if_neg e, bl_get _ _ _ hj]; simp [putF, Ne.symm e]
  · rw [Array.getElem?_eq_none (xs := bl n (putF f k v)) (by rw [bl_size]; omega)]
    by_cases e : k = j
    · subst e; simp [bl_size, hj]
    · rw [if_neg e, Array.getElem?_eq_none (by rw [bl_size]; omega)]
/-- What tells of all, as its cells. -/
def supA (c e : Int) (f : Nat → Bool) (r : ByteArray) : Array Value := #[.int .i64 c, .int .i64 e] ++ bl 32 f ++ #[.string r]
section
variable (c e : Int) (f : Nat → Bool) (r : ByteArray)
theorem supA_size : (supA c e f r).size = 35 := by simp [supA, bl_size]
theorem supA_0 : (supA c e f r)[0]? = some (.int .i64 c) := by kernel_rfl
theorem supA_1 : (supA c e f r)[1]? = some (.int .i64 e) := by kernel_rfl
theorem supA_34 : (supA c e f r)[34]? = some (.string r) := by
  unfold supA; rw [Array.getElem?_append_right (by simp [bl_size])]; simp [bl_size]
theorem supA_side (j : Nat) (h : j < 32) : (supA c e f r)[2 + j]? = some (.bool (f j)) := by
  unfold supA
  rw [Array.getElem?_append_left (by simp [bl_size]; omega), Array.getElem?_append_right (by simp)]
  simp [bl_get _ _ _ h]
theorem supA_sides : (supA c e f r).extract 2 (2 + 32) = bl 32 f := by
  apply Array.ext_getElem?; intro j
  by_cases hj : j < 32
  · rw [bl_get _ _ _ hj, Array.getElem?_extract, if_pos (by rw [supA_size]; omega), supA_side _ _ _ _ _ hj]
  · rw [Array.getElem?_eq_none (by rw [Array.size_extract, supA_size]; omega), Array.getElem?_eq_none (by rw [bl_size]; omega)]
theorem supA_all (m : Nat) (h : 0 + 35 = m) : (supA c e f r).extract 0 m = supA c e f r := by
  subst h; rw [Nat.zero_add]
  have := Array.extract_size (xs := supA c e f r)
  rw [supA_size] at this; exact this
theorem supA_put (k : Nat) (hk : k < 32) (v : Bool) : (supA c e f r).setIfInBounds (2 + k) (.bool v) = supA c e (putF f k v) r := by
  unfold supA
  rw [Array.setIfInBounds_append_left (by simp [bl_size]; omega), Array.setIfInBounds_append_right (by simp)]
  simp [bl_set]
theorem supA_one : ∀ v ∈ (supA c e f r).toList, v.oneCell' = true := by
  intro v hv
  simp only [supA, Array.toList_append, List.mem_append] at hv
  rcases hv with (hv | hv) | hv
  · simp at hv; rcases hv with rfl | rfl <;> rfl
  · exact bl_one _ _ v hv
  · simp at hv; subst hv; rfl
end
theorem supA_congr (c e : Int) (f g : Nat → Bool) (r : ByteArray) (h : ∀ j, j < 32 → f j = g j) : supA c e f r = supA c e g r := by
  unfold supA; rw [bl_congr 32 f g h]
/-- The digits of sides. -/
def dig (b : Bool) : UInt8 := if b then 49 else 48
def dg (f : Nat → Bool) : ByteArray := sb 32 (fun j => dig (f j))
theorem dg_size (f : Nat → Bool) : (dg f).size = 32 := sb_size _ _
theorem sb_succ (n : Nat) (f : Nat → UInt8) : sb n f ++ ⟨#[f n]⟩ = sb (n + 1) f := by
  apply ByteArray.ext
  simp [sb, List.range_succ]
theorem sb_zero (f : Nat → UInt8) : sb 0 f = ⟨#[]⟩ := rfl
section
variable {P : Program} {ops : Array Oper} {Q : Exit → Act → World → Prop} {a : Act} {w : World} {rest : List Oper} {o : Oper}
/-- Cells written, all of a block. -/
theorem storeVar_run (t : TypeId) (n : Nat) (hi0 : (P.info? t).map (·.size) = some n) (b : Nat) (arr vs : Array Value) (T : TypeId) (hone : ∀ v ∈ vs.toList, v.oneCell' = true) (hb : Blk w b arr T) (hn : arr.size = n) (hv : vs.size = n) :
    (storeVar t ⟨b, 0, none⟩ (.agg vs)).run P w = .ok () (putBlk w b (.cells vs T)) := by
  obtain ⟨i, hi, hsize⟩ := Option.map_eq_some_iff.1 hi0
  have hl := storeCells_run P w b hb.lt T vs.toList 0 arr (by simp [hv, hn]) hone
  rw [putBlk_self hb, foldset_all _ _ (by simp [hv, hn])] at hl
  simp only [storeVar, sizeOf, typeInfo, hi, hsize, Sem.run_bind, Sem.run_pure, run_program, Result.andThen_ok, Value.cells, hv, ne_eq, not_true, if_false, hl]
theorem wpl_storeV (hgd : o.guard = none) (hdn : o.dst = none) (t : TypeId) (x y : Operand) (ho : o.op = .store t x y) (n : Nat) (hi0 : (P.info? t).map (·.size) = some n)
    (b : Nat) (arr : Array Value) (T : TypeId) (vs : Array Value) (hone : ∀ v ∈ vs.toList, v.oneCell' = true) (hx : a.eval x = .pointer (some ⟨b, 0, none⟩)) (hy : a.eval y = .agg vs) (hb : Blk w b arr T) (hn : arr.size = n) (hv : vs.size = n)
    (h : ∀ w', Upd w w' b → Blk w' b vs T → wpList P ops Q rest a w') : wpList P ops Q (o :: rest) a w := by
  refine wpList_plain hgd fun K hK => ?_
  unfold Oper.wp execOp
  simp only [ho, hx, hy, Instr.storeAt, Instr.sureAddr, Sem.run_bind, Sem.run_pure, Result.andThen_ok, storeVar_run t n hi0 b arr vs T hone hb hn hv]
  simp only [Oper.upon_skip, hdn, Act.put]
  exact hK _ _ (h _ (putBlk_upd _ _ _) (putBlk_blk hb))
/-- A struct or an array read out of its block. -/
theorem loadV_run (w : World) (t : TypeId) (ha : ∀ w, (isAgg t).run P w = .ok true w) (n : Nat) (hi0 : (P.info? t).map (·.size) = some n) (b off : Nat) (arr : Array Value) (T : TypeId) (hb : Blk w b arr T) (hn : off + n ≤ arr.size) : (loadVar t ⟨b, off, none⟩).run P w = .ok (.agg (arr.extract off (off + n))) w := by
  obtain ⟨i, hi, hsize⟩ := Option.map_eq_some_iff.1 hi0
  have hl := loadCellsFrom_run P w b off arr T hb n 0 #[] (by omega)
  simp only [loadVar, ha, sizeOf, typeInfo, loadCells, hi, hsize, Sem.run_bind, Sem.run_pure, run_program, Result.andThen_ok, if_true, hl]
  simp only [Nat.add_zero, Array.empty_append]
theorem wpl_loadV (hgd : o.guard = none) (t : TypeId) (x : Operand) (ho : o.op = .load t x) (ha : ∀ w, (isAgg t).run P w = .ok true w) (n : Nat) (hi0 : (P.info? t).map (·.size) = some n)
    (b off : Nat) (arr : Array Value) (T : TypeId) (hx : a.eval x = .pointer (some ⟨b, off, none⟩)) (hb : Blk w b arr T) (hn : off + n ≤ arr.size)
    (h : wpList P ops Q rest (a.put o.dst (.agg (arr.extract off (off + n)))) w) : wpList P ops Q (o :: rest) a w := by
  refine wpList_plain hgd fun K hK => ?_
  unfold Oper.wp execOp
  simp only [ho, hx, Instr.loadAt, Instr.sureAddr, Sem.run_bind, Sem.run_pure, Result.andThen_ok, loadV_run w t ha n hi0 b off arr T hb hn]
  exact hK _ _ h
end
theorem sz93 : (Tryz.prog.info? 72).map (·.size) = some 35 := by kernel_rfl
theorem sz91 : (Tryz.prog.info? 70).map (·.size) = some 32 := by kernel_rfl
theorem sz165 : (Tryz.prog.info? 147).map (·.size) = some 32 := by kernel_rfl
theorem sz4 : (Tryz.prog.info? 4).map (·.size) = some 1 := by kernel_rfl
theorem sz5 : (Tryz.prog.info? 5).map (·.size) = some 1 := by kernel_rfl
/-- Nothing told. -/
def sup0 : Array Value := supA 0 0 (fun _ => false) ⟨#[]⟩
theorem zero93 : ∀ w, (zeroValue 72).run Tryz.prog w = .ok (.agg sup0) w := fun w => (Tryz.zeroValue72 w).trans (by kernel_rfl)
theorem zero91 : ∀ w, (zeroValue 70).run Tryz.prog w = .ok (.agg (bl 32 fun _ => false)) w := fun w => (Tryz.zeroValue70 w).trans (by kernel_rfl)
theorem zero165 : ∀ w, (zeroValue 147).run Tryz.prog w = .ok (.agg (tb 32 fun _ => 0)) w := fun w => (Tryz.zeroValue147 w).trans (by kernel_rfl)
theorem eq_items (d : Nat) (f : Nat → Bool) (w : World) : ∀ is : List Nat, (∀ i ∈ is, i < 32) → (Op.eqItems (d + 1) 4 1 (bl 32 f) (bl 32 f) is).run Tryz.prog w = .ok true w
  | [], _ => by simp [Op.eqItems]
  | i :: is, h => by
    have hi : i < 32 := h i (by simp)
    have hp : (part 4 (bl 32 f) i).run Tryz.prog w = .ok (.bool (f i)) w := by
      simp [part, Tryz.isAgg4, bl_get 32 f i hi]
    simp only [Op.eqItems, Nat.mul_one, Sem.run_bind, hp, Result.andThen_ok, run_equalIn_bool w d 4 _ _ Tryz.underlying4, beq_self_eq_true, Bool.not_true, Bool.false_eq_true, if_false]
    exact eq_items d f w is (fun j hj => h j (by simp [hj]))
theorem cells4 : Tryz.prog.cellsOf 4 = 1 := by kernel_rfl
theorem eq_sides (d : Nat) (f : Nat → Bool) (w : World) : (Op.equalIn (d + 2) 70 (.agg (bl 32 f)) (.agg (bl 32 f))).run Tryz.prog w = .ok true w := by
  obtain ⟨i, hi, _⟩ := Option.map_eq_some_iff.1 sz4
  rw [run_equalIn_array w (d + 1) _ _ Tryz.underlying70 hi, cells4]
  exact eq_items d f w _ (fun j hj => by simpa using hj)
theorem fields93 : Tryz.prog.underlying 72 = some (.struct (Tryz.prog.fieldsOf 72)) := by kernel_rfl
theorem held93 : Tryz.prog.stoodInHeld 72 = false := by kernel_rfl
theorem fl93 : (Tryz.prog.fieldsOf 72).toList.map (fun f => (f.name, f.type, f.offset)) = [("Count", 3, 0), ("Epoch", 3, 1), ("Sides", 70, 2), ("Root", 9, 34)] := by kernel_rfl
section
variable (c e : Int) (f : Nat → Bool) (r : ByteArray) (w : World)
theorem pt0 : (part 3 (supA c e f r) 0).run Tryz.prog w = .ok (.int .i64 c) w := by simp [part, Tryz.isAgg3, supA_0]
theorem pt1 : (part 3 (supA c e f r) 1).run Tryz.prog w = .ok (.int .i64 e) w := by simp [part, Tryz.isAgg3, supA_1]
theorem pt3 : (part 9 (supA c e f r) 34).run Tryz.prog w = .ok (.string r) w := by simp [part, Tryz.isAgg9, supA_34]
theorem pt2 : (part 70 (supA c e f r) 2).run Tryz.prog w = .ok (.agg (bl 32 f)) w := by
  have := supA_sides c e f r
  simp [part, Tryz.isAgg70, Tryz.sizeOf70, this]
end
theorem eq_superD (d : Nat) (c e : Int) (f : Nat → Bool) (r : ByteArray) (w : World) : (Op.equalIn (d + 3) 72 (.agg (supA c e f r)) (.agg (supA c e f r))).run Tryz.prog w = .ok true w := by
  rw [run_equalIn_struct w (d + 2) _ _ _ fields93 held93]
  have hm := fl93
  obtain ⟨n0, l0, e0, h0, hm⟩ := List.map_eq_cons_iff.1 hm
  obtain ⟨n1, l1, e1, h1, hm⟩ := List.map_eq_cons_iff.1 hm
  obtain ⟨n2, l2, e2, h2, hm⟩ := List.map_eq_cons_iff.1 hm
  obtain ⟨n3, l3, e3, h3, hm⟩ := List.map_eq_cons_iff.1 hm
  obtain rfl := List.map_eq_nil_iff.1 hm
  have hn := e0
  rw [e1, e2, e3] at hn
  simp only [Prod.mk.injEq] at h0 h1 h2 h3
  have i0 : ¬ n0.name = "_" := by rw [h0.1]; simp
  have i1 : ¬ n1.name = "_" := by rw [h1.1]; simp
  have i2 : ¬ n2.name = "_" := by rw [h2.1]; simp
  have i3 : ¬ n3.name = "_" := by rw [h3.1]; simp
  replace h0 := h0.2
  replace h1 := h1.2
  replace h2 := h2.2
  replace h3 := h3.2
  rw [hn]
  simp only [Op.eqFields, i0, i1, i2, i3, h0, h1, h2, h3, pt0, pt1, pt2, pt3, Sem.run_bind, Result.andThen_ok, run_equalIn_int w (d + 1) 3 _ _ _ _ Tryz.underlying3, eq_sides d f w, run_equalIn_string w (d + 1) 9 _ _ Tryz.underlying9, beq_self_eq_true, ne_eq, not_false_eq_true, if_true, Bool.not_true, Bool.false_eq_true, if_false, Sem.run_pure]
theorem eq_super (c e : Int) (f : Nat → Bool) (r : ByteArray) (w : World) : (Op.equalIn 10000 72 (.agg (supA c e f r)) (.agg (supA c e f r))).run Tryz.prog w = .ok true w := by
  rw [show (10000 : Nat) = 9997 + 3 from rfl]
  exact eq_superD 9997 c e f r w
theorem ne_super (c e : Int) (f : Nat → Bool) (r : ByteArray) (w : World) : (binOp .neq 72 (.agg (supA c e f r)) (.agg (supA c e f r))).run Tryz.prog w = .ok (.bool false) w := by
  rw [run_neq_struct, eq_super]
  rfl
end Go.Proofs.YtkapkphhceknfaaGreatDoor.Su
