/-
  Part of the proof: the code's small functions on what tells of all are walked: isNumber, number, sidesText, sides, isBlank; and the reference's in, mark.
-/
import Derived.Test.YtkapkphhceknfaaGreatDoorB08
import Derived.Test.YtkapkphhceknfaaGreatDoorB16
namespace Go.Proofs.YtkapkphhceknfaaGreatDoor.Su
open Go.RowKit Pg
/-- Whether a count may be that. -/
def okN (n : Int) : Bool := decide (1 ≤ n) && decide (n ≤ 1099511627776)
theorem isNumber_any (n : Int) (w : World) : Calls Tryz.prog 53 #[.int .i64 n] w fun e w' => e = .returned (.bool (okN n)) ∧ w' = w := by
  unfold okN
  by_cases h1 : 1 ≤ n
  · go_enter Tryz.func53, Tryz.ntmps53
    go_wp2
    go_ret
    simp [h1]
  · have d1 : decide (1 ≤ n) = false := by simpa using h1
    go_enter Tryz.func53, Tryz.ntmps53
    go_wp2
    go_ret
    simp
set_option maxRecDepth 100000 in
set_option maxHeartbeats 1000000 in
theorem snumber_any (s : ByteArray) (w : World) (h8 : 8 ≤ s.size) (hs : s.size ≤ 10000) :
    Calls Tryz.prog 116 #[.string s] w fun e w' => e = .returned (.int .i64 (verN s)) ∧ w' = w := by
  go_enter Tryz.func116, Tryz.ntmps116
  go_wp2_with fail
  go_loop [3, 5] (fun z i => ∃ k : Nat, k ≤ 8 ∧ i = .int .i64 k ∧ z = .int .u64 (verF s k : Int)) (fun _ i => 8 - (intOf i).toNat)
  case atStart => exact ⟨0, by omega, rfl, rfl⟩
  case round =>
    obtain ⟨k, hk, rfl, rfl⟩ := hrel
    by_cases hlt : k < 8
    · have hv := verF_lt7 s k hlt
      have hks : k < s.size := by omega
      have hb := bt_lt s k
      have hbe := bt_eq s k hks
      have ho := or_word (verF s k) (bt s k) hv hb
      rw [Int.natCast_mul] at ho
      go_wp2
      exact ⟨⟨k + 1, by omega, by go_num, congrArg (Value.int .u64) (ho.trans (by simp [verF]))⟩, by simp [intOf]; omega⟩
    · have hk' : k = 8 := by omega
      subst hk'
      go_wp2
      go_ret
      exact ⟨rfl, rfl⟩
/-- The digits laid so far. -/
def digTo (f : Nat → Bool) (k j : Nat) : UInt8 := if j < k then dig (f j) else 0
theorem digTo_set (f : Nat → Bool) (k : Nat) (v : UInt8) (h : v = dig (f k)) : tb 32 (fun j => if j = k then v else digTo f k j) = tb 32 (digTo f (k + 1)) := by
  refine tb_congr _ _ _ fun j _ => ?_
  unfold digTo
  by_cases e : j = k
  · subst e; simp [h]
  · simp only [e, if_false]
    by_cases h2 : j < k
    · rw [if_pos h2, if_pos (by omega)]
    · rw [if_neg h2, if_neg (by omega)]
def dgL (f : Nat → Bool) : List UInt8 := (List.range 32).map fun j => dig (f j)
theorem dgL_eq (f : Nat → Bool) : (⟨(dgL f).toArray⟩ : ByteArray) = dg f := rfl
theorem digTo_all (f : Nat → Bool) (m : Nat) (h : 0 + 32 = m) : (tb 32 (digTo f 32)).extract 0 m = (Lib.byteCells (dgL f)).toArray := by
  have e : tb 32 (digTo f 32) = tb 32 (fun j => dig (f j)) := tb_congr _ _ _ fun j hj => by unfold digTo; rw [if_pos hj]
  rw [e]; exact tb_bytes _ _ _ h
set_option maxRecDepth 100000 in
set_option maxHeartbeats 1000000 in
theorem sidesText_any (f : Nat → Bool) (w : World) :
    Calls Tryz.prog 55 #[.agg (bl 32 f)] w fun e w' => e = .returned (.string (dg f)) ∧ Below w.heap.size w w' := by
  have z165 := zero165
  go_enter Tryz.func55, Tryz.ntmps55
  go_wp2_with fail
  have j0 : Blk ((w.alloc (.cells (bl 32 f) 70)).alloc (.cells (tb 32 fun _ => 0) 147)) w.heap.size (bl 32 f) 70 := (Blk.new w _ _).alloc _
  have j1 : Blk ((w.alloc (.cells (bl 32 f) 70)).alloc (.cells (tb 32 fun _ => 0) 147)) (w.heap.size + 1) (tb 32 (digTo f 0)) 147 := Blk.new' _ _ _ (by simp)
  have jb : Below w.heap.size w ((w.alloc (.cells (bl 32 f) 70)).alloc (.cells (tb 32 fun _ => 0) 147)) := ((Below.refl _ _).alloc (Nat.le_refl _) _).alloc (by simp) _
  go_loopw [5] (fun i wr => ∃ k : Nat, k ≤ 32 ∧ i = .int .i64 k ∧ Blk wr w.heap.size (bl 32 f) 70 ∧ Blk wr (w.heap.size + 1) (tb 32 (digTo f k)) 147 ∧ Below w.heap.size w wr) (fun i _ => 32 - (intOf i).toNat)
  case atStart => exact ⟨0, by omega, rfl, j0, j1, jb⟩
  case round =>
    clear j0 j1 jb
    obtain ⟨k, hk, rfl, j0, j1, jb⟩ := hrel
    by_cases hlt : k < 32
    · cases hf : f k with
      | false =>
        go_wp2_with (first
          | (refine wpl_put rfl rfl 5 _ _ rfl sz5 (w.heap.size + 1) k _ _ _ _ rfl rfl j1 (by rw [tb_size]; exact hlt) ?_; intro w1 hu1 j2; have c0 : w1.cell? ⟨w.heap.size, k, none⟩ = some (.bool false) := by rw [(j0.upd hu1 (by omega)).cell, bl_get _ _ _ hlt, hf])
          | fail)
        have j3 : Blk w1 (w.heap.size + 1) (tb 32 (digTo f (k + 1))) 147 := by
          rw [← digTo_set f k 48 (by rw [hf]; rfl), ← tb_set]; exact j2
        exact ⟨⟨k + 1, by omega, by go_num, j0.upd hu1 (by omega), j3, below_upd jb hu1 (by omega)⟩, by simp [intOf]; omega⟩
      | true =>
        go_wp2_with (first
          | (refine wpl_put rfl rfl 5 _ _ rfl sz5 (w.heap.size + 1) k _ _ _ _ rfl rfl j2 (by rw [Array.size_setIfInBounds, tb_size]; exact hlt) ?_; intro w2 hu2 j3)
          | (refine wpl_put rfl rfl 5 _ _ rfl sz5 (w.heap.size + 1) k _ _ _ _ rfl rfl j1 (by rw [tb_size]; exact hlt) ?_; intro w1 hu1 j2; have c0 : w1.cell? ⟨w.heap.size, k, none⟩ = some (.bool true) := by rw [(j0.upd hu1 (by omega)).cell, bl_get _ _ _ hlt, hf])
          | fail)
        have j4 : Blk w2 (w.heap.size + 1) (tb 32 (digTo f (k + 1))) 147 := by
          rw [← digTo_set f k 49 (by rw [hf]; rfl), ← tb_set]
          rw [Array.setIfInBounds_setIfInBounds] at j3
          exact j3
        have hu := hu1.trans hu2
        exact ⟨⟨k + 1, by omega, by go_num, j0.upd hu (by omega), j4, below_upd jb hu (by omega)⟩, by simp [intOf]; omega⟩
    · have hk' : k = 32 := by omega
      subst hk'
      go_wp2_with (refine wpl_string rfl 87 9 5 _ rfl Tryz.underlying87 Tryz.underlying5 Tryz.underlying9 _ _ _ _ _ _ rfl j1 (by simp [tb_size]) _ (digTo_all f _ rfl) ?_; rw [dgL_eq])
      go_ret
      exact ⟨rfl, jb⟩
/-- What the digits tell. -/
def sideF (s : ByteArray) (o j : Nat) : Bool := bt s (o + j) == 49
def sideTo (s : ByteArray) (o k j : Nat) : Bool := if j < k then sideF s o j else false
theorem sideTo_set (s : ByteArray) (o k : Nat) : bl 32 (putF (sideTo s o k) k (sideF s o k)) = bl 32 (sideTo s o (k + 1)) := by
  refine bl_congr _ _ _ fun j _ => ?_
  unfold putF sideTo
  by_cases e : j = k
  · subst e; simp
  · simp only [e, if_false]
    by_cases h2 : j < k
    · rw [if_pos h2, if_pos (by omega)]
    · rw [if_neg h2, if_neg (by omega)]
theorem sideTo_all (s : ByteArray) (o : Nat) : bl 32 (sideTo s o 32) = bl 32 (sideF s o) := bl_congr _ _ _ fun j hj => by unfold sideTo; rw [if_pos hj]
section
variable {P : Program} {ops : Array Oper} {Q : Exit → Act → World → Prop} {a : Act} {w : World} {rest : List Oper} {o : Oper}
/-- One bool written into its block. -/
theorem wpl_putB (hgd : o.guard = none) (hdn : o.dst = none) (t : TypeId) (x y : Operand) (ho : o.op = .store t x y) (hi0 : (P.info? t).map (·.size) = some 1)
    (b j : Nat) (arr : Array Value) (T : TypeId) (z : Bool) (hx : a.eval x = .pointer (some ⟨b, j, none⟩)) (hy : a.eval y = .bool z) (hb : Blk w b arr T) (hj : j < arr.size)
    (h : ∀ w', Upd w w' b → Blk w' b (arr.setIfInBounds j (.bool z)) T → wpList P ops Q rest a w') : wpList P ops Q (o :: rest) a w := by
  refine wpList_plain hgd fun K hK => ?_
  obtain ⟨i, hi, hsize⟩ := Option.map_eq_some_iff.1 hi0
  unfold Oper.wp execOp
  have ha : (⟨b, j, none⟩ : Addr).add 0 = ⟨b, j, none⟩ := by unfold Addr.add; simp
  have hl : (storeCells ⟨b, j, none⟩ [Value.bool z] 0).run P w = .ok () (w.setCell ⟨b, j, none⟩ (.bool z)) := by
    simp only [storeCells, Sem.run_bind, ha]
    rw [run_store _ _ _ _ _ rfl, hb.cell, Array.getElem?_eq_getElem hj]
    simp only [hb.frozen, Bool.false_eq_true, if_false, Result.andThen_ok]
    rfl
  simp only [ho, hx, hy, Instr.storeAt, Instr.sureAddr, storeVar, sizeOf, typeInfo, hi, hsize, Sem.run_bind, Sem.run_pure, run_program, Result.andThen_ok, Value.cells, List.size_toArray, List.length_cons, List.length_nil, Nat.zero_add, ne_eq, not_true, if_false, hl]
  simp only [Oper.upon_skip, hdn, Act.put]
  exact hK _ _ (h _ (setCell_upd _ _ _ _) (hb.set j _))
end
/-- A result that is a struct or an array in its block. -/
theorem ret_cellV {P : Program} {fn : Func} {R : Ending → World → Prop} {a : Act} {w : World} (p : Tmp) (t : TypeId) (hf : fn.results = #[.cell p t]) (ha : ∀ w, (isAgg t).run P w = .ok true w) (n : Nat) (hi0 : (P.info? t).map (·.size) = some n)
    (b : Nat) (vs : Array Value) (T : TypeId) (hn : vs.size = n) (hx : a.tmps.getD p undef = .pointer (some ⟨b, 0, none⟩)) (hb : Blk w b vs T) (hd : a.defers = []) (hR : R (.returned (.agg vs)) w) : bodyPost P fn R .ret a w := by
  refine bodyPost_ret ?_ hd hR
  have hl := loadV_run w t ha n hi0 b 0 vs T hb (by omega)
  rw [Nat.zero_add, ← hn, Array.extract_size] at hl
  have hx' : a.tmps[p]?.getD undef = .pointer (some ⟨b, 0, none⟩) := by rw [← hx]; simp
  simp only [results, hf]
  simp [hx', asAddr, hl]
theorem ret_cellV2 {P : Program} {fn : Func} {R : Ending → World → Prop} {a : Act} {w : World} (p q : Tmp) (t : TypeId) (hf : fn.results = #[.cell p t, .tmp q]) (ha : ∀ w, (isAgg t).run P w = .ok true w) (n : Nat) (hi0 : (P.info? t).map (·.size) = some n)
    (b : Nat) (vs : Array Value) (T : TypeId) (hn : vs.size = n) (v : Value) (hx : a.tmps.getD p undef = .pointer (some ⟨b, 0, none⟩)) (hq : a.tmps.getD q undef = v) (hb : Blk w b vs T) (hd : a.defers = []) (hR : R (.returned (.tuple #[.agg vs, v])) w) : bodyPost P fn R .ret a w := by
  refine bodyPost_ret ?_ hd hR
  have hl := loadV_run w t ha n hi0 b 0 vs T hb (by omega)
  rw [Nat.zero_add, ← hn, Array.extract_size] at hl
  have hx' : a.tmps[p]?.getD undef = .pointer (some ⟨b, 0, none⟩) := by rw [← hx]; simp
  have hq' : a.tmps[q]?.getD undef = v := by rw [← hq]; simp
  simp only [results, hf]
  simp [hx', hq', asAddr, hl]
set_option maxRecDepth 100000 in
set_option maxHeartbeats 1000000 in
theorem sides_any (s : ByteArray) (w : World) (hs : s.size = 32) :
    Calls Tryz.prog 117 #[.string s] w fun e w' => e = .returned (.agg (bl 32 (sideF s 0))) ∧ Below w.heap.size w w' := by
  have z91 := zero91
  go_enter Tryz.func117, Tryz.ntmps117
  go_wp2_with fail
  have j0 : Blk ((w.alloc (.cells (bl 32 fun _ => false) 70)).alloc (.cells (bl 32 fun _ => false) 70)) w.heap.size (bl 32 fun _ => false) 70 := (Blk.new w _ _).alloc _
  have j1 : Blk ((w.alloc (.cells (bl 32 fun _ => false) 70)).alloc (.cells (bl 32 fun _ => false) 70)) (w.heap.size + 1) (bl 32 (sideTo s 0 0)) 70 := Blk.new' _ _ _ (by simp)
  have jb : Below w.heap.size w ((w.alloc (.cells (bl 32 fun _ => false) 70)).alloc (.cells (bl 32 fun _ => false) 70)) := ((Below.refl _ _).alloc (Nat.le_refl _) _).alloc (by simp) _
  go_loopw [5] (fun i wr => ∃ k : Nat, k ≤ 32 ∧ i = .int .i64 k ∧ Blk wr w.heap.size (bl 32 fun _ => false) 70 ∧ Blk wr (w.heap.size + 1) (bl 32 (sideTo s 0 k)) 70 ∧ Below w.heap.size w wr) (fun i _ => 32 - (intOf i).toNat)
  case atStart => exact ⟨0, by omega, rfl, j0, j1, jb⟩
  case round =>
    clear j0 j1 jb
    obtain ⟨k, hk, rfl, j0, j1, jb⟩ := hrel
    by_cases hlt : k < 32
    · have hks : k < s.size := by omega
      have hbe := bt_eq s k hks
      go_wp2_with (first
        | (refine wpl_putB rfl rfl 4 _ _ rfl sz4 (w.heap.size + 1) k _ _ _ rfl rfl j1 (by rw [bl_size]; exact hlt) ?_; intro w1 hu1 j2)
        | fail)
      have ev : ((bt s k : Int) == 49) = sideF s 0 k := by unfold sideF; rw [Nat.zero_add, Bool.eq_iff_iff, beq_iff_eq, beq_iff_eq]; omega
      have j3 : Blk w1 (w.heap.size + 1) (bl 32 (sideTo s 0 (k + 1))) 70 := by
        rw [← sideTo_set, ← bl_set, ← ev]; exact j2
      exact ⟨⟨k + 1, by omega, by go_num, j0.upd hu1 (by omega), j3, below_upd jb hu1 (by omega)⟩, by simp [intOf]; omega⟩
    · have hk' : k = 32 := by omega
      subst hk'
      rw [sideTo_all] at j1
      go_wp2_with (first
        | (refine wpl_loadV rfl 70 _ rfl Tryz.isAgg70 32 sz91 (w.heap.size + 1) 0 _ _ rfl j1 (by rw [bl_size]; omega) ?_; rw [show (bl 32 (sideF s 0)).extract 0 (0 + 32) = bl 32 (sideF s 0) from by rw [Nat.zero_add]; have := Array.extract_size (xs := bl 32 (sideF s 0)); rw [bl_size] at this; exact this])
        | (refine wpl_storeV rfl rfl 70 _ _ rfl 32 sz91 w.heap.size _ _ (bl 32 (sideF s 0)) (bl_one _ _) rfl rfl j0 (bl_size _ _) (bl_size _ _) ?_; intro w1 hu1 j2)
        | fail)
      refine ret_cellV 2 70 rfl Tryz.isAgg70 32 sz91 _ _ _ (bl_size _ _) rfl j2 rfl ⟨rfl, below_upd jb hu1 (Nat.le_refl _)⟩
/-- Nothing but bytes of 0. -/
def blank (s : ByteArray) : Bool := decide (∀ j, j < s.size → bt s j = 0)
set_option maxRecDepth 100000 in
set_option maxHeartbeats 1000000 in
theorem isBlank_any (s : ByteArray) (w : World) (hs : s.size ≤ 10000) :
    Calls Tryz.prog 101 #[.string s] w fun e w' => e = .returned (.bool (blank s)) ∧ w' = w := by
  go_enter Tryz.func101, Tryz.ntmps101
  go_wp2_with fail
  go_loop [6] (fun i => ∃ k : Nat, k ≤ s.size ∧ i = .int .i64 k ∧ Hid (∀ j, j < k → bt s j = 0)) (fun i => s.size - (intOf i).toNat)
  case atStart => exact ⟨0, by omega, rfl, fun j hj => by omega⟩
  case round =>
    obtain ⟨k, hk, rfl, hz⟩ := hrel
    by_cases hlt : k < s.size
    · have hbe := bt_eq s k hlt
      have hlt' : (k : Int) < (s.size : Int) := by omega
      by_cases h0 : bt s k = 0
      · go_wp2
        have hz' : Hid (∀ j, j < k + 1 → bt s j = 0) := fun j hj => by
          by_cases e : j = k
          · rw [e]; exact h0
          · exact hz.out j (by omega)
        exact ⟨⟨k + 1, by omega, by go_num, hz'⟩, by simp [intOf]; omega⟩
      · have hne : ¬ ((bt s k : Int) = 0) := by omega
        have hf : blank s = false := decide_eq_false (fun h => h0 (h k hlt))
        go_wp2
        go_ret
        exact ⟨rfl, rfl⟩
    · have hk' : k = s.size := by omega
      subst hk'
      have ht : blank s = true := decide_eq_true hz.out
      go_wp2
      go_ret
      exact ⟨rfl, rfl⟩
end Go.Proofs.YtkapkphhceknfaaGreatDoor.Su
