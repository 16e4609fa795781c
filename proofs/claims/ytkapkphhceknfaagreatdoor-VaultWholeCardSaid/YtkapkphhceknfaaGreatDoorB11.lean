/-
  Part of the proof: the code's small functions on what tells of all are walked: isNumber, number, sidesText, sides, isBlank; and the reference's in, mark.
  Part of the proof: a region that draws its order: some operations that look at no memory, or at such as stays while they wait, are taken first; the others come one behind the other.
-/
import Derived.Test.YtkapkphhceknfaaGreatDoorB05
import Derived.Test.YtkapkphhceknfaaGreatDoorB10
import Derived.Test.YtkapkphhceknfaaGreatDoorB06
import Derived.OrdersHeld
namespace Go.Proofs.YtkapkphhceknfaaGreatDoor.Su
open Go.RowKit Pg
/-- Whether a count may be that. -/
def okN (n : Int) : Bool := decide (1 ≤ n) && decide (n ≤ 1099511627776)
theorem isNumber_any (n : Int) (w : World) : Calls Tryz.prog 53 #[.int .i64 n] w fun e w' => e = .returned (.bool (okN n)) ∧ w' = w := by
  unfold okN
  by_cases h1 : 1 ≤ n
  · go_enter Tryz.func53, Tryz.ntmps53
    go_wp2
    go_ret
    simp [h1]
  · have d1 : decide (1 ≤ n) = false := by simpa using h1
    go_enter Tryz.func53, Tryz.ntmps53
    go_wp2
    go_ret
    simp
set_option maxRecDepth 100000 in
set_option maxHeartbeats 1000000 in
theorem snumber_any (s : ByteArray) (w : World) (h8 : 8 ≤ s.size) (hs : s.size ≤ 10000) :
    Calls Tryz.prog 116 #[.string s] w fun e w' => e = .returned (.int .i64 (verN s)) ∧ w' = w := by
  go_enter Tryz.func116, Tryz.ntmps116
  go_wp2_with fail
  go_loop [3, 5] (fun z i => ∃ k : Nat, k ≤ 8 ∧ i = .int .i64 k ∧ z = .int .u64 (verF s k : Int)) (fun _ i => 8 - (intOf i).toNat)
  case atStart => exact ⟨0, by omega, rfl, rfl⟩
  case round =>
    obtain ⟨k, hk, rfl, rfl⟩ := hrel
    by_cases hlt : k < 8
    · have hv := verF_lt7 s k hlt
      have hks : k < s.size := by omega
      have hb := bt_lt s k
      have hbe := bt_eq s k hks
      have ho := or_word (verF s k) (bt s k) hv hb
      rw [Int.natCast_mul] at ho
      go_wp2
      exact ⟨⟨k + 1, by omega, by go_num, congrArg (Value.int .u64) (ho.trans (by simp [verF]))⟩, by simp [intOf]; omega⟩
    · have hk' : k = 8 := by omega
      subst hk'
      go_wp2
      go_ret
      exact ⟨rfl, rfl⟩
/-- The digits laid so far. -/
def digTo (f : Nat → Bool) (k j : Nat) : UInt8 := if j < k then dig (f j) else 0
theorem digTo_set (f : Nat → Bool) (k : Nat) (v : UInt8) (h : v = dig (f k)) : tb 32 (fun j => if j = k then v else digTo f k j) = tb 32 (digTo f (k + 1)) := by
  refine tb_congr _ _ _ fun j _ => ?_
  unfold digTo
  by_cases e : j = k
  · subst e; simp [h]
  · simp only [e, if_false]
    by_cases h2 : j < k
    · rw [if_pos h2, if_pos (by omega)]
    · rw [if_neg h2, if_neg (by omega)]
def dgL (f : Nat → Bool) : List UInt8 := (List.range 32).map fun j => dig (f j)
theorem dgL_eq (f : Nat → Bool) : (⟨(dgL f).toArray⟩ : ByteArray) = dg f := rfl
theorem digTo_all (f : Nat → Bool) (m : Nat) (h : 0 + 32 = m) : (tb 32 (digTo f 32)).extract 0 m = (Lib.byteCells (dgL f)).toArray := by
  have e : tb 32 (digTo f 32) = tb 32 (fun j => dig (f j)) := tb_congr _ _ _ fun j hj => by unfold digTo; rw [if_pos hj]
  rw [e]; exact tb_bytes _ _ _ h
set_option maxRecDepth 100000 in
set_option maxHeartbeats 1000000 in
theorem sidesText_any (f : Nat → Bool) (w : World) :
    Calls Tryz.prog 55 #[.agg (bl 32 f)] w fun e w' => e = .returned (.string (dg f)) ∧ Below w.heap.size w w' := by
  have z165 := zero165
  go_enter Tryz.func55, Tryz.ntmps55
  go_wp2_with fail
  have j0 : Blk ((w.alloc (.cells (bl 32 f) 70)).alloc (.cells (tb 32 fun _ => 0) 147)) w.heap.size (bl 32 f) 70 := (Blk.new w _ _).alloc _
  have j1 : Blk ((w.alloc (.cells (bl 32 f) 70)).alloc (.cells (tb 32 fun _ => 0) 147)) (w.heap.size + 1) (tb 32 (digTo f 0)) 147 := Blk.new' _ _ _ (by simp)
  have jb : Below w.heap.size w ((w.alloc (.cells (bl 32 f) 70)).alloc (.cells (tb 32 fun _ => 0) 147)) := ((Below.refl _ _).alloc (Nat.le_refl _) _).alloc (by simp) _
  go_loopw [5] (fun i wr => ∃ k : Nat, k ≤ 32 ∧ i = .int .i64 k ∧ Blk wr w.heap.size (bl 32 f) 70 ∧ Blk wr (w.heap.size + 1) (tb 32 (digTo f k)) 147 ∧ Below w.heap.size w wr) (fun i _ => 32 - (intOf i).toNat)
  case atStart => exact ⟨0, by omega, rfl, j0, j1, jb⟩
  case round =>
    clear j0 j1 jb
    obtain ⟨k, hk, rfl, j0, j1, jb⟩ := hrel
    by_cases hlt : k < 32
    · cases hf : f k with
      | false =>
        go_wp2_with (first
          | (refine wpl_put rfl rfl 5 _ _ rfl sz5 (w.heap.size + 1) k _ _ _ _ rfl rfl j1 (by rw [tb_size]; exact hlt) ?_; intro w1 hu1 j2; have c0 : w1.cell? ⟨w.heap.size, k, none⟩ = some (.bool false) := by rw [(j0.upd hu1 (by omega)).cell, bl_get _ _ _ hlt, hf])
          | fail)
        have j3 : Blk w1 (w.heap.size + 1) (tb 32 (digTo f (k + 1))) 147 := by
          rw [← digTo_set f k 48 (by rw [hf]; rfl), ← tb_set]; exact j2
        exact ⟨⟨k + 1, by omega, by go_num, j0.upd hu1 (by omega), j3, below_upd jb hu1 (by omega)⟩, by simp [intOf]; omega⟩
      | true =>
        go_wp2_with (first
          | (refine wpl_put rfl rfl 5 _ _ rfl sz5 (w.heap.size + 1) k _ _ _ _ rfl rfl j2 (by rw [Array.size_setIfInBounds, tb_size]; exact hlt) ?_; intro w2 hu2 j3)
          | (refine wpl_put rfl rfl 5 _ _ rfl sz5 (w.heap.size + 1) k _ _ _ _ rfl rfl j1 (by rw [tb_size]; exact hlt) ?_; intro w1 hu1 j2; have c0 : w1.cell? ⟨w.heap.size, k, none⟩ = some (.bool true) := by rw [(j0.upd hu1 (by omega)).cell, bl_get _ _ _ hlt, hf])
          | fail)
        have j4 : Blk w2 (w.heap.size + 1) (tb 32 (digTo f (k + 1))) 147 := by
          rw [← digTo_set f k 49 (by rw [hf]; rfl), ← tb_set]
          rw [Array.setIfInBounds_setIfInBounds] at j3
          exact j3
        have hu := hu1.trans hu2
        exact ⟨⟨k + 1, by omega, by go_num, j0.upd hu (by omega), j4, below_upd jb hu (by omega)⟩, by simp [intOf]; omega⟩
    · have hk' : k = 32 := by omega
      subst hk'
      go_wp2_with (refine wpl_string rfl 87 9 5 _ rfl Tryz.underlying87 Tryz.underlying5 Tryz.underlying9 _ _ _ _ _ _ rfl j1 (by simp [tb_size]) _ (digTo_all f _ rfl) ?_; rw [dgL_eq])
      go_ret
      exact ⟨rfl, jb⟩
/-- What the digits tell. -/
def sideF (s : ByteArray) (o j : Nat) : Bool := bt s (o + j) == 49
def sideTo (s : ByteArray) (o k j : Nat) : Bool := if j < k then sideF s o j else false
theorem sideTo_set (s : ByteArray) (o k : Nat) : bl 32 (putF (sideTo s o k) k (sideF s o k)) = bl 32 (sideTo s o (k + 1)) := by
  refine bl_congr _ _ _ fun j _ => ?_
  unfold putF sideTo
  by_cases e : j = k
  · subst e; simp
  · simp only [e, if_false]
    by_cases h2 : j < k
    · rw [if_pos h2, if_pos (by omega)]
    · rw [if_neg h2, if_neg (by omega)]
theorem sideTo_all (s : ByteArray) (o : Nat) : bl 32 (sideTo s o 32) = bl 32 (sideF s o) := bl_congr _ _ _ fun j hj => by unfold sideTo; rw [if_pos hj]
section
variable {P : Program} {ops : Array Oper} {Q : Exit → Act → World → Prop} {a : Act} {w : World} {rest : List Oper} {o : Oper}
/-- One bool written into its block. -/
theorem wpl_putB (hgd : o.guard = none) (hdn : o.dst = none) (t : TypeId) (x y : Operand) (ho : o.op = .store t x y) (hi0 : (P.info? t).map (·.size) = some 1)
    (b j : Nat) (arr : Array Value) (T : TypeId) (z : Bool) (hx : a.eval x = .pointer (some ⟨b, j, none⟩)) (hy : a.eval y = .bool z) (hb : Blk w b arr T) (hj : j < arr.size)
    (h : ∀ w', Upd w w' b → Blk w' b (arr.setIfInBounds j (.bool z)) T → wpList P ops Q rest a w') : wpList P ops Q (o :: rest) a w := by
  refine wpList_plain hgd fun K hK => ?_
  obtain ⟨i, hi, hsize⟩ := Option.map_eq_some_iff.1 hi0
  unfold Oper.wp execOp
  have ha : (⟨b, j, none⟩ : Addr).add 0 = ⟨b, j, none⟩ := by unfold Addr.add; simp
  have hl : (storeCells ⟨b, j, none⟩ [Value.bool z] 0).run P w = .ok () (w.setCell ⟨b, j, none⟩ (.bool z)) := by
    simp only [storeCells, Sem.run_bind, ha]
    rw [run_store _ _ _ _ _ rfl, hb.cell, Array.getElem?_eq_getElem hj]
    simp only [hb.frozen, Bool.false_eq_true, if_false, Result.andThen_ok]
    rfl
  simp only [ho, hx, hy, Instr.storeAt, Instr.sureAddr, storeVar, sizeOf, typeInfo, hi, hsize, Sem.run_bind, Sem.run_pure, run_program, Result.andThen_ok, Value.cells, List.size_toArray, List.length_cons, List.length_nil, Nat.zero_add, ne_eq, not_true, if_false, hl]
  simp only [Oper.upon_skip, hdn, Act.put]
  exact hK _ _ (h _ (setCell_upd _ _ _ _) (hb.set j _))
end
/-- A result that is a struct or an array in its block. -/
theorem ret_cellV {P : Program} {fn : Func} {R : Ending → World → Prop} {a : Act} {w : World} (p : Tmp) (t : TypeId) (hf : fn.results = #[.cell p t]) (ha : ∀ w, (isAgg t).run P w = .ok true w) (n : Nat) (hi0 : (P.info? t).map (·.size) = some n)
    (b : Nat) (vs : Array Value) (T : TypeId) (hn : vs.size = n) (hx : a.tmps.getD p undef = .pointer (some ⟨b, 0, none⟩)) (hb : Blk w b vs T) (hd : a.defers = []) (hR : R (.returned (.agg vs)) w) : bodyPost P fn R .ret a w := by
  refine bodyPost_ret ?_ hd hR
  have hl := loadV_run w t ha n hi0 b 0 vs T hb (by omega)
  rw [Nat.zero_add, ← hn, Array.extract_size] at hl
  have hx' : a.tmps[p]?.getD undef = .pointer (some ⟨b, 0, none⟩) := by rw [← hx]; simp
  simp only [results, hf]
  simp [hx', asAddr, hl]
theorem ret_cellV2 {P : Program} {fn : Func} {R : Ending → World → Prop} {a : Act} {w : World} (p q : Tmp) (t : TypeId) (hf : fn.results = #[.cell p t, .tmp q]) (ha : ∀ w, (isAgg t).run P w = .ok true w) (n : Nat) (hi0 : (P.info? t).map (·.size) = some n)
    (b : Nat) (vs : Array Value) (T : TypeId) (hn : vs.size = n) (v : Value) (hx : a.tmps.getD p undef = .pointer (some ⟨b, 0, none⟩)) (hq : a.tmps.getD q undef = v) (hb : Blk w b vs T) (hd : a.defers = []) (hR : R (.returned (.tuple #[.agg vs, v])) w) : bodyPost P fn R .ret a w := by
  refine bodyPost_ret ?_ hd hR
  have hl := loadV_run w t ha n hi0 b 0 vs T hb (by omega)
  rw [Nat.zero_add, ← hn, Array.extract_size] at hl
  have hx' : a.tmps[p]?.getD undef = .pointer (some ⟨b, 0, none⟩) := by rw [← hx]; simp
  have hq' : a.tmps[q]?.getD undef = v := by rw [← hq]; simp
  simp only [results, hf]
  simp [hx', hq', asAddr, hl]
set_option maxRecDepth 100000 in
set_option maxHeartbeats 1000000 in
theorem sides_any (s : ByteArray) (w : World) (hs : s.size = 32) :
    Calls Tryz.prog 117 #[.string s] w fun e w' => e = .returned (.agg (bl 32 (sideF s 0))) ∧ Below w.heap.size w w' := by
  have z91 := zero91
  go_enter Tryz.func117, Tryz.ntmps117
  go_wp2_with fail
  have j0 : Blk ((w.alloc (.cells (bl 32 fun _ => false) 70)).alloc (.cells (bl 32 fun _ => false) 70)) w.heap.size (bl 32 fun _ => false) 70 := (Blk.new w _ _).alloc _
  have j1 : Blk ((w.alloc (.cells (bl 32 fun _ => false) 70)).alloc (.cells (bl 32 fun _ => false) 70)) (w.heap.size + 1) (bl 32 (sideTo s 0 0)) 70 := Blk.new' _ _ _ (by simp)
  have jb : Below w.heap.size w ((w.alloc (.cells (bl 32 fun _ => false) 70)).alloc (.cells (bl 32 fun _ => false) 70)) := ((Below.refl _ _).alloc (Nat.le_refl _) _).alloc (by simp) _
  go_loopw [5] (fun i wr => ∃ k : Nat, k ≤ 32 ∧ i = .int .i64 k ∧ Blk wr w.heap.size (bl 32 fun _ => false) 70 ∧ Blk wr (w.heap.size + 1) (bl 32 (sideTo s 0 k)) 70 ∧ Below w.heap.size w wr) (fun i _ => 32 - (intOf i).toNat)
  case atStart => exact ⟨0, by omega, rfl, j0, j1, jb⟩
  case round =>
    clear j0 j1 jb
    obtain ⟨k, hk, rfl, j0, j1, jb⟩ := hrel
    by_cases hlt : k < 32
    · have hks : k < s.size := by omega
      have hbe := bt_eq s k hks
      go_wp2_with (first
        | (refine wpl_putB rfl rfl 4 _ _ rfl sz4 (w.heap.size + 1) k _ _ _ rfl rfl j1 (by rw [bl_size]; exact hlt) ?_; intro w1 hu1 j2)
        | fail)
      have ev : ((bt s k : Int) == 49) = sideF s 0 k := by unfold sideF; rw [Nat.zero_add, Bool.eq_iff_iff, beq_iff_eq, beq_iff_eq]; omega
      have j3 : Blk w1 (w.heap.size + 1) (bl 32 (sideTo s 0 (k + 1))) 70 := by
        rw [← sideTo_set, ← bl_set, ← ev]; exact j2
      exact ⟨⟨k + 1, by omega, by go_num, j0.upd hu1 (by omega), j3, below_upd jb hu1 (by omega)⟩, by simp [intOf]; omega⟩
    · have hk' : k = 32 := by omega
      subst hk'
      rw [sideTo_all] at j1
      go_wp2_with (first
        | (refine wpl_loadV rfl 70 _ rfl Tryz.isAgg70 32 sz91 (w.heap.size + 1) 0 _ _ rfl j1 (by rw [bl_size]; omega) ?_; rw [show (bl 32 (sideF s 0)).extract 0 (0 + 32) = bl 32 (sideF s 0) from by rw [Nat.zero_add]; have := Array.extract_size (xs := bl 32 (sideF s 0)); rw [bl_size] at this; exact this])
        | (refine wpl_storeV rfl rfl 70 _ _ rfl 32 sz91 w.heap.size _ _ (bl 32 (sideF s 0)) (bl_one _ _) rfl rfl j0 (bl_size _ _) (bl_size _ _) ?_; intro w1 hu1 j2)
        | fail)
      refine ret_cellV 2 70 rfl Tryz.isAgg70 32 sz91 _ _ _ (bl_size _ _) rfl j2 rfl ⟨rfl, below_upd jb hu1 (Nat.le_refl _)⟩
/-- Nothing but bytes of 0. -/
def blank (s : ByteArray) : Bool := decide (∀ j, j < s.size → bt s j = 0)
set_option maxRecDepth 100000 in
set_option maxHeartbeats 1000000 in
theorem isBlank_any (s : ByteArray) (w : World) (hs : s.size ≤ 10000) :
    Calls Tryz.prog 101 #[.string s] w fun e w' => e = .returned (.bool (blank s)) ∧ w' = w := by
  go_enter Tryz.func101, Tryz.ntmps101
  go_wp2_with fail
  go_loop [6] (fun i => ∃ k : Nat, k ≤ s.size ∧ i = .int .i64 k ∧ Hid (∀ j, j < k → bt s j = 0)) (fun i => s.size - (intOf i).toNat)
  case atStart => exact ⟨0, by omega, rfl, fun j hj => by omega⟩
  case round =>
    obtain ⟨k, hk, rfl, hz⟩ := hrel
    by_cases hlt : k < s.size
    · have hbe := bt_eq s k hlt
      have hlt' : (k : Int) < (s.size : Int) := by omega
      by_cases h0 : bt s k = 0
      · go_wp2
        have hz' : Hid (∀ j, j < k + 1 → bt s j = 0) := fun j hj => by
          by_cases e : j = k
          · rw [e]; exact h0
          · exact hz.out j (by omega)
        exact ⟨⟨k + 1, by omega, by go_num, hz'⟩, by simp [intOf]; omega⟩
      · have hne : ¬ ((bt s k : Int) = 0) := by omega
        have hf : blank s = false := decide_eq_false (fun h => h0 (h k hlt))
        go_wp2
        go_ret
        exact ⟨rfl, rfl⟩
    · have hk' : k = s.size := by omega
      subst hk'
      have ht : blank s = true := decide_eq_true hz.out
      go_wp2
      go_ret
      exact ⟨rfl, rfl⟩
end Go.Proofs.YtkapkphhceknfaaGreatDoor.Su
namespace Go.Proofs.YtkapkphhceknfaaGreatDoor
open Go.RowKit
section
variable {P : Program} {ops : Array Oper} {Q : Exit → Act → World → Prop} {S : World → Prop} {keep : Nat → Bool}
/-- Whatever order is picked from here on; S holds behind each operation that keeps it. -/
def wpAnyS (P : Program) (ops : Array Oper) (Q : Exit → Act → World → Prop) (keep : Nat → Bool) (S : World → Prop) : Nat → Array Bool → Act → World → Prop
  | 0, listed, a, w => Region.ready .any ops listed = [] ∧ Q .normal a w
  | fuel + 1, listed, a, w =>
    (Region.ready .any ops listed = [] → Q .normal a w) ∧
    ∀ i ∈ Region.ready .any ops listed, wpOp P ops Q i (fun a' w' => (keep i = true → S w → S w') ∧ wpAnyS P ops Q keep S fuel (listed.setIfInBounds i true) a' w') a w
theorem wpAny_of_S : ∀ (fuel : Nat) (listed : Array Bool) (a : Act) (w : World), wpAnyS P ops Q keep S fuel listed a w → wpAny P .any ops Q fuel listed a w
  | 0, _, _, _, h => h
  | fuel + 1, _, _, _, h => ⟨h.1, fun i hi => wpOp_mono (fun a' w' h' => wpAny_of_S fuel _ a' w' h'.2) (h.2 i hi)⟩
def Clo (ops : Array Oper) (listed : Array Bool) : Prop := ∀ j oj, ops[j]? = some oj → listed.getD j false = true → ∀ e ∈ oj.after, Region.binds .any e = true → listed.getD e.on false = true
theorem getD_tf {l : Array Bool} {i : Nat} (h : l.getD i true = false) : l.getD i false = false := by
  rcases Nat.lt_or_ge i l.size with h' | h'
  · simp [h'] at h ⊢; exact h
  · simp [Array.getElem?_eq_none h'] at h
theorem Clo.set {listed : Array Bool} {i : Nat} (h : Clo ops listed) (hr : i ∈ Region.ready .any ops listed) : Clo ops (listed.setIfInBounds i true) := by
  intro j oj hj hl e he hb
  obtain ⟨hun, oi, hoi, hall⟩ := mem_ready.1 hr
  have up : ∀ k, listed.getD k false = true → (listed.setIfInBounds i true).getD k false = true := by
    intro k hk
    by_cases e : i = k
    · subst e; rw [getD_tf hun] at hk; cases hk
    · rw [getD_set_ne false e]; exact hk
  by_cases e' : i = j
  · subst e'
    obtain rfl : oi = oj := Option.some.inj (hoi.symm.trans hj)
    exact up _ (hall e he hb)
  · rw [getD_set_ne false e'] at hl
    exact up _ (h j oj hj hl e he hb)
theorem any_mem {α : Type} {p : α → Bool} {l : Array α} (h : l.any p = true) : ∃ x ∈ l, p x = true := by
  rw [← Array.any_toList, List.any_eq_true] at h
  obtain ⟨x, hx, h⟩ := h
  exact ⟨x, by simpa using hx, h⟩
/-- Number j waits for number i, through others perhaps. -/
def reach (ops : Array Oper) : Nat → Nat → Nat → Bool
  | 0, _, _ => false
  | f + 1, j, i => match ops[j]? with
    | none => false
    | some o => o.after.any fun e => Region.binds .any e && (e.on == i || reach ops f e.on i)
theorem reach_clo {listed : Array Bool} (hc : Clo ops listed) : ∀ (f j i : Nat), reach ops f j i = true → listed.getD j false = true → listed.getD i false = true
  | 0, _, _, h, _ => by simp [reach] at h
  | f + 1, j, i, h, hl => by
    unfold reach at h
    cases ho : ops[j]? with
    | none => simp [ho] at h
    | some o =>
      simp only [ho] at h
      obtain ⟨e, he, h2⟩ := any_mem h
      simp only [Bool.and_eq_true, Bool.or_eq_true, beq_iff_eq] at h2
      have hk := hc j o ho hl e he h2.1
      rcases h2.2 with h3 | h3
      · rw [h3] at hk; exact hk
      · exact reach_clo hc f e.on i h3 hk
theorem reach_ready {listed : Array Bool} (hc : Clo ops listed) {f j i : Nat} (h : reach ops f j i = true) (hr : j ∈ Region.ready .any ops listed) : listed.getD i false = true := by
  cases f with
  | zero => simp [reach] at h
  | succ f =>
    obtain ⟨_, oj, hoj, hall⟩ := mem_ready.1 hr
    unfold reach at h
    simp only [hoj] at h
    obtain ⟨e, he, h2⟩ := any_mem h
    simp only [Bool.and_eq_true, Bool.or_eq_true, beq_iff_eq] at h2
    have hk := hall e he h2.1
    rcases h2.2 with h3 | h3
    · rw [h3] at hk; exact hk
    · exact reach_clo hc f e.on i h3 hk
/-- What may come up, and yields the same wherever it comes up, may be taken first. -/
theorem wpAnyS_first {i : Nat} {oi : Oper} {v : Value} {S' : World → Prop} (hi : ops[i]? = some oi) (hsel : ∀ (j : Nat) (o : Oper) cs b, ops[j]? = some o → o.op ≠ .select cs b)
    (hQ : ∀ c a w, Q (.panic c) (a.put oi.dst v) w → Q (.panic c) a w) (hS' : ∀ (j : Nat) (listed : Array Bool) (w w' : World), Clo ops listed → listed.getD i true = false → j ∈ Region.ready .any ops listed → S' w → (keep j = true → S w → S w') → S' w') :
    ∀ (fuel : Nat) (listed : Array Bool) (a : Act) (w : World), Clo ops listed →
      (∀ j oj, ops[j]? = some oj → j ≠ i → listed.getD j true = false → (∀ e ∈ oj.after, Region.binds .any e = true → e.on ≠ i) → oi.apart ops oj = true) →
      i ∈ Region.ready .any ops listed → YieldsIf P ops S' oi v a → S' w →
      wpAnyS P ops Q keep S fuel (listed.setIfInBounds i true) (a.put oi.dst v) w → wpAnyS P ops Q keep S (fuel + 1) listed a w := by
  intro fuel
  induction fuel with
  | zero =>
    intro listed a w _ _ hr hy hS H
    refine ⟨fun h => (by rw [h] at hr; cases hr), fun j hj => ?_⟩
    by_cases hji : j = i
    · subst hji; exact hy.wpOp hi hS ⟨fun _ h => h, H⟩
    · have := ready_mono hj hji
      rw [H.1] at this
      cases this
  | succ fuel ih =>
    intro listed a w hc hfree hr hy hS H
    refine ⟨fun h => (by rw [h] at hr; cases hr), fun j hj => ?_⟩
    by_cases hji : j = i
    · subst hji; exact hy.wpOp hi hS ⟨fun _ h => h, H⟩
    · have h1 := H.2 j (ready_mono hj hji)
      have hun := (mem_ready.1 hr).1
      obtain ⟨hjun, oj, hoj, hall⟩ := mem_ready.1 hj
      have hnot : ∀ e ∈ oj.after, Region.binds .any e = true → e.on ≠ i := fun e he hb heq => by
        have h1 := hall e he hb
        rw [heq, getD_tf hun] at h1
        cases h1
      have h2 := wpOp_putIf hoj (hfree j oj hoj hji hjun hnot) (fun cs b => hsel i oi cs b hi) (fun cs b => hsel j oj cs b hoj) hQ hy h1
      have hfree' : ∀ k ok, ops[k]? = some ok → k ≠ i → (listed.setIfInBounds j true).getD k true = false →
          (∀ e ∈ ok.after, Region.binds .any e = true → e.on ≠ i) → oi.apart ops ok = true := fun k ok hk hki hun hno => by
        refine hfree k ok hk hki ?_ hno
        by_cases hjk : j = k
        · subst hjk; exact hjun
        · rw [getD_set_ne true hjk] at hun; exact hun
      refine wpOp_mono (fun a' w' h3 => ⟨h3.2.1, ih (listed.setIfInBounds j true) a' w' (hc.set hj) hfree' (ready_mono hr (Ne.symm hji)) h3.1 (hS' j listed w w' hc hun hj hS h3.2.1) ?_⟩) h2
      rw [Array.setIfInBounds_comm _ _ hji]
      exact h3.2.2
/-- The operations that are taken first, one behind the other: each looks at no memory, or at what S tells. -/
def wpLead (P : Program) (ops : Array Oper) (S : World → Prop) (L : Act → Prop) : List (Nat × Bool) → Act → Prop
  | [], a => L a
  | (i, pure) :: l, a => ∃ o d v, ops[i]? = some o ∧ o.dst = some d ∧ o.guard = none ∧ (∀ w, (pure = false → S w) → (execOp a.eval o).run P w = .ok (.value v) w) ∧ wpLead P ops S L l (a.put (some d) v)
theorem lead_nil {L : Act → Prop} {a : Act} (h : L a) : wpLead P ops S L [] a := h
theorem lead_nil_eq {L : Act → Prop} {a : Act} : wpLead P ops S L [] a = L a := rfl
theorem lead_pure {L : Act → Prop} {a : Act} {i : Nat} {l : List (Nat × Bool)} (o : Oper) (ho : ops[i]? = some o) (d : Tmp) (hd : o.dst = some d) (hg : o.guard = none) (v : Value) (hr : ∀ w, (execOp a.eval o).run P w = .ok (.value v) w) (h : wpLead P ops S L l (a.put (some d) v)) : wpLead P ops S L ((i, true) :: l) a :=
  ⟨o, d, v, ho, hd, hg, fun w _ => hr w, h⟩
theorem lead_read {L : Act → Prop} {a : Act} {i : Nat} {l : List (Nat × Bool)} (o : Oper) (ho : ops[i]? = some o) (d : Tmp) (hd : o.dst = some d) (hg : o.guard = none) (v : Value) (hr : ∀ w, S w → (execOp a.eval o).run P w = .ok (.value v) w) (h : wpLead P ops S L l (a.put (some d) v)) : wpLead P ops S L ((i, false) :: l) a :=
  ⟨o, d, v, ho, hd, hg, fun w hS => hr w (hS rfl), h⟩
/-- Those that come behind: first those that keep S, then the others. -/
def wpMid (P : Program) (ops : Array Oper) (Q : Exit → Act → World → Prop) (S : World → Prop) (L : Act → World → Prop) : List Nat → Act → World → Prop
  | [], a, w => L a w
  | j :: js, a, w => wpOp P ops Q j (fun a' w' => S w' ∧ wpMid P ops Q S L js a' w') a w
theorem mid_nil {L : Act → World → Prop} {a : Act} {w : World} (h : L a w) : wpMid P ops Q S L [] a w := h
theorem mid_nil_eq {L : Act → World → Prop} {a : Act} {w : World} : wpMid P ops Q S L [] a w = L a w := rfl
theorem mid_cons {L : Act → World → Prop} {a : Act} {w : World} {j : Nat} {js : List Nat} (o : Oper) (ho : ops[j]? = some o) (hg : o.guard = none) (h : ∀ K : Act → World → Prop, (∀ a' w', S w' → wpMid P ops Q S L js a' w' → K a' w') → o.wp P a w K Q) : wpMid P ops Q S L (j :: js) a w := by
  unfold wpMid wpOp
  simp only [ho, Region.wanted, hg, if_true]
  exact Or.inl (h _ fun a' w' h1 h2 => ⟨h1, h2⟩)
def leadB (ops : Array Oper) (js : List Nat) : List (Nat × Bool) → Array Bool → Bool
  | [], _ => true
  | (i, pure) :: l, listed => (Region.ready .any ops listed).contains i && Region.free .any ops listed i && (pure || js.all fun j => reach ops ops.size j i) && leadB ops js l (listed.setIfInBounds i true)
def leadL : List (Nat × Bool) → Array Bool → Array Bool
  | [], listed => listed
  | (i, _) :: l, listed => leadL l (listed.setIfInBounds i true)
def seqI (ops : Array Oper) : List Nat → Array Bool → Bool
  | [], listed => (Region.ready .any ops listed).isEmpty
  | j :: js, listed => (Region.ready .any ops listed == [j]) && seqI ops js (listed.setIfInBounds j true)
def outB (ops : Array Oper) (ms js : List Nat) (is : List (Nat × Bool)) : Bool :=
  (List.range ops.size).all fun k => ms.contains k || js.contains k || is.any fun p => p.1 == k
/-- The check of a region: a closed Bool. -/
def checkS (ops : Array Oper) (is : List (Nat × Bool)) (ms js : List Nat) : Bool :=
  let z := Array.replicate ops.size false
  Region.noSelect ops && outB ops ms js is && leadB ops js is z && seqI ops (ms ++ js) (leadL is z) && (is.length + (ms.length + js.length) == ops.size)
theorem seqI_any (keep : Nat → Bool) (S : World → Prop) : ∀ (js : List Nat) (listed : Array Bool) (a : Act) (w : World), (∀ j ∈ js, keep j = false) → seqI ops js listed = true → wpList P ops Q (js.filterMap (ops[·]?)) a w → (∀ j ∈ js, (ops[j]?).isSome = true) → wpAnyS P ops Q keep S js.length listed a w
  | [], listed, a, w, _, hB, h, _ => ⟨by simpa [seqI] using hB, h⟩
  | j :: js, listed, a, w, hk, hB, h, hs => by
    simp only [seqI, Bool.and_eq_true, beq_iff_eq] at hB
    refine ⟨fun h1 => (by rw [hB.1] at h1; cases h1), fun i hi => ?_⟩
    rw [hB.1] at hi
    have hij : i = j := by simpa using hi
    subst hij
    obtain ⟨o, ho⟩ := Option.isSome_iff_exists.1 (hs i (by simp))
    have hw : wpOp P ops Q i (wpList P ops Q (js.filterMap (ops[·]?))) a w := by
      unfold wpOp; simp only [List.filterMap_cons, ho] at h ⊢; exact h
    exact wpOp_mono (fun a' w' h' => ⟨fun hh _ => (by rw [hk i (by simp)] at hh; cases hh), seqI_any keep S js _ a' w' (fun k hk' => hk k (by simp [hk'])) hB.2 h' (fun k hk' => hs k (by simp [hk']))⟩) hw
theorem seqM_any (keep : Nat → Bool) (js : List Nat) (hkj : ∀ j ∈ js, keep j = false) (hsj : ∀ j ∈ js, (ops[j]?).isSome = true) : ∀ (ms : List Nat) (listed : Array Bool) (a : Act) (w : World), seqI ops (ms ++ js) listed = true →
    wpMid P ops Q S (fun a' w' => wpList P ops Q (js.filterMap (ops[·]?)) a' w') ms a w → wpAnyS P ops Q keep S (ms.length + js.length) listed a w
  | [], listed, a, w, hB, h => by rw [List.length_nil, Nat.zero_add]; exact seqI_any keep S js listed a w hkj hB h hsj
  | m :: ms, listed, a, w, hB, h => by
    simp only [List.cons_append, seqI, Bool.and_eq_true, beq_iff_eq] at hB
    rw [List.length_cons, Nat.add_right_comm]
    refine ⟨fun h1 => (by rw [hB.1] at h1; cases h1), fun i hi => ?_⟩
    rw [hB.1] at hi
    have hij : i = m := by simpa using hi
    subst hij
    unfold wpMid at h
    exact wpOp_mono (fun a' w' h' => ⟨fun _ _ => h'.1, seqM_any keep js hkj hsj ms _ a' w' hB.2 h'.2⟩) h
theorem lead_any (keep : Nat → Bool) {L : Act → Prop} {g : Nat} {w : World} (js : List Nat) (hsel : Region.noSelect ops = true) (hQ : ∀ c a d v w, Q (.panic c) (a.put (some d) v) w → Q (.panic c) a w) (hS : S w) (hkeep : ∀ j, j < ops.size → keep j = false → j ∈ js) : ∀ (is : List (Nat × Bool)) (listed : Array Bool) (a : Act), Clo ops listed → leadB ops js is listed = true → wpLead P ops S L is a →
    (∀ a', L a' → wpAnyS P ops Q keep S g (leadL is listed) a' w) → wpAnyS P ops Q keep S (is.length + g) listed a w
  | [], listed, a, _, _, h, hL => by rw [List.length_nil, Nat.zero_add]; exact hL a h
  | (i, pure) :: is, listed, a, hc, hB, h, hL => by
    simp only [leadB, Bool.and_eq_true] at hB
    obtain ⟨o, d, v, ho, hd, hg, hv, h2⟩ := h
    have hr : i ∈ Region.ready .any ops listed := by simpa using hB.1.1.1
    rw [List.length_cons, Nat.add_right_comm]
    refine wpAnyS_first (v := v) (S' := fun w' => pure = false → S w') ho (Region.noSelect_spec hsel) (fun c a w h => by rw [hd] at h; exact hQ _ _ _ _ _ h) ?_ _ listed a w hc (Region.free_spec ho hB.1.1.2) hr (Or.inl ⟨by simp [Region.wanted, hg], hv⟩) (fun _ => hS) ?_
    · intro j listed' w0 w' hc' hun hj h0 hk hp
      refine hk ?_ (h0 hp)
      cases hkj : keep j with
      | true => rfl
      | false =>
        exfalso
        have hjs : j < ops.size := by
          obtain ⟨_, oj, hoj, _⟩ := mem_ready.1 hj
          exact (Array.getElem?_eq_some_iff.1 hoj).1
        have hb := hB.1.2
        simp only [hp, Bool.false_or] at hb
        have h3 := reach_ready hc' (List.all_eq_true.1 hb j (hkeep j hjs hkj)) hj
        rw [getD_tf hun] at h3; cases h3
    · rw [hd]
      exact lead_any keep js hsel hQ hS hkeep is _ _ (hc.set hr) hB.2 h2 hL
/-- A region that draws its order: 'is' are taken first (true: looks at no memory), then come 'ms', behind each of which S holds, then 'js'. -/
theorem region_s {id : Nat} {a : Act} {w : World} {l : List Oper} (is : List (Nat × Bool)) (ms js : List Nat) (S : World → Prop) (hm : P.follows .mixedOrders = true) (hB : checkS l.toArray is ms js = true) (hQ : ∀ c a d v w, Q (.panic c) (a.put (some d) v) w → Q (.panic c) a w) (hS : S w.drew)
    (h : wpLead P l.toArray S (fun a' => wpMid P l.toArray Q S (fun a' w' => wpList P l.toArray Q (js.filterMap (l.toArray[·]?)) a' w') ms a' w.drew) is a) : (Code.region id l.toArray true).wp P Q a w := by
  simp only [checkS, Bool.and_eq_true, beq_iff_eq] at hB
  obtain ⟨⟨⟨⟨hsel, hout⟩, hlead⟩, hseq⟩, hlen⟩ := hB
  have hsj : ∀ j ∈ ms ++ js, (l.toArray[j]?).isSome = true := by
    have : ∀ (ks : List Nat) (listed : Array Bool), seqI l.toArray ks listed = true → ∀ j ∈ ks, (l.toArray[j]?).isSome = true := by
      intro ks
      induction ks with
      | nil => intro _ _ j hj; cases hj
      | cons k ks ih =>
        intro listed hB j hj
        simp only [seqI, Bool.and_eq_true, beq_iff_eq] at hB
        rcases List.mem_cons.1 hj with rfl | hj
        · have : j ∈ Region.ready .any l.toArray listed := by rw [hB.1]; simp
          obtain ⟨_, oj, hoj, _⟩ := mem_ready.1 this
          rw [hoj]; rfl
        · exact ih _ hB.2 j hj
    exact this _ _ hseq
  refine wp_region_any hm ?_
  rw [show wpAny P .any l.toArray Q l.toArray.size = wpAny P .any l.toArray Q (is.length + (ms.length + js.length)) from by rw [hlen]]
  refine wpAny_of_S (keep := fun j => !js.contains j) (S := S) _ _ _ _ ?_
  refine lead_any _ js hsel hQ hS (fun j _ hk => by simpa using hk) is _ a (fun j oj _ hl => by rw [getD_replicate_false] at hl; cases hl) hlead h ?_
  intro a' h'
  exact seqM_any _ js (fun j hj => by simpa using hj) (fun j hj => hsj j (by simp [hj])) ms _ a' w.drew hseq h'
end
end Go.Proofs.YtkapkphhceknfaaGreatDoor
