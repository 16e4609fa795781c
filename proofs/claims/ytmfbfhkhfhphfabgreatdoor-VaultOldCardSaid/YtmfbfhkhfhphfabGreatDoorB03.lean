/-
  Part of the proof: texts as lists of bytes, and how a conversion reads them.
  Part of the proof: a region that draws its order, operation by operation: what yields in whatever world is taken first; else all that may come up is looked at.
  Part of the proof: texts with 0 behind them, and the code's 'padded'.
-/
import Derived.Test.YtmfbfhkhfhphfabGreatDoorB02
import Derived.Lib.UnsafeStr
import Derived.RegionTactic
import Derived.Test.YtmfbfhkhfhphfabGreatDoorB01
namespace Go.Proofs.YtmfbfhkhfhphfabGreatDoor
open Go.RowKit
/-- A row of bytes, by a function. -/
def tb (n : Nat) (f : Nat → UInt8) : Array Value := ((List.range n).map fun j => Value.int .u8 ((f j).toNat : Int)).toArray
def sb (n : Nat) (f : Nat → UInt8) : ByteArray := ⟨((List.range n).map f).toArray⟩
theorem sb_size (n : Nat) (f : Nat → UInt8) : (sb n f).size = n := by simp [sb, ByteArray.size]
theorem sb_congr (n : Nat) (f g : Nat → UInt8) (h : ∀ j, j < n → f j = g j) : sb n f = sb n g := by
  unfold sb; congr 2; apply List.map_congr_left; intro j hj; rw [h j (by simpa using hj)]
theorem tb_size (n : Nat) (f : Nat → UInt8) : (tb n f).size = n := by simp [tb]
theorem tb_get (n : Nat) (f : Nat → UInt8) (j : Nat) (h : j < n) : (tb n f)[j]? = some (.int .u8 ((f j).toNat : Int)) := by
  simp [tb, h]
theorem tb_congr (n : Nat) (f g : Nat → UInt8) (h : ∀ j, j < n → f j = g j) : tb n f = tb n g := by
  unfold tb; congr 1; apply List.map_congr_left; intro j hj; rw [h j (by simpa using hj)]
theorem tb_set (n : Nat) (f : Nat → UInt8) (k : Nat) (v : UInt8) : (tb n f).setIfInBounds k (.int .u8 (v.toNat : Int)) = tb n (fun j => if j = k then v else f j) := by
  apply Array.ext_getElem?; intro i
  rw [Array.getElem?_setIfInBounds]
  by_cases hi : i < n
  · rw [tb_get _ _ i hi, tb_get _ _ i hi, tb_size]
    by_cases hk : k = i
    · subst hk; simp [hi]
    · simp [hk, Ne.symm hk]
  · have e : ∀ g, (tb n g)[i]? = none := fun g => by rw [Array.getElem?_eq_none]; rw [tb_size]; omega
    rw [e, e, tb_size]; split <;> simp_all
def uptoB (f : Nat → UInt8) (k : Nat) (j : Nat) : UInt8 := if j < k then f j else 0
theorem tb_upto_succ (n k : Nat) (f : Nat → UInt8) (v : UInt8) (h : v = f k) : (tb n (uptoB f k)).setIfInBounds k (.int .u8 (v.toNat : Int)) = tb n (uptoB f (k + 1)) := by
  rw [tb_set, h]; apply tb_congr; intro j _; unfold uptoB
  by_cases e : j = k
  · subst e; simp
  · simp [e]; congr 1; apply propext; omega
theorem tb_full (n : Nat) (f : Nat → UInt8) : tb n (uptoB f n) = tb n f := tb_congr _ _ _ fun j hj => by unfold uptoB; rw [if_pos hj]
theorem Blk.bcell {w : World} {b : Nat} {T : TypeId} {n : Nat} {f : Nat → UInt8} (h : Blk w b (tb n f) T) (j : Nat) (hj : j < n) : w.cell? ⟨b, j, none⟩ = some (.int .u8 ((f j).toNat : Int)) := by
  rw [h.cell, tb_get _ _ _ hj]
theorem push_foldl (l : List UInt8) : ∀ s : ByteArray, (l.map fun b => (b.toNat : Int)).foldl (fun r n => r.push (UInt8.ofNat n.toNat)) s = ⟨(s.data.toList ++ l).toArray⟩ := by
  induction l with
  | nil => intro s; simp
  | cons b l ih =>
    intro s
    simp only [List.map_cons, List.foldl_cons]
    rw [ih]
    simp [ByteArray.push]
/-- A slice of bytes as a text. -/
theorem bytes_run (P : Program) (w : World) (b off n cap : Nat) (arr : Array Value) (T : TypeId) (hb : Blk w b arr T) (hn : off + n ≤ arr.size) (l : List UInt8) (hl : arr.extract off (off + n) = (Lib.byteCells l).toArray) :
    (Conv.bytesToString (.slice (some ⟨b, off, none⟩) n cap)).run P w = .ok (.string ⟨l.toArray⟩) w := by
  have h := loadCellsFrom_run P w b off arr T hb n 0 #[] (by omega)
  rw [Nat.add_zero, Array.empty_append, hl] at h
  have := run_bytesToString (P := P) w ⟨b, off, none⟩ n cap (l.map fun b => (b.toNat : Int)) (by rw [loadCells, h]; simp [Lib.byteCells])
  rw [this, push_foldl]; rfl
section
variable {P : Program} {ops : Array Oper} {Q : Exit → Act → World → Prop} {a : Act} {w : World} {rest : List Oper} {o : Oper}
theorem wpl_string (hgd : o.guard = none) (src dst e : TypeId) (x : Operand) (ho : o.op = .convert src dst x) (hs : P.underlying src = some (.slice e)) (he : P.underlying e = some (.int .u8)) (hd : P.underlying dst = some .string)
    (b off n cap : Nat) (arr : Array Value) (T : TypeId) (hx : a.eval x = .slice (some ⟨b, off, none⟩) n cap) (hb : Blk w b arr T) (hn : off + n ≤ arr.size) (l : List UInt8) (hl : arr.extract off (off + n) = (Lib.byteCells l).toArray)
    (h : wpList P ops Q rest (a.put o.dst (.string ⟨l.toArray⟩)) w) : wpList P ops Q (o :: rest) a w := by
  refine wpList_plain hgd fun K hK => ?_
  unfold Oper.wp execOp
  simp only [ho, hx, Sem.run_bind, Sem.run_pure, Result.andThen_ok, run_convert_bytes_string w src dst e _ _ _ hs he hd, bytes_run P w b off n cap arr T hb hn l hl]
  exact hK _ _ h
end
theorem tb_bytes (n m : Nat) (f : Nat → UInt8) (h : 0 + n = m) : (tb n f).extract 0 m = (Lib.byteCells ((List.range n).map f)).toArray := by
  subst h; rw [Nat.zero_add]
  have := Array.extract_size (xs := tb n f)
  rw [tb_size] at this; rw [this]; simp [tb, Lib.byteCells]
end Go.Proofs.YtmfbfhkhfhphfabGreatDoor
namespace Go.Proofs.YtmfbfhkhfhphfabGreatDoor
open Go.RowKit
section
variable {P : Program} {l : List Oper} {Q : Exit → Act → World → Prop} {fuel : Nat} {listed : Array Bool} {a : Act} {w : World}
theorem reg_in {id : Nat} (n : Nat) (hm : P.follows .mixedOrders = true) (hn : l.length = n) (h : wpAny P .any l.toArray Q n (Array.replicate n false) a w.drew) : (Code.region id l.toArray true).wp P Q a w := by
  refine wp_region_any hm ?_
  rw [List.size_toArray, hn]
  exact h
/-- What yields in whatever world is taken first. -/
theorem reg_take (i : Nat) (d : Tmp) (v : Value) {o : Oper} (hi : l[i]? = some o) (hd : o.dst = some d) (hB : (Region.noSelect l.toArray && Region.free .any l.toArray listed i && (Region.ready .any l.toArray listed).contains i) = true)
    (hQ : ∀ c a w, Q (.panic c) (a.put (some d) v) w → Q (.panic c) a w) (hw : Region.wanted o (yielded l.toArray a.tmps) = true) (hv : ∀ w, (execOp a.eval o).run P w = .ok (.value v) w)
    (h : wpAny P .any l.toArray Q fuel (listed.setIfInBounds i true) (a.put (some d) v) w) : wpAny P .any l.toArray Q (fuel + 1) listed a w := by
  simp only [Bool.and_eq_true] at hB
  have hi' : l.toArray[i]? = some o := by rw [List.getElem?_toArray]; exact hi
  refine wpAny_take (v := v) hi' hB.1.1 hB.1.2 hB.2 (by rw [hd]; exact hQ) (Or.inl ⟨hw, hv⟩) ?_
  rw [hd]; exact h
/-- What its guard leaves out. -/
theorem reg_skip (i : Nat) (d : Tmp) {o : Oper} (hi : l[i]? = some o) (hd : o.dst = some d) (hB : (Region.noSelect l.toArray && Region.free .any l.toArray listed i && (Region.ready .any l.toArray listed).contains i) = true)
    (hQ : ∀ c a w, Q (.panic c) (a.put (some d) undef) w → Q (.panic c) a w) (hw : Region.wanted o (yielded l.toArray a.tmps) = false)
    (h : wpAny P .any l.toArray Q fuel (listed.setIfInBounds i true) (a.put (some d) undef) w) : wpAny P .any l.toArray Q (fuel + 1) listed a w := by
  simp only [Bool.and_eq_true] at hB
  have hi' : l.toArray[i]? = some o := by rw [List.getElem?_toArray]; exact hi
  refine wpAny_take (v := undef) hi' hB.1.1 hB.1.2 hB.2 (by rw [hd]; exact hQ) (Or.inr ⟨hw, rfl⟩) ?_
  rw [hd]; exact h
theorem reg_op (i : Nat) {o : Oper} (hi : l[i]? = some o) (hw : Region.wanted o (yielded l.toArray a.tmps) = true) {K0 : Act → World → Prop} (h : ∀ K : Act → World → Prop, (∀ a' w', K0 a' w' → K a' w') → o.wp P a w K Q) : wpOp P l.toArray Q i K0 a w := by
  have hi' : l.toArray[i]? = some o := by rw [List.getElem?_toArray]; exact hi
  unfold wpOp
  simp only [hi', hw, if_true]
  exact Or.inl (h _ fun _ _ h => h)
/-- One operation alone may come up. -/
theorem reg_one (i : Nat) {o : Oper} (hi : l[i]? = some o) (hr : (Region.ready .any l.toArray listed == [i]) = true) (hw : Region.wanted o (yielded l.toArray a.tmps) = true)
    (h : ∀ K : Act → World → Prop, (∀ a' w', wpAny P .any l.toArray Q fuel (listed.setIfInBounds i true) a' w' → K a' w') → o.wp P a w K Q) : wpAny P .any l.toArray Q (fuel + 1) listed a w := by
  rw [beq_iff_eq] at hr
  refine ⟨fun h0 => (by rw [hr] at h0; cases h0), fun j hj => ?_⟩
  rw [hr] at hj
  obtain rfl := List.mem_singleton.1 hj
  exact reg_op _ hi hw h
/-- Two may come up. -/
theorem reg_two (i j : Nat) {o o' : Oper} (hi : l[i]? = some o) (hj : l[j]? = some o') (hr : (Region.ready .any l.toArray listed == [i, j]) = true) (hw : Region.wanted o (yielded l.toArray a.tmps) = true) (hw' : Region.wanted o' (yielded l.toArray a.tmps) = true)
    (h : ∀ K : Act → World → Prop, (∀ a' w', wpAny P .any l.toArray Q fuel (listed.setIfInBounds i true) a' w' → K a' w') → o.wp P a w K Q)
    (h' : ∀ K : Act → World → Prop, (∀ a' w', wpAny P .any l.toArray Q fuel (listed.setIfInBounds j true) a' w' → K a' w') → o'.wp P a w K Q) : wpAny P .any l.toArray Q (fuel + 1) listed a w := by
  rw [beq_iff_eq] at hr
  refine ⟨fun h0 => (by rw [hr] at h0; cases h0), fun k hk => ?_⟩
  rw [hr] at hk
  rcases List.mem_cons.1 hk with rfl | hk
  · exact reg_op _ hi hw h
  · obtain rfl := List.mem_singleton.1 hk
    exact reg_op _ hj hw' h'
theorem reg_end (hr : (Region.ready .any l.toArray listed == []) = true) (h : Q .normal a w) : wpAny P .any l.toArray Q fuel listed a w :=
  wpAny_done (by rwa [beq_iff_eq] at hr) h fuel
end
end Go.Proofs.YtmfbfhkhfhphfabGreatDoor
namespace Go.Proofs.YtmfbfhkhfhphfabGreatDoor.Pg
open Go.RowKit
theorem mixed : Tryz.prog.follows .mixedOrders = true := by kernel_rfl
theorem repeat_zero (n : Nat) : Lib.repeatL [(0 : UInt8)] n = List.replicate n 0 := by
  induction n with
  | zero => rfl
  | succ n ih => simp [Lib.repeatL, ih, List.replicate_succ]
/-- So many bytes of 0. -/
def zs (n : Nat) : ByteArray := ⟨(List.replicate n 0).toArray⟩
theorem zs_size (n : Nat) : (zs n).size = n := by simp [zs, ByteArray.size]
theorem repeat_any (n : Nat) (c : Int) (w : World) (hc : c = (n : Int)) (hn : n ≤ 10000) : Calls Tryz.prog 165 #[.string ⟨#[0]⟩, .int .i64 c] w fun e w' => e = .returned (.string (zs n)) ∧ Below w.heap.size w w' := by
  subst hc
  have := Sm.c_repeat ⟨#[0]⟩ n w (by omega) (by have : ByteArray.size ⟨#[0]⟩ = 1 := rfl; rw [this]; omega)
  refine this.mono fun e w' ⟨he, hb⟩ => ⟨?_, hb⟩
  rw [he]
  have : (⟨#[0]⟩ : ByteArray).data.toList = [0] := rfl
  rw [this, repeat_zero]
  rfl
section
variable {P : Program} {Q : Exit → Act → World → Prop} {K : Act → World → Prop} {a : Act} {w : World} {o : Oper}
/-- A row of bytes told as a text, within a region that draws its order. -/
theorem op_string (src dst e : TypeId) (x : Operand) (ho : o.op = .convert src dst x) (hs : P.underlying src = some (.slice e)) (he : P.underlying e = some (.int .u8)) (hd : P.underlying dst = some .string)
    (b n cap : Nat) (arr : Array Value) (T : TypeId) (hx : a.eval x = .slice (some ⟨b, 0, none⟩) n cap) (hb : Blk w b arr T) (hn : 0 + n ≤ arr.size) (l : List UInt8) (hl : arr.extract 0 (0 + n) = (Lib.byteCells l).toArray)
    (h : K (a.put o.dst (.string ⟨l.toArray⟩)) w) : o.wp P a w K Q := by
  have := bytes_run P w b 0 n cap arr T hb hn l hl
  unfold Oper.wp execOp
  simp only [ho, hx, Sem.run_bind, Sem.run_pure, Result.andThen_ok, run_convert_bytes_string w src dst e _ _ _ hs he hd, this]
  exact h
end
/-- How many bytes a text has, the text, and 0 up to 200 bytes. -/
def padT (s : ByteArray) : ByteArray := ⟨#[UInt8.ofNat s.size]⟩ ++ s ++ zs (200 - s.size)
theorem padT_size (s : ByteArray) (h : s.size ≤ 200) : (padT s).size = 201 := by
  unfold padT; rw [ByteArray.size_append, ByteArray.size_append, zs_size]
  have : ByteArray.size ⟨#[UInt8.ofNat s.size]⟩ = 1 := rfl
  omega
theorem lenB (s : ByteArray) (h : s.size ≤ 200) : (#[Value.int .u8 (s.size : Int)] : Array Value).extract 0 (0 + 1) = (Lib.byteCells [UInt8.ofNat s.size]).toArray := by
  have : (UInt8.ofNat s.size).toNat = s.size := by rw [UInt8.toNat_ofNat', Nat.mod_eq_of_lt (by omega)]
  simp [Lib.byteCells, this]
set_option maxRecDepth 100000 in
set_option maxHeartbeats 1000000 in
theorem padded_any (s : ByteArray) (w : World) (hs : s.size ≤ 200) :
    Calls Tryz.prog 135 #[.string s] w fun e w' => e = .returned (.string (padT s)) ∧ Below w.heap.size w w' := by
  have hs' : (s.size : Int) ≤ 200 := by omega
  obtain ⟨nn, hnn⟩ : ∃ nn, Hid (nn = 200 - s.size) := ⟨_, rfl⟩
  have hnI : (200 : Int) - (s.size : Int) = (nn : Int) := by rw [hnn.out]; omega
  have hn1 : nn ≤ 200 := by rw [hnn.out]; omega
  have hwn : IntKind.i64.wrap (nn : Int) = (nn : Int) := by rw [IntKind.wrap_i64]; omega
  have hwb : IntKind.u8.wrap (s.size : Int) = (s.size : Int) := by simp [IntKind.wrap, IntKind.bits, IntKind.signed]; omega
  have hlB := lenB s hs
  have HF : Hid ((⟨[UInt8.ofNat s.size].toArray⟩ : ByteArray) ++ s ++ zs nn = padT s) := by unfold Hid padT; rw [hnn.out]
  have hz1 : (⟨[UInt8.ofNat s.size].toArray⟩ : ByteArray).size = 1 := rfl
  have hz2 := zs_size nn
  obtain ⟨B1, hB1⟩ : ∃ B1 : ByteArray, B1 = ⟨[UInt8.ofNat s.size].toArray⟩ := ⟨_, rfl⟩
  rw [← hB1] at HF hz1
  have hz3 : (B1 ++ s).size = 1 + s.size := by rw [ByteArray.size_append, hz1]
  have g0 : Below w.heap.size w w.drew := below_drewN (Below.refl _ _) 1
  go_enter Tryz.func135, Tryz.ntmps135
  go_wp2_with fail
  refine reg_in 13 mixed rfl ?_
  refine reg_take 0 3 (.string s) rfl rfl (by kernel_rfl) (fun _ _ _ h => h) rfl (fun w => by go_simp) ?_
  refine reg_take 1 4 (.int .i64 s.size) rfl rfl (by kernel_rfl) (fun _ _ _ h => h) rfl (fun w => by go_simp) ?_
  refine reg_take 2 5 (.int .u8 s.size) rfl rfl (by kernel_rfl) (fun _ _ _ h => h) rfl (fun w => by go_simp) ?_
  refine reg_take 5 8 (.string s) rfl rfl (by kernel_rfl) (fun _ _ _ h => h) rfl (fun w => by go_simp) ?_
  refine reg_take 7 10 (.string s) rfl rfl (by kernel_rfl) (fun _ _ _ h => h) rfl (fun w => by go_simp) ?_
  refine reg_take 8 11 (.int .i64 s.size) rfl rfl (by kernel_rfl) (fun _ _ _ h => h) rfl (fun w => by go_simp) ?_
  refine reg_take 9 12 (.int .i64 nn) rfl rfl (by kernel_rfl) (fun _ _ _ h => h) rfl (fun w => by go_simp) ?_
  simp only [Act.put, List.setIfInBounds_toArray, List.set_cons_succ, List.set_cons_zero]
  clear hnI hwn hwb
  refine reg_two 3 10 rfl rfl (by kernel_rfl) rfl rfl (fun K hK => ?_) (fun K hK => ?_)
  · go_wp2_with fail
    have b1 : Blk (w.alloc (.cells #[.int .u8 (s.size : Int)] 5)).drew w.heap.size #[.int .u8 (s.size : Int)] 5 := (Blk.new w _ 5).drew
    have g1 : Below w.heap.size w (w.alloc (.cells #[.int .u8 (s.size : Int)] 5)).drew := below_drewN ((Below.refl w.heap.size w).alloc (Nat.le_refl _) _) 1
    generalize (w.alloc (.cells #[.int .u8 (s.size : Int)] 5)).drew = w1 at *
    refine reg_two 4 10 rfl rfl (by kernel_rfl) rfl rfl (fun K hK => ?_) (fun K hK => ?_)
    · refine op_string 105 9 5 _ rfl Tryz.underlying105 Tryz.underlying5 Tryz.underlying9 _ 1 1 _ 5 rfl b1 (by simp) _ hlB ?_
      refine hK _ _ ?_
      clear hK K
      rw [← hB1]
      refine reg_take 6 9 (.string (B1 ++ s)) rfl rfl (by kernel_rfl) (fun _ _ _ h => h) rfl (fun w => by go_simp; omega) ?_
      simp only [Act.put, List.setIfInBounds_toArray, List.set_cons_succ, List.set_cons_zero]
      refine reg_one 10 rfl (by kernel_rfl) rfl (fun K hK => ?_)
      go_wp2_with (go_at_call 165; refine (repeat_any nn _ _ rfl (by omega)).mono ?_; rintro e w2 ⟨rfl, g2⟩)
      have g3 := g1.trans (g2.mono g1.size)
      refine reg_take 11 14 (.string (B1 ++ s ++ zs nn)) rfl rfl (by kernel_rfl) (fun _ _ _ h => h) rfl (fun w => by go_simp; omega) ?_
      refine reg_take 12 2 (.string (B1 ++ s ++ zs nn)) rfl rfl (by kernel_rfl) (fun _ _ _ h => h) rfl (fun w => by go_simp) ?_
      simp only [Act.put, List.setIfInBounds_toArray, List.set_cons_succ, List.set_cons_zero]
      rw [HF.out]
      refine reg_end (by kernel_rfl) ?_
      go_wp2_with fail
      go_ret
      exact ⟨rfl, g3⟩
    · go_wp2_with (go_at_call 165; refine (repeat_any nn _ _ rfl (by omega)).mono ?_; rintro e w2 ⟨rfl, g2⟩)
      have b2 := b1.below g2 b1.lt
      have g3 := g1.trans (g2.mono g1.size)
      refine reg_one 4 rfl (by kernel_rfl) rfl (fun K hK => ?_)
      refine op_string 105 9 5 _ rfl Tryz.underlying105 Tryz.underlying5 Tryz.underlying9 _ 1 1 _ 5 rfl b2 (by simp) _ hlB ?_
      refine hK _ _ ?_
      clear hK K
      rw [← hB1]
      refine reg_take 6 9 (.string (B1 ++ s)) rfl rfl (by kernel_rfl) (fun _ _ _ h => h) rfl (fun w => by go_simp; omega) ?_
      simp only [Act.put, List.setIfInBounds_toArray, List.set_cons_succ, List.set_cons_zero]
      refine reg_take 11 14 (.string (B1 ++ s ++ zs nn)) rfl rfl (by kernel_rfl) (fun _ _ _ h => h) rfl (fun w => by go_simp; omega) ?_
      refine reg_take 12 2 (.string (B1 ++ s ++ zs nn)) rfl rfl (by kernel_rfl) (fun _ _ _ h => h) rfl (fun w => by go_simp) ?_
      simp only [Act.put, List.setIfInBounds_toArray, List.set_cons_succ, List.set_cons_zero]
      rw [HF.out]
      refine reg_end (by kernel_rfl) ?_
      go_wp2_with fail
      go_ret
      exact ⟨rfl, g3⟩
  · go_wp2_with (go_at_call 165; refine (repeat_any nn _ _ rfl (by omega)).mono ?_; rintro e w2 ⟨rfl, g2⟩)
    have g3 := g0.trans g2
    refine reg_one 3 rfl (by kernel_rfl) rfl (fun K hK => ?_)
    go_wp2_with fail
    have b4 := Blk.new w2 #[.int .u8 (s.size : Int)] 5
    have g4 := g3.alloc g3.size (.cells #[.int .u8 (s.size : Int)] 5)
    refine reg_one 4 rfl (by kernel_rfl) rfl (fun K hK => ?_)
    refine op_string 105 9 5 _ rfl Tryz.underlying105 Tryz.underlying5 Tryz.underlying9 _ 1 1 _ 5 rfl b4 (by simp) _ hlB ?_
    refine hK _ _ ?_
    clear hK K
    rw [← hB1]
    refine reg_take 6 9 (.string (B1 ++ s)) rfl rfl (by kernel_rfl) (fun _ _ _ h => h) rfl (fun w => by go_simp; omega) ?_
    simp only [Act.put, List.setIfInBounds_toArray, List.set_cons_succ, List.set_cons_zero]
    refine reg_take 11 14 (.string (B1 ++ s ++ zs nn)) rfl rfl (by kernel_rfl) (fun _ _ _ h => h) rfl (fun w => by go_simp; omega) ?_
    refine reg_take 12 2 (.string (B1 ++ s ++ zs nn)) rfl rfl (by kernel_rfl) (fun _ _ _ h => h) rfl (fun w => by go_simp) ?_
    simp only [Act.put, List.setIfInBounds_toArray, List.set_cons_succ, List.set_cons_zero]
    rw [HF.out]
    refine reg_end (by kernel_rfl) ?_
    go_wp2_with fail
    go_ret
    exact ⟨rfl, g4⟩
end Go.Proofs.YtmfbfhkhfhphfabGreatDoor.Pg
