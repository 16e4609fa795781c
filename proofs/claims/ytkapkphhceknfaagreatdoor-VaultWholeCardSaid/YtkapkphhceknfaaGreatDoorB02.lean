/-
  Part of the proof: texts as lists of bytes, and how a conversion reads them.
  Part of the proof: a region that draws its order, operation by operation: what yields in whatever world is taken first; else all that may come up is looked at.
  Part of the proof: texts with 0 behind them, and the code's 'padded'.
  Part of the proof: a slice of one-cell elements that the call itself has made, and append to it.
  Part of the proof of SumTells: a row of bytes made out of a text, and append to it.
  Part of the proof of SumTells: the product of two great numbers in the reference is walked.
-/
import Derived.Test.YtkapkphhceknfaaGreatDoorB01
import Derived.Lib.UnsafeStr
import Derived.RegionTactic
import Derived.Deep.AppendLies
import Derived.Lib.ConvBytes
namespace Go.Proofs.YtkapkphhceknfaaGreatDoor
open Go.RowKit
/-- A row of bytes, by a function. -/
def tb (n : Nat) (f : Nat → UInt8) : Array Value := ((List.range n).map fun j => Value.int .u8 ((f j).toNat : Int)).toArray
def sb (n : Nat) (f : Nat → UInt8) : ByteArray := ⟨((List.range n).map f).toArray⟩
theorem sb_size (n : Nat) (f : Nat → UInt8) : (sb n f).size = n := by simp [sb, ByteArray.size]
theorem sb_congr (n : Nat) (f g : Nat → UInt8) (h : ∀ j, j < n → f j = g j) : sb n f = sb n g := by
  unfold sb; congr 2; apply List.map_congr_left; intro j hj; rw [h j (by simpa using hj)]
theorem tb_size (n : Nat) (f : Nat → UInt8) : (tb n f).size = n := by simp [tb]
theorem tb_get (n : Nat) (f : Nat → UInt8) (j : Nat) (h : j < n) : (tb n f)[j]? = some (.int .u8 ((f j).toNat : Int)) := by
  simp [tb, h]
theorem tb_congr (n : Nat) (f g : Nat → UInt8) (h : ∀ j, j < n → f j = g j) : tb n f = tb n g := by
  unfold tb; congr 1; apply List.map_congr_left; intro j hj; rw [h j (by simpa using hj)]
theorem tb_set (n : Nat) (f : Nat → UInt8) (k : Nat) (v : UInt8) : (tb n f).setIfInBounds k (.int .u8 (v.toNat : Int)) = tb n (fun j => if j = k then v else f j) := by
  apply Array.ext_getElem?; intro i
  rw [Array.getElem?_setIfInBounds]
  by_cases hi : i < n
  · rw [tb_get _ _ i hi, tb_get _ _ i hi, tb_size]
    by_cases hk : k = i
    · subst hk; simp [hi]
    · simp [hk, Ne.symm hk]
  · have e : ∀ g, (tb n g)[i]? = none := fun g => by rw [Array.getElem?_eq_none]; rw [tb_size]; omega
    rw [e, e, tb_size]; split <;> simp_all
def uptoB (f : Nat → UInt8) (k : Nat) (j : Nat) : UInt8 := if j < k then f j else 0
theorem tb_upto_succ (n k : Nat) (f : Nat → UInt8) (v : UInt8) (h : v = f k) : (tb n (uptoB f k)).setIfInBounds k (.int .u8 (v.toNat : Int)) = tb n (uptoB f (k + 1)) := by
  rw [tb_set, h]; apply tb_congr; intro j _; unfold uptoB
  by_cases e : j = k
  · subst e; simp
  · simp [e]; congr 1; apply propext; omega
theorem tb_full (n : Nat) (f : Nat → UInt8) : tb n (uptoB f n) = tb n f := tb_congr _ _ _ fun j hj => by unfold uptoB; rw [if_pos hj]
theorem Blk.bcell {w : World} {b : Nat} {T : TypeId} {n : Nat} {f : Nat → UInt8} (h : Blk w b (tb n f) T) (j : Nat) (hj : j < n) : w.cell? ⟨b, j, none⟩ = some (.int .u8 ((f j).toNat : Int)) := by
  rw [h.cell, tb_get _ _ _ hj]
theorem push_foldl (l : List UInt8) : ∀ s : ByteArray, (l.map fun b => (b.toNat : Int)).foldl (fun r n => r.push (UInt8.ofNat n.toNat)) s = ⟨(s.data.toList ++ l).toArray⟩ := by
  induction l with
  | nil => intro s; simp
  | cons b l ih =>
    intro s
    simp only [List.map_cons, List.foldl_cons]
    rw [ih]
    simp [ByteArray.push]
/-- A slice of bytes as a text. -/
theorem bytes_run (P : Program) (w : World) (b off n cap : Nat) (arr : Array Value) (T : TypeId) (hb : Blk w b arr T) (hn : off + n ≤ arr.size) (l : List UInt8) (hl : arr.extract off (off + n) = (Lib.byteCells l).toArray) :
    (Conv.bytesToString (.slice (some ⟨b, off, none⟩) n cap)).run P w = .ok (.string ⟨l.toArray⟩) w := by
  have h := loadCellsFrom_run P w b off arr T hb n 0 #[] (by omega)
  rw [Nat.add_zero, Array.empty_append, hl] at h
  have := run_bytesToString (P := P) w ⟨b, off, none⟩ n cap (l.map fun b => (b.toNat : Int)) (by rw [loadCells, h]; simp [Lib.byteCells])
  rw [this, push_foldl]; rfl
section
variable {P : Program} {ops : Array Oper} {Q : Exit → Act → World → Prop} {a : Act} {w : World} {rest : List Oper} {o : Oper}
theorem wpl_string (hgd : o.guard = none) (src dst e : TypeId) (x : Operand) (ho : o.op = .convert src dst x) (hs : P.underlying src = some (.slice e)) (he : P.underlying e = some (.int .u8)) (hd : P.underlying dst = some .string)
    (b off n cap : Nat) (arr : Array Value) (T : TypeId) (hx : a.eval x = .slice (some ⟨b, off, none⟩) n cap) (hb : Blk w b arr T) (hn : off + n ≤ arr.size) (l : List UInt8) (hl : arr.extract off (off + n) = (Lib.byteCells l).toArray)
    (h : wpList P ops Q rest (a.put o.dst (.string ⟨l.toArray⟩)) w) : wpList P ops Q (o :: rest) a w := by
  refine wpList_plain hgd fun K hK => ?_
  unfold Oper.wp execOp
  simp only [ho, hx, Sem.run_bind, Sem.run_pure, Result.andThen_ok, run_convert_bytes_string w src dst e _ _ _ hs he hd, bytes_run P w b off n cap arr T hb hn l hl]
  exact hK _ _ h
end
theorem tb_bytes (n m : Nat) (f : Nat → UInt8) (h : 0 + n = m) : (tb n f).extract 0 m = (Lib.byteCells ((List.range n).map f)).toArray := by
  subst h; rw [Nat.zero_add]
  have := Array.extract_size (xs := tb n f)
  rw [tb_size] at this; rw [this]; simp [tb, Lib.byteCells]
end Go.Proofs.YtkapkphhceknfaaGreatDoor
namespace Go.Proofs.YtkapkphhceknfaaGreatDoor
open Go.RowKit
section
variable {P : Program} {l : List Oper} {Q : Exit → Act → World → Prop} {fuel : Nat} {listed : Array Bool} {a : Act} {w : World}
theorem reg_in {id : Nat} (n : Nat) (hm : P.follows .mixedOrders = true) (hn : l.length = n) (h : wpAny P .any l.toArray Q n (Array.replicate n false) a w.drew) : (Code.region id l.toArray true).wp P Q a w := by
  refine wp_region_any hm ?_
  rw [List.size_toArray, hn]
  exact h
/-- What yields in whatever world is taken first. -/
theorem reg_take (i : Nat) (d : Tmp) (v : Value) {o : Oper} (hi : l[i]? = some o) (hd : o.dst = some d) (hB : (Region.noSelect l.toArray && Region.free .any l.toArray listed i && (Region.ready .any l.toArray listed).contains i) = true)
    (hQ : ∀ c a w, Q (.panic c) (a.put (some d) v) w → Q (.panic c) a w) (hw : Region.wanted o (yielded l.toArray a.tmps) = true) (hv : ∀ w, (execOp a.eval o).run P w = .ok (.value v) w)
    (h : wpAny P .any l.toArray Q fuel (listed.setIfInBounds i true) (a.put (some d) v) w) : wpAny P .any l.toArray Q (fuel + 1) listed a w := by
  simp only [Bool.and_eq_true] at hB
  have hi' : l.toArray[i]? = some o := by rw [List.getElem?_toArray]; exact hi
  refine wpAny_take (v := v) hi' hB.1.1 hB.1.2 hB.2 (by rw [hd]; exact hQ) (Or.inl ⟨hw, hv⟩) ?_
  rw [hd]; exact h
/-- What its guard leaves out. -/
theorem reg_skip (i : Nat) (d : Tmp) {o : Oper} (hi : l[i]? = some o) (hd : o.dst = some d) (hB : (Region.noSelect l.toArray && Region.free .any l.toArray listed i && (Region.ready .any l.toArray listed).contains i) = true)
    (hQ : ∀ c a w, Q (.panic c) (a.put (some d) undef) w → Q (.panic c) a w) (hw : Region.wanted o (yielded l.toArray a.tmps) = false)
    (h : wpAny P .any l.toArray Q fuel (listed.setIfInBounds i true) (a.put (some d) undef) w) : wpAny P .any l.toArray Q (fuel + 1) listed a w := by
  simp only [Bool.and_eq_true] at hB
  have hi' : l.toArray[i]? = some o := by rw [List.getElem?_toArray]; exact hi
  refine wpAny_take (v := undef) hi' hB.1.1 hB.1.2 hB.2 (by rw [hd]; exact hQ) (Or.inr ⟨hw, rfl⟩) ?_
  rw [hd]; exact h
theorem reg_op (i : Nat) {o : Oper} (hi : l[i]? = some o) (hw : Region.wanted o (yielded l.toArray a.tmps) = true) {K0 : Act → World → Prop} (h : ∀ K : Act → World → Prop, (∀ a' w', K0 a' w' → K a' w') → o.wp P a w K Q) : wpOp P l.toArray Q i K0 a w := by
  have hi' : l.toArray[i]? = some o := by rw [List.getElem?_toArray]; exact hi
  unfold wpOp
  simp only [hi', hw, if_true]
  exact Or.inl (h _ fun _ _ h => h)
/-- One operation alone may come up. -/
theorem reg_one (i : Nat) {o : Oper} (hi : l[i]? = some o) (hr : (Region.ready .any l.toArray listed == [i]) = true) (hw : Region.wanted o (yielded l.toArray a.tmps) = true)
    (h : ∀ K : Act → World → Prop, (∀ a' w', wpAny P .any l.toArray Q fuel (listed.setIfInBounds i true) a' w' → K a' w') → o.wp P a w K Q) : wpAny P .any l.toArray Q (fuel + 1) listed a w := by
  rw [beq_iff_eq] at hr
  refine ⟨fun h0 => (by rw [hr] at h0; cases h0), fun j hj => ?_⟩
  rw [hr] at hj
  obtain rfl := List.mem_singleton.1 hj
  exact reg_op _ hi hw h
/-- Two may come up. -/
theorem reg_two (i j : Nat) {o o' : Oper} (hi : l[i]? = some o) (hj : l[j]? = some o') (hr : (Region.ready .any l.toArray listed == [i, j]) = true) (hw : Region.wanted o (yielded l.toArray a.tmps) = true) (hw' : Region.wanted o' (yielded l.toArray a.tmps) = true)
    (h : ∀ K : Act → World → Prop, (∀ a' w', wpAny P .any l.toArray Q fuel (listed.setIfInBounds i true) a' w' → K a' w') → o.wp P a w K Q)
    (h' : ∀ K : Act → World → Prop, (∀ a' w', wpAny P .any l.toArray Q fuel (listed.setIfInBounds j true) a' w' → K a' w') → o'.wp P a w K Q) : wpAny P .any l.toArray Q (fuel + 1) listed a w := by
  rw [beq_iff_eq] at hr
  refine ⟨fun h0 => (by rw [hr] at h0; cases h0), fun k hk => ?_⟩
  rw [hr] at hk
  rcases List.mem_cons.1 hk with rfl | hk
  · exact reg_op _ hi hw h
  · obtain rfl := List.mem_singleton.1 hk
    exact reg_op _ hj hw' h'
theorem reg_end (hr : (Region.ready .any l.toArray listed == []) = true) (h : Q .normal a w) : wpAny P .any l.toArray Q fuel listed a w :=
  wpAny_done (by rwa [beq_iff_eq] at hr) h fuel
end
end Go.Proofs.YtkapkphhceknfaaGreatDoor
namespace Go.Proofs.YtkapkphhceknfaaGreatDoor.Pg
open Go.RowKit
theorem mixed : Tryz.prog.follows .mixedOrders = true := by kernel_rfl
theorem repeat_zero (n : Nat) : Lib.repeatL [(0 : UInt8)] n = List.replicate n 0 := by
  induction n with
  | zero => rfl
  | succ n ih => simp [Lib.repeatL, ih, List.replicate_succ]
/-- So many bytes of 0. -/
def zs (n : Nat) : ByteArray := ⟨(List.replicate n 0).toArray⟩
theorem zs_size (n : Nat) : (zs n).size = n := by simp [zs, ByteArray.size]
theorem repeat_any (n : Nat) (c : Int) (w : World) (hc : c = (n : Int)) (hn : n ≤ 10000) : Calls Tryz.prog 95 #[.string ⟨#[0]⟩, .int .i64 c] w fun e w' => e = .returned (.string (zs n)) ∧ Below w.heap.size w w' := by
  subst hc
  have := Sm.c_repeat ⟨#[0]⟩ n w (by omega) (by have : ByteArray.size ⟨#[0]⟩ = 1 := rfl; rw [this]; omega)
  refine this.mono fun e w' ⟨he, hb⟩ => ⟨?_, hb⟩
  rw [he]
  have : (⟨#[0]⟩ : ByteArray).data.toList = [0] := rfl
  rw [this, repeat_zero]
  rfl
section
variable {P : Program} {Q : Exit → Act → World → Prop} {K : Act → World → Prop} {a : Act} {w : World} {o : Oper}
/-- A row of bytes told as a text, within a region that draws its order. -/
theorem op_string (src dst e : TypeId) (x : Operand) (ho : o.op = .convert src dst x) (hs : P.underlying src = some (.slice e)) (he : P.underlying e = some (.int .u8)) (hd : P.underlying dst = some .string)
    (b n cap : Nat) (arr : Array Value) (T : TypeId) (hx : a.eval x = .slice (some ⟨b, 0, none⟩) n cap) (hb : Blk w b arr T) (hn : 0 + n ≤ arr.size) (l : List UInt8) (hl : arr.extract 0 (0 + n) = (Lib.byteCells l).toArray)
    (h : K (a.put o.dst (.string ⟨l.toArray⟩)) w) : o.wp P a w K Q := by
  have := bytes_run P w b 0 n cap arr T hb hn l hl
  unfold Oper.wp execOp
  simp only [ho, hx, Sem.run_bind, Sem.run_pure, Result.andThen_ok, run_convert_bytes_string w src dst e _ _ _ hs he hd, this]
  exact h
end
/-- How many bytes a text has, the text, and 0 up to 200 bytes. -/
def padT (s : ByteArray) : ByteArray := ⟨#[UInt8.ofNat s.size]⟩ ++ s ++ zs (200 - s.size)
theorem padT_size (s : ByteArray) (h : s.size ≤ 200) : (padT s).size = 201 := by
  unfold padT; rw [ByteArray.size_append, ByteArray.size_append, zs_size]
  have : ByteArray.size ⟨#[UInt8.ofNat s.size]⟩ = 1 := rfl
  omega
theorem lenB (s : ByteArray) (h : s.size ≤ 200) : (#[Value.int .u8 (s.size : Int)] : Array Value).extract 0 (0 + 1) = (Lib.byteCells [UInt8.ofNat s.size]).toArray := by
  have : (UInt8.ofNat s.size).toNat = s.size := by rw [UInt8.toNat_ofNat', Nat.mod_eq_of_lt (by omega)]
  simp [Lib.byteCells, this]
set_option maxRecDepth 100000 in
set_option maxHeartbeats 1000000 in
theorem padded_any (s : ByteArray) (w : World) (hs : s.size ≤ 200) :
    Calls Tryz.prog 73 #[.string s] w fun e w' => e = .returned (.string (padT s)) ∧ Below w.heap.size w w' := by
  have hs' : (s.size : Int) ≤ 200 := by omega
  obtain ⟨nn, hnn⟩ : ∃ nn, Hid (nn = 200 - s.size) := ⟨_, rfl⟩
  have hnI : (200 : Int) - (s.size : Int) = (nn : Int) := by rw [hnn.out]; omega
  have hn1 : nn ≤ 200 := by rw [hnn.out]; omega
  have hwn : IntKind.i64.wrap (nn : Int) = (nn : Int) := by rw [IntKind.wrap_i64]; omega
  have hwb : IntKind.u8.wrap (s.size : Int) = (s.size : Int) := by simp [IntKind.wrap, IntKind.bits, IntKind.signed]; omega
  have hlB := lenB s hs
  have HF : Hid ((⟨[UInt8.ofNat s.size].toArray⟩ : ByteArray) ++ s ++ zs nn = padT s) := by unfold Hid padT; rw [hnn.out]
  have hz1 : (⟨[UInt8.ofNat s.size].toArray⟩ : ByteArray).size = 1 := rfl
  have hz2 := zs_size nn
  obtain ⟨B1, hB1⟩ : ∃ B1 : ByteArray, B1 = ⟨[UInt8.ofNat s.size].toArray⟩ := ⟨_, rfl⟩
  rw [← hB1] at HF hz1
  have hz3 : (B1 ++ s).size = 1 + s.size := by rw [ByteArray.size_append, hz1]
  have g0 : Below w.heap.size w w.drew := below_drewN (Below.refl _ _) 1
  go_enter Tryz.func73, Tryz.ntmps73
  go_wp2_with fail
  refine reg_in 13 mixed rfl ?_
  refine reg_take 0 3 (.string s) rfl rfl (by kernel_rfl) (fun _ _ _ h => h) rfl (fun w => by go_simp) ?_
  refine reg_take 1 4 (.int .i64 s.size) rfl rfl (by kernel_rfl) (fun _ _ _ h => h) rfl (fun w => by go_simp) ?_
  refine reg_take 2 5 (.int .u8 s.size) rfl rfl (by kernel_rfl) (fun _ _ _ h => h) rfl (fun w => by go_simp) ?_
  refine reg_take 5 8 (.string s) rfl rfl (by kernel_rfl) (fun _ _ _ h => h) rfl (fun w => by go_simp) ?_
  refine reg_take 7 10 (.string s) rfl rfl (by kernel_rfl) (fun _ _ _ h => h) rfl (fun w => by go_simp) ?_
  refine reg_take 8 11 (.int .i64 s.size) rfl rfl (by kernel_rfl) (fun _ _ _ h => h) rfl (fun w => by go_simp) ?_
  refine reg_take 9 12 (.int .i64 nn) rfl rfl (by kernel_rfl) (fun _ _ _ h => h) rfl (fun w => by go_simp) ?_
  simp only [Act.put, List.setIfInBounds_toArray, List.set_cons_succ, List.set_cons_zero]
  clear hnI hwn hwb
  refine reg_two 3 10 rfl rfl (by kernel_rfl) rfl rfl (fun K hK => ?_) (fun K hK => ?_)
  · go_wp2_with fail
    have b1 : Blk (w.alloc (.cells #[.int .u8 (s.size : Int)] 5)).drew w.heap.size #[.int .u8 (s.size : Int)] 5 := (Blk.new w _ 5).drew
    have g1 : Below w.heap.size w (w.alloc (.cells #[.int .u8 (s.size : Int)] 5)).drew := below_drewN ((Below.refl w.heap.size w).alloc (Nat.le_refl _) _) 1
    generalize (w.alloc (.cells #[.int .u8 (s.size : Int)] 5)).drew = w1 at *
    refine reg_two 4 10 rfl rfl (by kernel_rfl) rfl rfl (fun K hK => ?_) (fun K hK => ?_)
    · refine op_string 87 9 5 _ rfl Tryz.underlying87 Tryz.underlying5 Tryz.underlying9 _ 1 1 _ 5 rfl b1 (by simp) _ hlB ?_
      refine hK _ _ ?_
      clear hK K
      rw [← hB1]
      refine reg_take 6 9 (.string (B1 ++ s)) rfl rfl (by kernel_rfl) (fun _ _ _ h => h) rfl (fun w => by go_simp; omega) ?_
      simp only [Act.put, List.setIfInBounds_toArray, List.set_cons_succ, List.set_cons_zero]
      refine reg_one 10 rfl (by kernel_rfl) rfl (fun K hK => ?_)
      go_wp2_with (go_at_call 95; refine (repeat_any nn _ _ rfl (by omega)).mono ?_; rintro e w2 ⟨rfl, g2⟩)
      have g3 := g1.trans (g2.mono g1.size)
      refine reg_take 11 14 (.string (B1 ++ s ++ zs nn)) rfl rfl (by kernel_rfl) (fun _ _ _ h => h) rfl (fun w => by go_simp; omega) ?_
      refine reg_take 12 2 (.string (B1 ++ s ++ zs nn)) rfl rfl (by kernel_rfl) (fun _ _ _ h => h) rfl (fun w => by go_simp) ?_
      simp only [Act.put, List.setIfInBounds_toArray, List.set_cons_succ, List.set_cons_zero]
      rw [HF.out]
      refine reg_end (by kernel_rfl) ?_
      go_wp2_with fail
      go_ret
      exact ⟨rfl, g3⟩
    · go_wp2_with (go_at_call 95; refine (repeat_any nn _ _ rfl (by omega)).mono ?_; rintro e w2 ⟨rfl, g2⟩)
      have b2 := b1.below g2 b1.lt
      have g3 := g1.trans (g2.mono g1.size)
      refine reg_one 4 rfl (by kernel_rfl) rfl (fun K hK => ?_)
      refine op_string 87 9 5 _ rfl Tryz.underlying87 Tryz.underlying5 Tryz.underlying9 _ 1 1 _ 5 rfl b2 (by simp) _ hlB ?_
      refine hK _ _ ?_
      clear hK K
      rw [← hB1]
      refine reg_take 6 9 (.string (B1 ++ s)) rfl rfl (by kernel_rfl) (fun _ _ _ h => h) rfl (fun w => by go_simp; omega) ?_
      simp only [Act.put, List.setIfInBounds_toArray, List.set_cons_succ, List.set_cons_zero]
      refine reg_take 11 14 (.string (B1 ++ s ++ zs nn)) rfl rfl (by kernel_rfl) (fun _ _ _ h => h) rfl (fun w => by go_simp; omega) ?_
      refine reg_take 12 2 (.string (B1 ++ s ++ zs nn)) rfl rfl (by kernel_rfl) (fun _ _ _ h => h) rfl (fun w => by go_simp) ?_
      simp only [Act.put, List.setIfInBounds_toArray, List.set_cons_succ, List.set_cons_zero]
      rw [HF.out]
      refine reg_end (by kernel_rfl) ?_
      go_wp2_with fail
      go_ret
      exact ⟨rfl, g3⟩
  · go_wp2_with (go_at_call 95; refine (repeat_any nn _ _ rfl (by omega)).mono ?_; rintro e w2 ⟨rfl, g2⟩)
    have g3 := g0.trans g2
    refine reg_one 3 rfl (by kernel_rfl) rfl (fun K hK => ?_)
    go_wp2_with fail
    have b4 := Blk.new w2 #[.int .u8 (s.size : Int)] 5
    have g4 := g3.alloc g3.size (.cells #[.int .u8 (s.size : Int)] 5)
    refine reg_one 4 rfl (by kernel_rfl) rfl (fun K hK => ?_)
    refine op_string 87 9 5 _ rfl Tryz.underlying87 Tryz.underlying5 Tryz.underlying9 _ 1 1 _ 5 rfl b4 (by simp) _ hlB ?_
    refine hK _ _ ?_
    clear hK K
    rw [← hB1]
    refine reg_take 6 9 (.string (B1 ++ s)) rfl rfl (by kernel_rfl) (fun _ _ _ h => h) rfl (fun w => by go_simp; omega) ?_
    simp only [Act.put, List.setIfInBounds_toArray, List.set_cons_succ, List.set_cons_zero]
    refine reg_take 11 14 (.string (B1 ++ s ++ zs nn)) rfl rfl (by kernel_rfl) (fun _ _ _ h => h) rfl (fun w => by go_simp; omega) ?_
    refine reg_take 12 2 (.string (B1 ++ s ++ zs nn)) rfl rfl (by kernel_rfl) (fun _ _ _ h => h) rfl (fun w => by go_simp) ?_
    simp only [Act.put, List.setIfInBounds_toArray, List.set_cons_succ, List.set_cons_zero]
    rw [HF.out]
    refine reg_end (by kernel_rfl) ?_
    go_wp2_with fail
    go_ret
    exact ⟨rfl, g4⟩
end Go.Proofs.YtkapkphhceknfaaGreatDoor.Pg
namespace Go.Proofs.YtkapkphhceknfaaGreatDoor
open Go.RowKit
/-- A slice of one-cell elements that the call has made. -/
def Row (w : World) (B : Nat) (e : TypeId) (v : Value) (xs : List Value) : Prop := w.ownsRow B e 1 v xs.length xs
theorem Row.nil (w : World) (B : Nat) (e : TypeId) : Row w B e (.slice none 0 0) [] := ⟨rfl, Or.inl ⟨rfl, rfl⟩⟩
theorem Row.below {w w' : World} {B : Nat} {e : TypeId} {v : Value} {xs : List Value} (h : Row w B e v xs) (hb : Below w.heap.size w w') : Row w' B e v xs := by
  obtain ⟨h1, h2⟩ := h
  refine ⟨h1, ?_⟩
  rcases h2 with h2 | ⟨g, cap, cur, hv, hg, hh, r⟩
  · exact Or.inl h2
  · refine Or.inr ⟨g, cap, cur, hv, hg, ?_, r⟩
    have lt : g < w.heap.size := by
      rcases Nat.lt_or_ge g w.heap.size with h' | h'
      · exact h'
      · simp [Array.getElem?_eq_none h'] at hh
    rw [hb.block _ lt]; exact hh
theorem Row.grown {w w' : World} {B g : Nat} {e : TypeId} {n cap : Nat} {xs : List Value} {row : Option Nat} (h : Row w B e (.slice (some ⟨g, 0, none⟩) n cap) xs) (hg : w.grownBy w' row) (hne : some g ≠ row) : Row w' B e (.slice (some ⟨g, 0, none⟩) n cap) xs := by
  obtain ⟨h1, h2⟩ := h
  refine ⟨h1, ?_⟩
  rcases h2 with h2 | ⟨g', cap', cur, hv, hgB, hh, r⟩
  · exact Or.inl h2
  · refine Or.inr ⟨g', cap', cur, hv, hgB, ?_, r⟩
    have lt : g' < w.heap.size := by
      rcases Nat.lt_or_ge g' w.heap.size with h' | h'
      · exact h'
      · simp [Array.getElem?_eq_none h'] at hh
    have e : g = g' := by injection hv with a1; injection a1 with a2; injection a2
    rw [hg.block _ lt (e ▸ hne)]; exact hh
theorem Row.cell {w : World} {B g n cap : Nat} {e : TypeId} {xs : List Value} (h : Row w B e (.slice (some ⟨g, 0, none⟩) n cap) xs) (j : Nat) (u : Value) (hj : xs[j]? = some u) : w.cell? ⟨g, j, none⟩ = some u := by
  obtain ⟨h1, h2⟩ := h
  rcases h2 with ⟨h2, _⟩ | ⟨g', cap', cur, hv, hgB, hh, _, _, _, ht⟩
  · injection h2 with a1; cases a1
  · have e : g = g' := by injection hv with a1; injection a1 with a2; injection a2
    subst e
    simp only [World.cell?, hh]
    rw [← ht, List.getElem?_take] at hj
    split at hj
    · simpa using hj
    · cases hj
theorem Row.form {w : World} {B : Nat} {e : TypeId} {v : Value} {xs : List Value} (h : Row w B e v xs) : (v = .slice none 0 0 ∧ xs = []) ∨ ∃ g cap, v = .slice (some ⟨g, 0, none⟩) xs.length cap ∧ B ≤ g ∧ g < w.heap.size := by
  obtain ⟨h1, h2⟩ := h
  rcases h2 with ⟨h2, h3⟩ | ⟨g', cap', cur, hv, hgB, hh, _⟩
  · exact Or.inl ⟨h2, List.eq_nil_of_length_eq_zero h3⟩
  · refine Or.inr ⟨g', cap', hv, hgB, ?_⟩
    rcases Nat.lt_or_ge g' w.heap.size with h' | h'
    · exact h'
    · simp [Array.getElem?_eq_none h'] at hh
/-- What an append leaves of all that stands below. -/
theorem below_grown {B : Nat} {a w w' : World} {e : TypeId} {v : Value} {xs : List Value} (h : Below B a w) (hr : Row w B e v xs) (hg : w.grownBy w' v.ownBlock) (hB : B ≤ w.heap.size) : Below B a w' :=
  h.grown hg hB fun k hk => by
    rcases hr.form with ⟨e1, _⟩ | ⟨g, cap, e1, hgB, _⟩
    · rw [e1] at hk; cases hk
    · rw [e1] at hk; simp only [Value.ownBlock, Option.some.injEq] at hk; omega
section
variable {P : Program} {ops : Array Oper} {Q : Exit → Act → World → Prop} {a : Act} {w : World} {rest : List Oper} {o : Oper}
/-- One element appended to a slice that the call has made. -/
theorem wpl_push (hgd : o.guard = none) (s x : Operand) (t : TypeId) (ho : o.op = .call { callee := .builtin .append, args := #[s, x], argTypes := #[t, t] })
    (B : Nat) (e : TypeId) (z : Value) (bytes : Nat) (ht : P.underlying t = some (.slice e)) (hinfo : (P.info? e).map (fun i => (i.zero, i.size, i.bytes)) = some (some z, 1, bytes)) (hz1 : z.cells.size = 1)
    (v : Value) (xs : List Value) (hs : a.eval s = v) (hown : Row w B e v xs) (sb c : Nat) (u : Value) (hx : a.eval x = .slice (some ⟨sb, 0, none⟩) 1 c) (hu : w.cell? ⟨sb, 0, none⟩ = some u) (hu1 : u.oneCell' = true)
    (hlen : xs.length < 100000) (hby : bytes ≤ 8) (hbase : B ≤ w.heap.size)
    (h : ∀ g cap w', Row w' B e (.slice (some ⟨g, 0, none⟩) (xs.length + 1) cap) (xs ++ [u]) → w.grownBy w' v.ownBlock → (v.ownBlock = some g ∨ g = w.heap.size) → g < w'.heap.size → wpList P ops Q rest (a.put o.dst (.slice (some ⟨g, 0, none⟩) (xs.length + 1) cap)) w') :
    wpList P ops Q (o :: rest) a w := by
  obtain ⟨i, hi, hp⟩ := Option.map_eq_some_iff.1 hinfo
  simp only [Prod.mk.injEq] at hp
  obtain ⟨p1, p2, p3⟩ := hp
  refine wpList_append_lies w hgd s x t ho B e i z 1 bytes ht hi p1 p2 p3 hz1 (by decide) v xs.length xs hs hown ⟨sb, 0, none⟩ 1 c [u] hx rfl ?_ ?_ (by decide) (by unfold maxLen; omega) ?_ hbase w.heap.size rfl ?_
  · intro j u' hj
    match j with
    | 0 => simp only [List.getElem?_cons_zero, Option.some.injEq] at hj; subst hj; exact hu
    | j + 1 => simp at hj
  · intro u' hu'; simp at hu'; subst hu'; exact hu1
  · have := Nat.mul_le_mul (Nat.succ_le_of_lt hlen) hby; simp only [Nat.succ_eq_add_one] at this; omega
  · intro g cap w' h1 h2 h3 h4
    exact h g cap w' (by unfold Row; simpa using h1) h2 h3 h4
end
end Go.Proofs.YtkapkphhceknfaaGreatDoor
namespace Go.Proofs.YtkapkphhceknfaaGreatDoor.Sm
open Go.RowKit
/-- A slice of bytes that the call has made: of its row nothing is frozen within its length. -/
structure MRow (w : World) (B g cap : Nat) (l : List UInt8) : Prop where
  ge : B ≤ g
  le : l.length ≤ cap
  cur : ∃ (cur : Array Value) (fz : Nat × Nat), w.heap[g]? = some (.cells cur 5 fz) ∧ cur.size = cap ∧ (∀ j, j < cap → (decide (fz.1 ≤ j) && decide (j < fz.2)) = false) ∧ cur.toList.take l.length = Lib.byteCells l
theorem MRow.lt {w : World} {B g cap : Nat} {l : List UInt8} (h : MRow w B g cap l) : g < w.heap.size := by
  obtain ⟨cur, fz, hh, _⟩ := h.cur
  rcases Nat.lt_or_ge g w.heap.size with h' | h'
  · exact h'
  · simp [Array.getElem?_eq_none h'] at hh
theorem MRow.below {w w' : World} {B g cap : Nat} {l : List UInt8} (h : MRow w B g cap l) (hb : Below w.heap.size w w') : MRow w' B g cap l := by
  have lt := h.lt
  obtain ⟨cur, fz, hh, r⟩ := h.cur
  exact ⟨h.ge, h.le, cur, fz, by rw [hb.block _ lt]; exact hh, r⟩
theorem MRow.cell {w : World} {B g cap : Nat} {l : List UInt8} (h : MRow w B g cap l) (j : Nat) (b : UInt8) (hj : l[j]? = some b) : w.cell? ⟨g, j, none⟩ = some (.int .u8 (b.toNat : Int)) := by
  obtain ⟨cur, fz, hh, _, _, ht⟩ := h.cur
  have hj' : (Lib.byteCells l)[j]? = some (.int .u8 (b.toNat : Int)) := by simp [Lib.byteCells, hj]
  rw [← ht, List.getElem?_take] at hj'
  simp only [World.cell?, hh]
  split at hj'
  · simpa using hj'
  · cases hj'
theorem info5 : (Tryz.prog.info? 5).map (fun i => (i.zero, i.size, i.bytes)) = some (some (.int .u8 0), 1, 1) := by kernel_rfl
theorem mrow_append (w : World) (B g cap : Nat) (l : List UInt8) (h : MRow w B g cap l) (ty : TypeId) (sb c : Nat) (b : UInt8) (hu : w.cell? ⟨sb, 0, none⟩ = some (.int .u8 (b.toNat : Int))) (hl : l.length < 100000) (hB : B ≤ w.heap.size) :
    ∃ g' cap' w', (Builtin.append_ #[87, 87] ty #[.slice (some ⟨g, 0, none⟩) l.length cap, .slice (some ⟨sb, 0, none⟩) 1 c]).run Tryz.prog w = .ok (.slice (some ⟨g', 0, none⟩) (l.length + 1) cap') w' ∧ MRow w' B g' cap' (l ++ [b]) ∧ Below B w w' := by
  obtain ⟨i, hi, hp⟩ := Option.map_eq_some_iff.1 info5
  simp only [Prod.mk.injEq] at hp
  obtain ⟨p1, p2, p3⟩ := hp
  have hnews : ∀ (j : Nat) (u : Value), [Value.int .u8 (b.toNat : Int)][j]? = some u → w.cell? ((⟨sb, 0, none⟩ : Addr).add j) = some u := by
    intro j u hj
    match j with
    | 0 => simp only [List.getElem?_cons_zero, Option.some.injEq] at hj; subst hj; exact hu
    | j + 1 => simp at hj
  have hge := h.ge
  have hle := h.le
  have lt := h.lt
  obtain ⟨cur, fz, hh, hcs, hfz, ht⟩ := h.cur
  by_cases hr : l.length + 1 ≤ cap
  · have hcell : ∀ j, j < cap → (w.cell? ⟨g, j, none⟩).isSome = true := fun j hj => by
      simp only [World.cell?, hh]; simp; omega
    have hfro : ∀ j, j < cap → w.frozen? ⟨g, j, none⟩ = false := fun j hj => by
      simp only [World.frozen?, hh]; exact hfz j hj
    have hrun := run_append_room_cells (P := Tryz.prog) w 87 ty 5 i Tryz.underlying87 hi g 0 l.length cap ⟨sb, 0, none⟩ 1 c [.int .u8 (b.toNat : Int)] (by rw [p2]; rfl) hnews (by intro u hu'; simp at hu'; subst hu'; rfl) hr
      (fun j hj => hcell _ (by rw [p2]; simp at hj; omega)) (fun j hj => hfro _ (by rw [p2]; simp at hj; omega))
    rw [p2] at hrun
    refine ⟨g, cap, _, hrun, ⟨hge, by simpa using hr, cur.setIfInBounds l.length (.int .u8 (b.toNat : Int)), fz, ?_, by simpa using hcs, hfz, ?_⟩, ?_⟩
    · simp [World.setCells, World.setCell, Array.getElem?_modify, hh]
    · rw [Array.toList_setIfInBounds, List.length_append, List.length_singleton, List.take_add_one, List.take_set_of_le (Nat.le_refl _), ht, List.getElem?_set_self (by simp; omega)]
      simp [Lib.byteCells]
    · simpa [World.setCells] using (Below.refl B w).setCell (p := ⟨g, l.length, none⟩) hge (.int .u8 (b.toNat : Int))
  · have holds : ∀ (j : Nat) (v : Value), (Lib.byteCells l)[j]? = some v → w.cell? ((⟨g, 0, none⟩ : Addr).add j) = some v := by
      intro j v hj
      rw [addr_add]
      rw [← ht, List.getElem?_take] at hj
      simp only [World.cell?, hh]
      split at hj
      · simpa using hj
      · cases hj
    have hbl : (Lib.byteCells l).length = l.length := by simp [Lib.byteCells]
    have hrun := run_append_grow (P := Tryz.prog) w 87 ty 5 i (.int .u8 0) Tryz.underlying87 hi p1 ⟨g, 0, none⟩ l.length cap (Lib.byteCells l) (by rw [p2, hbl]; omega) holds ⟨sb, 0, none⟩ 1 c [.int .u8 (b.toNat : Int)] (by rw [p2]; rfl) hnews (by omega) (by omega)
      (growslice_fits (by omega) (by rw [p3]; omega))
    have hgc := grownCap_ge w (l.length + 1) cap 5
    refine ⟨w.heap.size, _, _, hrun, ⟨hB, by simpa using hgc, _, (0, 0), (Blk.new w.drew _ 5), ?_, by simp, ?_⟩, ?_⟩
    · simp [Builtin.zeroCells, Value.cells, hbl]; omega
    · simp only [Array.toList_append, List.append_assoc]
      rw [List.length_append, List.length_singleton, List.take_append, hbl]
      rw [List.take_of_length_le (by rw [hbl]; omega)]
      simp [Lib.byteCells]
    · exact (Below.refl B w).drew.alloc hB _
section
variable {ops : Array Oper} {Q : Exit → Act → World → Prop} {a : Act} {w : World} {rest : List Oper} {o : Oper}
theorem wpl_mpush (hgd : o.guard = none) (s x : Operand) (ho : o.op = .call { callee := .builtin .append, args := #[s, x], argTypes := #[87, 87] })
    (B g cap : Nat) (l : List UInt8) (hs : a.eval s = .slice (some ⟨g, 0, none⟩) l.length cap) (h : MRow w B g cap l) (sb c : Nat) (b : UInt8) (hx : a.eval x = .slice (some ⟨sb, 0, none⟩) 1 c)
    (hu : w.cell? ⟨sb, 0, none⟩ = some (.int .u8 (b.toNat : Int))) (hl : l.length < 100000) (hB : B ≤ w.heap.size)
    (hK : ∀ g' cap' w', MRow w' B g' cap' (l ++ [b]) → Below B w w' → wpList Tryz.prog ops Q rest (a.put o.dst (.slice (some ⟨g', 0, none⟩) (l.length + 1) cap')) w') : wpList Tryz.prog ops Q (o :: rest) a w := by
  refine wpList_plain hgd fun K hK' => ?_
  obtain ⟨g', cap', w', hr, h2, h3⟩ := mrow_append w B g cap l h o.type sb c b hu hl hB
  unfold Oper.wp execOp
  simp only [ho, resolve, invoke, builtin, Sem.run_bind, Sem.run_pure, Result.andThen_ok, List.map_toArray, List.map_cons, List.map_nil, hs, hx, hr]
  exact hK' _ _ (hK g' cap' w' h2 h3)
theorem wpl_mbytes (hgd : o.guard = none) (x : Operand) (ho : o.op = .convert 9 87 x) (s : ByteArray) (hx : a.eval x = .string s)
    (hK : ∀ cap' w', MRow w' w.heap.size w.heap.size cap' s.data.toList → Below w.heap.size w w' → wpList Tryz.prog ops Q rest (a.put o.dst (.slice (some ⟨w.heap.size, 0, none⟩) s.size cap')) w') : wpList Tryz.prog ops Q (o :: rest) a w := by
  refine wpList_plain hgd fun K hK' => ?_
  have hr := Lib.run_convert_string_bytes (P := Tryz.prog) w 9 87 5 s Tryz.underlying9 Tryz.underlying87 Tryz.underlying5
  have hgc := grownCap_ge w s.size 0 5
  unfold Oper.wp execOp
  simp only [ho, hx, Sem.run_bind, Sem.run_pure, Result.andThen_ok, hr]
  refine hK' _ _ (hK _ _ ⟨Nat.le_refl _, by simpa using hgc, _, _, Lib.bytesWorld_at_new w 5 s, ?_, ?_, ?_⟩ ⟨rfl, rfl, rfl, by rw [Lib.bytesWorld_size]; omega, fun k hk => Lib.bytesWorld_at_old w 5 s k hk⟩)
  · simp [Lib.bytesCells]; have : s.data.size = s.size := rfl; omega
  · intro j hj; simp [Lib.bytesCells]; have : s.data.size = s.size := rfl; omega
  · simp [Lib.bytesCells, Lib.byteCells]
end
end Go.Proofs.YtkapkphhceknfaaGreatDoor.Sm
namespace Go.Proofs.YtkapkphhceknfaaGreatDoor.Sm
open Go.RowKit
/-- The number that digits of 2^16 tell, the least first. -/
def val : List Nat → Nat
  | [] => 0
  | d :: l => d + 65536 * val l
theorem val_append (l m : List Nat) : val (l ++ m) = val l + 65536 ^ l.length * val m := by
  induction l with
  | nil => simp [val]
  | cons d l ih =>
    simp only [List.cons_append, val, ih, List.length_cons, Nat.pow_succ]
    rw [Nat.mul_add, ← Nat.mul_assoc, Nat.mul_comm 65536 (65536 ^ l.length)]; omega
/-- Such digits as cells. -/
def us (l : List Nat) : List Value := l.map fun d : Nat => Value.int .u64 (d : Int)
theorem us_length (l : List Nat) : (us l).length = l.length := by simp [us]
theorem us_snoc (l : List Nat) (d : Nat) : us (l ++ [d]) = us l ++ [.int .u64 (d : Int)] := by simp [us]
theorem us_get (l : List Nat) (j d : Nat) (h : l[j]? = some d) : (us l)[j]? = some (.int .u64 (d : Int)) := by simp [us, h]
theorem info38 : (Tryz.prog.info? 146).map (fun i => (i.zero, i.size, i.bytes)) = some (some (.int .u64 0), 1, 8) := by kernel_rfl
/-- One step of the product. -/
theorem val_step (outs ds : List Nat) (k c x d : Nat) (hk : outs.length = k) (hd : ds[k]? = some d) (h : val outs + 65536 ^ k * c = val (ds.take k) * x) :
    val (outs ++ [(c + d * x) % 65536]) + 65536 ^ (k + 1) * ((c + d * x) / 65536) = val (ds.take (k + 1)) * x := by
  rw [val_append, List.take_add_one, hd, val_append, hk, Nat.add_mul]
  have hl : (ds.take k).length = k := by
    have : k < ds.length := by
      rcases Nat.lt_or_ge k ds.length with h' | h'
      · exact h'
      · rw [List.getElem?_eq_none h'] at hd; cases hd
    rw [List.length_take]; omega
  rw [hl]
  simp only [Option.toList, val, Nat.mul_zero, Nat.add_zero]
  have e := Nat.div_add_mod (c + d * x) 65536
  have : 65536 ^ k * ((c + d * x) % 65536) + 65536 ^ (k + 1) * ((c + d * x) / 65536) = 65536 ^ k * c + 65536 ^ k * d * x := by
    rw [Nat.pow_succ, Nat.mul_assoc, ← Nat.mul_add, Nat.mul_assoc, ← Nat.mul_add]
    congr 1; omega
  omega
theorem val_step2 (outs ds : List Nat) (k c x : Nat) (hk : outs.length = k) (hd : ds.length ≤ k) (h : val outs + 65536 ^ k * c = val (ds.take k) * x) :
    val (outs ++ [c % 65536]) + 65536 ^ (k + 1) * (c / 65536) = val (ds.take (k + 1)) * x := by
  rw [val_append, hk, List.take_of_length_le (by omega)]
  rw [List.take_of_length_le hd] at h
  simp only [val, Nat.mul_zero, Nat.add_zero]
  have e := Nat.div_add_mod c 65536
  have : 65536 ^ k * (c % 65536) + 65536 ^ (k + 1) * (c / 65536) = 65536 ^ k * c := by
    rw [Nat.pow_succ, Nat.mul_assoc, ← Nat.mul_add]; congr 1; omega
  omega
theorem new_cell (w : World) (u : Value) (T : TypeId) : (w.alloc (.cells #[u] T)).cell? ⟨w.heap.size, 0, none⟩ = some u := (Blk.new w #[u] T).cell 0
end Go.Proofs.YtkapkphhceknfaaGreatDoor.Sm
