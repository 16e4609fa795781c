/-
  Part of the proof: a region that draws its order, operation by operation: what yields in whatever world is taken first; else all that may come up is looked at.
  Part of the proof: texts with 0 behind them, and the code's 'padded'.
  Part of the proof: a slice of one-cell elements that the call itself has made, and append to it.
-/
import Derived.Test.YtkapkphhceknfaaGreatDoorB02
import Derived.RegionTactic
import Derived.Test.YtkapkphhceknfaaGreatDoorB01
import Derived.Deep.AppendLies
namespace Go.Proofs.YtkapkphhceknfaaGreatDoor
open Go.RowKit
section
variable {P : Program} {l : List Oper} {Q : Exit → Act → World → Prop} {fuel : Nat} {listed : Array Bool} {a : Act} {w : World}
theorem reg_in {id : Nat} (n : Nat) (hm : P.follows .mixedOrders = true) (hn : l.length = n) (h : wpAny P .any l.toArray Q n (Array.replicate n false) a w.drew) : (Code.region id l.toArray true).wp P Q a w := by
  refine wp_region_any hm ?_
  rw [List.size_toArray, hn]
  exact h
/-- What yields in whatever world is taken first. -/
theorem reg_take (i : Nat) (d : Tmp) (v : Value) {o : Oper} (hi : l[i]? = some o) (hd : o.dst = some d) (hB : (Region.noSelect l.toArray && Region.free .any l.toArray listed i && (Region.ready .any l.toArray listed).contains i) = true)
    (hQ : ∀ c a w, Q (.panic c) (a.put (some d) v) w → Q (.panic c) a w) (hw : Region.wanted o (yielded l.toArray a.tmps) = true) (hv : ∀ w, (execOp a.eval o).run P w = .ok (.value v) w)
    (h : wpAny P .any l.toArray Q fuel (listed.setIfInBounds i true) (a.put (some d) v) w) : wpAny P .any l.toArray Q (fuel + 1) listed a w := by
  simp only [Bool.and_eq_true] at hB
  have hi' : l.toArray[i]? = some o := by rw [List.getElem?_toArray]; exact hi
  refine wpAny_take (v := v) hi' hB.1.1 hB.1.2 hB.2 (by rw [hd]; exact hQ) (Or.inl ⟨hw, hv⟩) ?_
  rw [hd]; exact h
/-- What its guard leaves out. -/
theorem reg_skip (i : Nat) (d : Tmp) {o : Oper} (hi : l[i]? = some o) (hd : o.dst = some d) (hB : (Region.noSelect l.toArray && Region.free .any l.toArray listed i && (Region.ready .any l.toArray listed).contains i) = true)
    (hQ : ∀ c a w, Q (.panic c) (a.put (some d) undef) w → Q (.panic c) a w) (hw : Region.wanted o (yielded l.toArray a.tmps) = false)
    (h : wpAny P .any l.toArray Q fuel (listed.setIfInBounds i true) (a.put (some d) undef) w) : wpAny P .any l.toArray Q (fuel + 1) listed a w := by
  simp only [Bool.and_eq_true] at hB
  have hi' : l.toArray[i]? = some o := by rw [List.getElem?_toArray]; exact hi
  refine wpAny_take (v := undef) hi' hB.1.1 hB.1.2 hB.2 (by rw [hd]; exact hQ) (Or.inr ⟨hw, rfl⟩) ?_
  rw [hd]; exact h
theorem reg_op (i : Nat) {o : Oper} (hi : l[i]? = some o) (hw : Region.wanted o (yielded l.toArray a.tmps) = true) {K0 : Act → World → Prop} (h : ∀ K : Act → World → Prop, (∀ a' w', K0 a' w' → K a' w') → o.wp P a w K Q) : wpOp P l.toArray Q i K0 a w := by
  have hi' : l.toArray[i]? = some o := by rw [List.getElem?_toArray]; exact hi
  unfold wpOp
  simp only [hi', hw, if_true]
  exact Or.inl (h _ fun _ _ h => h)
/-- One operation alone may come up. -/
theorem reg_one (i : Nat) {o : Oper} (hi : l[i]? = some o) (hr : (Region.ready .any l.toArray listed == [i]) = true) (hw : Region.wanted o (yielded l.toArray a.tmps) = true)
    (h : ∀ K : Act → World → Prop, (∀ a' w', wpAny P .any l.toArray Q fuel (listed.setIfInBounds i true) a' w' → K a' w') → o.wp P a w K Q) : wpAny P .any l.toArray Q (fuel + 1) listed a w := by
  rw [beq_iff_eq] at hr
  refine ⟨fun h0 => (by rw [hr] at h0; cases h0), fun j hj => ?_⟩
  rw [hr] at hj
  obtain rfl := List.mem_singleton.1 hj
  exact reg_op _ hi hw h
/-- Two may come up. -/
theorem reg_two (i j : Nat) {o o' : Oper} (hi : l[i]? = some o) (hj : l[j]? = some o') (hr : (Region.ready .any l.toArray listed == [i, j]) = true) (hw : Region.wanted o (yielded l.toArray a.tmps) = true) (hw' : Region.wanted o' (yielded l.toArray a.tmps) = true)
    (h : ∀ K : Act → World → Prop, (∀ a' w', wpAny P .any l.toArray Q fuel (listed.setIfInBounds i true) a' w' → K a' w') → o.wp P a w K Q)
    (h' : ∀ K : Act → World → Prop, (∀ a' w', wpAny P .any l.toArray Q fuel (listed.setIfInBounds j true) a' w' → K a' w') → o'.wp P a w K Q) : wpAny P .any l.toArray Q (fuel + 1) listed a w := by
  rw [beq_iff_eq] at hr
  refine ⟨fun h0 => (by rw [hr] at h0; cases h0), fun k hk => ?_⟩
  rw [hr] at hk
  rcases List.mem_cons.1 hk with rfl | hk
  · exact reg_op _ hi hw h
  · obtain rfl := List.mem_singleton.1 hk
    exact reg_op _ hj hw' h'
theorem reg_end (hr : (Region.ready .any l.toArray listed == []) = true) (h : Q .normal a w) : wpAny P .any l.toArray Q fuel listed a w :=
  wpAny_done (by rwa [beq_iff_eq] at hr) h fuel
end
end Go.Proofs.YtkapkphhceknfaaGreatDoor
namespace Go.Proofs.YtkapkphhceknfaaGreatDoor.Pg
open Go.RowKit
theorem mixed : Tryz.prog.follows .mixedOrders = true := by kernel_rfl
theorem repeat_zero (n : Nat) : Lib.repeatL [(0 : UInt8)] n = List.replicate n 0 := by
  induction n with
  | zero => rfl
  | succ n ih => simp [Lib.repeatL, ih, List.replicate_succ]
/-- So many bytes of 0. -/
def zs (n : Nat) : ByteArray := ⟨(List.replicate n 0).toArray⟩
theorem zs_size (n : Nat) : (zs n).size = n := by simp [zs, ByteArray.size]
theorem repeat_any (n : Nat) (c : Int) (w : World) (hc : c = (n : Int)) (hn : n ≤ 10000) : Calls Tryz.prog 95 #[.string ⟨#[0]⟩, .int .i64 c] w fun e w' => e = .returned (.string (zs n)) ∧ Below w.heap.size w w' := by
  subst hc
  have := Sm.c_repeat ⟨#[0]⟩ n w (by omega) (by have : ByteArray.size ⟨#[0]⟩ = 1 := rfl; rw [this]; omega)
  refine this.mono fun e w' ⟨he, hb⟩ => ⟨?_, hb⟩
  rw [he]
  have : (⟨#[0]⟩ : ByteArray).data.toList = [0] := rfl
  rw [this, repeat_zero]
  rfl
section
variable {P : Program} {Q : Exit → Act → World → Prop} {K : Act → World → Prop} {a : Act} {w : World} {o : Oper}
/-- A row of bytes told as a text, within a region that draws its order. -/
theorem op_string (src dst e : TypeId) (x : Operand) (ho : o.op = .convert src dst x) (hs : P.underlying src = some (.slice e)) (he : P.underlying e = some (.int .u8)) (hd : P.underlying dst = some .string)
    (b n cap : Nat) (arr : Array Value) (T : TypeId) (hx : a.eval x = .slice (some ⟨b, 0, none⟩) n cap) (hb : Blk w b arr T) (hn : 0 + n ≤ arr.size) (l : List UInt8) (hl : arr.extract 0 (0 + n) = (Lib.byteCells l).toArray)
    (h : K (a.put o.dst (.string ⟨l.toArray⟩)) w) : o.wp P a w K Q := by
  have := bytes_run P w b 0 n cap arr T hb hn l hl
  unfold Oper.wp execOp
  simp only [ho, hx, Sem.run_bind, Sem.run_pure, Result.andThen_ok, run_convert_bytes_string w src dst e _ _ _ hs he hd, this]
  exact h
end
/-- How many bytes a text has, the text, and 0 up to 200 bytes. -/
def padT (s : ByteArray) : ByteArray := ⟨#[UInt8.ofNat s.size]⟩ ++ s ++ zs (200 - s.size)
theorem padT_size (s : ByteArray) (h : s.size ≤ 200) : (padT s).size = 201 := by
  unfold padT; rw [ByteArray.size_append, ByteArray.size_append, zs_size]
  have : ByteArray.size ⟨#[UInt8.ofNat s.size]⟩ = 1 := rfl
  omega
theorem lenB (s : ByteArray) (h : s.size ≤ 200) : (#[Value.int .u8 (s.size : Int)] : Array Value).extract 0 (0 + 1) = (Lib.byteCells [UInt8.ofNat s.size]).toArray := by
  have : (UInt8.ofNat s.size).toNat = s.size := by rw [UInt8.toNat_ofNat', Nat.mod_eq_of_lt (by omega)]
  simp [Lib.byteCells, this]
set_option maxRecDepth 100000 in
set_option maxHeartbeats 1000000 in
theorem padded_any (s : ByteArray) (w : World) (hs : s.size ≤ 200) :
    Calls Tryz.prog 73 #[.string s] w fun e w' => e = .returned (.string (padT s)) ∧ Below w.heap.size w w' := by
  have hs' : (s.size : Int) ≤ 200 := by omega
  obtain ⟨nn, hnn⟩ : ∃ nn, Hid (nn = 200 - s.size) := ⟨_, rfl⟩
  have hnI : (200 : Int) - (s.size : Int) = (nn : Int) := by rw [hnn.out]; omega
  have hn1 : nn ≤ 200 := by rw [hnn.out]; omega
  have hwn : IntKind.i64.wrap (nn : Int) = (nn : Int) := by rw [IntKind.wrap_i64]; omega
  have hwb : IntKind.u8.wrap (s.size : Int) = (s.size : Int) := by simp [IntKind.wrap, IntKind.bits, IntKind.signed]; omega
  have hlB := lenB s hs
  have HF : Hid ((⟨[UInt8.ofNat s.size].toArray⟩ : ByteArray) ++ s ++ zs nn = padT s) := by unfold Hid padT; rw [hnn.out]
  have hz1 : (⟨[UInt8.ofNat s.size].toArray⟩ : ByteArray).size = 1 := rfl
  have hz2 := zs_size nn
  obtain ⟨B1, hB1⟩ : ∃ B1 : ByteArray, B1 = ⟨[UInt8.ofNat s.size].toArray⟩ := ⟨_, rfl⟩
  rw [← hB1] at HF hz1
  have hz3 : (B1 ++ s).size = 1 + s.size := by rw [ByteArray.size_append, hz1]
  have g0 : Below w.heap.size w w.drew := below_drewN (Below.refl _ _) 1
  go_enter Tryz.func73, Tryz.ntmps73
  go_wp2_with fail
  refine reg_in 13 mixed rfl ?_
  refine reg_take 0 3 (.string s) rfl rfl (by kernel_rfl) (fun _ _ _ h => h) rfl (fun w => by go_simp) ?_
  refine reg_take 1 4 (.int .i64 s.size) rfl rfl (by kernel_rfl) (fun _ _ _ h => h) rfl (fun w => by go_simp) ?_
  refine reg_take 2 5 (.int .u8 s.size) rfl rfl (by kernel_rfl) (fun _ _ _ h => h) rfl (fun w => by go_simp) ?_
  refine reg_take 5 8 (.string s) rfl rfl (by kernel_rfl) (fun _ _ _ h => h) rfl (fun w => by go_simp) ?_
  refine reg_take 7 10 (.string s) rfl rfl (by kernel_rfl) (fun _ _ _ h => h) rfl (fun w => by go_simp) ?_
  refine reg_take 8 11 (.int .i64 s.size) rfl rfl (by kernel_rfl) (fun _ _ _ h => h) rfl (fun w => by go_simp) ?_
  refine reg_take 9 12 (.int .i64 nn) rfl rfl (by kernel_rfl) (fun _ _ _ h => h) rfl (fun w => by go_simp) ?_
  simp only [Act.put, List.setIfInBounds_toArray, List.set_cons_succ, List.set_cons_zero]
  clear hnI hwn hwb
  refine reg_two 3 10 rfl rfl (by kernel_rfl) rfl rfl (fun K hK => ?_) (fun K hK => ?_)
  · go_wp2_with fail
    have b1 : Blk (w.alloc (.cells #[.int .u8 (s.size : Int)] 5)).drew w.heap.size #[.int .u8 (s.size : Int)] 5 := (Blk.new w _ 5).drew
    have g1 : Below w.heap.size w (w.alloc (.cells #[.int .u8 (s.size : Int)] 5)).drew := below_drewN ((Below.refl w.heap.size w).alloc (Nat.le_refl _) _) 1
    generalize (w.alloc (.cells #[.int .u8 (s.size : Int)] 5)).drew = w1 at *
    refine reg_two 4 10 rfl rfl (by kernel_rfl) rfl rfl (fun K hK => ?_) (fun K hK => ?_)
    · refine op_string 87 9 5 _ rfl Tryz.underlying87 Tryz.underlying5 Tryz.underlying9 _ 1 1 _ 5 rfl b1 (by simp) _ hlB ?_
      refine hK _ _ ?_
      clear hK K
      rw [← hB1]
      refine reg_take 6 9 (.string (B1 ++ s)) rfl rfl (by kernel_rfl) (fun _ _ _ h => h) rfl (fun w => by go_simp; omega) ?_
      simp only [Act.put, List.setIfInBounds_toArray, List.set_cons_succ, List.set_cons_zero]
      refine reg_one 10 rfl (by kernel_rfl) rfl (fun K hK => ?_)
      go_wp2_with (go_at_call 95; refine (repeat_any nn _ _ rfl (by omega)).mono ?_; rintro e w2 ⟨rfl, g2⟩)
      have g3 := g1.trans (g2.mono g1.size)
      refine reg_take 11 14 (.string (B1 ++ s ++ zs nn)) rfl rfl (by kernel_rfl) (fun _ _ _ h => h) rfl (fun w => by go_simp; omega) ?_
      refine reg_take 12 2 (.string (B1 ++ s ++ zs nn)) rfl rfl (by kernel_rfl) (fun _ _ _ h => h) rfl (fun w => by go_simp) ?_
      simp only [Act.put, List.setIfInBounds_toArray, List.set_cons_succ, List.set_cons_zero]
      rw [HF.out]
      refine reg_end (by kernel_rfl) ?_
      go_wp2_with fail
      go_ret
      exact ⟨rfl, g3⟩
    · go_wp2_with (go_at_call 95; refine (repeat_any nn _ _ rfl (by omega)).mono ?_; rintro e w2 ⟨rfl, g2⟩)
      have b2 := b1.below g2 b1.lt
      have g3 := g1.trans (g2.mono g1.size)
      refine reg_one 4 rfl (by kernel_rfl) rfl (fun K hK => ?_)
      refine op_string 87 9 5 _ rfl Tryz.underlying87 Tryz.underlying5 Tryz.underlying9 _ 1 1 _ 5 rfl b2 (by simp) _ hlB ?_
      refine hK _ _ ?_
      clear hK K
      rw [← hB1]
      refine reg_take 6 9 (.string (B1 ++ s)) rfl rfl (by kernel_rfl) (fun _ _ _ h => h) rfl (fun w => by go_simp; omega) ?_
      simp only [Act.put, List.setIfInBounds_toArray, List.set_cons_succ, List.set_cons_zero]
      refine reg_take 11 14 (.string (B1 ++ s ++ zs nn)) rfl rfl (by kernel_rfl) (fun _ _ _ h => h) rfl (fun w => by go_simp; omega) ?_
      refine reg_take 12 2 (.string (B1 ++ s ++ zs nn)) rfl rfl (by kernel_rfl) (fun _ _ _ h => h) rfl (fun w => by go_simp) ?_
      simp only [Act.put, List.setIfInBounds_toArray, List.set_cons_succ, List.set_cons_zero]
      rw [HF.out]
      refine reg_end (by kernel_rfl) ?_
      go_wp2_with fail
      go_ret
      exact ⟨rfl, g3⟩
  · go_wp2_with (go_at_call 95; refine (repeat_any nn _ _ rfl (by omega)).mono ?_; rintro e w2 ⟨rfl, g2⟩)
    have g3 := g0.trans g2
    refine reg_one 3 rfl (by kernel_rfl) rfl (fun K hK => ?_)
    go_wp2_with fail
    have b4 := Blk.new w2 #[.int .u8 (s.size : Int)] 5
    have g4 := g3.alloc g3.size (.cells #[.int .u8 (s.size : Int)] 5)
    refine reg_one 4 rfl (by kernel_rfl) rfl (fun K hK => ?_)
    refine op_string 87 9 5 _ rfl Tryz.underlying87 Tryz.underlying5 Tryz.underlying9 _ 1 1 _ 5 rfl b4 (by simp) _ hlB ?_
    refine hK _ _ ?_
    clear hK K
    rw [← hB1]
    refine reg_take 6 9 (.string (B1 ++ s)) rfl rfl (by kernel_rfl) (fun _ _ _ h => h) rfl (fun w => by go_simp; omega) ?_
    simp only [Act.put, List.setIfInBounds_toArray, List.set_cons_succ, List.set_cons_zero]
    refine reg_take 11 14 (.string (B1 ++ s ++ zs nn)) rfl rfl (by kernel_rfl) (fun _ _ _ h => h) rfl (fun w => by go_simp; omega) ?_
    refine reg_take 12 2 (.string (B1 ++ s ++ zs nn)) rfl rfl (by kernel_rfl) (fun _ _ _ h => h) rfl (fun w => by go_simp) ?_
    simp only [Act.put, List.setIfInBounds_toArray, List.set_cons_succ, List.set_cons_zero]
    rw [HF.out]
    refine reg_end (by kernel_rfl) ?_
    go_wp2_with fail
    go_ret
    exact ⟨rfl, g4⟩
end Go.Proofs.YtkapkphhceknfaaGreatDoor.Pg
namespace Go.Proofs.YtkapkphhceknfaaGreatDoor
open Go.RowKit
/-- A slice of one-cell elements that the call has made. -/
def Row (w : World) (B : Nat) (e : TypeId) (v : Value) (xs : List Value) : Prop := w.ownsRow B e 1 v xs.length xs
theorem Row.nil (w : World) (B : Nat) (e : TypeId) : Row w B e (.slice none 0 0) [] := ⟨rfl, Or.inl ⟨rfl, rfl⟩⟩
theorem Row.below {w w' : World} {B : Nat} {e : TypeId} {v : Value} {xs : List Value} (h : Row w B e v xs) (hb : Below w.heap.size w w') : Row w' B e v xs := by
  obtain ⟨h1, h2⟩ := h
  refine ⟨h1, ?_⟩
  rcases h2 with h2 | ⟨g, cap, cur, hv, hg, hh, r⟩
  · exact Or.inl h2
  · refine Or.inr ⟨g, cap, cur, hv, hg, ?_, r⟩
    have lt : g < w.heap.size := by
      rcases Nat.lt_or_ge g w.heap.size with h' | h'
      · exact h'
      · simp [Array.getElem?_eq_none h'] at hh
    rw [hb.block _ lt]; exact hh
theorem Row.grown {w w' : World} {B g : Nat} {e : TypeId} {n cap : Nat} {xs : List Value} {row : Option Nat} (h : Row w B e (.slice (some ⟨g, 0, none⟩) n cap) xs) (hg : w.grownBy w' row) (hne : some g ≠ row) : Row w' B e (.slice (some ⟨g, 0, none⟩) n cap) xs := by
  obtain ⟨h1, h2⟩ := h
  refine ⟨h1, ?_⟩
  rcases h2 with h2 | ⟨g', cap', cur, hv, hgB, hh, r⟩
  · exact Or.inl h2
  · refine Or.inr ⟨g', cap', cur, hv, hgB, ?_, r⟩
    have lt : g' < w.heap.size := by
      rcases Nat.lt_or_ge g' w.heap.size with h' | h'
      · exact h'
      · simp [Array.getElem?_eq_none h'] at hh
    have e : g = g' := by injection hv with a1; injection a1 with a2; injection a2
    rw [hg.block _ lt (e ▸ hne)]; exact hh
theorem Row.cell {w : World} {B g n cap : Nat} {e : TypeId} {xs : List Value} (h : Row w B e (.slice (some ⟨g, 0, none⟩) n cap) xs) (j : Nat) (u : Value) (hj : xs[j]? = some u) : w.cell? ⟨g, j, none⟩ = some u := by
  obtain ⟨h1, h2⟩ := h
  rcases h2 with ⟨h2, _⟩ | ⟨g', cap', cur, hv, hgB, hh, _, _, _, ht⟩
  · injection h2 with a1; cases a1
  · have e : g = g' := by injection hv with a1; injection a1 with a2; injection a2
    subst e
    simp only [World.cell?, hh]
    rw [← ht, List.getElem?_take] at hj
    split at hj
    · simpa using hj
    · cases hj
theorem Row.form {w : World} {B : Nat} {e : TypeId} {v : Value} {xs : List Value} (h : Row w B e v xs) : (v = .slice none 0 0 ∧ xs = []) ∨ ∃ g cap, v = .slice (some ⟨g, 0, none⟩) xs.length cap ∧ B ≤ g ∧ g < w.heap.size := by
  obtain ⟨h1, h2⟩ := h
  rcases h2 with ⟨h2, h3⟩ | ⟨g', cap', cur, hv, hgB, hh, _⟩
  · exact Or.inl ⟨h2, List.eq_nil_of_length_eq_zero h3⟩
  · refine Or.inr ⟨g', cap', hv, hgB, ?_⟩
    rcases Nat.lt_or_ge g' w.heap.size with h' | h'
    · exact h'
    · simp [Array.getElem?_eq_none h'] at hh
/-- What an append leaves of all that stands below. -/
theorem below_grown {B : Nat} {a w w' : World} {e : TypeId} {v : Value} {xs : List Value} (h : Below B a w) (hr : Row w B e v xs) (hg : w.grownBy w' v.ownBlock) (hB : B ≤ w.heap.size) : Below B a w' :=
  h.grown hg hB fun k hk => by
    rcases hr.form with ⟨e1, _⟩ | ⟨g, cap, e1, hgB, _⟩
    · rw [e1] at hk; cases hk
    · rw [e1] at hk; simp only [Value.ownBlock, Option.some.injEq] at hk; omega
section
variable {P : Program} {ops : Array Oper} {Q : Exit → Act → World → Prop} {a : Act} {w : World} {rest : List Oper} {o : Oper}
/-- One element appended to a slice that the call has made. -/
theorem wpl_push (hgd : o.guard = none) (s x : Operand) (t : TypeId) (ho : o.op = .call { callee := .builtin .append, args := #[s, x], argTypes := #[t, t] })
    (B : Nat) (e : TypeId) (z : Value) (bytes : Nat) (ht : P.underlying t = some (.slice e)) (hinfo : (P.info? e).map (fun i => (i.zero, i.size, i.bytes)) = some (some z, 1, bytes)) (hz1 : z.cells.size = 1)
    (v : Value) (xs : List Value) (hs : a.eval s = v) (hown : Row w B e v xs) (sb c : Nat) (u : Value) (hx : a.eval x = .slice (some ⟨sb, 0, none⟩) 1 c) (hu : w.cell? ⟨sb, 0, none⟩ = some u) (hu1 : u.oneCell' = true)
    (hlen : xs.length < 100000) (hby : bytes ≤ 8) (hbase : B ≤ w.heap.size)
    (h : ∀ g cap w', Row w' B e (.slice (some ⟨g, 0, none⟩) (xs.length + 1) cap) (xs ++ [u]) → w.grownBy w' v.ownBlock → (v.ownBlock = some g ∨ g = w.heap.size) → g < w'.heap.size → wpList P ops Q rest (a.put o.dst (.slice (some ⟨g, 0, none⟩) (xs.length + 1) cap)) w') :
    wpList P ops Q (o :: rest) a w := by
  obtain ⟨i, hi, hp⟩ := Option.map_eq_some_iff.1 hinfo
  simp only [Prod.mk.injEq] at hp
  obtain ⟨p1, p2, p3⟩ := hp
  refine wpList_append_lies w hgd s x t ho B e i z 1 bytes ht hi p1 p2 p3 hz1 (by decide) v xs.length xs hs hown ⟨sb, 0, none⟩ 1 c [u] hx rfl ?_ ?_ (by decide) (by unfold maxLen; omega) ?_ hbase w.heap.size rfl ?_
  · intro j u' hj
    match j with
    | 0 => simp only [List.getElem?_cons_zero, Option.some.injEq] at hj; subst hj; exact hu
    | j + 1 => simp at hj
  · intro u' hu'; simp at hu'; subst hu'; exact hu1
  · have := Nat.mul_le_mul (Nat.succ_le_of_lt hlen) hby; simp only [Nat.succ_eq_add_one] at this; omega
  · intro g cap w' h1 h2 h3 h4
    exact h g cap w' (by unfold Row; simpa using h1) h2 h3 h4
end
end Go.Proofs.YtkapkphhceknfaaGreatDoor
