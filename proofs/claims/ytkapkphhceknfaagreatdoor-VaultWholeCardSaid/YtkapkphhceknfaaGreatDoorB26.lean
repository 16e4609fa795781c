/-
  Part of the proof: errors.As at an Errno and a place for one, walked; Tell, Place, and bare.
  Part of the proof: Tell, Place and bare, at no error and at an Errno, are walked.
  Part of the proof: the counter, and the fact 'lost', are walked.
-/
import Derived.Test.YtkapkphhceknfaaGreatDoorB25
namespace Go.Proofs.YtkapkphhceknfaaGreatDoor
open Go.RowKit Go.Extern.Stop Go.Stop Go.Extern
/-- How an entry for a method of a Value goes on behind its parts. -/
theorem r_method (z : Sem Value) (f : TypeId → Addr → Nat → Nat → Sem Value) (v : Value) : ∃ k, ReflectliteValue.method z f #[v] = (ReflectliteValue.parts v >>= k) ∧ ∀ t a fl, k (some (t, a, fl)) = f t a fl (fl % 32) :=
  ⟨_, rfl, fun _ _ _ => rfl⟩
theorem r_setK (v x : Value) (dst src : TypeId) (a b : Addr) : ∃ (k : Option (TypeId × Addr × Nat) → Option (TypeId × Addr × Nat) → Sem Value) (k2 : Value → Bool → Sem Value), ReflectliteValue.set #[v, x] = (ReflectliteValue.parts v >>= fun p => ReflectliteValue.parts x >>= fun q => k p q) ∧
    k (some (dst, a, 386)) (some (src, b, 130)) = (loadVar src b >>= fun val => Rtype.directlyAssignable dst src >>= fun d => k2 val d) ∧ ∀ val, k2 val true = (storeVar dst a val >>= fun _ => pure (Value.tuple #[])) :=
  ⟨_, _, rfl, rfl, fun _ => rfl⟩
theorem r_isNil (a p : Addr) (W : World) (ha : W.cell? a = some (.pointer (some p))) :
    (ReflectliteValue.method (ReflectliteValue.valueError "reflectlite.Value.IsNil" 0) ReflectliteValue.isNil #[.agg #[hnd 79, .pointer (some a), .int .u64 150]]).run Tryz.prog W = .ok (.bool false) W := by
  obtain ⟨k, e1, e2⟩ := r_method (ReflectliteValue.valueError "reflectlite.Value.IsNil" 0) ReflectliteValue.isNil (.agg #[hnd 79, .pointer (some a), .int .u64 150])
  rw [e1]
  simp only [Sem.run_bind, r_partsP, Result.andThen, e2]
  simp [Result.andThen, ReflectliteValue.isNil, loadVar, isAgg, underlying, Tryz.underlying79, ha]
theorem r_elemV (a p : Addr) (W : World) (ha : W.cell? a = some (.pointer (some p))) :
    (ReflectliteValue.method (ReflectliteValue.valueError "reflectlite.Value.Elem" 0) ReflectliteValue.elem #[.agg #[hnd 79, .pointer (some a), .int .u64 150]]).run Tryz.prog W
      = .ok (.agg #[hnd 41, .pointer (some p), .int .u64 386]) W := by
  obtain ⟨k, e1, e2⟩ := r_method (ReflectliteValue.valueError "reflectlite.Value.Elem" 0) ReflectliteValue.elem (.agg #[hnd 79, .pointer (some a), .int .u64 150])
  rw [e1]
  simp only [Sem.run_bind, r_partsP, Result.andThen, e2]
  simp [Result.andThen, ReflectliteValue.elem, loadVar, isAgg, underlying, Tryz.underlying79, ha, r_elemT, r_mkE]
theorem r_set (ta b : Addr) (n : Int) (old : Value) (W : World) (hb : W.cell? b = some (.int .i64 n)) (ht : W.cell? ta = some old) (hf : W.frozen? ta = false) :
    (ReflectliteValue.set #[.agg #[hnd 41, .pointer (some ta), .int .u64 386], .agg #[hnd 41, .pointer (some b), .int .u64 130]]).run Tryz.prog W
      = .ok (.tuple #[]) (W.setCell ta (.int .i64 n)) := by
  obtain ⟨k, k2, e1, e2, e3⟩ := r_setK (.agg #[hnd 41, .pointer (some ta), .int .u64 386]) (.agg #[hnd 41, .pointer (some b), .int .u64 130]) 41 41 ta b
  rw [e1]
  simp only [Sem.run_bind, r_partsA, r_partsE, Result.andThen, e2]
  simp [loadVar, isAgg, underlying, Tryz.underlying41, hb, Result.andThen, r_directE, e3, storeVar, Value.cells, storeCells, Addr.add]
  rw [run_store Tryz.prog W ta _ _ (by rfl)]
  simp [ht, hf]
/-- The one variable of package errors lies as laid. -/
def EB (w : World) : Prop := w.cell? ⟨0, 0, none⟩ = some (.iface 125 (.agg #[hnd 36]))
theorem EB.lt {w : World} (h : EB w) : 0 < w.heap.size := World.block_lt_of_cell? w _ h
theorem EB.below {w w' : World} (h : EB w) (hb : Below w.heap.size w w') : EB w' := by
  unfold EB; rw [hb.cell h.lt]; exact h
set_option maxRecDepth 100000 in
set_option maxHeartbeats 1000000 in
theorem as_hit (n : Int) (tb : Nat) (w : World) (hg : EB w) (ht0 : Blk w tb #[.int .i64 0] 41) :
    Calls Tryz.prog 31 #[.iface 41 (.int .i64 n), .iface 79 (.pointer (some ⟨tb, 0, none⟩))] w fun ev w' => ev = .returned (.bool true) ∧ Blk w' tb #[.int .i64 n] 41 ∧ w.heap.size ≤ w'.heap.size ∧ ∀ B, B ≤ tb → Below B w w' := by
  have h71 := @run_callFunc_extern Tryz.prog 42 _ (fun args => ReflectliteValue.unpack (args.getD 0 (.tuple #[]))) Tryz.func42 (by kernel_rfl) (by kernel_rfl) (by kernel_rfl) (by kernel_rfl)
  have h72 := @run_callFunc_extern Tryz.prog 43 _ (ReflectliteValue.methodAny (ReflectliteValue.valueError "reflectlite.Value.Type" 0) (fun t _ _ _ => ReflectliteType.toType t)) Tryz.func43 (by kernel_rfl) (by kernel_rfl) (by kernel_rfl) (by kernel_rfl)
  have h73 := @run_callFunc_extern Tryz.prog 44 _ (ReflectliteValue.method (ReflectliteValue.valueError "reflectlite.Value.IsNil" 0) ReflectliteValue.isNil) Tryz.func44 (by kernel_rfl) (by kernel_rfl) (by kernel_rfl) (by kernel_rfl)
  have hK := @run_callFunc_extern Tryz.prog 138 _ (ReflectliteType.abiMethod fun t => do pure (.int .u8 (← Rtype.kind t))) Tryz.func138 (by kernel_rfl) (by kernel_rfl) (by kernel_rfl) (by kernel_rfl)
  have hE := @run_callFunc_extern Tryz.prog 148 _ (ReflectliteType.method ReflectliteType.elem) Tryz.func148 (by kernel_rfl) (by kernel_rfl) (by kernel_rfl) (by kernel_rfl)
  have hI := @run_callFunc_extern Tryz.prog 149 _ (ReflectliteType.relation "Implements" ReflectliteType.implements_) Tryz.func149 (by kernel_rfl) (by kernel_rfl) (by kernel_rfl) (by kernel_rfl)
  have hT := @run_callFunc_extern Tryz.prog 64 _ ReflectliteType.typeOf Tryz.func64 (by kernel_rfl) (by kernel_rfl) (by kernel_rfl) (by kernel_rfl)
  have hA := @run_callFunc_extern Tryz.prog 146 _ (ReflectliteType.relation "AssignableTo" ReflectliteType.assignableTo) Tryz.func146 (by kernel_rfl) (by kernel_rfl) (by kernel_rfl) (by kernel_rfl)
  have h78 := @run_callFunc_extern Tryz.prog 65 _ (ReflectliteValue.method (ReflectliteValue.valueError "reflectlite.Value.Elem" 0) ReflectliteValue.elem) Tryz.func65 (by kernel_rfl) (by kernel_rfl) (by kernel_rfl) (by kernel_rfl)
  have h79 := @run_callFunc_extern Tryz.prog 66 _ ReflectliteValue.set Tryz.func66 (by kernel_rfl) (by kernel_rfl) (by kernel_rfl) (by kernel_rfl)
  have f1 := r_typeOfE
  have f2 := r_mAssign
  have f3 := r_assignE
  have f4 := r_valueE
  have f5 := r_valueP
  have f6 := r_typeP
  have f7 := r_mKind
  have f8 := r_mElem
  have f9 := r_mImpl
  have f10 := r_kindP
  have f11 := r_kindE
  have f12 := r_elemP
  have f13 := r_implE
  have htl := ht0.lt
  have hgl := hg.lt
  have n8 := r_isNil ⟨w.heap.size, 0, none⟩ ⟨tb, 0, none⟩ ((w.alloc (.cells #[.pointer (some ⟨tb, 0, none⟩)] 79)).alloc (.cells #[hnd 79, .pointer (some ⟨w.heap.size, 0, none⟩), .int .u64 150] 101)) (((Blk.new w #[.pointer (some ⟨tb, 0, none⟩)] 79).alloc _).cell 0)
  have hg2 : ((w.alloc (.cells #[.pointer (some ⟨tb, 0, none⟩)] 79)).alloc (.cells #[hnd 79, .pointer (some ⟨w.heap.size, 0, none⟩), .int .u64 150] 101)).cell? ⟨0, 0, none⟩ = some (.iface 125 (.agg #[hnd 36])) :=
    EB.below (EB.below hg ((Below.refl _ _).alloc (Nat.le_refl _) _)) ((Below.refl _ _).alloc (Nat.le_refl _) _)
  have el := r_elemV ⟨w.heap.size, 0, none⟩ ⟨tb, 0, none⟩ (((w.alloc (.cells #[.pointer (some ⟨tb, 0, none⟩)] 79)).alloc (.cells #[hnd 79, .pointer (some ⟨w.heap.size, 0, none⟩), .int .u64 150] 101)).alloc (.cells #[hnd 79, .pointer (some ⟨w.heap.size, 0, none⟩), .int .u64 150] 101)) ((((Blk.new w #[.pointer (some ⟨tb, 0, none⟩)] 79).alloc _).alloc _).cell 0)
  have tb4 := (((ht0.alloc (.cells #[.pointer (some ⟨tb, 0, none⟩)] 79)).alloc (.cells #[hnd 79, .pointer (some ⟨w.heap.size, 0, none⟩), .int .u64 150] 101)).alloc (.cells #[hnd 79, .pointer (some ⟨w.heap.size, 0, none⟩), .int .u64 150] 101)).alloc (.cells #[.int .i64 n] 41)
  have st := r_set ⟨tb, 0, none⟩ ⟨w.heap.size + 1 + 1 + 1, 0, none⟩ n (.int .i64 0) ((((w.alloc (.cells #[.pointer (some ⟨tb, 0, none⟩)] 79)).alloc (.cells #[hnd 79, .pointer (some ⟨w.heap.size, 0, none⟩), .int .u64 150] 101)).alloc (.cells #[hnd 79, .pointer (some ⟨w.heap.size, 0, none⟩), .int .u64 150] 101)).alloc (.cells #[.int .i64 n] 41))
    ((Blk.new' _ #[.int .i64 n] 41 (by simp)).cell 0) (tb4.cell 0) (tb4.frozen 0)
  have fin := tb4.set 0 (.int .i64 n)
  go_enter Tryz.func31, Tryz.ntmps31
  go_wp2
  refine wp_loop_rounds 1 ?_
  rw [rounds_succ]
  go_wp2
  go_ret
  refine ⟨rfl, fin, by simp; omega, fun B hB => ?_⟩
  exact (((((Below.refl B w).alloc (by omega) _).alloc (by simp; omega) _).alloc (by simp; omega) _).alloc (by simp; omega) _).setCell (by simp; omega) _
end Go.Proofs.YtkapkphhceknfaaGreatDoor
namespace Go.Proofs.YtkapkphhceknfaaGreatDoor
open Go.RowKit Go.Extern.Stop Go.Stop Go.Extern
theorem tell_nil (w : World) : Calls Tryz.prog 13 #[.nilIface] w fun e w' => e = .returned (.int .i64 0) ∧ w' = w := by
  go_enter Tryz.func13, Tryz.ntmps13
  go_wp2
  go_ret
  exact ⟨rfl, rfl⟩
set_option maxHeartbeats 400000 in
theorem tell_some (n : Int) (w : World) (hE : EB w) : Calls Tryz.prog 13 #[.iface 41 (.int .i64 n)] w fun e w' => e = .returned (.int .i64 n) ∧ Below w.heap.size w w' := by
  go_enter Tryz.func13, Tryz.ntmps13
  go_wp2_with fail
  refine (as_hit n w.heap.size _ (hE.below ((Below.refl _ _).alloc (Nat.le_refl _) _)) (Blk.new _ _ _)).mono ?_
  rintro e w1 ⟨rfl, b1, s1, g1⟩
  have c1 := b1.cell 0
  go_wp2
  go_ret
  exact ⟨rfl, ((Below.refl _ _).alloc (Nat.le_refl _) _).trans (g1 _ (Nat.le_refl _))⟩
theorem as_un (v : Value) (w : World) : (Instr.typeAssert (.iface 41 v) 36 133 true).run Tryz.prog w = .ok (.tuple #[.nilIface, .bool false]) w :=
  run_typeAssert_lacksB Tryz.underlying133 (by kernel_rfl) (by kernel_rfl) v 36 w
end Go.Proofs.YtkapkphhceknfaaGreatDoor
namespace Go.Proofs.YtkapkphhceknfaaGreatDoor.Dv
open Go.RowKit
/-- A counter lies at block c and is at n. -/
abbrev Cnt (w : World) (c : Nat) (n : Int) : Prop := Blk w c #[.int .i64 n] 56
theorem raise_no (c : Nat) (n m : Int) (w : World) (h : Cnt w c n) (hm : m ≤ n) :
    Calls Tryz.prog 47 #[.pointer (some ⟨c, 0, none⟩), .int .i64 m] w fun e w' => e = .returned (errI 10) ∧ w' = w := by
  have c0 := h.cell 0
  go_enter Tryz.func47, Tryz.ntmps47
  go_wp2
  go_ret
  exact ⟨rfl, rfl⟩
theorem raise_yes (c : Nat) (n m : Int) (w : World) (h : Cnt w c n) (hm : n < m) :
    Calls Tryz.prog 47 #[.pointer (some ⟨c, 0, none⟩), .int .i64 m] w fun e w' => e = .returned .nilIface ∧ Cnt w' c m ∧ Upd w w' c := by
  have c0 := h.cell 0
  have f0 := h.frozen 0
  have hd : decide (m ≤ n) = false := by simp; omega
  go_enter Tryz.func47, Tryz.ntmps47
  go_wp2
  go_ret
  exact ⟨rfl, h.set 0 (.int .i64 m), setCell_upd _ _ _ _⟩
theorem get_any (c : Nat) (n : Int) (w : World) (h : Cnt w c n) :
    Calls Tryz.prog 19 #[.pointer (some ⟨c, 0, none⟩)] w fun e w' => e = .returned (.int .i64 n) ∧ w' = w := by
  have c0 := h.cell 0
  go_enter Tryz.func19, Tryz.ntmps19
  go_wp2
  go_ret
  exact ⟨rfl, rfl⟩
/-- All of O lies from B on, and is there. -/
def Bd (B : Nat) (O : Nat → Prop) (w : World) : Prop := ∀ k, O k → B ≤ k ∧ k < w.heap.size
theorem Bd.gro {B : Nat} {O : Nat → Prop} {w w' : World} (h : Bd B O w) (hB : B ≤ w.heap.size) (hz : w.heap.size ≤ w'.heap.size) : Bd B (gro O w w') w' :=
  fun k hk => hk.elim (fun h1 => ⟨(h k h1).1, Nat.lt_of_lt_of_le (h k h1).2 hz⟩) (fun h1 => ⟨Nat.le_trans hB h1.1, h1.2⟩)
theorem Bd.mono {B : Nat} {O : Nat → Prop} {w w' : World} (h : Bd B O w) (hz : w.heap.size ≤ w'.heap.size) : Bd B O w' := fun k hk => ⟨(h k hk).1, Nat.lt_of_lt_of_le (h k hk).2 hz⟩
theorem Chg.low {w0 w w' : World} {O : Nat → Prop} {B : Nat} (h : Chg w w' O) (hb : Below B w0 w) (hB : B ≤ w.heap.size) (hO : Bd B O w) : Below B w0 w' := h.to hb hB fun k hk => (hO k hk).1
theorem sb_two (f : Nat → UInt8) : (sb 256 f).extract 0 2 = ⟨#[f 0, f 1]⟩ := by
  have h : (sb 256 f).data.extract 0 2 = #[f 0, f 1] := by
    apply Array.ext_getElem?
    intro i
    match i with
    | 0 => simp [sb]
    | 1 => simp [sb]
    | i + 2 => simp [sb]
  have e : ((sb 256 f).extract 0 2).data = #[f 0, f 1] := by rw [ByteArray.data_extract]; exact h
  generalize (sb 256 f).extract 0 2 = x at e
  cases x; simp at e; subst e; rfl
end Go.Proofs.YtkapkphhceknfaaGreatDoor.Dv
