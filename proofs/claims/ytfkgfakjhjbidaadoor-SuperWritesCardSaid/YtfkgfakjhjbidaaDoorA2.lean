/-
  Part of the proof: errors.As at an Errno and a place for one, walked; Tell, Place, and bare.
-/
import Derived.Test.YtfkgfakjhjbidaaDoorA1
namespace Go.Proofs.YtfkgfakjhjbidaaDoor
open Go.RowKit Go.Extern.Stop Go.Stop Go.Extern
/-- How an entry for a method of a Value goes on behind its parts. -/
theorem r_method (z : Sem Value) (f : TypeId → Addr → Nat → Nat → Sem Value) (v : Value) : ∃ k, ReflectliteValue.method z f #[v] = (ReflectliteValue.parts v >>= k) ∧ ∀ t a fl, k (some (t, a, fl)) = f t a fl (fl % 32) :=
  ⟨_, rfl, fun _ _ _ => rfl⟩
theorem r_setK (v x : Value) (dst src : TypeId) (a b : Addr) : ∃ (k : Option (TypeId × Addr × Nat) → Option (TypeId × Addr × Nat) → Sem Value) (k2 : Value → Bool → Sem Value), ReflectliteValue.set #[v, x] = (ReflectliteValue.parts v >>= fun p => ReflectliteValue.parts x >>= fun q => k p q) ∧
    k (some (dst, a, 386)) (some (src, b, 130)) = (loadVar src b >>= fun val => Rtype.directlyAssignable dst src >>= fun d => k2 val d) ∧ ∀ val, k2 val true = (storeVar dst a val >>= fun _ => pure (Value.tuple #[])) :=
  ⟨_, _, rfl, rfl, fun _ => rfl⟩
theorem r_isNil (a p : Addr) (W : World) (ha : W.cell? a = some (.pointer (some p))) :
    (ReflectliteValue.method (ReflectliteValue.valueError "reflectlite.Value.IsNil" 0) ReflectliteValue.isNil #[.agg #[hnd 137, .pointer (some a), .int .u64 150]]).run Tryd.prog W = .ok (.bool false) W := by
  obtain ⟨k, e1, e2⟩ := r_method (ReflectliteValue.valueError "reflectlite.Value.IsNil" 0) ReflectliteValue.isNil (.agg #[hnd 137, .pointer (some a), .int .u64 150])
  rw [e1]
  simp only [Sem.run_bind, r_partsP, Result.andThen, e2]
  simp [Result.andThen, ReflectliteValue.isNil, loadVar, isAgg, underlying, Tryd.underlying137, ha]
theorem r_elemV (a p : Addr) (W : World) (ha : W.cell? a = some (.pointer (some p))) :
    (ReflectliteValue.method (ReflectliteValue.valueError "reflectlite.Value.Elem" 0) ReflectliteValue.elem #[.agg #[hnd 137, .pointer (some a), .int .u64 150]]).run Tryd.prog W
      = .ok (.agg #[hnd 30, .pointer (some p), .int .u64 386]) W := by
  obtain ⟨k, e1, e2⟩ := r_method (ReflectliteValue.valueError "reflectlite.Value.Elem" 0) ReflectliteValue.elem (.agg #[hnd 137, .pointer (some a), .int .u64 150])
  rw [e1]
  simp only [Sem.run_bind, r_partsP, Result.andThen, e2]
  simp [Result.andThen, ReflectliteValue.elem, loadVar, isAgg, underlying, Tryd.underlying137, ha, r_elemT, r_mkE]
theorem r_set (ta b : Addr) (n : Int) (old : Value) (W : World) (hb : W.cell? b = some (.int .i64 n)) (ht : W.cell? ta = some old) (hf : W.frozen? ta = false) :
    (ReflectliteValue.set #[.agg #[hnd 30, .pointer (some ta), .int .u64 386], .agg #[hnd 30, .pointer (some b), .int .u64 130]]).run Tryd.prog W
      = .ok (.tuple #[]) (W.setCell ta (.int .i64 n)) := by
  obtain ⟨k, k2, e1, e2, e3⟩ := r_setK (.agg #[hnd 30, .pointer (some ta), .int .u64 386]) (.agg #[hnd 30, .pointer (some b), .int .u64 130]) 30 30 ta b
  rw [e1]
  simp only [Sem.run_bind, r_partsA, r_partsE, Result.andThen, e2]
  simp [loadVar, isAgg, underlying, Tryd.underlying30, hb, Result.andThen, r_directE, e3, storeVar, Value.cells, storeCells, Addr.add]
  rw [run_store Tryd.prog W ta _ _ (by rfl)]
  simp [ht, hf]
/-- The one variable of package errors lies as laid. -/
def EB (w : World) : Prop := w.cell? ⟨0, 0, none⟩ = some (.iface 211 (.agg #[hnd 34]))
theorem EB.lt {w : World} (h : EB w) : 0 < w.heap.size := World.block_lt_of_cell? w _ h
theorem EB.below {w w' : World} (h : EB w) (hb : Below w.heap.size w w') : EB w' := by
  unfold EB; rw [hb.cell h.lt]; exact h
set_option maxRecDepth 100000 in
set_option maxHeartbeats 1000000 in
theorem as_hit (n : Int) (tb : Nat) (w : World) (hg : EB w) (ht0 : Blk w tb #[.int .i64 0] 30) :
    Calls Tryd.prog 90 #[.iface 30 (.int .i64 n), .iface 137 (.pointer (some ⟨tb, 0, none⟩))] w fun ev w' => ev = .returned (.bool true) ∧ Blk w' tb #[.int .i64 n] 30 ∧ w.heap.size ≤ w'.heap.size ∧ ∀ B, B ≤ tb → Below B w w' := by
  have h71 := @run_callFunc_extern Tryd.prog 130 _ (fun args => ReflectliteValue.unpack (args.getD 0 (.tuple #[]))) Tryd.func130 (by kernel_rfl) (by kernel_rfl) (by kernel_rfl) (by kernel_rfl)
  have h72 := @run_callFunc_extern Tryd.prog 131 _ (ReflectliteValue.methodAny (ReflectliteValue.valueError "reflectlite.Value.Type" 0) (fun t _ _ _ => ReflectliteType.toType t)) Tryd.func131 (by kernel_rfl) (by kernel_rfl) (by kernel_rfl) (by kernel_rfl)
  have h73 := @run_callFunc_extern Tryd.prog 132 _ (ReflectliteValue.method (ReflectliteValue.valueError "reflectlite.Value.IsNil" 0) ReflectliteValue.isNil) Tryd.func132 (by kernel_rfl) (by kernel_rfl) (by kernel_rfl) (by kernel_rfl)
  have hK := @run_callFunc_extern Tryd.prog 179 _ (ReflectliteType.abiMethod fun t => do pure (.int .u8 (← Rtype.kind t))) Tryd.func179 (by kernel_rfl) (by kernel_rfl) (by kernel_rfl) (by kernel_rfl)
  have hE := @run_callFunc_extern Tryd.prog 192 _ (ReflectliteType.method ReflectliteType.elem) Tryd.func192 (by kernel_rfl) (by kernel_rfl) (by kernel_rfl) (by kernel_rfl)
  have hI := @run_callFunc_extern Tryd.prog 193 _ (ReflectliteType.relation "Implements" ReflectliteType.implements_) Tryd.func193 (by kernel_rfl) (by kernel_rfl) (by kernel_rfl) (by kernel_rfl)
  have hT := @run_callFunc_extern Tryd.prog 152 _ ReflectliteType.typeOf Tryd.func152 (by kernel_rfl) (by kernel_rfl) (by kernel_rfl) (by kernel_rfl)
  have hA := @run_callFunc_extern Tryd.prog 190 _ (ReflectliteType.relation "AssignableTo" ReflectliteType.assignableTo) Tryd.func190 (by kernel_rfl) (by kernel_rfl) (by kernel_rfl) (by kernel_rfl)
  have h78 := @run_callFunc_extern Tryd.prog 153 _ (ReflectliteValue.method (ReflectliteValue.valueError "reflectlite.Value.Elem" 0) ReflectliteValue.elem) Tryd.func153 (by kernel_rfl) (by kernel_rfl) (by kernel_rfl) (by kernel_rfl)
  have h79 := @run_callFunc_extern Tryd.prog 154 _ ReflectliteValue.set Tryd.func154 (by kernel_rfl) (by kernel_rfl) (by kernel_rfl) (by kernel_rfl)
  have f1 := r_typeOfE
  have f2 := r_mAssign
  have f3 := r_assignE
  have f4 := r_valueE
  have f5 := r_valueP
  have f6 := r_typeP
  have f7 := r_mKind
  have f8 := r_mElem
  have f9 := r_mImpl
  have f10 := r_kindP
  have f11 := r_kindE
  have f12 := r_elemP
  have f13 := r_implE
  have htl := ht0.lt
  have hgl := hg.lt
  have n8 := r_isNil ⟨w.heap.size, 0, none⟩ ⟨tb, 0, none⟩ ((w.alloc (.cells #[.pointer (some ⟨tb, 0, none⟩)] 137)).alloc (.cells #[hnd 137, .pointer (some ⟨w.heap.size, 0, none⟩), .int .u64 150] 181)) (((Blk.new w #[.pointer (some ⟨tb, 0, none⟩)] 137).alloc _).cell 0)
  have hg2 : ((w.alloc (.cells #[.pointer (some ⟨tb, 0, none⟩)] 137)).alloc (.cells #[hnd 137, .pointer (some ⟨w.heap.size, 0, none⟩), .int .u64 150] 181)).cell? ⟨0, 0, none⟩ = some (.iface 211 (.agg #[hnd 34])) :=
    EB.below (EB.below hg ((Below.refl _ _).alloc (Nat.le_refl _) _)) ((Below.refl _ _).alloc (Nat.le_refl _) _)
  have el := r_elemV ⟨w.heap.size, 0, none⟩ ⟨tb, 0, none⟩ (((w.alloc (.cells #[.pointer (some ⟨tb, 0, none⟩)] 137)).alloc (.cells #[hnd 137, .pointer (some ⟨w.heap.size, 0, none⟩), .int .u64 150] 181)).alloc (.cells #[hnd 137, .pointer (some ⟨w.heap.size, 0, none⟩), .int .u64 150] 181)) ((((Blk.new w #[.pointer (some ⟨tb, 0, none⟩)] 137).alloc _).alloc _).cell 0)
  have tb4 := (((ht0.alloc (.cells #[.pointer (some ⟨tb, 0, none⟩)] 137)).alloc (.cells #[hnd 137, .pointer (some ⟨w.heap.size, 0, none⟩), .int .u64 150] 181)).alloc (.cells #[hnd 137, .pointer (some ⟨w.heap.size, 0, none⟩), .int .u64 150] 181)).alloc (.cells #[.int .i64 n] 30)
  have st := r_set ⟨tb, 0, none⟩ ⟨w.heap.size + 1 + 1 + 1, 0, none⟩ n (.int .i64 0) ((((w.alloc (.cells #[.pointer (some ⟨tb, 0, none⟩)] 137)).alloc (.cells #[hnd 137, .pointer (some ⟨w.heap.size, 0, none⟩), .int .u64 150] 181)).alloc (.cells #[hnd 137, .pointer (some ⟨w.heap.size, 0, none⟩), .int .u64 150] 181)).alloc (.cells #[.int .i64 n] 30))
    ((Blk.new' _ #[.int .i64 n] 30 (by simp)).cell 0) (tb4.cell 0) (tb4.frozen 0)
  have fin := tb4.set 0 (.int .i64 n)
  go_enter Tryd.func90, Tryd.ntmps90
  go_wp2
  refine wp_loop_rounds 1 ?_
  rw [rounds_succ]
  go_wp2
  go_ret
  refine ⟨rfl, fin, by simp; omega, fun B hB => ?_⟩
  exact (((((Below.refl B w).alloc (by omega) _).alloc (by simp; omega) _).alloc (by simp; omega) _).alloc (by simp; omega) _).setCell (by simp; omega) _
end Go.Proofs.YtfkgfakjhjbidaaDoor
